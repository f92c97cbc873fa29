/-
  Proved: salesroomlaw12.DemandsTimes answers true, for any bid, any prices, however often, in whatever memory. No other conditions.
-/
import Derived.Test.YtjjaajmjcdihoaaRows
import Derived.Test.YtjjaajmjcdihoaaLift
import Derived.Test.YtjjaajmjcdihoaaAlive12
import Derived.Test.YtjjaajmjcdihoaaZeros
import Derived.Test.YtjjaajmjcdihoaaReg
namespace Go.Proofs.Ytjjaajmjcdihoaa.demandsTimes
open Go.ChangeShapes Go.WideShapes Go.ChangeAt Go.RowKit
set_option linter.unusedVariables false

theorem info6_int : (Try.prog.info? 3).map (fun i => (i.zero, i.size, i.bytes)) = some (some (.int .i64 0), 1, 8) := by kernel_rfl
theorem map_getD {F : Int → Int} {l : List Int} {k : Nat} (h : k < l.length) : (l.map F).getD k 0 = F (l.getD k 0) := by
  rw [List.getD_eq_getElem?_getD, List.getElem?_map, List.getElem?_eq_getElem h, List.getD_eq_getElem?_getD, List.getElem?_eq_getElem h]; rfl
theorem map_snoc {F : Int → Int} {l : List Int} {k : Nat} (h : k < l.length) : (l.map F).take (k + 1) = (l.map F).take k ++ [F l[k]] := by
  rw [List.take_succ_eq_append_getElem (by rw [List.length_map]; exact h), List.getElem_map]
theorem gap_map {F : Int → Int} {b p : List Int} (hl : b = [] ∨ b.length = p.length) {k : Nat} (hk : k < b.length) : gapD (b.map F) (p.map F) k = F (b.getD k 0) - F (p.getD k 0) := by
  have hp : k < p.length := by
    rcases hl with rfl | h
    · exact absurd hk (by simp)
    · omega
  rw [gapD, map_getD hk, map_getD hp]
theorem mul_zero0 {f : Nat} {a : Int} (h : 0 < f) : (f : Int) * a = 0 ↔ a = 0 := by
  rw [Int.mul_eq_zero]
  constructor
  · rintro (h1 | h1)
    · omega
    · exact h1
  · exact .inr
theorem mulb {y : Nat} (hy : y < 257) {z : Int} (h1 : 0 ≤ z) (h2 : z ≤ 2000000) : 0 ≤ (y : Int) * z ∧ (y : Int) * z ≤ 512000000 := by
  have a := Int.mul_le_mul_of_nonneg_left h2 (show (0 : Int) ≤ y by omega)
  have b := Int.mul_le_mul_of_nonneg_left h1 (show (0 : Int) ≤ y by omega)
  omega
theorem times_same {b p : List Int} {f : Nat} (hf : 0 < f) (h : mayD b p = true) : gainD (b.map (fun z => (f : Int) * z)) (p.map (fun z => (f : Int) * z)) = f * gainD b p ∧ itemsD (b.map (fun z => (f : Int) * z)) (p.map (fun z => (f : Int) * z)) = itemsD b p := by
  obtain ⟨_, _, hl, _, _⟩ := mayD_len h
  obtain ⟨h3, h4⟩ := mul_gaps (b := b) (p := p) (b' := b.map (fun z => (f : Int) * z)) (p' := p.map (fun z => (f : Int) * z)) hf (by simp) fun k hk => by
    rw [gap_map hl hk, gapD, Int.mul_sub]
  exact ⟨h3, by rw [itemsD, itemsD, h4]⟩

set_option maxRecDepth 100000 in
set_option maxHeartbeats 4000000 in
theorem walk (x y : Ls) (t : Nat) (w : World) (h : x.Ok w) (h1' : y.Ok w) (ht : t < 256) :
    Calls Try.prog 8 #[x.v, y.v, .int .u8 t] w fun e w' => e = .returned (.bool true) ∧ Below w.heap.size w w' := by
  have hx := h
  have hy := h1'
  have hB := Below.refl w.heap.size w
  have hxv : x.v = .slice x.A x.n x.c := rfl
  have hyv : y.v = .slice y.A y.n y.c := rfl
  have Vx := Lib.hid hxv
  have Vy := Lib.hid hyv
  rw [hxv, hyv]
  have HXL := Lib.hid hx.len
  have HYL := Lib.hid hy.len
  have htop := Nat.le_trans hx.cap hx.top
  have ttop := Nat.le_trans hy.cap hy.top
  unfold maxLen at htop ttop
  obtain ⟨B, hB0⟩ : ∃ B, mayD x.zs y.zs = B := ⟨_, rfl⟩
  clear hxv hyv h h1'
  go_enter Try.func8, Try.ntmps8
  cases B
  · have E1 := Lib.hid (de_bad hB0)
    clear hB0
    have hc := pofC x y w hx hy
    rw [Vx.out, Vy.out, E1.out.1, E1.out.2.1, E1.out.2.2.1, E1.out.2.2.2] at hc
    go_wp2_with fail
    refine hc.mono ?_
    rintro e v1 ⟨A1, n1, c1, rfl, h1, hb⟩
    clear hc
    replace hx := hx.below hb
    replace hy := hy.below hb
    replace hB := hB.trans (hb.mono hB.size)
    clear hb
    clear h1
    have hc := alive12_any v1
    go_wp2_with fail
    refine hc.mono ?_
    rintro e v2 ⟨rfl, hb⟩
    clear hc
    replace hx := hx.below hb
    replace hy := hy.below hb
    replace hB := hB.trans (hb.mono hB.size)
    clear hb
    go_wp2
    go_ret
    exact ⟨rfl, hB⟩
  · have HB0 := Lib.hid hB0
    obtain ⟨hM1, hM8, hbl, hbz, hpz⟩ := mayD_len hB0
    rw [HYL.out] at hM1 hM8
    have hxy : x.n = 0 ∨ x.n = y.n := by
      rcases hbl with h | h
      · left; rw [← HXL.out, h]; rfl
      · right; rw [← HXL.out, ← HYL.out]; exact h
    have hx8 : x.n ≤ y.n := by omega
    have hx9 : x.n ≤ 8 := by omega
    have HXY := Lib.hid hxy
    have HBZ := Lib.hid hbz
    have HPZ := Lib.hid hpz
    have EE := Lib.hid (de_ok hB0).1
    obtain ⟨ga, hga⟩ : ∃ a, gainD x.zs y.zs = a := ⟨_, rfl⟩
    obtain ⟨il, hil⟩ : ∃ a, itemsD x.zs y.zs = a := ⟨_, rfl⟩
    obtain ⟨nb, hnb⟩ : ∃ a, decide (ga = 0) = a := ⟨_, rfl⟩
    have EI : Hid (itemsE x.zs y.zs = il) := Lib.hid ((de_ok hB0).2.1.trans hil)
    have EG : Hid (gainE x.zs y.zs = ga) := Lib.hid ((de_ok hB0).2.2.1.trans hga)
    have EN : Hid (noneE x.zs y.zs = nb) := Lib.hid ((de_ok hB0).2.2.2.trans (by rw [hga]; exact hnb))
    have HGA := Lib.hid hga
    have HIL := Lib.hid hil
    have HNB := Lib.hid hnb
    have hgb : 0 ≤ ga ∧ ga ≤ 1000000 := by rw [← hga]; exact gain_bound hB0
    have hill : il.length ≤ x.n := by rw [← hil, ← HXL.out]; exact itemsD_len
    clear hB0 hbl hbz hpz hxy hga hil hnb
    have hc := pofC x y w hx hy
    rw [Vx.out, Vy.out, EN.out, EG.out, EE.out, EI.out] at hc
    go_wp2_with fail
    refine hc.mono ?_
    rintro e v1 ⟨A1, n1, c1, rfl, h1, hb⟩
    clear hc
    replace hx := hx.below hb
    replace hy := hy.below hb
    replace hB := hB.trans (hb.mono hB.size)
    clear hb
    have s1 : IntKind.i64.wrap (t : Int) = (t : Int) := by rw [IntKind.wrap_i64]; omega
    obtain ⟨f, hf⟩ : ∃ f, 1 + t = f := ⟨_, rfl⟩
    have s7 : IntKind.i64.wrap (1 + (t : Int)) = (f : Int) := by rw [IntKind.wrap_i64]; omega
    have hf6 : f < 257 := by omega
    have hf0 : 0 < f := by omega
    have hmg := mulb hf6 (z := ga) hgb.1 (by omega)
    clear hf
    obtain ⟨i0, hi0, hz0, hz1, hz2⟩ := info_parts info6_int
    go_wp2_with fail
    go_loopw [12, 14] (fun o v wr => ∃ (k c : Nat) (A : Option Addr), k ≤ x.n ∧ v = .int .i64 k ∧ o = .slice A k c ∧ OwnI wr v1.heap.size ⟨A, k, c, (x.zs.map (fun z => (f : Int) * z)).take k⟩ ∧ Below v1.heap.size v1 wr) (fun _ v _ => x.n - (intOf v).toNat)
    case atStart => exact ⟨0, 0, none, Nat.zero_le _, rfl, rfl, OwnI.nil _ _, Below.refl _ _⟩
    case round =>
      obtain ⟨k, c, A, hk, rfl, rfl, hO, hbel⟩ := hrel
      have hk0 : (0 : Int) ≤ k := by omega
      by_cases hkn : k < x.n
      · have hkn' : (k : Int) < x.n := by omega
        have hkl : k < x.zs.length := by rw [HXL.out]; exact hkn
        obtain ⟨p1, q1, hA1, hp1, y0, hy0, hcy0⟩ := hx.rd.get hkn
        have hcy := (hbel.cell (p := ⟨p1, q1 + k, none⟩) hp1).trans hcy0
        rw [ci64_get _ _ hkl] at hy0
        obtain rfl : iV x.zs[k] = y0 := Option.some.inj hy0
        unfold iV at hcy
        have hzb := HBZ.out _ (List.getElem_mem hkl)
        have hsn := map_snoc (F := fun z => (f : Int) * z) hkl
        obtain ⟨z, hz⟩ : ∃ z, x.zs[k] = z := ⟨_, rfl⟩
        rw [hz] at hcy hzb hsn
        have hmb := mulb hf6 (z := z) (by omega) (by omega)
        have s2 : IntKind.i64.wrap ((f : Int) * z) = (f : Int) * z := by rw [IntKind.wrap_i64]; have := hmb; omega
        have HSN := Lib.hid hsn
        have hsz := hbel.size
        have h8 : x.n ≤ 8 := by omega
        rw [hA1]
        have HA1 := Lib.hid hA1
        clear hy0 hz hcy0 hsn hA1 hkl
        go_wp2_with (at_builtin; go_must (refine wpList_app1 wr rfl _ _ 22 rfl 3 i0 _ 8 Try.underlying22 hi0 hz0 hz1 hz2 rfl v1.heap.size A k c _ rfl hO.own 1 rfl rfl ?m1 ?m2 ?m3 ?_))
        case m1 => simp only [maxLen]; omega
        case m2 => omega
        try case m3 => exact hsz
        intro A6 c6 w6 hown6 hbel6 _ _
        have hO6 : OwnI w6 v1.heap.size ⟨A6, k + 1, c6, (x.zs.map (fun z => (f : Int) * z)).take (k + 1)⟩ := by
          refine ⟨?_, fun q hq => ?_⟩
          · show Own w6 v1.heap.size _ A6 (k + 1) c6 (ci64 ((x.zs.map (fun z => (f : Int) * z)).take (k + 1)))
            rw [HSN.out, ci64_app]; exact hown6
          · have hq : q ∈ (x.zs.map (fun z => (f : Int) * z)).take (k + 1) := hq
            rw [HSN.out] at hq
            rcases List.mem_append.1 hq with hq | hq
            · exact hO.fit q hq
            · rw [List.mem_singleton.1 hq]; omega
        have hb6 := hbel.trans hbel6
        clear hown6 hbel6 hO hbel
        go_wp2
        go_roundw
        case rel => exact ⟨k + 1, c6, A6, by omega, by go_num, rfl, hO6, hb6⟩
        case measure => simp [intOf]; omega
      · obtain rfl : k = x.n := by omega
        have HFAm : Hid ((x.zs.map (fun z => (f : Int) * z)).take x.n = x.zs.map (fun z => (f : Int) * z)) := Lib.hid (by rw [List.take_of_length_le (by rw [List.length_map, HXL.out]; exact Nat.le_refl _)])
        obtain ⟨Am, hAm⟩ : ∃ q, q = A := ⟨_, rfl⟩
        obtain ⟨cm, hcm⟩ : ∃ q, q = c := ⟨_, rfl⟩
        subst hAm
        subst hcm
        have hm : OwnI wr v1.heap.size ⟨Am, x.n, cm, x.zs.map (fun z => (f : Int) * z)⟩ := by have h5 := hO; rw [HFAm.out] at h5; exact h5
        obtain ⟨wm, hwm⟩ : ∃ q, q = wr := ⟨_, rfl⟩
        subst hwm
        clear hO hkn
        replace hx := hx.below hbel
        replace hy := hy.below hbel
        replace h1 := h1.below hbel
        replace hB := hB.trans (hbel.mono hB.size)
        clear hbel
        go_wp2_with fail
        go_loopw [13, 15] (fun o v wr => ∃ (k c : Nat) (A : Option Addr), k ≤ y.n ∧ v = .int .i64 k ∧ o = .slice A k c ∧ OwnI wr wm.heap.size ⟨A, k, c, (y.zs.map (fun z => (f : Int) * z)).take k⟩ ∧ Below wm.heap.size wm wr) (fun _ v _ => y.n - (intOf v).toNat)
        case atStart => exact ⟨0, 0, none, Nat.zero_le _, rfl, rfl, OwnI.nil _ _, Below.refl _ _⟩
        case round =>
          obtain ⟨k, c, A, hk, rfl, rfl, hO, hbel⟩ := hrel
          have hk0 : (0 : Int) ≤ k := by omega
          by_cases hkn : k < y.n
          · have hkn' : (k : Int) < y.n := by omega
            have hkl : k < y.zs.length := by rw [HYL.out]; exact hkn
            obtain ⟨p1, q1, hA1, hp1, y0, hy0, hcy0⟩ := hy.rd.get hkn
            have hcy := (hbel.cell (p := ⟨p1, q1 + k, none⟩) hp1).trans hcy0
            rw [ci64_get _ _ hkl] at hy0
            obtain rfl : iV y.zs[k] = y0 := Option.some.inj hy0
            unfold iV at hcy
            have hzb := HPZ.out _ (List.getElem_mem hkl)
            have hsn := map_snoc (F := fun z => (f : Int) * z) hkl
            obtain ⟨z, hz⟩ : ∃ z, y.zs[k] = z := ⟨_, rfl⟩
            rw [hz] at hcy hzb hsn
            have hmb := mulb hf6 (z := z) (by omega) (by omega)
            have s2 : IntKind.i64.wrap ((f : Int) * z) = (f : Int) * z := by rw [IntKind.wrap_i64]; have := hmb; omega
            have HSN := Lib.hid hsn
            have hsz := hbel.size
            have h8 : y.n ≤ 8 := by omega
            rw [hA1]
            have HA1 := Lib.hid hA1
            clear hy0 hz hcy0 hsn hA1 hkl
            go_wp2_with (at_builtin; go_must (refine wpList_app1 wr rfl _ _ 22 rfl 3 i0 _ 8 Try.underlying22 hi0 hz0 hz1 hz2 rfl wm.heap.size A k c _ rfl hO.own 1 rfl rfl ?o1 ?o2 ?o3 ?_))
            case o1 => simp only [maxLen]; omega
            case o2 => omega
            try case o3 => exact hsz
            intro A6 c6 w6 hown6 hbel6 _ _
            have hO6 : OwnI w6 wm.heap.size ⟨A6, k + 1, c6, (y.zs.map (fun z => (f : Int) * z)).take (k + 1)⟩ := by
              refine ⟨?_, fun q hq => ?_⟩
              · show Own w6 wm.heap.size _ A6 (k + 1) c6 (ci64 ((y.zs.map (fun z => (f : Int) * z)).take (k + 1)))
                rw [HSN.out, ci64_app]; exact hown6
              · have hq : q ∈ (y.zs.map (fun z => (f : Int) * z)).take (k + 1) := hq
                rw [HSN.out] at hq
                rcases List.mem_append.1 hq with hq | hq
                · exact hO.fit q hq
                · rw [List.mem_singleton.1 hq]; omega
            have hb6 := hbel.trans hbel6
            clear hown6 hbel6 hO hbel
            go_wp2
            go_roundw
            case rel => exact ⟨k + 1, c6, A6, by omega, by go_num, rfl, hO6, hb6⟩
            case measure => simp [intOf]; omega
          · obtain rfl : k = y.n := by omega
            have HFAo : Hid ((y.zs.map (fun z => (f : Int) * z)).take y.n = y.zs.map (fun z => (f : Int) * z)) := Lib.hid (by rw [List.take_of_length_le (by rw [List.length_map, HYL.out]; exact Nat.le_refl _)])
            obtain ⟨Ao, hAo⟩ : ∃ q, q = A := ⟨_, rfl⟩
            obtain ⟨co, hco⟩ : ∃ q, q = c := ⟨_, rfl⟩
            subst hAo
            subst hco
            have ho : OwnI wr wm.heap.size ⟨Ao, y.n, co, y.zs.map (fun z => (f : Int) * z)⟩ := by have h5 := hO; rw [HFAo.out] at h5; exact h5
            obtain ⟨wo, hwo⟩ : ∃ q, q = wr := ⟨_, rfl⟩
            subst hwo
            clear hO hkn
            replace hx := hx.below hbel
            replace hy := hy.below hbel
            replace h1 := h1.below hbel
            replace hm := hm.below hbel
            replace hB := hB.trans (hbel.mono hB.size)
            clear hbel
            obtain ⟨B2, hB2⟩ : ∃ B, mayD (x.zs.map (fun z => (f : Int) * z)) (y.zs.map (fun z => (f : Int) * z)) = B := ⟨_, rfl⟩
            cases B2
            · have E2 := Lib.hid (de_bad hB2)
              clear hB2
              have hc := pofC ⟨Am, x.n, cm, x.zs.map (fun z => (f : Int) * z)⟩ ⟨Ao, y.n, co, y.zs.map (fun z => (f : Int) * z)⟩ wo hm.ok ho.ok
              rw [show Ls.v ⟨Am, x.n, cm, x.zs.map (fun z => (f : Int) * z)⟩ = .slice Am x.n cm from rfl, show Ls.v ⟨Ao, y.n, co, y.zs.map (fun z => (f : Int) * z)⟩ = .slice Ao y.n co from rfl, E2.out.1, E2.out.2.1, E2.out.2.2.1, E2.out.2.2.2] at hc
              go_wp2_with fail
              refine hc.mono ?_
              rintro e v2 ⟨A7, n7, c7, rfl, h7, hb⟩
              clear hc
              replace hx := hx.below hb
              replace hy := hy.below hb
              replace h1 := h1.below hb
              replace hm := hm.below hb
              replace ho := ho.below hb
              replace hB := hB.trans (hb.mono hB.size)
              clear hb
              clear h7
              have hc := alive12_any v2
              go_wp2_with fail
              refine hc.mono ?_
              rintro e v3 ⟨rfl, hb⟩
              clear hc
              replace hx := hx.below hb
              replace hy := hy.below hb
              replace h1 := h1.below hb
              replace hm := hm.below hb
              replace ho := ho.below hb
              replace hB := hB.trans (hb.mono hB.size)
              clear hb
              go_wp2
              go_ret
              exact ⟨rfl, hB⟩
            · have E2 := Lib.hid (de_ok hB2)
              obtain ⟨e1, e2⟩ := times_same hf0 HB0.out
              rw [HGA.out] at e1
              rw [HIL.out] at e2
              have F1 := Lib.hid e1
              have F2 : Hid (itemsE (x.zs.map (fun z => (f : Int) * z)) (y.zs.map (fun z => (f : Int) * z)) = il) := Lib.hid (E2.out.2.1.trans e2)
              have F3 : Hid (gainE (x.zs.map (fun z => (f : Int) * z)) (y.zs.map (fun z => (f : Int) * z)) = (f * ga)) := Lib.hid (E2.out.2.2.1.trans e1)
              have F4 : Hid (noneE (x.zs.map (fun z => (f : Int) * z)) (y.zs.map (fun z => (f : Int) * z)) = nb) := Lib.hid (E2.out.2.2.2.trans (by rw [e1, ← HNB.out]; rw [decide_eq_decide]; exact mul_zero0 hf0))
              have gnb : (nb == nb) = true := by simp
              clear e1 e2 hB2
              have hc := pofC ⟨Am, x.n, cm, x.zs.map (fun z => (f : Int) * z)⟩ ⟨Ao, y.n, co, y.zs.map (fun z => (f : Int) * z)⟩ wo hm.ok ho.ok
              rw [show Ls.v ⟨Am, x.n, cm, x.zs.map (fun z => (f : Int) * z)⟩ = .slice Am x.n cm from rfl, show Ls.v ⟨Ao, y.n, co, y.zs.map (fun z => (f : Int) * z)⟩ = .slice Ao y.n co from rfl, F4.out, F3.out, E2.out.1, F2.out] at hc
              go_wp2_with fail
              refine hc.mono ?_
              rintro e v2 ⟨A7, n7, c7, rfl, h7, hb⟩
              clear hc
              replace hx := hx.below hb
              replace hy := hy.below hb
              replace h1 := h1.below hb
              replace hm := hm.below hb
              replace ho := ho.below hb
              replace hB := hB.trans (hb.mono hB.size)
              clear hb
              obtain rfl : n7 = n1 := by have h5 := h7.len; have h6 := h1.len; simp only at h5 h6; omega
              have hc := alive12_any v2
              go_wp2_with fail
              refine hc.mono ?_
              rintro e v3 ⟨rfl, hb⟩
              clear hc
              replace hx := hx.below hb
              replace hy := hy.below hb
              replace h1 := h1.below hb
              replace hm := hm.below hb
              replace ho := ho.below hb
              replace h7 := h7.below hb
              replace hB := hB.trans (hb.mono hB.size)
              clear hb
              have hc := sameints_b ⟨A7, n7, c7, il⟩ ⟨A1, n7, c1, il⟩ v3 h7.ok h1.ok
              rw [show (il == il) = true by simp] at hc
              go_wp2_with fail
              refine hc.mono ?_
              rintro e v4 ⟨rfl, hb⟩
              clear hc
              replace hx := hx.below hb
              replace hy := hy.below hb
              replace h1 := h1.below hb
              replace hm := hm.below hb
              replace ho := ho.below hb
              replace h7 := h7.below hb
              replace hB := hB.trans (hb.mono hB.size)
              clear hb
              have sg : IntKind.i64.wrap ((f : Int) * ga) = (f : Int) * ga := by rw [IntKind.wrap_i64]; have := hmg; omega
              have gg : (((f : Int) * ga) == ((f : Int) * ga)) = true := by simp
              go_wp2
              go_ret
              exact ⟨rfl, hB⟩

theorem own : ownKnob Try.prog.godebug = none := by kernel_rfl
theorem laidOut : laidOutB Try.prog = true := by kernel_rfl

set_option maxRecDepth 100000 in
theorem lifted (os : Os) (started : os.Started) (H : Type) (enc : TypeId × Value → H) :
    ReturnsInHanded {} Try.checked os 8 .any (Rows.demandsTimesSpec.pre6 enc Try.prog Try.f8 Rows.demandsTimesRow.domain false) (Rows.demandsTimesSpec.post enc Try.prog Try.f8 false true false false) := by
  refine returnsInHanded_of_change (C := Try.checked) own started (by kernel_rfl) Try.func8
    (ChangeSpec.witness6 (enc := enc) (C := Try.checked) false ⟨#[], #[.slice none 0 0, .slice none 0 0, .int .u8 0], []⟩ 8 (by kernel_rfl) (by kernel_rfl) (by kernel_rfl) (by kernel_rfl)) ?_
  intro W base args ds gs before hval0 hW hcnd _
  have hval : ∀ (j : Nat) t v, Try.f8.params[j]? = some t → args[j]? = some v → Value.okWide Try.prog W .any base t v := hval0
  have hW' := hW
  obtain ⟨p, q, hA0, hV, rfl, hfz, hnd⟩ := hW
  have hA : DataW.TrodAll enc Try.prog W 0 (fun _ => true) true Try.f8.params.toList args.toList ds p := hA0
  rw [Try.params8] at hA hval
  obtain ⟨v0, vs0, d0, ds0, p0, q0, hargs, rfl, rfl, h0, r0⟩ := trodAll_cons hA
  obtain ⟨v1, vs1, d1, ds1, p1, q1, rfl, rfl, rfl, h1, r1⟩ := trodAll_cons r0
  obtain ⟨v2, vs2, d2, ds2, p2, q2, rfl, rfl, rfl, h2, r2⟩ := trodAll_cons r1
  obtain ⟨rfl, rfl, rfl⟩ := trodAll_nil r2
  obtain rfl : args = #[v0, v1, v2] := by cases args; simp_all
  obtain ⟨A0, n0, c0, l0, rfl, a0, b0, e0, g0⟩ := arg_i64s Try.underlying22 Try.underlying3 (by kernel_rfl) (hval 0 22 v0 rfl rfl) h0
  obtain ⟨A1, n1, c1, l1, rfl, a1, b1, e1, g1⟩ := arg_i64s Try.underlying22 Try.underlying3 (by kernel_rfl) (hval 1 22 v1 rfl rfl) h1
  obtain ⟨x2, rfl, rfl, rfl, w2⟩ := open_int Try.underlying5 (hval 2 5 v2 rfl rfl) h2
  obtain ⟨y2, rfl, z2⟩ := fit_u8 w2
  have hwalk : Calls Try.prog 8 #[.slice A0 n0 c0, .slice A1 n1 c1, .int .u8 y2] W fun e w' => e = .returned (.bool true) ∧ Below W.heap.size W w' := walk ⟨A0, n0, c0, l0⟩ ⟨A1, n1, c1, l1⟩ y2 W ⟨a0, b0, e0, g0⟩ ⟨a1, b1, e1, g1⟩ z2
  refine hwalk.mono fun e W' ⟨he, hg⟩ => ?_
  subst he
  exact ⟨_, rfl, law_post laidOut (by kernel_rfl) hW' rfl rfl (by kernel_rfl) Try.underlying4 hg⟩

theorem over : Rows.demandsTimesRow.holds Try.pinned (OpenSpec.ofChange Rows.demandsTimesSpec) :=
  OpenClaim.holds_of_wide 8 Try.f8 rfl rfl rfl rfl rfl rfl rfl ⟨rfl, rfl, rfl, rfl, rfl⟩ rfl rfl rfl rfl rfl (by kernel_rfl) Try.func8 (by kernel_rfl)
    (of_decide_eq_true (by kernel_rfl)) (by unfold Func.isWrapper; first | (rw [if_pos (by decide +kernel)]; kernel_rfl) | (rw [if_neg (by decide +kernel)]; exact ⟨rfl, rfl⟩))
    (fun os started H enc _ => lifted os started H enc)

theorem proved : Rows.DemandsTimesSaid :=
  over

end Go.Proofs.Ytjjaajmjcdihoaa.demandsTimes
