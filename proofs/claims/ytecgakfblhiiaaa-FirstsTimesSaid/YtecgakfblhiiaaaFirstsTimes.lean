/-
  Proved: salesroomlaw11.FirstsTimes answers true, for any gains, any items, any order, however often they are, in whatever memory. No other conditions.
-/
import Derived.Test.YtecgakfblhiiaaaRows
import Derived.Test.YtecgakfblhiiaaaLift
import Derived.Test.YtecgakfblhiiaaaAlive11
import Derived.Test.YtecgakfblhiiaaaZeros
import Derived.Test.YtecgakfblhiiaaaFiE
import Derived.Test.YtecgakfblhiiaaaReg
namespace Go.Proofs.Ytecgakfblhiiaaa.firstsTimes
open Go.ChangeShapes Go.WideShapes Go.ChangeAt Go.RowKit
set_option linter.unusedVariables false

theorem info6_int : (Try.prog.info? 3).map (fun i => (i.zero, i.size, i.bytes)) = some (some (.int .i64 0), 1, 8) := by kernel_rfl
theorem infoI_ints : (Try.prog.info? 25).map (fun i => (i.zero, i.size, i.bytes)) = some (some (.slice none 0 0), 1, 24) := by kernel_rfl
theorem mulb {y : Nat} (hy : y < 65537) {z : Int} (h1 : -1000000 ≤ z) (h2 : z ≤ 1000000) : -65536000000 ≤ (y : Int) * z ∧ (y : Int) * z ≤ 65536000000 := by
  have a := Int.mul_le_mul_of_nonneg_left h2 (show (0 : Int) ≤ y by omega)
  have b := Int.mul_le_mul_of_nonneg_left h1 (show (0 : Int) ≤ y by omega)
  omega
/-- As often as great. -/
def timesR (f : Nat) (l : List Int) : List Int := l.map fun z => (f : Int) * z
def timesL (g : List (List Int)) (f j : Nat) : List (List Int) := (g.take j).map (timesR f)
theorem timesR_succ {f : Nat} {l : List Int} {k : Nat} (h : k < l.length) : timesR f (l.take (k + 1)) = timesR f (l.take k) ++ [(f : Int) * l[k]] := by
  rw [timesR, List.take_succ_eq_append_getElem h, List.map_append]; rfl
theorem timesL_succ {g : List (List Int)} {f j : Nat} {l : List Int} (h : g[j]? = some l) : timesL g f (j + 1) = timesL g f j ++ [timesR f l] := by
  obtain ⟨hj, rfl⟩ := List.getElem?_eq_some_iff.1 h
  rw [timesL, List.take_succ_eq_append_getElem hj, List.map_append]; rfl
def timesA (g : List (List Int)) (f : Nat) : List (List Int) := g.map (timesR f)
theorem timesA_eq (g : List (List Int)) (f : Nat) : timesL g f g.length = timesA g f := by rw [timesL, List.take_length]; rfl
theorem timesA_len (g : List (List Int)) (f : Nat) : (timesA g f).length = g.length := by simp [timesA]
theorem timesA_gG (g : List (List Int)) (f b c : Nat) : gG (timesA g f) b c = mulG f (gG g) b c := by
  unfold mulG gG timesA
  rw [List.getD_eq_getElem?_getD (l := g.map _), List.getElem?_map, List.getD_eq_getElem?_getD (l := g)]
  cases g[b]? with
  | none => simp
  | some l =>
    simp only [Option.map_some, Option.getD_some]
    rw [List.getD_eq_getElem?_getD, timesR, List.getElem?_map, List.getD_eq_getElem?_getD]
    cases l[c]? with
    | none => simp
    | some z => rfl
theorem times_first {g : List (List Int)} {m f : Nat} {o : List Int} (h : mayF g m o = true) (h2 : mayF (timesA g f) m o = true) (hf : 0 < f) : firstE (timesA g f) m o = firstE g m o := by
  rw [(fi_ok h2).2, (fi_ok h).2, timesA_len]
  refine List.map_congr_left fun b hb => ?_
  rw [firstV, firstV, timesA_len, first_mul hf (fun b c _ _ _ => timesA_gG g f b c) (ord_lt (mayF_iff.1 h).2) (List.mem_range.1 hb)]

set_option maxRecDepth 100000 in
set_option maxHeartbeats 4000000 in
theorem walk (x : Gr) (m : Int) (y : Ls) (t : Nat) (w : World) (h : x.Ok w) (hm1 : -9223372036854775808 ≤ m) (hm2 : m ≤ 9223372036854775807) (h1' : y.Ok w) (ht : t < 65536) :
    Calls Try.prog 8 #[.agg #[x.v, .int .i64 m], y.v, .int .u16 t] w fun e w' => e = .returned (.bool true) ∧ Below w.heap.size w w' := by
  have hx := h
  have hy := h1'
  have hB := Below.refl w.heap.size w
  have hxv : x.v = .slice x.A x.n x.c := rfl
  have hyv : y.v = .slice y.A y.n y.c := rfl
  have Vx := Lib.hid hxv
  have Vy := Lib.hid hyv
  rw [hxv, hyv]
  have hgl := h.glen
  have HGL := Lib.hid hgl
  have HYL := Lib.hid hy.len
  have htop := Nat.le_trans h.cap h.top
  have ttop := Nat.le_trans hy.cap hy.top
  unfold maxLen at htop ttop
  obtain ⟨B, hB0⟩ : ∃ B, mayF x.g m y.zs = B := ⟨_, rfl⟩
  clear hxv hyv hgl h h1'
  go_enter Try.func8, Try.ntmps8
  have bg := WBox.new w x m
  have hbx : Below w.heap.size w (w.alloc (.cells #[.slice x.A x.n x.c, .int .i64 m] 24)) := (Below.refl _ w).alloc (Nat.le_refl _) _
  replace hx := hx.below hbx
  replace hy := hy.below hbx
  replace hB := hB.trans (hbx.mono hB.size)
  clear hbx

  cases B
  · have E1 := Lib.hid (fi_bad hB0)
    obtain ⟨f0, hf0⟩ : ∃ q, wErr x.g m = q := ⟨_, rfl⟩
    obtain ⟨a0, ha0⟩ : ∃ q, bestE x.g m = q := ⟨_, rfl⟩
    have EF := Lib.hid hf0
    have EA := Lib.hid ha0
    clear hB0 hf0 ha0
    have eg0 := bg.c0
    have eg1 := bg.c1
    have hc := pfirstC x m y (w.alloc (.cells #[.slice x.A x.n x.c, .int .i64 m] 24)) hx (by omega) (by omega) hy
    rw [Vx.out, Vy.out, E1.out.1, E1.out.2] at hc
    go_wp2_with fail
    clear eg0 eg1
    generalize w.alloc (.cells #[.slice x.A x.n x.c, .int .i64 m] 24) = W1 at *
    refine hc.mono ?_
    rintro e v2 ⟨A1, n1, c1, rfl, h1, hb⟩
    clear hc
    replace hx := hx.below hb
    replace hy := hy.below hb
    replace bg := bg.below hb
    replace hB := hB.trans (hb.mono hB.size)
    clear hb
    have eg0 := bg.c0
    have eg1 := bg.c1
    have hc := alive11_any v2
    go_wp2_with fail
    clear eg0 eg1
    refine hc.mono ?_
    rintro e v3 ⟨rfl, hb⟩
    clear hc
    replace hx := hx.below hb
    replace hy := hy.below hb
    replace h1 := h1.below hb
    replace bg := bg.below hb
    replace hB := hB.trans (hb.mono hB.size)
    clear hb
    have eg0 := bg.c0
    have eg1 := bg.c1
    go_wp2
    go_ret
    exact ⟨rfl, hB⟩
  · obtain ⟨hBw, hBo⟩ := mayF_iff.1 hB0
    obtain ⟨M, rfl⟩ : ∃ M : Nat, m = M := ⟨m.toNat, by have := (mayW_iff.1 hBw).1; omega⟩
    have HB0 := Lib.hid hB0
    have HBW := Lib.hid hBw
    have HBO := Lib.hid hBo
    obtain ⟨hM1, hM8, hx8⟩ := may_m hBw
    rw [HGL.out] at hx8
    have EE := Lib.hid (we_ok hBw).2.1
    have FE := Lib.hid (fi_ok hB0).1
    obtain ⟨a0, ha0⟩ : ∃ a, bestE x.g M = a := ⟨_, rfl⟩
    obtain ⟨hl, hhl⟩ : ∃ a, firstE x.g M y.zs = a := ⟨_, rfl⟩
    have EB := Lib.hid ha0
    have EH := Lib.hid hhl
    have FO := Lib.hid (show FirstOf (gG x.g) M x.n (whoN y.zs) (firstV x.g M y.zs) from by rw [← HGL.out]; exact first_is hB0)
    have HLN : Hid (hl.length = x.n) := Lib.hid (by rw [← hhl, firstE_len hB0, HGL.out])
    have HGET : Hid (∀ b, b < x.n → hl[b]? = some (optI (firstV x.g M y.zs b))) := Lib.hid (fun b hb => by rw [← hhl, firstE_get hB0 (by rw [HGL.out]; exact hb)])
    have HFIT : Hid (∀ b, b < x.n → -1 ≤ optI (firstV x.g M y.zs b) ∧ optI (firstV x.g M y.zs b) < M) := Lib.hid (fun b hb => optI_fit hB0 (by rw [HGL.out]; exact hb))
    have BV : Hid (a0 = bestV (gG x.g) M x.n) := Lib.hid (by rw [← ha0, (we_ok hBw).1, HGL.out])
    have hab : 0 ≤ a0 ∧ a0 ≤ 8000000 := by rw [← ha0, (we_ok hBw).1]; exact best_bound hBw
    have hyn : y.n = x.n := by have h1 := (ordB_iff.1 hBo).1; rw [HYL.out, HGL.out] at h1; exact h1
    have HYN := Lib.hid hyn
    have HRW : Hid (∀ u ∈ x.t, u.n = M) := Lib.hid (fun u hu => by
      have h1 := (mayW_iff.1 hBw).2.2.2 u.zs (by rw [Gr.g, Ls.all]; exact List.mem_map_of_mem hu)
      have h2 := (hx.lss.ok u hu).len
      omega)
    clear hB0 hBw hBo ha0 hhl hm1 hm2 hyn
    have eg0 := bg.c0
    have eg1 := bg.c1
    have hc := pfirstC x M y (w.alloc (.cells #[.slice x.A x.n x.c, .int .i64 (M : Int)] 24)) hx (by omega) (by omega) hy
    rw [Vx.out, Vy.out, FE.out, EH.out] at hc
    go_wp2_with fail
    clear eg0 eg1
    generalize w.alloc (.cells #[.slice x.A x.n x.c, .int .i64 (M : Int)] 24) = W1 at *
    refine hc.mono ?_
    rintro e v2 ⟨A1, n1, c1, rfl, h1, hb⟩
    clear hc
    replace hx := hx.below hb
    replace hy := hy.below hb
    replace bg := bg.below hb
    replace hB := hB.trans (hb.mono hB.size)
    clear hb
    obtain rfl : n1 = x.n := by have h5 := h1.len; have h6 := HLN.out; simp only at h5; omega
    have s5 : IntKind.i64.wrap (t : Int) = (t : Int) := by rw [IntKind.wrap_i64]; omega
    obtain ⟨f, hf⟩ : ∃ f, 1 + t = f := ⟨_, rfl⟩
    have s7 : IntKind.i64.wrap (1 + (t : Int)) = (f : Int) := by rw [IntKind.wrap_i64]; omega
    have hf6 : f < 65537 := by omega
    have hf0 : 0 < f := by omega
    clear hf
    obtain ⟨i0, hi0, hz0, hz1, hz2⟩ := info_parts info6_int
    obtain ⟨i1, hi1', hy0, hy1, hy2⟩ := info_parts infoI_ints
    have eg0 := bg.c0
    have eg1 := bg.c1
    go_wp2_with fail
    clear eg0 eg1
    go_loopw [9, 10] (fun o v wr => ∃ (i c : Nat) (A : Option Addr) (tt : List Ls), i ≤ x.n ∧ v = .int .i64 i ∧ o = .slice A i c ∧ Own wr v2.heap.size 25 A i c (tt.map Ls.v) ∧ Hid (∀ u ∈ tt, OwnI wr v2.heap.size u) ∧ Hid (Ls.all tt = timesL x.g f i) ∧ Below v2.heap.size v2 wr) (fun _ v _ => x.n - (intOf v).toNat)
    case atStart => exact ⟨0, 0, none, [], Nat.zero_le _, rfl, rfl, Own.none_ _ _ _ _, Lib.hid (by simp), Lib.hid (by simp [timesL, Ls.all]), Below.refl _ _⟩
    case round =>
      obtain ⟨i, c, A, tt, hi, rfl, rfl, hOt, hrows, hall, hbel⟩ := hrel
      have e0 := (bg.below hbel).c0
      have e1 := (bg.below hbel).c1
      have hsz := hbel.size
      by_cases hin : i < x.n
      · have hin' : (i : Int) < x.n := by omega
        have hi0' : (0 : Int) ≤ i := by omega
        obtain ⟨p2, q2, u, hAx, hgy, hp2, hcx0, hky0⟩ := gr_get (A := x.A) (n := x.n) (c := x.c) (t := x.t) hx rfl hin
        have hcx := (hbel.cell (p := ⟨p2, q2 + i, none⟩) hp2).trans hcx0
        have hky := hky0.below hbel
        have hgi : x.g[i]? = some u.zs := by
          have h1 : x.g.getD i [] = u.zs := hgy
          rw [← h1, List.getD_eq_getElem?_getD, List.getElem?_eq_getElem (by rw [HGL.out]; exact hin)]; rfl
        have hyn : u.n = M ∧ ∀ z ∈ u.zs, -1000000 ≤ z ∧ z ≤ 1000000 := by
          have h1 := hky.len
          obtain ⟨hl, he⟩ := List.getElem?_eq_some_iff.1 hgi
          have h2 := may_row HBW.out hl
          rw [he] at h2
          exact ⟨by omega, h2.2⟩
        have hy8 : u.n ≤ 8 := by omega
        have HZB := Lib.hid hyn.2
        have HN := Lib.hid (timesL_succ (f := f) hgi)
        have HYL := Lib.hid hky.len
        rw [hAx] at e0
        have HAx := Lib.hid hAx
        clear hcx0 hky0 hgy hgi hAx hyn
        obtain ⟨wo, rfl⟩ : ∃ wo, wo = wr := ⟨_, rfl⟩
        go_wp2_with fail
        go_loopw [11, 12] (fun o v wr => ∃ (k c : Nat) (A : Option Addr), k ≤ u.n ∧ v = .int .i64 k ∧ o = .slice A k c ∧ OwnI wr wo.heap.size ⟨A, k, c, timesR f (u.zs.take k)⟩ ∧ Below wo.heap.size wo wr) (fun _ v _ => u.n - (intOf v).toNat)
        case atStart => exact ⟨0, 0, none, Nat.zero_le _, rfl, rfl, OwnI.nil _ _, Below.refl _ _⟩
        case round =>
          obtain ⟨k, ck, Ak, hk, rfl, rfl, hOk, hbk⟩ := hrel
          have hbVk := hbel.trans (hbk.mono hsz)
          have d0 := (bg.below hbVk).c0
          rw [HAx.out] at d0
          have d1 := (hbk.cell (p := ⟨p2, q2 + i, none⟩) (by show p2 < wo.heap.size; omega)).trans hcx
          have hk0 : (0 : Int) ≤ k := by omega
          by_cases hkn : k < u.n
          · have hkn' : (k : Int) < u.n := by omega
            obtain ⟨p4, q4, hA4, hp4, t0, ht0, hct0⟩ := (hky.below hbk).rd.get hkn
            have hkl : k < u.zs.length := by rw [HYL.out]; exact hkn
            rw [ci64_get _ _ hkl] at ht0
            obtain rfl : iV u.zs[k] = t0 := Option.some.inj ht0
            unfold iV at hct0
            have hzb := HZB.out _ (List.getElem_mem hkl)
            have hst := timesR_succ (f := f) hkl
            obtain ⟨z, hz⟩ : ∃ z, u.zs[k] = z := ⟨_, rfl⟩
            rw [hz] at hct0 hzb hst
            have hmb := mulb (y := f) (z := z) hf6 (by omega) (by omega)
            obtain ⟨fz, hfz⟩ : ∃ q, (f : Int) * z = q := ⟨_, rfl⟩
            rw [hfz] at hmb hst
            have s6 : IntKind.i64.wrap fz = fz := by rw [IntKind.wrap_i64]; omega
            have HST := Lib.hid hst
            have hszk := hbk.size
            rw [hA4] at d1
            have HA4 := Lib.hid hA4
            clear ht0 hkl hz hst hA4
            go_wp2_with (at_builtin; go_must (refine wpList_app1 wr rfl _ _ 25 rfl 3 i0 _ 8 Try.underlying25 hi0 hz0 hz1 hz2 rfl wo.heap.size Ak k ck _ rfl hOk.own 1 rfl rfl ?f1 ?f2 ?f3 ?_))
            case f1 => simp only [maxLen]; omega
            case f2 => omega
            try case f3 => exact hszk
            intro A6 c6 w6 hown6 hbel6 _ _
            have hO6 : OwnI w6 wo.heap.size ⟨A6, k + 1, c6, timesR f (u.zs.take (k + 1))⟩ := by
              refine ⟨?_, fun q hq => ?_⟩
              · show Own w6 wo.heap.size _ A6 (k + 1) c6 (ci64 (timesR f (u.zs.take (k + 1))))
                rw [HST.out, ci64_app]; exact hown6
              · have hq : q ∈ timesR f (u.zs.take (k + 1)) := hq
                rw [HST.out] at hq
                rcases List.mem_append.1 hq with hq | hq
                · exact hOk.fit q hq
                · rw [List.mem_singleton.1 hq]; omega
            have hb6 := hbk.trans hbel6
            clear hown6 hbel6 hOk hbk d0 d1 hct0 hfz HST
            go_wp2
            go_roundw
            case rel => exact ⟨k + 1, c6, A6, by omega, by go_num, rfl, hO6, hb6⟩
            case measure => simp [intOf]; omega
          · obtain rfl : k = u.n := by omega
            have hfull : Hid (timesR f (u.zs.take u.n) = timesR f u.zs) := Lib.hid (by rw [← HYL.out, List.take_length])
            have hOt4 := hOt.below hbk
            have hrows4 : ∀ v ∈ tt, OwnI wr v2.heap.size v := fun v hv => (hrows.out v hv).below hbk
            have hsz4 : v2.heap.size ≤ wr.heap.size := Nat.le_trans hsz hbk.size
            go_wp2_with (at_builtin; go_must (refine wpList_app1 wr rfl _ _ 22 rfl 25 i1 _ 24 Try.underlying22 hi1' hy0 hy1 hy2 rfl v2.heap.size A i c _ rfl hOt4 1 rfl rfl ?d1 ?d2 ?d3 ?_))
            case d1 => simp only [maxLen]; omega
            case d2 => omega
            try case d3 => exact hsz4
            intro A5 c5 w5 hown5 hbel5 hfr5 _
            have hbV5 := hbVk.trans hbel5
            have hT : Own w5 v2.heap.size 25 A5 (i + 1) c5 ((tt ++ [(⟨Ak, u.n, ck, timesR f (u.zs.take u.n)⟩ : Ls)]).map Ls.v) := by rw [List.map_append]; exact hown5
            have HR5 : Hid (∀ v ∈ tt ++ [(⟨Ak, u.n, ck, timesR f (u.zs.take u.n)⟩ : Ls)], OwnI w5 v2.heap.size v) := Lib.hid (fun v hv => by
              rcases List.mem_append.1 hv with hv | hv
              · exact (hrows4 v hv).app hOt4 hfr5
              · rw [List.mem_singleton.1 hv]
                exact (hOk.app hOt4 hfr5).mono hsz)
            have HA5 : Hid (Ls.all (tt ++ [(⟨Ak, u.n, ck, timesR f (u.zs.take u.n)⟩ : Ls)]) = timesL x.g f (i + 1)) := Lib.hid (by
              rw [HN.out, ← hall.out, ← hfull.out]; simp [Ls.all])
            clear hown5 hbel5 hfr5 hOk hOt4 hrows4 hbk hbVk d0 d1 hOt hrows hall
            go_wp2
            go_roundw
            case rel => exact ⟨i + 1, c5, A5, _, by omega, by go_num, rfl, hT, HR5, HA5, hbV5⟩
            case measure => simp [intOf]; omega
      · obtain rfl : i = x.n := by omega
        have hgo : Gr.Ok wr ⟨A, x.n, c, tt⟩ := own_lists hOt fun v hv => (hrows.out v hv).ok
        have HGA : Hid (Gr.g ⟨A, x.n, c, tt⟩ = timesA x.g f) := Lib.hid (by
          rw [← timesA_eq, HGL.out, ← hall.out]; rfl)
        clear hOt hrows hall e0 e1

        replace bg := bg.below hbel
        replace h1 := h1.below hbel
        replace hy := hy.below hbel
        replace hB := hB.trans (hbel.mono hB.size)
        clear hbel
        obtain ⟨B2, hB2⟩ : ∃ B, mayF (timesA x.g f) M y.zs = B := ⟨_, rfl⟩
        cases B2
        · have E2 := Lib.hid (fi_bad hB2)
          clear hB2
          have eg0 := bg.c0
          have eg1 := bg.c1
          have hc := pfirstC ⟨A, x.n, c, tt⟩ (M : Int) y wr hgo (by omega) (by omega) hy
          rw [show Gr.v ⟨A, x.n, c, tt⟩ = .slice A x.n c from rfl, Vy.out, HGA.out, E2.out.1, E2.out.2] at hc
          go_wp2_with fail
          clear eg0 eg1
          refine hc.mono ?_
          rintro e v3 ⟨A7, n7, c7, rfl, h7, hb⟩
          clear hc
          replace hgo := hgo.below hb
          replace h1 := h1.below hb
          replace hy := hy.below hb
          replace bg := bg.below hb
          replace hB := hB.trans (hb.mono hB.size)
          clear hb
          clear h7 hgo
          have eg0 := bg.c0
          have eg1 := bg.c1
          have hc := alive11_any v3
          go_wp2_with fail
          clear eg0 eg1
          refine hc.mono ?_
          rintro e v4 ⟨rfl, hb⟩
          clear hc
          replace h1 := h1.below hb
          replace hy := hy.below hb
          replace bg := bg.below hb
          replace hB := hB.trans (hb.mono hB.size)
          clear hb
          have eg0 := bg.c0
          have eg1 := bg.c1
          go_wp2
          go_ret
          exact ⟨rfl, hB⟩
        · have E2 := Lib.hid (fi_ok hB2).1
          have E3 := Lib.hid ((times_first HB0.out hB2 hf0).trans EH.out)
          clear hB2
          have eg0 := bg.c0
          have eg1 := bg.c1
          have hc := pfirstC ⟨A, x.n, c, tt⟩ (M : Int) y wr hgo (by omega) (by omega) hy
          rw [show Gr.v ⟨A, x.n, c, tt⟩ = .slice A x.n c from rfl, Vy.out, HGA.out, E2.out, E3.out] at hc
          go_wp2_with fail
          clear eg0 eg1
          refine hc.mono ?_
          rintro e v3 ⟨A7, n7, c7, rfl, h7, hb⟩
          clear hc
          replace hgo := hgo.below hb
          replace h1 := h1.below hb
          replace hy := hy.below hb
          replace bg := bg.below hb
          replace hB := hB.trans (hb.mono hB.size)
          clear hb
          clear hgo
          obtain rfl : n7 = x.n := by have h5 := h7.len; have h6 := HLN.out; simp only at h5; omega
          have eg0 := bg.c0
          have eg1 := bg.c1
          have hc := alive11_any v3
          go_wp2_with fail
          clear eg0 eg1
          refine hc.mono ?_
          rintro e v4 ⟨rfl, hb⟩
          clear hc
          replace h1 := h1.below hb
          replace hy := hy.below hb
          replace h7 := h7.below hb
          replace bg := bg.below hb
          replace hB := hB.trans (hb.mono hB.size)
          clear hb
          have eg0 := bg.c0
          have eg1 := bg.c1
          have hc := sameints_b ⟨A7, x.n, c7, hl⟩ ⟨A1, x.n, c1, hl⟩ v4 h7.ok h1.ok
          rw [show (hl == hl) = true by simp] at hc
          go_wp2_with fail
          clear eg0 eg1
          refine hc.mono ?_
          rintro e v5 ⟨rfl, hb⟩
          clear hc
          replace h1 := h1.below hb
          replace hy := hy.below hb
          replace h7 := h7.below hb
          replace bg := bg.below hb
          replace hB := hB.trans (hb.mono hB.size)
          clear hb
          have eg0 := bg.c0
          have eg1 := bg.c1
          go_wp2
          go_ret
          exact ⟨rfl, hB⟩

theorem own : ownKnob Try.prog.godebug = none := by kernel_rfl
theorem laidOut : laidOutB Try.prog = true := by kernel_rfl

set_option maxRecDepth 100000 in
theorem lifted (os : Os) (started : os.Started) (H : Type) (enc : TypeId × Value → H) :
    ReturnsInHanded {} Try.checked os 8 .any (Rows.firstsTimesSpec.pre6 enc Try.prog Try.f8 Rows.firstsTimesRow.domain false) (Rows.firstsTimesSpec.post enc Try.prog Try.f8 false true false false) := by
  refine returnsInHanded_of_change (C := Try.checked) own started (by kernel_rfl) Try.func8
    (ChangeSpec.witness6 (enc := enc) (C := Try.checked) false ⟨#[], #[.agg #[.slice none 0 0, .int .i64 0], .slice none 0 0, .int .u16 0], []⟩ 8 (by kernel_rfl) (by kernel_rfl) (by kernel_rfl) (by kernel_rfl)) ?_
  intro W base args ds gs before hval0 hW hcnd _
  have hval : ∀ (j : Nat) t v, Try.f8.params[j]? = some t → args[j]? = some v → Value.okWide Try.prog W .any base t v := hval0
  have hW' := hW
  obtain ⟨p, q, hA0, hV, rfl, hfz, hnd⟩ := hW
  have hA : DataW.TrodAll enc Try.prog W 0 (fun _ => true) true Try.f8.params.toList args.toList ds p := hA0
  rw [Try.params8] at hA hval
  obtain ⟨v0, vs0, d0, ds0, p0, q0, hargs, rfl, rfl, h0, r0⟩ := trodAll_cons hA
  obtain ⟨v1, vs1, d1, ds1, p1, q1, rfl, rfl, rfl, h1, r1⟩ := trodAll_cons r0
  obtain ⟨v2, vs2, d2, ds2, p2, q2, rfl, rfl, rfl, h2, r2⟩ := trodAll_cons r1
  obtain ⟨rfl, rfl, rfl⟩ := trodAll_nil r2
  obtain rfl : args = #[v0, v1, v2] := by cases args; simp_all
  obtain ⟨u0, m0, rfl, k0, a0, b0⟩ := arg_gr Try.underlying24 (by kernel_rfl) (by kernel_rfl) Try.underlying22 Try.underlying3 Try.underlying25 (by kernel_rfl) Try.underlying3 (by kernel_rfl) (hval 0 24 v0 rfl rfl) h0
  obtain ⟨A1, n1, c1, l1, rfl, a1, b1, e1, g1⟩ := arg_i64s Try.underlying25 Try.underlying3 (by kernel_rfl) (hval 1 25 v1 rfl rfl) h1
  obtain ⟨x2, rfl, rfl, rfl, w2⟩ := open_int Try.underlying38 (hval 2 38 v2 rfl rfl) h2
  obtain ⟨y2, rfl, z2⟩ := fit_u16 w2
  have hwalk : Calls Try.prog 8 #[.agg #[u0.v, .int .i64 m0], .slice A1 n1 c1, .int .u16 y2] W fun e w' => e = .returned (.bool true) ∧ Below W.heap.size W w' := walk u0 m0 ⟨A1, n1, c1, l1⟩ y2 W k0 a0 b0 ⟨a1, b1, e1, g1⟩ z2
  refine hwalk.mono fun e W' ⟨he, hg⟩ => ?_
  subst he
  exact ⟨_, rfl, law_post laidOut (by kernel_rfl) hW' rfl rfl (by kernel_rfl) Try.underlying4 hg⟩

theorem over : Rows.firstsTimesRow.holds Try.pinned (OpenSpec.ofChange Rows.firstsTimesSpec) :=
  OpenClaim.holds_of_wide 8 Try.f8 rfl rfl rfl rfl rfl rfl rfl ⟨rfl, rfl, rfl, rfl, rfl⟩ rfl rfl rfl rfl rfl (by kernel_rfl) Try.func8 (by kernel_rfl)
    (of_decide_eq_true (by kernel_rfl)) (by unfold Func.isWrapper; first | (rw [if_pos (by decide +kernel)]; kernel_rfl) | (rw [if_neg (by decide +kernel)]; exact ⟨rfl, rfl⟩))
    (fun os started H enc _ => lifted os started H enc)

theorem proved : Rows.FirstsTimesSaid :=
  over

end Go.Proofs.Ytecgakfblhiiaaa.firstsTimes
