/-
  Proved: salesroomlaw12.DemandsMost answers true, for any bid and any prices, in whatever memory. No other conditions.
-/
import Derived.Test.YtjjaajmjcdihoaaRows
import Derived.Test.YtjjaajmjcdihoaaLift
import Derived.Test.YtjjaajmjcdihoaaAlive12
import Derived.Test.YtjjaajmjcdihoaaZeros
import Derived.Test.YtjjaajmjcdihoaaReg
namespace Go.Proofs.Ytjjaajmjcdihoaa.demandsMost
open Go.ChangeShapes Go.WideShapes Go.ChangeAt Go.RowKit
set_option linter.unusedVariables false

theorem info6_int : (Try.prog.info? 3).map (fun i => (i.zero, i.size, i.bytes)) = some (some (.int .i64 0), 1, 8) := by kernel_rfl
set_option maxRecDepth 100000 in
set_option maxHeartbeats 1000000 in
theorem has_any (u : Ls) (z : Int) (w : World) (hu : u.Ok w) : Calls Try.prog 11 #[.slice u.A u.n u.c, .int .i64 z] w fun e w' => e = .returned (.bool (decide (z ∈ u.zs))) ∧ Below w.heap.size w w' := by
  have HL := Lib.hid hu.len
  have ht := Nat.le_trans hu.cap hu.top
  unfold maxLen at ht
  obtain ⟨β, hβ⟩ : ∃ β, decide (z ∈ u.zs) = β := ⟨_, rfl⟩
  have HB := Lib.hid hβ
  rw [hβ]
  clear hβ
  go_enter Try.func11, Try.ntmps11
  go_wp2_with fail
  go_loopw [5] (fun v wr => ∃ i : Nat, i ≤ u.n ∧ v = .int .i64 i ∧ Hid (∀ j (hj : j < u.zs.length), j < i → u.zs[j] ≠ z) ∧ wr = w) (fun v _ => u.n - (intOf v).toNat)
  case atStart => exact ⟨0, Nat.zero_le _, rfl, Lib.hid (fun j _ hj => absurd hj (by omega)), rfl⟩
  case round =>
    obtain ⟨i, hi, rfl, hno, hwr⟩ := hrel
    have hwr2 := hwr.symm
    subst hwr2
    have hi0 : (0 : Int) ≤ i := by omega
    by_cases hin : i < u.n
    · have hin' : (i : Int) < u.n := by omega
      have hil : i < u.zs.length := by rw [HL.out]; exact hin
      obtain ⟨p1, q1, hA1, hp1, y0, hy0, hcy⟩ := hu.rd.get hin
      rw [ci64_get _ _ hil] at hy0
      obtain rfl : iV u.zs[i] = y0 := Option.some.inj hy0
      unfold iV at hcy
      have hmem : u.zs[i] ∈ u.zs := List.getElem_mem hil
      have hstep : ∀ j (hj : j < u.zs.length), j < i + 1 → u.zs[i] ≠ z → u.zs[j] ≠ z := fun j hj hji h => by
        by_cases e : j = i
        · subst e; exact h
        · exact hno.out j hj (by omega)
      obtain ⟨y, hy⟩ : ∃ y, u.zs[i] = y := ⟨_, rfl⟩
      rw [hy] at hcy hmem hstep
      rw [hA1]
      have HA1 := Lib.hid hA1
      clear hy0 hy hA1
      by_cases hyz : y = z
      · have gz : (y == z) = true := by rw [beq_iff_eq]; exact hyz
        have HT : Hid (β = true) := Lib.hid (by rw [← HB.out]; exact decide_eq_true (hyz ▸ hmem))
        clear hyz hmem hstep hno
        go_wp2
        go_ret
        exact ⟨ret_bool HT.out.symm, Below.refl _ _⟩
      · have gz : (y == z) = false := by rw [beq_eq_false_iff_ne]; exact hyz
        have HN : Hid (∀ j (hj : j < u.zs.length), j < i + 1 → u.zs[j] ≠ z) := Lib.hid fun j hj hji => hstep j hj hji hyz
        clear hyz hmem hstep hno
        go_wp2
        go_roundw
        case rel => exact ⟨i + 1, by omega, by go_num, HN, by first | rfl | trivial⟩
        case measure => simp [intOf]; omega
    · obtain rfl : i = u.n := by omega
      have HF : Hid (β = false) := Lib.hid (by
        rw [← HB.out]
        refine decide_eq_false fun h => ?_
        obtain ⟨j, hj, e⟩ := List.getElem_of_mem h
        exact hno.out j hj (by rw [← HL.out]; exact hj) e)
      clear hno
      go_wp2
      go_ret
      exact ⟨ret_bool HF.out.symm, Below.refl _ _⟩
theorem mem_itemsD {b p : List Int} {k : Nat} : (k : Int) ∈ itemsD b p ↔ k < b.length ∧ gapD b p k = gainD b p := by
  rw [itemsD, List.mem_map, ← mem_itemsN]
  constructor
  · rintro ⟨j, hj, e⟩
    rw [show k = j by omega]; exact hj
  · exact fun h => ⟨k, h, rfl⟩
theorem itemsD_at {b p : List Int} {i : Nat} (h : i < (itemsD b p).length) : 0 ≤ (itemsD b p)[i] ∧ (itemsD b p)[i] < b.length ∧ ∀ j (hj : j < i), (itemsD b p)[j]'(by omega) < (itemsD b p)[i] := by
  have hl : (itemsN b p).length = (itemsD b p).length := by rw [itemsD, List.length_map]
  simp only [itemsD, List.getElem_map]
  refine ⟨by omega, ?_, fun j hj => ?_⟩
  · have := (mem_itemsN.1 (List.getElem_mem (l := itemsN b p) (n := i) (show i < (itemsN b p).length by omega))).1
    omega
  · have := List.pairwise_iff_getElem.1 (items_sorted (b := b) (p := p)) j i (by omega) (by omega) hj
    omega

set_option maxRecDepth 100000 in
set_option maxHeartbeats 4000000 in
theorem walk (x y : Ls) (w : World) (h : x.Ok w) (h1' : y.Ok w) :
    Calls Try.prog 3 #[x.v, y.v] w fun e w' => e = .returned (.bool true) ∧ Below w.heap.size w w' := by
  have hx := h
  have hy := h1'
  have hB := Below.refl w.heap.size w
  have hxv : x.v = .slice x.A x.n x.c := rfl
  have hyv : y.v = .slice y.A y.n y.c := rfl
  have Vx := Lib.hid hxv
  have Vy := Lib.hid hyv
  rw [hxv, hyv]
  have HXL := Lib.hid hx.len
  have HYL := Lib.hid hy.len
  have htop := Nat.le_trans hx.cap hx.top
  have ttop := Nat.le_trans hy.cap hy.top
  unfold maxLen at htop ttop
  obtain ⟨B, hB0⟩ : ∃ B, mayD x.zs y.zs = B := ⟨_, rfl⟩
  clear hxv hyv h h1'
  go_enter Try.func3, Try.ntmps3
  cases B
  · have E1 := Lib.hid (de_bad hB0)
    clear hB0
    have hc := pofC x y w hx hy
    rw [Vx.out, Vy.out, E1.out.1, E1.out.2.1, E1.out.2.2.1, E1.out.2.2.2] at hc
    go_wp2_with fail
    refine hc.mono ?_
    rintro e v1 ⟨A1, n1, c1, rfl, h1, hb⟩
    clear hc
    replace hx := hx.below hb
    replace hy := hy.below hb
    replace hB := hB.trans (hb.mono hB.size)
    clear hb
    obtain rfl : n1 = 0 := h1.len.symm
    clear h1
    have hc := alive12_any v1
    go_wp2_with fail
    refine hc.mono ?_
    rintro e v2 ⟨rfl, hb⟩
    clear hc
    replace hx := hx.below hb
    replace hy := hy.below hb
    replace hB := hB.trans (hb.mono hB.size)
    clear hb
    go_wp2
    go_ret
    exact ⟨rfl, hB⟩
  · have HB0 := Lib.hid hB0
    obtain ⟨hM1, hM8, hbl, hbz, hpz⟩ := mayD_len hB0
    rw [HYL.out] at hM1 hM8
    have hxy : x.n = 0 ∨ x.n = y.n := by
      rcases hbl with h | h
      · left; rw [← HXL.out, h]; rfl
      · right; rw [← HXL.out, ← HYL.out]; exact h
    have hx8 : x.n ≤ y.n := by omega
    have hx9 : x.n ≤ 8 := by omega
    have HXY := Lib.hid hxy
    have HBZ := Lib.hid hbz
    have HPZ := Lib.hid hpz
    have EE := Lib.hid (de_ok hB0).1
    obtain ⟨ga, hga⟩ : ∃ a, gainD x.zs y.zs = a := ⟨_, rfl⟩
    obtain ⟨il, hil⟩ : ∃ a, itemsD x.zs y.zs = a := ⟨_, rfl⟩
    obtain ⟨nb, hnb⟩ : ∃ a, decide (ga = 0) = a := ⟨_, rfl⟩
    have EI : Hid (itemsE x.zs y.zs = il) := Lib.hid ((de_ok hB0).2.1.trans hil)
    have EG : Hid (gainE x.zs y.zs = ga) := Lib.hid ((de_ok hB0).2.2.1.trans hga)
    have EN : Hid (noneE x.zs y.zs = nb) := Lib.hid ((de_ok hB0).2.2.2.trans (by rw [hga]; exact hnb))
    have HGA := Lib.hid hga
    have HIL := Lib.hid hil
    have HNB := Lib.hid hnb
    have hgb : 0 ≤ ga ∧ ga ≤ 1000000 := by rw [← hga]; exact gain_bound hB0
    have hill : il.length ≤ x.n := by rw [← hil, ← HXL.out]; exact itemsD_len
    clear hB0 hbl hbz hpz hxy hga hil hnb
    have hc := pofC x y w hx hy
    rw [Vx.out, Vy.out, EN.out, EG.out, EE.out, EI.out] at hc
    go_wp2_with fail
    refine hc.mono ?_
    rintro e v1 ⟨A1, n1, c1, rfl, h1, hb⟩
    clear hc
    replace hx := hx.below hb
    replace hy := hy.below hb
    replace hB := hB.trans (hb.mono hB.size)
    clear hb
    obtain rfl : n1 = il.length := h1.len.symm
    have gg0 : decide (ga < 0) = false := decide_eq_false (by omega)
    have gnn : (ga == 0) = nb := by rw [← HNB.out, Bool.eq_iff_iff, beq_iff_eq, decide_eq_true_eq]
    have gnb : (nb != nb) = false := by simp
    have HGL0 : Hid (il.length = 0 → ga = 0) := Lib.hid (fun h => by
      by_cases h0 : 0 < gainD x.zs y.zs
      · obtain ⟨k, hk⟩ := gain_at h0
        have h5 : (k : Int) ∈ il := by rw [← HIL.out]; exact List.mem_map.2 ⟨k, hk, rfl⟩
        rw [List.eq_nil_of_length_eq_zero h] at h5
        cases h5
      · rw [HGA.out] at h0; omega)
    have gl : (((il.length : Int) == 0) = true ∧ (il.length == 0) = true ∧ decide (0 < ga) = false) ∨ (((il.length : Int) == 0) = false ∧ (il.length == 0) = false) := by
      by_cases h5 : il.length = 0
      · exact .inl ⟨by rw [beq_iff_eq]; omega, by rw [beq_iff_eq]; exact h5, decide_eq_false (by have := HGL0.out h5; omega)⟩
      · exact .inr ⟨by rw [beq_eq_false_iff_ne]; omega, by rw [beq_eq_false_iff_ne]; exact h5⟩
    have gx : (decide ((0 : Int) < (x.n : Int)) = false ∧ decide (0 < x.n) = false) ∨ (decide ((0 : Int) < (x.n : Int)) = true ∧ decide (0 < x.n) = true ∧ ((x.n : Int) != (y.n : Int)) = false ∧ (x.n != y.n) = false) := by
      rcases HXY.out with h | h
      · exact .inl ⟨decide_eq_false (by omega), decide_eq_false (by omega)⟩
      · exact .inr ⟨decide_eq_true (by omega), decide_eq_true (by omega), by rw [bne_eq_false_iff_eq]; omega, by rw [bne_eq_false_iff_eq]; exact h⟩
    rcases gl with ⟨g1, g2, g3⟩ | ⟨g1, g2⟩
    · rcases gx with ⟨g4, g5⟩ | ⟨g4, g5, g6, g7⟩
      · have g0 := 0
        clear g0
        go_wp2_with fail
        clear g1 g2 g3 g4 g5 gnb gg0
        go_loopw [9] (fun v wr => ∃ k : Nat, k ≤ x.n ∧ v = .int .i64 k ∧ Below v1.heap.size v1 wr) (fun v _ => x.n - (intOf v).toNat)
        case atStart => exact ⟨0, Nat.zero_le _, rfl, Below.refl _ _⟩
        case round =>
          obtain ⟨k, hk, rfl, hbel⟩ := hrel
          have hk0 : (0 : Int) ≤ k := by omega
          by_cases hkn : k < x.n
          · have hkn' : (k : Int) < x.n := by omega
            have hky : k < y.n := by omega
            have hky' : (k : Int) < y.n := by omega
            have hkl : k < x.zs.length := by rw [HXL.out]; exact hkn
            have hkl2 : k < y.zs.length := by rw [HYL.out]; exact hky
            obtain ⟨p1, q1, hA1, hp1, y0, hy0, hcy0⟩ := hx.rd.get hkn
            rw [ci64_get _ _ hkl] at hy0
            obtain rfl : iV x.zs[k] = y0 := Option.some.inj hy0
            obtain ⟨p2, q2, hA2, hp2, y3, hy3, hcz0⟩ := hy.rd.get hky
            rw [ci64_get _ _ hkl2] at hy3
            obtain rfl : iV y.zs[k] = y3 := Option.some.inj hy3
            unfold iV at hcy0 hcz0
            have hgap : gapD x.zs y.zs k = x.zs[k] - y.zs[k] := by
              rw [gapD, List.getD_eq_getElem?_getD, List.getElem?_eq_getElem hkl, List.getD_eq_getElem?_getD, List.getElem?_eq_getElem hkl2]; rfl
            have hle := gap_le (b := x.zs) (p := y.zs) hkl
            have hm := mem_itemsD (b := x.zs) (p := y.zs) (k := k)
            rw [HIL.out, HGA.out, hgap] at hm
            rw [HGA.out, hgap] at hle
            have hb1 := HBZ.out _ (List.getElem_mem hkl)
            have hb2 := HPZ.out _ (List.getElem_mem hkl2)
            obtain ⟨z1, hz1⟩ : ∃ z, x.zs[k] = z := ⟨_, rfl⟩
            obtain ⟨z2, hz2⟩ : ∃ z, y.zs[k] = z := ⟨_, rfl⟩
            rw [hz1] at hcy0 hm hle hb1
            rw [hz2] at hcz0 hm hle hb2
            have hcy := (hbel.cell (p := ⟨p1, q1 + k, none⟩) hp1).trans hcy0
            have hcz := (hbel.cell (p := ⟨p2, q2 + k, none⟩) hp2).trans hcz0
            have s1 : IntKind.i64.wrap (z1 - z2) = z1 - z2 := by rw [IntKind.wrap_i64]; omega
            have gle : decide (ga < z1 - z2) = false := decide_eq_false (by omega)
            obtain ⟨β, hβ⟩ : ∃ β, decide ((k : Int) ∈ il) = β := ⟨_, rfl⟩
            have geq : ((z1 - z2) == ga) = β := by
              rw [← hβ, Bool.eq_iff_iff, beq_iff_eq, decide_eq_true_eq, hm]
              exact ⟨fun h => ⟨hkl, h⟩, fun h => h.2⟩
            have gbb : (β != β) = false := by simp
            have HBT := Lib.hid hβ
            rw [hA1, hA2]
            have HA1 := Lib.hid hA1
            have HA2 := Lib.hid hA2
            clear hy0 hy3 hcy0 hcz0 hgap hm hz1 hz2 hβ hA1 hA2
            go_wp2_with fail
            refine wp_region_ord (S := fun w' => w'.cell? ⟨p1, q1 + k, none⟩ = some (.int .i64 z1) ∧ w'.cell? ⟨p2, q2 + k, none⟩ = some (.int .i64 z2)) [(0, true), (1, true), (2, true), (3, true), (4, true), (5, true), (6, true), (7, true), (8, true), (9, true)] default (by kernel_rfl) (by kernel_rfl) (by kernel_rfl) ⟨hcy, hcz⟩ ?_
            simp only [getOrd, nth]
            repeat (first | (refine ordS (by rfl) ?_; simp only [Act.put, List.setIfInBounds_toArray, List.set_cons_zero, List.set_cons_succ]) | (refine ordN (by rfl) ?_; simp only [Act.put, List.setIfInBounds_toArray, List.set_cons_zero, List.set_cons_succ]) | (refine ordQ (v := ?_) (by rfl) (fun _ hSw => ?_) ?_; rotate_left; (focus ((have hS1 := hSw.1); (have hS2 := hSw.2); clear hSw; go_simp; (first | done | with_reducible rfl))); simp only [Act.put, List.setIfInBounds_toArray, List.set_cons_zero, List.set_cons_succ]))
            refine ordE ?_
            obtain ⟨wd, hwd⟩ : ∃ q, q = wr.drew := ⟨_, rfl⟩
            have hbd : Below v1.heap.size v1 wd := by rw [hwd]; exact hbel.drew
            rw [← hwd]
            clear hwd hcy hcz hbel
            have hc := has_any ⟨A1, il.length, c1, il⟩ (k : Int) wd (h1.below hbd).ok
            rw [show decide ((k : Int) ∈ il) = β from HBT.out] at hc
            go_wp2_with fail
            refine hc.mono ?_
            rintro e we ⟨rfl, hb⟩
            clear hc
            have hbe := hbd.trans (hb.mono hbd.size)
            clear hb hbd
            go_wp2
            go_roundw
            case rel => exact ⟨k + 1, by omega, by go_num, hbe⟩
            case measure => simp [intOf]; omega
          · obtain rfl : k = x.n := by omega
            obtain ⟨wo, rfl⟩ : ∃ wo, wo = wr := ⟨_, rfl⟩
            have hO := h1.below hbel
            go_wp2_with fail
            go_loopw [11] (fun v wr => ∃ i : Nat, i ≤ il.length ∧ v = .int .i64 i ∧ Below wo.heap.size wo wr) (fun v _ => il.length - (intOf v).toNat)
            case atStart => exact ⟨0, Nat.zero_le _, rfl, Below.refl _ _⟩
            case round =>
              obtain ⟨i, hi, rfl, hbi⟩ := hrel
              have hi0 : (0 : Int) ≤ i := by omega
              have hil8 : il.length ≤ 8 := by omega
              by_cases hin : i < il.length
              · have hin' : (i : Int) < il.length := by omega
                obtain ⟨p1, q1, hA1, hp1, y0, hy0, hcy0⟩ := hO.ok.rd.get hin
                simp only at hA1
                rw [ci64_get _ _ hin] at hy0
                obtain rfl : iV il[i] = y0 := Option.some.inj hy0
                unfold iV at hcy0
                have hcy := (hbi.cell (p := ⟨p1, q1 + i, none⟩) hp1).trans hcy0
                have hit : 0 ≤ il[i] ∧ il[i] < x.zs.length ∧ ∀ j (hj : j < i), il[j]'(by omega) < il[i] := by
                  have h5 := itemsD_at (b := x.zs) (p := y.zs) (i := i) (by rw [HIL.out]; exact hin)
                  simp only [HIL.out] at h5
                  exact h5
                rw [HXL.out] at hit
                have hbn := hbi.drew
                by_cases hi1 : i = 0
                · have g4 : decide ((0 : Int) < (i : Int)) = false := decide_eq_false (by omega)
                  have g5 : decide (0 < i) = false := decide_eq_false (by omega)
                  clear hi1
                  obtain ⟨z, hz⟩ : ∃ z, il[i] = z := ⟨_, rfl⟩
                  rw [hz] at hcy hit
                  have g1 : decide (z < 0) = false := decide_eq_false (by omega)
                  have g2 : decide ((x.n : Int) ≤ z) = false := decide_eq_false (by omega)
                  rw [hA1]
                  have HA1 := Lib.hid hA1
                  clear hy0 hcy0 hz hit hA1
                  go_wp2_with fail
                  refine wp_region_ord (S := fun w' => w'.cell? ⟨p1, q1 + i, none⟩ = some (.int .i64 z)) [(0, true), (1, true), (2, true), (3, true), (4, true), (5, true), (6, true), (7, true), (8, true), (9, true), (10, true), (11, true), (12, true), (13, true), (14, true), (15, true), (16, true), (17, true), (18, true), (19, true), (20, true), (21, true), (22, true), (23, true), (24, true), (25, true), (26, true), (27, true), (28, true), (29, true)] default (by kernel_rfl) (by kernel_rfl) (by kernel_rfl) hcy ?_
                  simp only [getOrd, nth]
                  repeat (first | (refine ordS (by rfl) ?_; simp only [Act.put, List.setIfInBounds_toArray, List.set_cons_zero, List.set_cons_succ]) | (refine ordN (by rfl) ?_; simp only [Act.put, List.setIfInBounds_toArray, List.set_cons_zero, List.set_cons_succ]) | (refine ordQ (v := ?_) (by rfl) (fun _ hSw => ?_) ?_; rotate_left; (focus ((have hS1 := hSw); clear hSw; go_simp; (first | done | with_reducible rfl))); simp only [Act.put, List.setIfInBounds_toArray, List.set_cons_zero, List.set_cons_succ]))
                  refine ordE ?_
                  go_wp2
                  go_roundw
                  case rel => exact ⟨i + 1, by omega, by go_num, hbn⟩
                  case measure => simp [intOf]; omega
                · obtain ⟨j, hji⟩ : ∃ j, i = j + 1 := ⟨i - 1, by omega⟩
                  have hj9 : j < il.length := by omega
                  obtain ⟨p3, q3, hA3, hp3, y4, hy4, hcj0⟩ := hO.ok.rd.get hj9
                  simp only at hA3
                  rw [hA1] at hA3
                  cases hA3
                  rw [ci64_get _ _ hj9] at hy4
                  obtain rfl : iV il[j] = y4 := Option.some.inj hy4
                  unfold iV at hcj0
                  have hcj := (hbi.cell (p := ⟨p1, q1 + j, none⟩) hp3).trans hcj0
                  have hlt := hit.2.2 j (by omega)
                  obtain ⟨z, hz⟩ : ∃ z, il[i] = z := ⟨_, rfl⟩
                  obtain ⟨zj, hzj⟩ : ∃ z, il[j] = z := ⟨_, rfl⟩
                  have hit1 := hit.1
                  have hit2 := hit.2.1
                  rw [hz] at hcy hit1 hit2 hlt
                  rw [hzj] at hcj hlt
                  have g1 : decide (z < 0) = false := decide_eq_false (by omega)
                  have g2 : decide ((x.n : Int) ≤ z) = false := decide_eq_false (by omega)
                  have g3 : decide (z ≤ zj) = false := decide_eq_false (by omega)
                  have g4 : decide ((0 : Int) < (i : Int)) = true := decide_eq_true (by omega)
                  have g5 : decide (0 < i) = true := decide_eq_true (by omega)
                  have s3 : IntKind.i64.wrap ((i : Int) - 1) = (j : Int) := by rw [IntKind.wrap_i64]; omega
                  have hj0 : (0 : Int) ≤ j := by omega
                  have hj1 : (j : Int) < il.length := by omega
                  rw [hA1]
                  have HA1 := Lib.hid hA1
                  clear hy0 hy4 hcy0 hcj0 hz hzj hit hit1 hit2 hlt hA1 hji hi1
                  go_wp2_with fail
                  refine wp_region_ord (S := fun w' => w'.cell? ⟨p1, q1 + i, none⟩ = some (.int .i64 z) ∧ w'.cell? ⟨p1, q1 + j, none⟩ = some (.int .i64 zj)) [(0, true), (1, true), (2, true), (3, true), (4, true), (5, true), (6, true), (7, true), (8, true), (9, true), (10, true), (11, true), (12, true), (13, true), (14, true), (15, true), (16, true), (17, true), (18, true), (19, true), (20, true), (21, true), (22, true), (23, true), (24, true), (25, true), (26, true), (27, true), (28, true), (29, true)] default (by kernel_rfl) (by kernel_rfl) (by kernel_rfl) ⟨hcy, hcj⟩ ?_
                  simp only [getOrd, nth]
                  repeat (first | (refine ordS (by rfl) ?_; simp only [Act.put, List.setIfInBounds_toArray, List.set_cons_zero, List.set_cons_succ]) | (refine ordN (by rfl) ?_; simp only [Act.put, List.setIfInBounds_toArray, List.set_cons_zero, List.set_cons_succ]) | (refine ordQ (v := ?_) (by rfl) (fun _ hSw => ?_) ?_; rotate_left; (focus ((have hS1 := hSw.1); (have hS2 := hSw.2); clear hSw; go_simp; (first | done | with_reducible rfl))); simp only [Act.put, List.setIfInBounds_toArray, List.set_cons_zero, List.set_cons_succ]))
                  refine ordE ?_
                  go_wp2
                  go_roundw
                  case rel => exact ⟨i + 1, by omega, by go_num, hbn⟩
                  case measure => simp [intOf]; omega
              · obtain rfl : i = il.length := by omega
                have hwv : Below w.heap.size w wr := (hB.trans (hbel.mono hB.size)).trans (hbi.mono (by have h5 := hB.size; have h6 := hbel.size; omega))
                have hc := alive12_any wr
                go_wp2_with fail
                refine hc.mono ?_
                rintro e v9 ⟨rfl, hb⟩
                clear hc
                have hfin := hwv.trans (hb.mono hwv.size)
                go_wp2
                go_ret
                exact ⟨rfl, hfin⟩
      · have g0 := 0
        clear g0
        go_wp2_with fail
        clear g1 g2 g3 g4 g5 g6 g7 gnb gg0
        go_loopw [9] (fun v wr => ∃ k : Nat, k ≤ x.n ∧ v = .int .i64 k ∧ Below v1.heap.size v1 wr) (fun v _ => x.n - (intOf v).toNat)
        case atStart => exact ⟨0, Nat.zero_le _, rfl, Below.refl _ _⟩
        case round =>
          obtain ⟨k, hk, rfl, hbel⟩ := hrel
          have hk0 : (0 : Int) ≤ k := by omega
          by_cases hkn : k < x.n
          · have hkn' : (k : Int) < x.n := by omega
            have hky : k < y.n := by omega
            have hky' : (k : Int) < y.n := by omega
            have hkl : k < x.zs.length := by rw [HXL.out]; exact hkn
            have hkl2 : k < y.zs.length := by rw [HYL.out]; exact hky
            obtain ⟨p1, q1, hA1, hp1, y0, hy0, hcy0⟩ := hx.rd.get hkn
            rw [ci64_get _ _ hkl] at hy0
            obtain rfl : iV x.zs[k] = y0 := Option.some.inj hy0
            obtain ⟨p2, q2, hA2, hp2, y3, hy3, hcz0⟩ := hy.rd.get hky
            rw [ci64_get _ _ hkl2] at hy3
            obtain rfl : iV y.zs[k] = y3 := Option.some.inj hy3
            unfold iV at hcy0 hcz0
            have hgap : gapD x.zs y.zs k = x.zs[k] - y.zs[k] := by
              rw [gapD, List.getD_eq_getElem?_getD, List.getElem?_eq_getElem hkl, List.getD_eq_getElem?_getD, List.getElem?_eq_getElem hkl2]; rfl
            have hle := gap_le (b := x.zs) (p := y.zs) hkl
            have hm := mem_itemsD (b := x.zs) (p := y.zs) (k := k)
            rw [HIL.out, HGA.out, hgap] at hm
            rw [HGA.out, hgap] at hle
            have hb1 := HBZ.out _ (List.getElem_mem hkl)
            have hb2 := HPZ.out _ (List.getElem_mem hkl2)
            obtain ⟨z1, hz1⟩ : ∃ z, x.zs[k] = z := ⟨_, rfl⟩
            obtain ⟨z2, hz2⟩ : ∃ z, y.zs[k] = z := ⟨_, rfl⟩
            rw [hz1] at hcy0 hm hle hb1
            rw [hz2] at hcz0 hm hle hb2
            have hcy := (hbel.cell (p := ⟨p1, q1 + k, none⟩) hp1).trans hcy0
            have hcz := (hbel.cell (p := ⟨p2, q2 + k, none⟩) hp2).trans hcz0
            have s1 : IntKind.i64.wrap (z1 - z2) = z1 - z2 := by rw [IntKind.wrap_i64]; omega
            have gle : decide (ga < z1 - z2) = false := decide_eq_false (by omega)
            obtain ⟨β, hβ⟩ : ∃ β, decide ((k : Int) ∈ il) = β := ⟨_, rfl⟩
            have geq : ((z1 - z2) == ga) = β := by
              rw [← hβ, Bool.eq_iff_iff, beq_iff_eq, decide_eq_true_eq, hm]
              exact ⟨fun h => ⟨hkl, h⟩, fun h => h.2⟩
            have gbb : (β != β) = false := by simp
            have HBT := Lib.hid hβ
            rw [hA1, hA2]
            have HA1 := Lib.hid hA1
            have HA2 := Lib.hid hA2
            clear hy0 hy3 hcy0 hcz0 hgap hm hz1 hz2 hβ hA1 hA2
            go_wp2_with fail
            refine wp_region_ord (S := fun w' => w'.cell? ⟨p1, q1 + k, none⟩ = some (.int .i64 z1) ∧ w'.cell? ⟨p2, q2 + k, none⟩ = some (.int .i64 z2)) [(0, true), (1, true), (2, true), (3, true), (4, true), (5, true), (6, true), (7, true), (8, true), (9, true)] default (by kernel_rfl) (by kernel_rfl) (by kernel_rfl) ⟨hcy, hcz⟩ ?_
            simp only [getOrd, nth]
            repeat (first | (refine ordS (by rfl) ?_; simp only [Act.put, List.setIfInBounds_toArray, List.set_cons_zero, List.set_cons_succ]) | (refine ordN (by rfl) ?_; simp only [Act.put, List.setIfInBounds_toArray, List.set_cons_zero, List.set_cons_succ]) | (refine ordQ (v := ?_) (by rfl) (fun _ hSw => ?_) ?_; rotate_left; (focus ((have hS1 := hSw.1); (have hS2 := hSw.2); clear hSw; go_simp; (first | done | with_reducible rfl))); simp only [Act.put, List.setIfInBounds_toArray, List.set_cons_zero, List.set_cons_succ]))
            refine ordE ?_
            obtain ⟨wd, hwd⟩ : ∃ q, q = wr.drew := ⟨_, rfl⟩
            have hbd : Below v1.heap.size v1 wd := by rw [hwd]; exact hbel.drew
            rw [← hwd]
            clear hwd hcy hcz hbel
            have hc := has_any ⟨A1, il.length, c1, il⟩ (k : Int) wd (h1.below hbd).ok
            rw [show decide ((k : Int) ∈ il) = β from HBT.out] at hc
            go_wp2_with fail
            refine hc.mono ?_
            rintro e we ⟨rfl, hb⟩
            clear hc
            have hbe := hbd.trans (hb.mono hbd.size)
            clear hb hbd
            go_wp2
            go_roundw
            case rel => exact ⟨k + 1, by omega, by go_num, hbe⟩
            case measure => simp [intOf]; omega
          · obtain rfl : k = x.n := by omega
            obtain ⟨wo, rfl⟩ : ∃ wo, wo = wr := ⟨_, rfl⟩
            have hO := h1.below hbel
            go_wp2_with fail
            go_loopw [11] (fun v wr => ∃ i : Nat, i ≤ il.length ∧ v = .int .i64 i ∧ Below wo.heap.size wo wr) (fun v _ => il.length - (intOf v).toNat)
            case atStart => exact ⟨0, Nat.zero_le _, rfl, Below.refl _ _⟩
            case round =>
              obtain ⟨i, hi, rfl, hbi⟩ := hrel
              have hi0 : (0 : Int) ≤ i := by omega
              have hil8 : il.length ≤ 8 := by omega
              by_cases hin : i < il.length
              · have hin' : (i : Int) < il.length := by omega
                obtain ⟨p1, q1, hA1, hp1, y0, hy0, hcy0⟩ := hO.ok.rd.get hin
                simp only at hA1
                rw [ci64_get _ _ hin] at hy0
                obtain rfl : iV il[i] = y0 := Option.some.inj hy0
                unfold iV at hcy0
                have hcy := (hbi.cell (p := ⟨p1, q1 + i, none⟩) hp1).trans hcy0
                have hit : 0 ≤ il[i] ∧ il[i] < x.zs.length ∧ ∀ j (hj : j < i), il[j]'(by omega) < il[i] := by
                  have h5 := itemsD_at (b := x.zs) (p := y.zs) (i := i) (by rw [HIL.out]; exact hin)
                  simp only [HIL.out] at h5
                  exact h5
                rw [HXL.out] at hit
                have hbn := hbi.drew
                by_cases hi1 : i = 0
                · have g4 : decide ((0 : Int) < (i : Int)) = false := decide_eq_false (by omega)
                  have g5 : decide (0 < i) = false := decide_eq_false (by omega)
                  clear hi1
                  obtain ⟨z, hz⟩ : ∃ z, il[i] = z := ⟨_, rfl⟩
                  rw [hz] at hcy hit
                  have g1 : decide (z < 0) = false := decide_eq_false (by omega)
                  have g2 : decide ((x.n : Int) ≤ z) = false := decide_eq_false (by omega)
                  rw [hA1]
                  have HA1 := Lib.hid hA1
                  clear hy0 hcy0 hz hit hA1
                  go_wp2_with fail
                  refine wp_region_ord (S := fun w' => w'.cell? ⟨p1, q1 + i, none⟩ = some (.int .i64 z)) [(0, true), (1, true), (2, true), (3, true), (4, true), (5, true), (6, true), (7, true), (8, true), (9, true), (10, true), (11, true), (12, true), (13, true), (14, true), (15, true), (16, true), (17, true), (18, true), (19, true), (20, true), (21, true), (22, true), (23, true), (24, true), (25, true), (26, true), (27, true), (28, true), (29, true)] default (by kernel_rfl) (by kernel_rfl) (by kernel_rfl) hcy ?_
                  simp only [getOrd, nth]
                  repeat (first | (refine ordS (by rfl) ?_; simp only [Act.put, List.setIfInBounds_toArray, List.set_cons_zero, List.set_cons_succ]) | (refine ordN (by rfl) ?_; simp only [Act.put, List.setIfInBounds_toArray, List.set_cons_zero, List.set_cons_succ]) | (refine ordQ (v := ?_) (by rfl) (fun _ hSw => ?_) ?_; rotate_left; (focus ((have hS1 := hSw); clear hSw; go_simp; (first | done | with_reducible rfl))); simp only [Act.put, List.setIfInBounds_toArray, List.set_cons_zero, List.set_cons_succ]))
                  refine ordE ?_
                  go_wp2
                  go_roundw
                  case rel => exact ⟨i + 1, by omega, by go_num, hbn⟩
                  case measure => simp [intOf]; omega
                · obtain ⟨j, hji⟩ : ∃ j, i = j + 1 := ⟨i - 1, by omega⟩
                  have hj9 : j < il.length := by omega
                  obtain ⟨p3, q3, hA3, hp3, y4, hy4, hcj0⟩ := hO.ok.rd.get hj9
                  simp only at hA3
                  rw [hA1] at hA3
                  cases hA3
                  rw [ci64_get _ _ hj9] at hy4
                  obtain rfl : iV il[j] = y4 := Option.some.inj hy4
                  unfold iV at hcj0
                  have hcj := (hbi.cell (p := ⟨p1, q1 + j, none⟩) hp3).trans hcj0
                  have hlt := hit.2.2 j (by omega)
                  obtain ⟨z, hz⟩ : ∃ z, il[i] = z := ⟨_, rfl⟩
                  obtain ⟨zj, hzj⟩ : ∃ z, il[j] = z := ⟨_, rfl⟩
                  have hit1 := hit.1
                  have hit2 := hit.2.1
                  rw [hz] at hcy hit1 hit2 hlt
                  rw [hzj] at hcj hlt
                  have g1 : decide (z < 0) = false := decide_eq_false (by omega)
                  have g2 : decide ((x.n : Int) ≤ z) = false := decide_eq_false (by omega)
                  have g3 : decide (z ≤ zj) = false := decide_eq_false (by omega)
                  have g4 : decide ((0 : Int) < (i : Int)) = true := decide_eq_true (by omega)
                  have g5 : decide (0 < i) = true := decide_eq_true (by omega)
                  have s3 : IntKind.i64.wrap ((i : Int) - 1) = (j : Int) := by rw [IntKind.wrap_i64]; omega
                  have hj0 : (0 : Int) ≤ j := by omega
                  have hj1 : (j : Int) < il.length := by omega
                  rw [hA1]
                  have HA1 := Lib.hid hA1
                  clear hy0 hy4 hcy0 hcj0 hz hzj hit hit1 hit2 hlt hA1 hji hi1
                  go_wp2_with fail
                  refine wp_region_ord (S := fun w' => w'.cell? ⟨p1, q1 + i, none⟩ = some (.int .i64 z) ∧ w'.cell? ⟨p1, q1 + j, none⟩ = some (.int .i64 zj)) [(0, true), (1, true), (2, true), (3, true), (4, true), (5, true), (6, true), (7, true), (8, true), (9, true), (10, true), (11, true), (12, true), (13, true), (14, true), (15, true), (16, true), (17, true), (18, true), (19, true), (20, true), (21, true), (22, true), (23, true), (24, true), (25, true), (26, true), (27, true), (28, true), (29, true)] default (by kernel_rfl) (by kernel_rfl) (by kernel_rfl) ⟨hcy, hcj⟩ ?_
                  simp only [getOrd, nth]
                  repeat (first | (refine ordS (by rfl) ?_; simp only [Act.put, List.setIfInBounds_toArray, List.set_cons_zero, List.set_cons_succ]) | (refine ordN (by rfl) ?_; simp only [Act.put, List.setIfInBounds_toArray, List.set_cons_zero, List.set_cons_succ]) | (refine ordQ (v := ?_) (by rfl) (fun _ hSw => ?_) ?_; rotate_left; (focus ((have hS1 := hSw.1); (have hS2 := hSw.2); clear hSw; go_simp; (first | done | with_reducible rfl))); simp only [Act.put, List.setIfInBounds_toArray, List.set_cons_zero, List.set_cons_succ]))
                  refine ordE ?_
                  go_wp2
                  go_roundw
                  case rel => exact ⟨i + 1, by omega, by go_num, hbn⟩
                  case measure => simp [intOf]; omega
              · obtain rfl : i = il.length := by omega
                have hwv : Below w.heap.size w wr := (hB.trans (hbel.mono hB.size)).trans (hbi.mono (by have h5 := hB.size; have h6 := hbel.size; omega))
                have hc := alive12_any wr
                go_wp2_with fail
                refine hc.mono ?_
                rintro e v9 ⟨rfl, hb⟩
                clear hc
                have hfin := hwv.trans (hb.mono hwv.size)
                go_wp2
                go_ret
                exact ⟨rfl, hfin⟩
    · rcases gx with ⟨g4, g5⟩ | ⟨g4, g5, g6, g7⟩
      · have g0 := 0
        clear g0
        go_wp2_with fail
        clear g1 g2 g4 g5 gnb gg0
        go_loopw [9] (fun v wr => ∃ k : Nat, k ≤ x.n ∧ v = .int .i64 k ∧ Below v1.heap.size v1 wr) (fun v _ => x.n - (intOf v).toNat)
        case atStart => exact ⟨0, Nat.zero_le _, rfl, Below.refl _ _⟩
        case round =>
          obtain ⟨k, hk, rfl, hbel⟩ := hrel
          have hk0 : (0 : Int) ≤ k := by omega
          by_cases hkn : k < x.n
          · have hkn' : (k : Int) < x.n := by omega
            have hky : k < y.n := by omega
            have hky' : (k : Int) < y.n := by omega
            have hkl : k < x.zs.length := by rw [HXL.out]; exact hkn
            have hkl2 : k < y.zs.length := by rw [HYL.out]; exact hky
            obtain ⟨p1, q1, hA1, hp1, y0, hy0, hcy0⟩ := hx.rd.get hkn
            rw [ci64_get _ _ hkl] at hy0
            obtain rfl : iV x.zs[k] = y0 := Option.some.inj hy0
            obtain ⟨p2, q2, hA2, hp2, y3, hy3, hcz0⟩ := hy.rd.get hky
            rw [ci64_get _ _ hkl2] at hy3
            obtain rfl : iV y.zs[k] = y3 := Option.some.inj hy3
            unfold iV at hcy0 hcz0
            have hgap : gapD x.zs y.zs k = x.zs[k] - y.zs[k] := by
              rw [gapD, List.getD_eq_getElem?_getD, List.getElem?_eq_getElem hkl, List.getD_eq_getElem?_getD, List.getElem?_eq_getElem hkl2]; rfl
            have hle := gap_le (b := x.zs) (p := y.zs) hkl
            have hm := mem_itemsD (b := x.zs) (p := y.zs) (k := k)
            rw [HIL.out, HGA.out, hgap] at hm
            rw [HGA.out, hgap] at hle
            have hb1 := HBZ.out _ (List.getElem_mem hkl)
            have hb2 := HPZ.out _ (List.getElem_mem hkl2)
            obtain ⟨z1, hz1⟩ : ∃ z, x.zs[k] = z := ⟨_, rfl⟩
            obtain ⟨z2, hz2⟩ : ∃ z, y.zs[k] = z := ⟨_, rfl⟩
            rw [hz1] at hcy0 hm hle hb1
            rw [hz2] at hcz0 hm hle hb2
            have hcy := (hbel.cell (p := ⟨p1, q1 + k, none⟩) hp1).trans hcy0
            have hcz := (hbel.cell (p := ⟨p2, q2 + k, none⟩) hp2).trans hcz0
            have s1 : IntKind.i64.wrap (z1 - z2) = z1 - z2 := by rw [IntKind.wrap_i64]; omega
            have gle : decide (ga < z1 - z2) = false := decide_eq_false (by omega)
            obtain ⟨β, hβ⟩ : ∃ β, decide ((k : Int) ∈ il) = β := ⟨_, rfl⟩
            have geq : ((z1 - z2) == ga) = β := by
              rw [← hβ, Bool.eq_iff_iff, beq_iff_eq, decide_eq_true_eq, hm]
              exact ⟨fun h => ⟨hkl, h⟩, fun h => h.2⟩
            have gbb : (β != β) = false := by simp
            have HBT := Lib.hid hβ
            rw [hA1, hA2]
            have HA1 := Lib.hid hA1
            have HA2 := Lib.hid hA2
            clear hy0 hy3 hcy0 hcz0 hgap hm hz1 hz2 hβ hA1 hA2
            go_wp2_with fail
            refine wp_region_ord (S := fun w' => w'.cell? ⟨p1, q1 + k, none⟩ = some (.int .i64 z1) ∧ w'.cell? ⟨p2, q2 + k, none⟩ = some (.int .i64 z2)) [(0, true), (1, true), (2, true), (3, true), (4, true), (5, true), (6, true), (7, true), (8, true), (9, true)] default (by kernel_rfl) (by kernel_rfl) (by kernel_rfl) ⟨hcy, hcz⟩ ?_
            simp only [getOrd, nth]
            repeat (first | (refine ordS (by rfl) ?_; simp only [Act.put, List.setIfInBounds_toArray, List.set_cons_zero, List.set_cons_succ]) | (refine ordN (by rfl) ?_; simp only [Act.put, List.setIfInBounds_toArray, List.set_cons_zero, List.set_cons_succ]) | (refine ordQ (v := ?_) (by rfl) (fun _ hSw => ?_) ?_; rotate_left; (focus ((have hS1 := hSw.1); (have hS2 := hSw.2); clear hSw; go_simp; (first | done | with_reducible rfl))); simp only [Act.put, List.setIfInBounds_toArray, List.set_cons_zero, List.set_cons_succ]))
            refine ordE ?_
            obtain ⟨wd, hwd⟩ : ∃ q, q = wr.drew := ⟨_, rfl⟩
            have hbd : Below v1.heap.size v1 wd := by rw [hwd]; exact hbel.drew
            rw [← hwd]
            clear hwd hcy hcz hbel
            have hc := has_any ⟨A1, il.length, c1, il⟩ (k : Int) wd (h1.below hbd).ok
            rw [show decide ((k : Int) ∈ il) = β from HBT.out] at hc
            go_wp2_with fail
            refine hc.mono ?_
            rintro e we ⟨rfl, hb⟩
            clear hc
            have hbe := hbd.trans (hb.mono hbd.size)
            clear hb hbd
            go_wp2
            go_roundw
            case rel => exact ⟨k + 1, by omega, by go_num, hbe⟩
            case measure => simp [intOf]; omega
          · obtain rfl : k = x.n := by omega
            obtain ⟨wo, rfl⟩ : ∃ wo, wo = wr := ⟨_, rfl⟩
            have hO := h1.below hbel
            go_wp2_with fail
            go_loopw [11] (fun v wr => ∃ i : Nat, i ≤ il.length ∧ v = .int .i64 i ∧ Below wo.heap.size wo wr) (fun v _ => il.length - (intOf v).toNat)
            case atStart => exact ⟨0, Nat.zero_le _, rfl, Below.refl _ _⟩
            case round =>
              obtain ⟨i, hi, rfl, hbi⟩ := hrel
              have hi0 : (0 : Int) ≤ i := by omega
              have hil8 : il.length ≤ 8 := by omega
              by_cases hin : i < il.length
              · have hin' : (i : Int) < il.length := by omega
                obtain ⟨p1, q1, hA1, hp1, y0, hy0, hcy0⟩ := hO.ok.rd.get hin
                simp only at hA1
                rw [ci64_get _ _ hin] at hy0
                obtain rfl : iV il[i] = y0 := Option.some.inj hy0
                unfold iV at hcy0
                have hcy := (hbi.cell (p := ⟨p1, q1 + i, none⟩) hp1).trans hcy0
                have hit : 0 ≤ il[i] ∧ il[i] < x.zs.length ∧ ∀ j (hj : j < i), il[j]'(by omega) < il[i] := by
                  have h5 := itemsD_at (b := x.zs) (p := y.zs) (i := i) (by rw [HIL.out]; exact hin)
                  simp only [HIL.out] at h5
                  exact h5
                rw [HXL.out] at hit
                have hbn := hbi.drew
                by_cases hi1 : i = 0
                · have g4 : decide ((0 : Int) < (i : Int)) = false := decide_eq_false (by omega)
                  have g5 : decide (0 < i) = false := decide_eq_false (by omega)
                  clear hi1
                  obtain ⟨z, hz⟩ : ∃ z, il[i] = z := ⟨_, rfl⟩
                  rw [hz] at hcy hit
                  have g1 : decide (z < 0) = false := decide_eq_false (by omega)
                  have g2 : decide ((x.n : Int) ≤ z) = false := decide_eq_false (by omega)
                  rw [hA1]
                  have HA1 := Lib.hid hA1
                  clear hy0 hcy0 hz hit hA1
                  go_wp2_with fail
                  refine wp_region_ord (S := fun w' => w'.cell? ⟨p1, q1 + i, none⟩ = some (.int .i64 z)) [(0, true), (1, true), (2, true), (3, true), (4, true), (5, true), (6, true), (7, true), (8, true), (9, true), (10, true), (11, true), (12, true), (13, true), (14, true), (15, true), (16, true), (17, true), (18, true), (19, true), (20, true), (21, true), (22, true), (23, true), (24, true), (25, true), (26, true), (27, true), (28, true), (29, true)] default (by kernel_rfl) (by kernel_rfl) (by kernel_rfl) hcy ?_
                  simp only [getOrd, nth]
                  repeat (first | (refine ordS (by rfl) ?_; simp only [Act.put, List.setIfInBounds_toArray, List.set_cons_zero, List.set_cons_succ]) | (refine ordN (by rfl) ?_; simp only [Act.put, List.setIfInBounds_toArray, List.set_cons_zero, List.set_cons_succ]) | (refine ordQ (v := ?_) (by rfl) (fun _ hSw => ?_) ?_; rotate_left; (focus ((have hS1 := hSw); clear hSw; go_simp; (first | done | with_reducible rfl))); simp only [Act.put, List.setIfInBounds_toArray, List.set_cons_zero, List.set_cons_succ]))
                  refine ordE ?_
                  go_wp2
                  go_roundw
                  case rel => exact ⟨i + 1, by omega, by go_num, hbn⟩
                  case measure => simp [intOf]; omega
                · obtain ⟨j, hji⟩ : ∃ j, i = j + 1 := ⟨i - 1, by omega⟩
                  have hj9 : j < il.length := by omega
                  obtain ⟨p3, q3, hA3, hp3, y4, hy4, hcj0⟩ := hO.ok.rd.get hj9
                  simp only at hA3
                  rw [hA1] at hA3
                  cases hA3
                  rw [ci64_get _ _ hj9] at hy4
                  obtain rfl : iV il[j] = y4 := Option.some.inj hy4
                  unfold iV at hcj0
                  have hcj := (hbi.cell (p := ⟨p1, q1 + j, none⟩) hp3).trans hcj0
                  have hlt := hit.2.2 j (by omega)
                  obtain ⟨z, hz⟩ : ∃ z, il[i] = z := ⟨_, rfl⟩
                  obtain ⟨zj, hzj⟩ : ∃ z, il[j] = z := ⟨_, rfl⟩
                  have hit1 := hit.1
                  have hit2 := hit.2.1
                  rw [hz] at hcy hit1 hit2 hlt
                  rw [hzj] at hcj hlt
                  have g1 : decide (z < 0) = false := decide_eq_false (by omega)
                  have g2 : decide ((x.n : Int) ≤ z) = false := decide_eq_false (by omega)
                  have g3 : decide (z ≤ zj) = false := decide_eq_false (by omega)
                  have g4 : decide ((0 : Int) < (i : Int)) = true := decide_eq_true (by omega)
                  have g5 : decide (0 < i) = true := decide_eq_true (by omega)
                  have s3 : IntKind.i64.wrap ((i : Int) - 1) = (j : Int) := by rw [IntKind.wrap_i64]; omega
                  have hj0 : (0 : Int) ≤ j := by omega
                  have hj1 : (j : Int) < il.length := by omega
                  rw [hA1]
                  have HA1 := Lib.hid hA1
                  clear hy0 hy4 hcy0 hcj0 hz hzj hit hit1 hit2 hlt hA1 hji hi1
                  go_wp2_with fail
                  refine wp_region_ord (S := fun w' => w'.cell? ⟨p1, q1 + i, none⟩ = some (.int .i64 z) ∧ w'.cell? ⟨p1, q1 + j, none⟩ = some (.int .i64 zj)) [(0, true), (1, true), (2, true), (3, true), (4, true), (5, true), (6, true), (7, true), (8, true), (9, true), (10, true), (11, true), (12, true), (13, true), (14, true), (15, true), (16, true), (17, true), (18, true), (19, true), (20, true), (21, true), (22, true), (23, true), (24, true), (25, true), (26, true), (27, true), (28, true), (29, true)] default (by kernel_rfl) (by kernel_rfl) (by kernel_rfl) ⟨hcy, hcj⟩ ?_
                  simp only [getOrd, nth]
                  repeat (first | (refine ordS (by rfl) ?_; simp only [Act.put, List.setIfInBounds_toArray, List.set_cons_zero, List.set_cons_succ]) | (refine ordN (by rfl) ?_; simp only [Act.put, List.setIfInBounds_toArray, List.set_cons_zero, List.set_cons_succ]) | (refine ordQ (v := ?_) (by rfl) (fun _ hSw => ?_) ?_; rotate_left; (focus ((have hS1 := hSw.1); (have hS2 := hSw.2); clear hSw; go_simp; (first | done | with_reducible rfl))); simp only [Act.put, List.setIfInBounds_toArray, List.set_cons_zero, List.set_cons_succ]))
                  refine ordE ?_
                  go_wp2
                  go_roundw
                  case rel => exact ⟨i + 1, by omega, by go_num, hbn⟩
                  case measure => simp [intOf]; omega
              · obtain rfl : i = il.length := by omega
                have hwv : Below w.heap.size w wr := (hB.trans (hbel.mono hB.size)).trans (hbi.mono (by have h5 := hB.size; have h6 := hbel.size; omega))
                have hc := alive12_any wr
                go_wp2_with fail
                refine hc.mono ?_
                rintro e v9 ⟨rfl, hb⟩
                clear hc
                have hfin := hwv.trans (hb.mono hwv.size)
                go_wp2
                go_ret
                exact ⟨rfl, hfin⟩
      · have g0 := 0
        clear g0
        go_wp2_with fail
        clear g1 g2 g4 g5 g6 g7 gnb gg0
        go_loopw [9] (fun v wr => ∃ k : Nat, k ≤ x.n ∧ v = .int .i64 k ∧ Below v1.heap.size v1 wr) (fun v _ => x.n - (intOf v).toNat)
        case atStart => exact ⟨0, Nat.zero_le _, rfl, Below.refl _ _⟩
        case round =>
          obtain ⟨k, hk, rfl, hbel⟩ := hrel
          have hk0 : (0 : Int) ≤ k := by omega
          by_cases hkn : k < x.n
          · have hkn' : (k : Int) < x.n := by omega
            have hky : k < y.n := by omega
            have hky' : (k : Int) < y.n := by omega
            have hkl : k < x.zs.length := by rw [HXL.out]; exact hkn
            have hkl2 : k < y.zs.length := by rw [HYL.out]; exact hky
            obtain ⟨p1, q1, hA1, hp1, y0, hy0, hcy0⟩ := hx.rd.get hkn
            rw [ci64_get _ _ hkl] at hy0
            obtain rfl : iV x.zs[k] = y0 := Option.some.inj hy0
            obtain ⟨p2, q2, hA2, hp2, y3, hy3, hcz0⟩ := hy.rd.get hky
            rw [ci64_get _ _ hkl2] at hy3
            obtain rfl : iV y.zs[k] = y3 := Option.some.inj hy3
            unfold iV at hcy0 hcz0
            have hgap : gapD x.zs y.zs k = x.zs[k] - y.zs[k] := by
              rw [gapD, List.getD_eq_getElem?_getD, List.getElem?_eq_getElem hkl, List.getD_eq_getElem?_getD, List.getElem?_eq_getElem hkl2]; rfl
            have hle := gap_le (b := x.zs) (p := y.zs) hkl
            have hm := mem_itemsD (b := x.zs) (p := y.zs) (k := k)
            rw [HIL.out, HGA.out, hgap] at hm
            rw [HGA.out, hgap] at hle
            have hb1 := HBZ.out _ (List.getElem_mem hkl)
            have hb2 := HPZ.out _ (List.getElem_mem hkl2)
            obtain ⟨z1, hz1⟩ : ∃ z, x.zs[k] = z := ⟨_, rfl⟩
            obtain ⟨z2, hz2⟩ : ∃ z, y.zs[k] = z := ⟨_, rfl⟩
            rw [hz1] at hcy0 hm hle hb1
            rw [hz2] at hcz0 hm hle hb2
            have hcy := (hbel.cell (p := ⟨p1, q1 + k, none⟩) hp1).trans hcy0
            have hcz := (hbel.cell (p := ⟨p2, q2 + k, none⟩) hp2).trans hcz0
            have s1 : IntKind.i64.wrap (z1 - z2) = z1 - z2 := by rw [IntKind.wrap_i64]; omega
            have gle : decide (ga < z1 - z2) = false := decide_eq_false (by omega)
            obtain ⟨β, hβ⟩ : ∃ β, decide ((k : Int) ∈ il) = β := ⟨_, rfl⟩
            have geq : ((z1 - z2) == ga) = β := by
              rw [← hβ, Bool.eq_iff_iff, beq_iff_eq, decide_eq_true_eq, hm]
              exact ⟨fun h => ⟨hkl, h⟩, fun h => h.2⟩
            have gbb : (β != β) = false := by simp
            have HBT := Lib.hid hβ
            rw [hA1, hA2]
            have HA1 := Lib.hid hA1
            have HA2 := Lib.hid hA2
            clear hy0 hy3 hcy0 hcz0 hgap hm hz1 hz2 hβ hA1 hA2
            go_wp2_with fail
            refine wp_region_ord (S := fun w' => w'.cell? ⟨p1, q1 + k, none⟩ = some (.int .i64 z1) ∧ w'.cell? ⟨p2, q2 + k, none⟩ = some (.int .i64 z2)) [(0, true), (1, true), (2, true), (3, true), (4, true), (5, true), (6, true), (7, true), (8, true), (9, true)] default (by kernel_rfl) (by kernel_rfl) (by kernel_rfl) ⟨hcy, hcz⟩ ?_
            simp only [getOrd, nth]
            repeat (first | (refine ordS (by rfl) ?_; simp only [Act.put, List.setIfInBounds_toArray, List.set_cons_zero, List.set_cons_succ]) | (refine ordN (by rfl) ?_; simp only [Act.put, List.setIfInBounds_toArray, List.set_cons_zero, List.set_cons_succ]) | (refine ordQ (v := ?_) (by rfl) (fun _ hSw => ?_) ?_; rotate_left; (focus ((have hS1 := hSw.1); (have hS2 := hSw.2); clear hSw; go_simp; (first | done | with_reducible rfl))); simp only [Act.put, List.setIfInBounds_toArray, List.set_cons_zero, List.set_cons_succ]))
            refine ordE ?_
            obtain ⟨wd, hwd⟩ : ∃ q, q = wr.drew := ⟨_, rfl⟩
            have hbd : Below v1.heap.size v1 wd := by rw [hwd]; exact hbel.drew
            rw [← hwd]
            clear hwd hcy hcz hbel
            have hc := has_any ⟨A1, il.length, c1, il⟩ (k : Int) wd (h1.below hbd).ok
            rw [show decide ((k : Int) ∈ il) = β from HBT.out] at hc
            go_wp2_with fail
            refine hc.mono ?_
            rintro e we ⟨rfl, hb⟩
            clear hc
            have hbe := hbd.trans (hb.mono hbd.size)
            clear hb hbd
            go_wp2
            go_roundw
            case rel => exact ⟨k + 1, by omega, by go_num, hbe⟩
            case measure => simp [intOf]; omega
          · obtain rfl : k = x.n := by omega
            obtain ⟨wo, rfl⟩ : ∃ wo, wo = wr := ⟨_, rfl⟩
            have hO := h1.below hbel
            go_wp2_with fail
            go_loopw [11] (fun v wr => ∃ i : Nat, i ≤ il.length ∧ v = .int .i64 i ∧ Below wo.heap.size wo wr) (fun v _ => il.length - (intOf v).toNat)
            case atStart => exact ⟨0, Nat.zero_le _, rfl, Below.refl _ _⟩
            case round =>
              obtain ⟨i, hi, rfl, hbi⟩ := hrel
              have hi0 : (0 : Int) ≤ i := by omega
              have hil8 : il.length ≤ 8 := by omega
              by_cases hin : i < il.length
              · have hin' : (i : Int) < il.length := by omega
                obtain ⟨p1, q1, hA1, hp1, y0, hy0, hcy0⟩ := hO.ok.rd.get hin
                simp only at hA1
                rw [ci64_get _ _ hin] at hy0
                obtain rfl : iV il[i] = y0 := Option.some.inj hy0
                unfold iV at hcy0
                have hcy := (hbi.cell (p := ⟨p1, q1 + i, none⟩) hp1).trans hcy0
                have hit : 0 ≤ il[i] ∧ il[i] < x.zs.length ∧ ∀ j (hj : j < i), il[j]'(by omega) < il[i] := by
                  have h5 := itemsD_at (b := x.zs) (p := y.zs) (i := i) (by rw [HIL.out]; exact hin)
                  simp only [HIL.out] at h5
                  exact h5
                rw [HXL.out] at hit
                have hbn := hbi.drew
                by_cases hi1 : i = 0
                · have g4 : decide ((0 : Int) < (i : Int)) = false := decide_eq_false (by omega)
                  have g5 : decide (0 < i) = false := decide_eq_false (by omega)
                  clear hi1
                  obtain ⟨z, hz⟩ : ∃ z, il[i] = z := ⟨_, rfl⟩
                  rw [hz] at hcy hit
                  have g1 : decide (z < 0) = false := decide_eq_false (by omega)
                  have g2 : decide ((x.n : Int) ≤ z) = false := decide_eq_false (by omega)
                  rw [hA1]
                  have HA1 := Lib.hid hA1
                  clear hy0 hcy0 hz hit hA1
                  go_wp2_with fail
                  refine wp_region_ord (S := fun w' => w'.cell? ⟨p1, q1 + i, none⟩ = some (.int .i64 z)) [(0, true), (1, true), (2, true), (3, true), (4, true), (5, true), (6, true), (7, true), (8, true), (9, true), (10, true), (11, true), (12, true), (13, true), (14, true), (15, true), (16, true), (17, true), (18, true), (19, true), (20, true), (21, true), (22, true), (23, true), (24, true), (25, true), (26, true), (27, true), (28, true), (29, true)] default (by kernel_rfl) (by kernel_rfl) (by kernel_rfl) hcy ?_
                  simp only [getOrd, nth]
                  repeat (first | (refine ordS (by rfl) ?_; simp only [Act.put, List.setIfInBounds_toArray, List.set_cons_zero, List.set_cons_succ]) | (refine ordN (by rfl) ?_; simp only [Act.put, List.setIfInBounds_toArray, List.set_cons_zero, List.set_cons_succ]) | (refine ordQ (v := ?_) (by rfl) (fun _ hSw => ?_) ?_; rotate_left; (focus ((have hS1 := hSw); clear hSw; go_simp; (first | done | with_reducible rfl))); simp only [Act.put, List.setIfInBounds_toArray, List.set_cons_zero, List.set_cons_succ]))
                  refine ordE ?_
                  go_wp2
                  go_roundw
                  case rel => exact ⟨i + 1, by omega, by go_num, hbn⟩
                  case measure => simp [intOf]; omega
                · obtain ⟨j, hji⟩ : ∃ j, i = j + 1 := ⟨i - 1, by omega⟩
                  have hj9 : j < il.length := by omega
                  obtain ⟨p3, q3, hA3, hp3, y4, hy4, hcj0⟩ := hO.ok.rd.get hj9
                  simp only at hA3
                  rw [hA1] at hA3
                  cases hA3
                  rw [ci64_get _ _ hj9] at hy4
                  obtain rfl : iV il[j] = y4 := Option.some.inj hy4
                  unfold iV at hcj0
                  have hcj := (hbi.cell (p := ⟨p1, q1 + j, none⟩) hp3).trans hcj0
                  have hlt := hit.2.2 j (by omega)
                  obtain ⟨z, hz⟩ : ∃ z, il[i] = z := ⟨_, rfl⟩
                  obtain ⟨zj, hzj⟩ : ∃ z, il[j] = z := ⟨_, rfl⟩
                  have hit1 := hit.1
                  have hit2 := hit.2.1
                  rw [hz] at hcy hit1 hit2 hlt
                  rw [hzj] at hcj hlt
                  have g1 : decide (z < 0) = false := decide_eq_false (by omega)
                  have g2 : decide ((x.n : Int) ≤ z) = false := decide_eq_false (by omega)
                  have g3 : decide (z ≤ zj) = false := decide_eq_false (by omega)
                  have g4 : decide ((0 : Int) < (i : Int)) = true := decide_eq_true (by omega)
                  have g5 : decide (0 < i) = true := decide_eq_true (by omega)
                  have s3 : IntKind.i64.wrap ((i : Int) - 1) = (j : Int) := by rw [IntKind.wrap_i64]; omega
                  have hj0 : (0 : Int) ≤ j := by omega
                  have hj1 : (j : Int) < il.length := by omega
                  rw [hA1]
                  have HA1 := Lib.hid hA1
                  clear hy0 hy4 hcy0 hcj0 hz hzj hit hit1 hit2 hlt hA1 hji hi1
                  go_wp2_with fail
                  refine wp_region_ord (S := fun w' => w'.cell? ⟨p1, q1 + i, none⟩ = some (.int .i64 z) ∧ w'.cell? ⟨p1, q1 + j, none⟩ = some (.int .i64 zj)) [(0, true), (1, true), (2, true), (3, true), (4, true), (5, true), (6, true), (7, true), (8, true), (9, true), (10, true), (11, true), (12, true), (13, true), (14, true), (15, true), (16, true), (17, true), (18, true), (19, true), (20, true), (21, true), (22, true), (23, true), (24, true), (25, true), (26, true), (27, true), (28, true), (29, true)] default (by kernel_rfl) (by kernel_rfl) (by kernel_rfl) ⟨hcy, hcj⟩ ?_
                  simp only [getOrd, nth]
                  repeat (first | (refine ordS (by rfl) ?_; simp only [Act.put, List.setIfInBounds_toArray, List.set_cons_zero, List.set_cons_succ]) | (refine ordN (by rfl) ?_; simp only [Act.put, List.setIfInBounds_toArray, List.set_cons_zero, List.set_cons_succ]) | (refine ordQ (v := ?_) (by rfl) (fun _ hSw => ?_) ?_; rotate_left; (focus ((have hS1 := hSw.1); (have hS2 := hSw.2); clear hSw; go_simp; (first | done | with_reducible rfl))); simp only [Act.put, List.setIfInBounds_toArray, List.set_cons_zero, List.set_cons_succ]))
                  refine ordE ?_
                  go_wp2
                  go_roundw
                  case rel => exact ⟨i + 1, by omega, by go_num, hbn⟩
                  case measure => simp [intOf]; omega
              · obtain rfl : i = il.length := by omega
                have hwv : Below w.heap.size w wr := (hB.trans (hbel.mono hB.size)).trans (hbi.mono (by have h5 := hB.size; have h6 := hbel.size; omega))
                have hc := alive12_any wr
                go_wp2_with fail
                refine hc.mono ?_
                rintro e v9 ⟨rfl, hb⟩
                clear hc
                have hfin := hwv.trans (hb.mono hwv.size)
                go_wp2
                go_ret
                exact ⟨rfl, hfin⟩

theorem own : ownKnob Try.prog.godebug = none := by kernel_rfl
theorem laidOut : laidOutB Try.prog = true := by kernel_rfl

set_option maxRecDepth 100000 in
theorem lifted (os : Os) (started : os.Started) (H : Type) (enc : TypeId × Value → H) :
    ReturnsInHanded {} Try.checked os 3 .any (Rows.demandsMostSpec.pre6 enc Try.prog Try.f3 Rows.demandsMostRow.domain false) (Rows.demandsMostSpec.post enc Try.prog Try.f3 false true false false) := by
  refine returnsInHanded_of_change (C := Try.checked) own started (by kernel_rfl) Try.func3
    (ChangeSpec.witness6 (enc := enc) (C := Try.checked) false ⟨#[], #[.slice none 0 0, .slice none 0 0], []⟩ 8 (by kernel_rfl) (by kernel_rfl) (by kernel_rfl) (by kernel_rfl)) ?_
  intro W base args ds gs before hval0 hW hcnd _
  have hval : ∀ (j : Nat) t v, Try.f3.params[j]? = some t → args[j]? = some v → Value.okWide Try.prog W .any base t v := hval0
  have hW' := hW
  obtain ⟨p, q, hA0, hV, rfl, hfz, hnd⟩ := hW
  have hA : DataW.TrodAll enc Try.prog W 0 (fun _ => true) true Try.f3.params.toList args.toList ds p := hA0
  rw [Try.params3] at hA hval
  obtain ⟨v0, vs0, d0, ds0, p0, q0, hargs, rfl, rfl, h0, r0⟩ := trodAll_cons hA
  obtain ⟨v1, vs1, d1, ds1, p1, q1, rfl, rfl, rfl, h1, r1⟩ := trodAll_cons r0
  obtain ⟨rfl, rfl, rfl⟩ := trodAll_nil r1
  obtain rfl : args = #[v0, v1] := by cases args; simp_all
  obtain ⟨A0, n0, c0, l0, rfl, a0, b0, e0, g0⟩ := arg_i64s Try.underlying22 Try.underlying3 (by kernel_rfl) (hval 0 22 v0 rfl rfl) h0
  obtain ⟨A1, n1, c1, l1, rfl, a1, b1, e1, g1⟩ := arg_i64s Try.underlying22 Try.underlying3 (by kernel_rfl) (hval 1 22 v1 rfl rfl) h1
  have hwalk : Calls Try.prog 3 #[.slice A0 n0 c0, .slice A1 n1 c1] W fun e w' => e = .returned (.bool true) ∧ Below W.heap.size W w' := walk ⟨A0, n0, c0, l0⟩ ⟨A1, n1, c1, l1⟩ W ⟨a0, b0, e0, g0⟩ ⟨a1, b1, e1, g1⟩
  refine hwalk.mono fun e W' ⟨he, hg⟩ => ?_
  subst he
  exact ⟨_, rfl, law_post laidOut (by kernel_rfl) hW' rfl rfl (by kernel_rfl) Try.underlying4 hg⟩

theorem over : Rows.demandsMostRow.holds Try.pinned (OpenSpec.ofChange Rows.demandsMostSpec) :=
  OpenClaim.holds_of_wide 3 Try.f3 rfl rfl rfl rfl rfl rfl rfl ⟨rfl, rfl, rfl, rfl, rfl⟩ rfl rfl rfl rfl rfl (by kernel_rfl) Try.func3 (by kernel_rfl)
    (of_decide_eq_true (by kernel_rfl)) (by unfold Func.isWrapper; first | (rw [if_pos (by decide +kernel)]; kernel_rfl) | (rw [if_neg (by decide +kernel)]; exact ⟨rfl, rfl⟩))
    (fun os started H enc _ => lifted os started H enc)

theorem proved : Rows.DemandsMostSaid :=
  over

end Go.Proofs.Ytjjaajmjcdihoaa.demandsMost
