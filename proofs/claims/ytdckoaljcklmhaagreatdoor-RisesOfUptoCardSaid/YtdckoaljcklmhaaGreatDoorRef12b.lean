/-
  The document's answer of layer 12: All.
-/
import Derived.Test.YtdckoaljcklmhaaGreatDoorDeO
import Derived.Test.YtdckoaljcklmhaaGreatDoorRef04
import Derived.Test.YtdckoaljcklmhaaGreatDoorGrL
import Derived.Test.YtdckoaljcklmhaaGreatDoorReg2
import Derived.Lib.MinMax
import Derived.Test.YtdckoaljcklmhaaGreatDoorRef05b
import Derived.OwnWalk
namespace Go.Proofs.YtdckoaljcklmhaaGreatDoor
open Go.RowKit
set_option linter.unusedVariables false

theorem info12_int : (Tryz.prog.info? 3).map (fun i => (i.zero, i.size, i.bytes)) = some (some (.int .i64 0), 1, 8) := by kernel_rfl
def okP (l : List Int) : Bool := l.all fun z => decide (0 ≤ z) && decide (z ≤ 2000000)
theorem okP_snoc {l : List Int} {j : Nat} (h : j < l.length) : okP (l.take (j + 1)) = (okP (l.take j) && (decide (0 ≤ l[j]) && decide (l[j] ≤ 2000000))) := by
  rw [okP, List.take_succ_eq_append_getElem h, List.all_append, ← okP]; simp
set_option maxRecDepth 100000 in
set_option maxHeartbeats 1000000 in
theorem rprices (y : Ls) (w : World) (hy : y.Ok w) : Calls Tryz.prog 68 #[.slice y.A y.n y.c] w fun e w' => e = .returned (.bool (mayPr y.zs)) ∧ Below w.heap.size w w' := by
  have HL := Lib.hid hy.len
  have ht := Nat.le_trans hy.cap hy.top
  unfold maxLen at ht
  obtain ⟨β, hβ⟩ : ∃ β, mayPr y.zs = β := ⟨_, rfl⟩
  have HB := Lib.hid hβ
  rw [hβ]
  clear hβ
  go_enter Tryz.func68, Tryz.ntmps68
  by_cases q1 : y.n < 1
  · have g1 : decide ((y.n : Int) < 1) = true := decide_eq_true (by omega)
    have g1' : decide (y.n < 1) = true := decide_eq_true q1
    have HF : Hid (β = false) := Lib.hid (by rw [← HB.out, Bool.eq_false_iff]; intro h; have := (mayPr_iff.1 h).1; rw [HL.out] at this; omega)
    clear q1
    go_wp2
    go_ret
    exact ⟨ret_bool HF.out.symm, Below.refl _ _⟩
  have g1 : decide ((y.n : Int) < 1) = false := decide_eq_false (by omega)
  have g1' : decide (y.n < 1) = false := decide_eq_false q1
  by_cases q2 : 8 < y.n
  · have g2 : decide ((8 : Int) < (y.n : Int)) = true := decide_eq_true (by omega)
    have g2' : decide (8 < y.n) = true := decide_eq_true q2
    have HF : Hid (β = false) := Lib.hid (by rw [← HB.out, Bool.eq_false_iff]; intro h; have := (mayPr_iff.1 h).2.1; rw [HL.out] at this; omega)
    clear q1 q2
    go_wp2
    go_ret
    exact ⟨ret_bool HF.out.symm, Below.refl _ _⟩
  have g2 : decide ((8 : Int) < (y.n : Int)) = false := decide_eq_false (by omega)
  have g2' : decide (8 < y.n) = false := decide_eq_false q2
  have HM : Hid (β = okP y.zs) := Lib.hid (by rw [← HB.out, mayPr, decide_eq_true (by rw [HL.out]; omega), decide_eq_true (by rw [HL.out]; omega)]; rfl)
  clear q1 q2
  go_wp2_with fail
  clear g1 g1' g2 g2'
  go_loopw [3] (fun v wr => ∃ i : Nat, i ≤ y.n ∧ v = .int .i64 i ∧ Hid (okP (y.zs.take i) = true) ∧ wr = w) (fun v _ => y.n - (intOf v).toNat)
  case atStart => exact ⟨0, Nat.zero_le _, rfl, Lib.hid (by simp [okP]), rfl⟩
  case round =>
    obtain ⟨i, hi, rfl, hok, hwr⟩ := hrel
    have hwr2 := hwr.symm
    subst hwr2
    have hi0 : (0 : Int) ≤ i := by omega
    by_cases hin : i < y.n
    · have hin' : (i : Int) < y.n := by omega
      have hil : i < y.zs.length := by rw [HL.out]; exact hin
      obtain ⟨p1, q1, hA1, hp1, y0, hy0, hcy⟩ := hy.rd.get hin
      rw [ci64_get _ _ hil] at hy0
      obtain rfl : iV y.zs[i] = y0 := Option.some.inj hy0
      unfold iV at hcy
      have hsn := okP_snoc hil
      have hmem := List.getElem_mem hil
      obtain ⟨z, hz⟩ : ∃ z, y.zs[i] = z := ⟨_, rfl⟩
      rw [hz] at hcy hsn hmem
      rw [hA1]
      have HA1 := Lib.hid hA1
      have HSN := Lib.hid hsn
      have HMM := Lib.hid hmem
      clear hy0 hz hsn hmem hA1
      by_cases c1 : z < 0
      · have k1 : decide (z < 0) = true := decide_eq_true c1
        have HF : Hid (β = false) := Lib.hid (by
          rw [HM.out, Bool.eq_false_iff]
          intro h
          have h5 := List.all_eq_true.1 h z HMM.out
          rw [Bool.and_eq_true, decide_eq_true_eq] at h5
          omega)
        clear c1
        go_wp2
        go_ret
        exact ⟨ret_bool HF.out.symm, Below.refl _ _⟩
      have k1 : decide (z < 0) = false := decide_eq_false c1
      by_cases c2 : 2000000 < z
      · have k2 : decide (2000000 < z) = true := decide_eq_true c2
        have HF : Hid (β = false) := Lib.hid (by
          rw [HM.out, Bool.eq_false_iff]
          intro h
          have h5 := List.all_eq_true.1 h z HMM.out
          rw [Bool.and_eq_true, decide_eq_true_eq, decide_eq_true_eq] at h5
          omega)
        clear c1 c2
        go_wp2
        go_ret
        exact ⟨ret_bool HF.out.symm, Below.refl _ _⟩
      have k2 : decide (2000000 < z) = false := decide_eq_false c2
      have HN : Hid (okP (y.zs.take (i + 1)) = true) := Lib.hid (by rw [HSN.out, hok.out, decide_eq_true (show 0 ≤ z by omega), decide_eq_true (show z ≤ 2000000 by omega)]; rfl)
      clear c1 c2 hok
      go_wp2
      go_roundw
      case rel => exact ⟨i + 1, by omega, by go_num, HN, by first | rfl | trivial⟩
      case measure => simp [intOf]; omega
    · obtain rfl : i = y.n := by omega
      have HT : Hid (β = true) := Lib.hid (by
        have h5 := hok.out
        rw [List.take_of_length_le (by rw [HL.out]; exact Nat.le_refl _)] at h5
        rw [HM.out]; exact h5)
      clear hok
      go_wp2
      go_ret
      exact ⟨ret_bool HT.out.symm, Below.refl _ _⟩
/-- What it would have, of the first items. -/
def itemsTo (b p : List Int) (k : Nat) : List Int := ((List.range k).filter fun j => decide (gapD b p j = gainD b p)).map fun (j : Nat) => (j : Int)
theorem itemsTo_succ (b p : List Int) (k : Nat) : itemsTo b p (k + 1) = itemsTo b p k ++ if gapD b p k = gainD b p then [(k : Int)] else [] := by
  rw [itemsTo, List.range_succ, List.filter_append, List.map_append, ← itemsTo]
  by_cases h : gapD b p k = gainD b p
  · rw [if_pos h]; simp [List.filter, h]
  · rw [if_neg h]; simp [List.filter, h]
theorem itemsTo_len (b p : List Int) (k : Nat) : (itemsTo b p k).length ≤ k := by
  rw [itemsTo, List.length_map]
  exact Nat.le_trans (List.length_filter_le _ _) (by simp)
set_option maxRecDepth 100000 in
set_option maxHeartbeats 4000000 in
theorem rofC : OfC 69 := by
  intro x y w hx hy
  obtain ⟨i0, hi0, hz0, hz1, hz2⟩ := info_parts info12_int
  have HXL := Lib.hid hx.len
  have HYL := Lib.hid hy.len
  have htop := Nat.le_trans hx.cap hx.top
  have ttop := Nat.le_trans hy.cap hy.top
  unfold maxLen at htop ttop
  have hc := rprices y w hy
  obtain ⟨W, hW⟩ : ∃ q, mayPr y.zs = q := ⟨_, rfl⟩
  rw [hW] at hc
  obtain ⟨B, hB0⟩ : ∃ q, mayD x.zs y.zs = q := ⟨_, rfl⟩
  have HB := Lib.hid hB0
  have HBAD : Hid (B = false → dErr x.zs y.zs = 1 ∧ itemsE x.zs y.zs = [] ∧ gainE x.zs y.zs = 0 ∧ noneE x.zs y.zs = false) := Lib.hid fun h => de_bad (by rw [hB0]; exact h)
  obtain ⟨E, hE⟩ : ∃ q, dErr x.zs y.zs = q := ⟨_, rfl⟩
  obtain ⟨IL, hIL⟩ : ∃ q, itemsE x.zs y.zs = q := ⟨_, rfl⟩
  obtain ⟨GA, hGA⟩ : ∃ q, gainE x.zs y.zs = q := ⟨_, rfl⟩
  obtain ⟨NB, hNB⟩ : ∃ q, noneE x.zs y.zs = q := ⟨_, rfl⟩
  rw [hE, hIL, hGA, hNB] at HBAD ⊢
  have HE := Lib.hid hE
  have HIL := Lib.hid hIL
  have HGA := Lib.hid hGA
  have HNB := Lib.hid hNB
  have hxv : x.v = .slice x.A x.n x.c := rfl
  have hyv : y.v = .slice y.A y.n y.c := rfl
  rw [hxv, hyv]
  have HW := Lib.hid hW
  clear hxv hyv hW hB0 hE hIL hGA hNB
  go_enter Tryz.func69, Tryz.ntmps69
  go_wp2_with fail
  refine hc.mono ?_
  rintro e w1 ⟨rfl, hb1⟩
  clear hc
  cases W
  · have HF := Lib.hid (HBAD.out (by rw [← HB.out, mayD, HW.out]; rfl))
    go_wp2
    (try simp only [Exit.inBlock, Exit.then])
    refine bodyPost_ret (v := .tuple #[.slice none 0 0, .bool false, .int .i64 0, .int .i64 1]) ?rr rfl ?_
    case rr =>
      simp only [results, Tryz.f69]
      go_simp
    exact ⟨none, 0, 0, by rw [HF.out.1, HF.out.2.2.1, HF.out.2.2.2], by rw [HF.out.2.1]; exact OwnI.nil _ _, hb1⟩
  obtain ⟨hM1, hM8, hpz⟩ := mayPr_iff.1 HW.out
  rw [HYL.out] at hM1 hM8
  have HPZ := Lib.hid hpz
  clear hpz
  -- behind the check: x.n = 0, or it may be
  have hgood : ∀ (w2 : World), Below w.heap.size w w2 → B = true → Hid (mayD x.zs y.zs = true) := fun _ _ h => Lib.hid (by rw [HB.out]; exact h)
  by_cases hn0 : x.n = 0
  · have gx : decide ((0 : Int) < (x.n : Int)) = false := decide_eq_false (by omega)
    have gx2 : decide (0 < x.n) = false := decide_eq_false (by omega)
    have hnil : x.zs = [] := List.eq_nil_of_length_eq_zero (by rw [HXL.out]; exact hn0)
    have hBt : mayD x.zs y.zs = true := mayD_iff.2 ⟨HW.out, .inl hnil⟩
    have HBT := Lib.hid hBt
    have hxy : x.n ≤ y.n := by omega
    have hB1 := hb1
    clear hnil hBt hn0 hb1 hgood
    obtain ⟨w3, hw3⟩ : ∃ q, q = w1 := ⟨_, rfl⟩
    rw [← hw3] at hB1 ⊢
    clear hw3
    obtain ⟨_, _, _, hbz, _⟩ := mayD_len HBT.out
    have HBZ := Lib.hid hbz
    have hGB := gain_bound HBT.out
    have HTB : Hid (∀ k, 0 ≤ topN (gapD x.zs y.zs) k) := Lib.hid fun k => top_nonneg _ k
    have HTC : Hid (∀ k, k ≤ x.n → topN (gapD x.zs y.zs) k ≤ 1000000) := Lib.hid fun k hk => top_le (by omega) fun j hj => by
      have h5 := gap_le (b := x.zs) (p := y.zs) (k := j) (by rw [HXL.out]; omega)
      omega
    have H0 : Hid (E = 0) := Lib.hid (by rw [← HE.out]; exact (de_ok HBT.out).1)
    have H1 : Hid (IL = itemsTo x.zs y.zs x.n) := Lib.hid (by rw [← HIL.out, (de_ok HBT.out).2.1, itemsD, itemsN, itemsTo, HXL.out])
    have H2 : Hid (GA = topN (gapD x.zs y.zs) x.n) := Lib.hid (by rw [← HGA.out, (de_ok HBT.out).2.2.1, gainD, HXL.out])
    have H3 : Hid (NB = decide (topN (gapD x.zs y.zs) x.n = 0)) := Lib.hid (by rw [← HNB.out, (de_ok HBT.out).2.2.2, gainD, HXL.out])
    have H4 : Hid (gainD x.zs y.zs = topN (gapD x.zs y.zs) x.n) := Lib.hid (by rw [gainD, HXL.out])
    clear hbz hGB
    go_wp2_with fail
    clear gx gx2
    go_loopw [8, 9] (fun o v wr => ∃ k : Nat, k ≤ x.n ∧ v = .int .i64 k ∧ o = .int .i64 (topN (gapD x.zs y.zs) k) ∧ Below w.heap.size w wr) (fun _ v _ => x.n - (intOf v).toNat)
    case atStart => exact ⟨0, Nat.zero_le _, rfl, rfl, hB1⟩
    case round =>
      clear hB1
      obtain ⟨k, hk, rfl, rfl, hbel⟩ := hrel
      have hk0 : (0 : Int) ≤ k := by omega
      by_cases hkn : k < x.n
      · have hkn' : (k : Int) < x.n := by omega
        have hky : k < y.n := by omega
        have hky' : (k : Int) < y.n := by omega
        have hkl : k < x.zs.length := by rw [HXL.out]; exact hkn
        have hkl2 : k < y.zs.length := by rw [HYL.out]; exact hky
        obtain ⟨p1, q1, hA1, hp1, y0, hy0, hcy0⟩ := hx.rd.get hkn
        rw [ci64_get _ _ hkl] at hy0
        obtain rfl : iV x.zs[k] = y0 := Option.some.inj hy0
        obtain ⟨p2, q2, hA2, hp2, y3, hy3, hcz0⟩ := hy.rd.get hky
        rw [ci64_get _ _ hkl2] at hy3
        obtain rfl : iV y.zs[k] = y3 := Option.some.inj hy3
        unfold iV at hcy0 hcz0
        have hgap : gapD x.zs y.zs k = x.zs[k] - y.zs[k] := by
          rw [gapD, List.getD_eq_getElem?_getD, List.getElem?_eq_getElem hkl, List.getD_eq_getElem?_getD, List.getElem?_eq_getElem hkl2]; rfl
        have hb1 := HBZ.out _ (List.getElem_mem hkl)
        have hb2 := HPZ.out _ (List.getElem_mem hkl2)
        obtain ⟨z1, hz1'⟩ : ∃ z, x.zs[k] = z := ⟨_, rfl⟩
        obtain ⟨z2, hz2'⟩ : ∃ z, y.zs[k] = z := ⟨_, rfl⟩
        rw [hz1'] at hcy0 hb1 hgap
        rw [hz2'] at hcz0 hb2 hgap
        have hcy := (hbel.cell (p := ⟨p1, q1 + k, none⟩) hp1).trans hcy0
        have hcz := (hbel.cell (p := ⟨p2, q2 + k, none⟩) hp2).trans hcz0
        have s1 : IntKind.i64.wrap (z1 - z2) = z1 - z2 := by rw [IntKind.wrap_i64]; omega
        rw [hA1, hA2]
        have HA1 := Lib.hid hA1
        have HA2 := Lib.hid hA2
        clear hy0 hy3 hcy0 hcz0 hz1' hz2' hA1 hA2
        have hst : topN (gapD x.zs y.zs) (k + 1) = max (topN (gapD x.zs y.zs) k) (z1 - z2) := by
          show max (topN (gapD x.zs y.zs) k) (gapD x.zs y.zs k) = _
          rw [hgap]
        have HST := Lib.hid hst
        have htb := HTB.out k
        have htc := HTC.out k hk
        obtain ⟨tk, htk⟩ : ∃ q, topN (gapD x.zs y.zs) k = q := ⟨_, rfl⟩
        rw [htk] at HST htb htc ⊢
        have hbn := hbel.drew
        clear hst hgap htk
        go_wp2_with fail
        refine wp_region_ord (S := fun w' => w'.cell? ⟨p1, q1 + k, none⟩ = some (.int .i64 z1) ∧ w'.cell? ⟨p2, q2 + k, none⟩ = some (.int .i64 z2)) [(0, true), (1, true), (2, true), (3, true), (4, true), (5, true), (6, true), (7, true), (8, true), (9, true), (10, true), (11, true)] default (by kernel_rfl) (by kernel_rfl) (by kernel_rfl) ⟨hcy, hcz⟩ ?_
        simp only [getOrd, nth]
        repeat (first | (refine ordS (by rfl) ?_; simp only [Act.put, List.setIfInBounds_toArray, List.set_cons_zero, List.set_cons_succ]) | (refine ordN (by rfl) ?_; simp only [Act.put, List.setIfInBounds_toArray, List.set_cons_zero, List.set_cons_succ]) | (refine ordQ (v := ?_) (by rfl) (fun _ hSw => ?_) ?_; rotate_left; (focus ((have hS1 := hSw.1); (have hS2 := hSw.2); clear hSw; go_simp; (first | done | with_reducible rfl))); simp only [Act.put, List.setIfInBounds_toArray, List.set_cons_zero, List.set_cons_succ]))
        refine ordE ?_
        go_wp2
        go_roundw
        case rel => exact ⟨k + 1, by omega, by go_num, by rw [HST.out], hbn⟩
        case measure => simp [intOf]; omega
      · obtain rfl : k = x.n := by omega
        obtain ⟨ga, hga⟩ : ∃ q, topN (gapD x.zs y.zs) x.n = q := ⟨_, rfl⟩
        rw [hga] at H2 H3 H4 ⊢
        clear hga
        obtain ⟨wo, rfl⟩ : ∃ wo, wo = wr := ⟨_, rfl⟩
        have hBo := hbel
        have hwo := hbel.size
        clear hbel
        go_wp2_with fail
        go_loopw [10, 11] (fun o v wr => ∃ (k c : Nat) (A : Option Addr), k ≤ x.n ∧ v = .int .i64 k ∧ o = .slice A (itemsTo x.zs y.zs k).length c ∧ OwnI wr wo.heap.size ⟨A, (itemsTo x.zs y.zs k).length, c, itemsTo x.zs y.zs k⟩ ∧ Below w.heap.size w wr ∧ wo.heap.size ≤ wr.heap.size) (fun _ v _ => x.n - (intOf v).toNat)
        case atStart => exact ⟨0, 0, none, Nat.zero_le _, rfl, rfl, OwnI.nil _ _, hBo, Nat.le_refl _⟩
        case round =>
          obtain ⟨k, c, A, hk, rfl, rfl, hO, hbel, hsz⟩ := hrel
          have hk0 : (0 : Int) ≤ k := by omega
          by_cases hkn : k < x.n
          · have hkn' : (k : Int) < x.n := by omega
            have hky : k < y.n := by omega
            have hky' : (k : Int) < y.n := by omega
            have hkl : k < x.zs.length := by rw [HXL.out]; exact hkn
            have hkl2 : k < y.zs.length := by rw [HYL.out]; exact hky
            obtain ⟨p1, q1, hA1, hp1, y0, hy0, hcy0⟩ := hx.rd.get hkn
            rw [ci64_get _ _ hkl] at hy0
            obtain rfl : iV x.zs[k] = y0 := Option.some.inj hy0
            obtain ⟨p2, q2, hA2, hp2, y3, hy3, hcz0⟩ := hy.rd.get hky
            rw [ci64_get _ _ hkl2] at hy3
            obtain rfl : iV y.zs[k] = y3 := Option.some.inj hy3
            unfold iV at hcy0 hcz0
            have hgap : gapD x.zs y.zs k = x.zs[k] - y.zs[k] := by
              rw [gapD, List.getD_eq_getElem?_getD, List.getElem?_eq_getElem hkl, List.getD_eq_getElem?_getD, List.getElem?_eq_getElem hkl2]; rfl
            have hb1 := HBZ.out _ (List.getElem_mem hkl)
            have hb2 := HPZ.out _ (List.getElem_mem hkl2)
            obtain ⟨z1, hz1'⟩ : ∃ z, x.zs[k] = z := ⟨_, rfl⟩
            obtain ⟨z2, hz2'⟩ : ∃ z, y.zs[k] = z := ⟨_, rfl⟩
            rw [hz1'] at hcy0 hb1 hgap
            rw [hz2'] at hcz0 hb2 hgap
            have hcy := (hbel.cell (p := ⟨p1, q1 + k, none⟩) hp1).trans hcy0
            have hcz := (hbel.cell (p := ⟨p2, q2 + k, none⟩) hp2).trans hcz0
            have s1 : IntKind.i64.wrap (z1 - z2) = z1 - z2 := by rw [IntKind.wrap_i64]; omega
            rw [hA1, hA2]
            have HA1 := Lib.hid hA1
            have HA2 := Lib.hid hA2
            clear hy0 hy3 hcy0 hcz0 hz1' hz2' hA1 hA2
            have hsu := itemsTo_succ x.zs y.zs k
            have hil := itemsTo_len x.zs y.zs k
            rw [hgap, H4.out] at hsu
            have HSU := Lib.hid hsu
            obtain ⟨l, hl⟩ : ∃ l, itemsTo x.zs y.zs k = l := ⟨_, rfl⟩
            rw [hl] at HSU hO hil ⊢
            have hx8 : x.n ≤ 8 := by omega
            clear hsu hl hgap
            by_cases hq : z1 - z2 = ga
            · have gq : ((z1 - z2) == ga) = true := by rw [beq_iff_eq]; exact hq
              have HS2 : Hid (itemsTo x.zs y.zs (k + 1) = l ++ [(k : Int)]) := Lib.hid (by rw [HSU.out, if_pos hq])
              clear hq
              go_wp2_with fail
              refine wp_region_ord (S := fun w' => w'.cell? ⟨p1, q1 + k, none⟩ = some (.int .i64 z1) ∧ w'.cell? ⟨p2, q2 + k, none⟩ = some (.int .i64 z2)) [(0, true), (1, true), (2, true), (3, true), (4, true), (5, true), (6, true), (7, true), (8, true), (9, true), (10, true)] default (by kernel_rfl) (by kernel_rfl) (by kernel_rfl) ⟨hcy, hcz⟩ ?_
              simp only [getOrd, nth]
              repeat (first | (refine ordS (by rfl) ?_; simp only [Act.put, List.setIfInBounds_toArray, List.set_cons_zero, List.set_cons_succ]) | (refine ordN (by rfl) ?_; simp only [Act.put, List.setIfInBounds_toArray, List.set_cons_zero, List.set_cons_succ]) | (refine ordQ (v := ?_) (by rfl) (fun _ hSw => ?_) ?_; rotate_left; (focus ((have hS1 := hSw.1); (have hS2 := hSw.2); clear hSw; go_simp; (first | done | with_reducible rfl))); simp only [Act.put, List.setIfInBounds_toArray, List.set_cons_zero, List.set_cons_succ]))
              refine ordE ?_
              obtain ⟨wd, hwd⟩ : ∃ q, q = wr.drew := ⟨_, rfl⟩
              have hbd : Below w.heap.size w wd := by rw [hwd]; exact hbel.drew
              have hOd : OwnI wd wo.heap.size ⟨A, l.length, c, l⟩ := by rw [hwd]; exact ⟨hO.own.drew, hO.fit⟩
              have hszd : wo.heap.size ≤ wd.heap.size := by rw [hwd]; exact hsz
              rw [← hwd]
              clear hwd hcy hcz hbel hO
              go_wp2_with (at_builtin; go_must (refine wpList_app1 wd rfl _ _ 22 rfl 3 i0 _ 8 Tryz.underlying22 hi0 hz0 hz1 hz2 rfl wo.heap.size A l.length c _ rfl hOd.own 1 rfl rfl ?f1 ?f2 ?f3 ?_))
              case f1 => simp only [maxLen]; omega
              case f2 => omega
              try case f3 => exact hszd
              intro A6 c6 w6 hown6 hbel6 _ _
              have hO6 : OwnI w6 wo.heap.size ⟨A6, (itemsTo x.zs y.zs (k + 1)).length, c6, itemsTo x.zs y.zs (k + 1)⟩ := by
                rw [HS2.out]
                refine ⟨?_, fun q hq => ?_⟩
                · show Own w6 wo.heap.size _ A6 (l ++ [(k : Int)]).length c6 (ci64 (l ++ [(k : Int)]))
                  rw [ci64_app, List.length_append, List.length_singleton]; exact hown6
                · rcases List.mem_append.1 hq with hq | hq
                  · exact hOd.fit q hq
                  · rw [List.mem_singleton.1 hq]; omega
              have hb6 := hbd.trans (hbel6.mono hwo)
              have hs6 : wo.heap.size ≤ w6.heap.size := Nat.le_trans hszd hbel6.size
              have hlen6 : (itemsTo x.zs y.zs (k + 1)).length = l.length + 1 := by rw [HS2.out]; simp
              have HLN := Lib.hid hlen6
              clear hown6 hbel6 hOd hlen6
              go_wp2
              go_roundw
              case rel => exact ⟨k + 1, c6, A6, by omega, by go_num, by rw [HLN.out], hO6, hb6, hs6⟩
              case measure => simp [intOf]; omega
            · have gq : ((z1 - z2) == ga) = false := by rw [beq_eq_false_iff_ne]; exact hq
              have HS2 : Hid (itemsTo x.zs y.zs (k + 1) = l) := Lib.hid (by rw [HSU.out, if_neg hq, List.append_nil])
              clear hq
              have hbn := hbel.drew
              have hOd : OwnI wr.drew wo.heap.size ⟨A, l.length, c, l⟩ := ⟨hO.own.drew, hO.fit⟩
              have hszd : wo.heap.size ≤ wr.drew.heap.size := hsz
              go_wp2_with fail
              refine wp_region_ord (S := fun w' => w'.cell? ⟨p1, q1 + k, none⟩ = some (.int .i64 z1) ∧ w'.cell? ⟨p2, q2 + k, none⟩ = some (.int .i64 z2)) [(0, true), (1, true), (2, true), (3, true), (4, true), (5, true), (6, true), (7, true), (8, true), (9, true), (10, true)] default (by kernel_rfl) (by kernel_rfl) (by kernel_rfl) ⟨hcy, hcz⟩ ?_
              simp only [getOrd, nth]
              repeat (first | (refine ordS (by rfl) ?_; simp only [Act.put, List.setIfInBounds_toArray, List.set_cons_zero, List.set_cons_succ]) | (refine ordN (by rfl) ?_; simp only [Act.put, List.setIfInBounds_toArray, List.set_cons_zero, List.set_cons_succ]) | (refine ordQ (v := ?_) (by rfl) (fun _ hSw => ?_) ?_; rotate_left; (focus ((have hS1 := hSw.1); (have hS2 := hSw.2); clear hSw; go_simp; (first | done | with_reducible rfl))); simp only [Act.put, List.setIfInBounds_toArray, List.set_cons_zero, List.set_cons_succ]))
              refine ordE ?_
              clear hO hsz hbel hcy hcz
              go_wp2
              go_roundw
              case rel => exact ⟨k + 1, c, A, by omega, by go_num, by rw [HS2.out], by rw [HS2.out]; exact hOd, hbn, hszd⟩
              case measure => simp [intOf]; omega
          · obtain rfl : k = x.n := by omega
            have hres : OwnI wr w.heap.size ⟨A, (itemsTo x.zs y.zs x.n).length, c, IL⟩ := by
              rw [H1.out]; exact hO.mono hwo
            obtain ⟨β, hβ⟩ : ∃ β, (ga == 0) = β := ⟨_, rfl⟩
            have HNN : Hid (NB = β) := Lib.hid (by rw [H3.out, ← hβ, Bool.eq_iff_iff, beq_iff_eq, decide_eq_true_eq])
            obtain ⟨L, hL⟩ : ∃ l, (itemsTo x.zs y.zs x.n).length = l := ⟨_, rfl⟩
            rw [hL] at hres ⊢
            clear hO hL
            go_wp2
            (try simp only [Exit.inBlock, Exit.then])
            refine bodyPost_ret (v := .tuple #[.slice A L c, .bool β, .int .i64 ga, .int .i64 0]) ?rr rfl ?_
            case rr =>
              simp only [results, Tryz.f69]
              go_simp
            exact ⟨A, L, c, by rw [H0.out, H2.out, HNN.out], hres, hbel⟩
  · have gx : decide ((0 : Int) < (x.n : Int)) = true := decide_eq_true (by omega)
    have gx2 : decide (0 < x.n) = true := decide_eq_true (by omega)
    obtain ⟨W2, hW2⟩ : ∃ q, mayB x.zs (y.n : Int) = q := ⟨_, rfl⟩
    have hc := rcheck_of x.A x.n x.c x.zs (y.n : Int) w1 (hx.below hb1).rd W2 hW2
    have HW2 := Lib.hid hW2
    clear hW2 hgood
    go_wp2_with fail
    refine hc.mono ?_
    rintro e w2 ⟨rfl, hb2⟩
    clear hc
    have hB1 := hb1.trans (hb2.mono hb1.size)
    clear hb1 hb2
    cases W2
    · have HF := Lib.hid (HBAD.out (by
        rw [← HB.out, Bool.eq_false_iff]
        intro h
        rcases (mayD_iff.1 h).2 with h5 | h5
        · rw [h5] at HXL; exact hn0 HXL.out.symm
        · rw [HYL.out, HW2.out] at h5; cases h5))
      clear hn0
      go_wp2
      (try simp only [Exit.inBlock, Exit.then])
      refine bodyPost_ret (v := .tuple #[.slice none 0 0, .bool false, .int .i64 0, .int .i64 1]) ?rr rfl ?_
      case rr =>
        simp only [results, Tryz.f69]
        go_simp
      exact ⟨none, 0, 0, by rw [HF.out.1, HF.out.2.2.1, HF.out.2.2.2], by rw [HF.out.2.1]; exact OwnI.nil _ _, hB1⟩
    · have hBt : mayD x.zs y.zs = true := mayD_iff.2 ⟨HW.out, .inr (by rw [HYL.out]; exact HW2.out)⟩
      have HBT := Lib.hid hBt
      have hxy : x.n ≤ y.n := by
        have h5 := ((mayB_iff _ _).1 HW2.out).2.2.1
        rw [HXL.out] at h5
        omega
      clear hBt hn0
      obtain ⟨w3, hw3⟩ : ∃ q, q = w2 := ⟨_, rfl⟩
      rw [← hw3] at hB1 ⊢
      clear hw3
      obtain ⟨_, _, _, hbz, _⟩ := mayD_len HBT.out
      have HBZ := Lib.hid hbz
      have hGB := gain_bound HBT.out
      have HTB : Hid (∀ k, 0 ≤ topN (gapD x.zs y.zs) k) := Lib.hid fun k => top_nonneg _ k
      have HTC : Hid (∀ k, k ≤ x.n → topN (gapD x.zs y.zs) k ≤ 1000000) := Lib.hid fun k hk => top_le (by omega) fun j hj => by
        have h5 := gap_le (b := x.zs) (p := y.zs) (k := j) (by rw [HXL.out]; omega)
        omega
      have H0 : Hid (E = 0) := Lib.hid (by rw [← HE.out]; exact (de_ok HBT.out).1)
      have H1 : Hid (IL = itemsTo x.zs y.zs x.n) := Lib.hid (by rw [← HIL.out, (de_ok HBT.out).2.1, itemsD, itemsN, itemsTo, HXL.out])
      have H2 : Hid (GA = topN (gapD x.zs y.zs) x.n) := Lib.hid (by rw [← HGA.out, (de_ok HBT.out).2.2.1, gainD, HXL.out])
      have H3 : Hid (NB = decide (topN (gapD x.zs y.zs) x.n = 0)) := Lib.hid (by rw [← HNB.out, (de_ok HBT.out).2.2.2, gainD, HXL.out])
      have H4 : Hid (gainD x.zs y.zs = topN (gapD x.zs y.zs) x.n) := Lib.hid (by rw [gainD, HXL.out])
      clear hbz hGB
      go_wp2_with fail
      clear gx gx2
      go_loopw [8, 9] (fun o v wr => ∃ k : Nat, k ≤ x.n ∧ v = .int .i64 k ∧ o = .int .i64 (topN (gapD x.zs y.zs) k) ∧ Below w.heap.size w wr) (fun _ v _ => x.n - (intOf v).toNat)
      case atStart => exact ⟨0, Nat.zero_le _, rfl, rfl, hB1⟩
      case round =>
        clear hB1
        obtain ⟨k, hk, rfl, rfl, hbel⟩ := hrel
        have hk0 : (0 : Int) ≤ k := by omega
        by_cases hkn : k < x.n
        · have hkn' : (k : Int) < x.n := by omega
          have hky : k < y.n := by omega
          have hky' : (k : Int) < y.n := by omega
          have hkl : k < x.zs.length := by rw [HXL.out]; exact hkn
          have hkl2 : k < y.zs.length := by rw [HYL.out]; exact hky
          obtain ⟨p1, q1, hA1, hp1, y0, hy0, hcy0⟩ := hx.rd.get hkn
          rw [ci64_get _ _ hkl] at hy0
          obtain rfl : iV x.zs[k] = y0 := Option.some.inj hy0
          obtain ⟨p2, q2, hA2, hp2, y3, hy3, hcz0⟩ := hy.rd.get hky
          rw [ci64_get _ _ hkl2] at hy3
          obtain rfl : iV y.zs[k] = y3 := Option.some.inj hy3
          unfold iV at hcy0 hcz0
          have hgap : gapD x.zs y.zs k = x.zs[k] - y.zs[k] := by
            rw [gapD, List.getD_eq_getElem?_getD, List.getElem?_eq_getElem hkl, List.getD_eq_getElem?_getD, List.getElem?_eq_getElem hkl2]; rfl
          have hb1 := HBZ.out _ (List.getElem_mem hkl)
          have hb2 := HPZ.out _ (List.getElem_mem hkl2)
          obtain ⟨z1, hz1'⟩ : ∃ z, x.zs[k] = z := ⟨_, rfl⟩
          obtain ⟨z2, hz2'⟩ : ∃ z, y.zs[k] = z := ⟨_, rfl⟩
          rw [hz1'] at hcy0 hb1 hgap
          rw [hz2'] at hcz0 hb2 hgap
          have hcy := (hbel.cell (p := ⟨p1, q1 + k, none⟩) hp1).trans hcy0
          have hcz := (hbel.cell (p := ⟨p2, q2 + k, none⟩) hp2).trans hcz0
          have s1 : IntKind.i64.wrap (z1 - z2) = z1 - z2 := by rw [IntKind.wrap_i64]; omega
          rw [hA1, hA2]
          have HA1 := Lib.hid hA1
          have HA2 := Lib.hid hA2
          clear hy0 hy3 hcy0 hcz0 hz1' hz2' hA1 hA2
          have hst : topN (gapD x.zs y.zs) (k + 1) = max (topN (gapD x.zs y.zs) k) (z1 - z2) := by
            show max (topN (gapD x.zs y.zs) k) (gapD x.zs y.zs k) = _
            rw [hgap]
          have HST := Lib.hid hst
          have htb := HTB.out k
          have htc := HTC.out k hk
          obtain ⟨tk, htk⟩ : ∃ q, topN (gapD x.zs y.zs) k = q := ⟨_, rfl⟩
          rw [htk] at HST htb htc ⊢
          have hbn := hbel.drew
          clear hst hgap htk
          go_wp2_with fail
          refine wp_region_ord (S := fun w' => w'.cell? ⟨p1, q1 + k, none⟩ = some (.int .i64 z1) ∧ w'.cell? ⟨p2, q2 + k, none⟩ = some (.int .i64 z2)) [(0, true), (1, true), (2, true), (3, true), (4, true), (5, true), (6, true), (7, true), (8, true), (9, true), (10, true), (11, true)] default (by kernel_rfl) (by kernel_rfl) (by kernel_rfl) ⟨hcy, hcz⟩ ?_
          simp only [getOrd, nth]
          repeat (first | (refine ordS (by rfl) ?_; simp only [Act.put, List.setIfInBounds_toArray, List.set_cons_zero, List.set_cons_succ]) | (refine ordN (by rfl) ?_; simp only [Act.put, List.setIfInBounds_toArray, List.set_cons_zero, List.set_cons_succ]) | (refine ordQ (v := ?_) (by rfl) (fun _ hSw => ?_) ?_; rotate_left; (focus ((have hS1 := hSw.1); (have hS2 := hSw.2); clear hSw; go_simp; (first | done | with_reducible rfl))); simp only [Act.put, List.setIfInBounds_toArray, List.set_cons_zero, List.set_cons_succ]))
          refine ordE ?_
          go_wp2
          go_roundw
          case rel => exact ⟨k + 1, by omega, by go_num, by rw [HST.out], hbn⟩
          case measure => simp [intOf]; omega
        · obtain rfl : k = x.n := by omega
          obtain ⟨ga, hga⟩ : ∃ q, topN (gapD x.zs y.zs) x.n = q := ⟨_, rfl⟩
          rw [hga] at H2 H3 H4 ⊢
          clear hga
          obtain ⟨wo, rfl⟩ : ∃ wo, wo = wr := ⟨_, rfl⟩
          have hBo := hbel
          have hwo := hbel.size
          clear hbel
          go_wp2_with fail
          go_loopw [10, 11] (fun o v wr => ∃ (k c : Nat) (A : Option Addr), k ≤ x.n ∧ v = .int .i64 k ∧ o = .slice A (itemsTo x.zs y.zs k).length c ∧ OwnI wr wo.heap.size ⟨A, (itemsTo x.zs y.zs k).length, c, itemsTo x.zs y.zs k⟩ ∧ Below w.heap.size w wr ∧ wo.heap.size ≤ wr.heap.size) (fun _ v _ => x.n - (intOf v).toNat)
          case atStart => exact ⟨0, 0, none, Nat.zero_le _, rfl, rfl, OwnI.nil _ _, hBo, Nat.le_refl _⟩
          case round =>
            obtain ⟨k, c, A, hk, rfl, rfl, hO, hbel, hsz⟩ := hrel
            have hk0 : (0 : Int) ≤ k := by omega
            by_cases hkn : k < x.n
            · have hkn' : (k : Int) < x.n := by omega
              have hky : k < y.n := by omega
              have hky' : (k : Int) < y.n := by omega
              have hkl : k < x.zs.length := by rw [HXL.out]; exact hkn
              have hkl2 : k < y.zs.length := by rw [HYL.out]; exact hky
              obtain ⟨p1, q1, hA1, hp1, y0, hy0, hcy0⟩ := hx.rd.get hkn
              rw [ci64_get _ _ hkl] at hy0
              obtain rfl : iV x.zs[k] = y0 := Option.some.inj hy0
              obtain ⟨p2, q2, hA2, hp2, y3, hy3, hcz0⟩ := hy.rd.get hky
              rw [ci64_get _ _ hkl2] at hy3
              obtain rfl : iV y.zs[k] = y3 := Option.some.inj hy3
              unfold iV at hcy0 hcz0
              have hgap : gapD x.zs y.zs k = x.zs[k] - y.zs[k] := by
                rw [gapD, List.getD_eq_getElem?_getD, List.getElem?_eq_getElem hkl, List.getD_eq_getElem?_getD, List.getElem?_eq_getElem hkl2]; rfl
              have hb1 := HBZ.out _ (List.getElem_mem hkl)
              have hb2 := HPZ.out _ (List.getElem_mem hkl2)
              obtain ⟨z1, hz1'⟩ : ∃ z, x.zs[k] = z := ⟨_, rfl⟩
              obtain ⟨z2, hz2'⟩ : ∃ z, y.zs[k] = z := ⟨_, rfl⟩
              rw [hz1'] at hcy0 hb1 hgap
              rw [hz2'] at hcz0 hb2 hgap
              have hcy := (hbel.cell (p := ⟨p1, q1 + k, none⟩) hp1).trans hcy0
              have hcz := (hbel.cell (p := ⟨p2, q2 + k, none⟩) hp2).trans hcz0
              have s1 : IntKind.i64.wrap (z1 - z2) = z1 - z2 := by rw [IntKind.wrap_i64]; omega
              rw [hA1, hA2]
              have HA1 := Lib.hid hA1
              have HA2 := Lib.hid hA2
              clear hy0 hy3 hcy0 hcz0 hz1' hz2' hA1 hA2
              have hsu := itemsTo_succ x.zs y.zs k
              have hil := itemsTo_len x.zs y.zs k
              rw [hgap, H4.out] at hsu
              have HSU := Lib.hid hsu
              obtain ⟨l, hl⟩ : ∃ l, itemsTo x.zs y.zs k = l := ⟨_, rfl⟩
              rw [hl] at HSU hO hil ⊢
              have hx8 : x.n ≤ 8 := by omega
              clear hsu hl hgap
              by_cases hq : z1 - z2 = ga
              · have gq : ((z1 - z2) == ga) = true := by rw [beq_iff_eq]; exact hq
                have HS2 : Hid (itemsTo x.zs y.zs (k + 1) = l ++ [(k : Int)]) := Lib.hid (by rw [HSU.out, if_pos hq])
                clear hq
                go_wp2_with fail
                refine wp_region_ord (S := fun w' => w'.cell? ⟨p1, q1 + k, none⟩ = some (.int .i64 z1) ∧ w'.cell? ⟨p2, q2 + k, none⟩ = some (.int .i64 z2)) [(0, true), (1, true), (2, true), (3, true), (4, true), (5, true), (6, true), (7, true), (8, true), (9, true), (10, true)] default (by kernel_rfl) (by kernel_rfl) (by kernel_rfl) ⟨hcy, hcz⟩ ?_
                simp only [getOrd, nth]
                repeat (first | (refine ordS (by rfl) ?_; simp only [Act.put, List.setIfInBounds_toArray, List.set_cons_zero, List.set_cons_succ]) | (refine ordN (by rfl) ?_; simp only [Act.put, List.setIfInBounds_toArray, List.set_cons_zero, List.set_cons_succ]) | (refine ordQ (v := ?_) (by rfl) (fun _ hSw => ?_) ?_; rotate_left; (focus ((have hS1 := hSw.1); (have hS2 := hSw.2); clear hSw; go_simp; (first | done | with_reducible rfl))); simp only [Act.put, List.setIfInBounds_toArray, List.set_cons_zero, List.set_cons_succ]))
                refine ordE ?_
                obtain ⟨wd, hwd⟩ : ∃ q, q = wr.drew := ⟨_, rfl⟩
                have hbd : Below w.heap.size w wd := by rw [hwd]; exact hbel.drew
                have hOd : OwnI wd wo.heap.size ⟨A, l.length, c, l⟩ := by rw [hwd]; exact ⟨hO.own.drew, hO.fit⟩
                have hszd : wo.heap.size ≤ wd.heap.size := by rw [hwd]; exact hsz
                rw [← hwd]
                clear hwd hcy hcz hbel hO
                go_wp2_with (at_builtin; go_must (refine wpList_app1 wd rfl _ _ 22 rfl 3 i0 _ 8 Tryz.underlying22 hi0 hz0 hz1 hz2 rfl wo.heap.size A l.length c _ rfl hOd.own 1 rfl rfl ?f1 ?f2 ?f3 ?_))
                case f1 => simp only [maxLen]; omega
                case f2 => omega
                try case f3 => exact hszd
                intro A6 c6 w6 hown6 hbel6 _ _
                have hO6 : OwnI w6 wo.heap.size ⟨A6, (itemsTo x.zs y.zs (k + 1)).length, c6, itemsTo x.zs y.zs (k + 1)⟩ := by
                  rw [HS2.out]
                  refine ⟨?_, fun q hq => ?_⟩
                  · show Own w6 wo.heap.size _ A6 (l ++ [(k : Int)]).length c6 (ci64 (l ++ [(k : Int)]))
                    rw [ci64_app, List.length_append, List.length_singleton]; exact hown6
                  · rcases List.mem_append.1 hq with hq | hq
                    · exact hOd.fit q hq
                    · rw [List.mem_singleton.1 hq]; omega
                have hb6 := hbd.trans (hbel6.mono hwo)
                have hs6 : wo.heap.size ≤ w6.heap.size := Nat.le_trans hszd hbel6.size
                have hlen6 : (itemsTo x.zs y.zs (k + 1)).length = l.length + 1 := by rw [HS2.out]; simp
                have HLN := Lib.hid hlen6
                clear hown6 hbel6 hOd hlen6
                go_wp2
                go_roundw
                case rel => exact ⟨k + 1, c6, A6, by omega, by go_num, by rw [HLN.out], hO6, hb6, hs6⟩
                case measure => simp [intOf]; omega
              · have gq : ((z1 - z2) == ga) = false := by rw [beq_eq_false_iff_ne]; exact hq
                have HS2 : Hid (itemsTo x.zs y.zs (k + 1) = l) := Lib.hid (by rw [HSU.out, if_neg hq, List.append_nil])
                clear hq
                have hbn := hbel.drew
                have hOd : OwnI wr.drew wo.heap.size ⟨A, l.length, c, l⟩ := ⟨hO.own.drew, hO.fit⟩
                have hszd : wo.heap.size ≤ wr.drew.heap.size := hsz
                go_wp2_with fail
                refine wp_region_ord (S := fun w' => w'.cell? ⟨p1, q1 + k, none⟩ = some (.int .i64 z1) ∧ w'.cell? ⟨p2, q2 + k, none⟩ = some (.int .i64 z2)) [(0, true), (1, true), (2, true), (3, true), (4, true), (5, true), (6, true), (7, true), (8, true), (9, true), (10, true)] default (by kernel_rfl) (by kernel_rfl) (by kernel_rfl) ⟨hcy, hcz⟩ ?_
                simp only [getOrd, nth]
                repeat (first | (refine ordS (by rfl) ?_; simp only [Act.put, List.setIfInBounds_toArray, List.set_cons_zero, List.set_cons_succ]) | (refine ordN (by rfl) ?_; simp only [Act.put, List.setIfInBounds_toArray, List.set_cons_zero, List.set_cons_succ]) | (refine ordQ (v := ?_) (by rfl) (fun _ hSw => ?_) ?_; rotate_left; (focus ((have hS1 := hSw.1); (have hS2 := hSw.2); clear hSw; go_simp; (first | done | with_reducible rfl))); simp only [Act.put, List.setIfInBounds_toArray, List.set_cons_zero, List.set_cons_succ]))
                refine ordE ?_
                clear hO hsz hbel hcy hcz
                go_wp2
                go_roundw
                case rel => exact ⟨k + 1, c, A, by omega, by go_num, by rw [HS2.out], by rw [HS2.out]; exact hOd, hbn, hszd⟩
                case measure => simp [intOf]; omega
            · obtain rfl : k = x.n := by omega
              have hres : OwnI wr w.heap.size ⟨A, (itemsTo x.zs y.zs x.n).length, c, IL⟩ := by
                rw [H1.out]; exact hO.mono hwo
              obtain ⟨β, hβ⟩ : ∃ β, (ga == 0) = β := ⟨_, rfl⟩
              have HNN : Hid (NB = β) := Lib.hid (by rw [H3.out, ← hβ, Bool.eq_iff_iff, beq_iff_eq, decide_eq_true_eq])
              obtain ⟨L, hL⟩ : ∃ l, (itemsTo x.zs y.zs x.n).length = l := ⟨_, rfl⟩
              rw [hL] at hres ⊢
              clear hO hL
              go_wp2
              (try simp only [Exit.inBlock, Exit.then])
              refine bodyPost_ret (v := .tuple #[.slice A L c, .bool β, .int .i64 ga, .int .i64 0]) ?rr rfl ?_
              case rr =>
                simp only [results, Tryz.f69]
                go_simp
              exact ⟨A, L, c, by rw [H0.out, H2.out, HNN.out], hres, hbel⟩
end Go.Proofs.YtdckoaljcklmhaaGreatDoor


namespace Go.Proofs.YtdckoaljcklmhaaGreatDoor
open Go.RowKit
set_option linter.unusedVariables false

theorem info12_ints : (Tryz.prog.info? 22).map (fun i => (i.zero, i.size, i.bytes)) = some (some (.slice none 0 0), 1, 24) := by kernel_rfl
theorem info12_bool : (Tryz.prog.info? 4).map (fun i => (i.zero, i.size, i.bytes)) = some (some (.bool false), 1, 1) := by kernel_rfl
set_option maxRecDepth 100000 in
set_option maxHeartbeats 1000000 in
theorem rallDC : AllDC 27 := by
  intro x y w hx hy
  obtain ⟨i1, hi1', hy0, hy1, hy2⟩ := info_parts info12_ints
  obtain ⟨i2, hi2', hu0, hu1, hu2⟩ := info_parts info12_bool
  have HYL := Lib.hid hy.len
  have HRL := Lib.hid hx.r.len
  have HBL := Lib.hid hx.len
  have ttop := Nat.le_trans hy.cap hy.top
  have rtop := Nat.le_trans hx.r.cap hx.r.top
  have btop := Nat.le_trans hx.cap hx.top
  unfold maxLen at ttop rtop btop
  obtain ⟨B, hB0⟩ : ∃ q, mayA x.r.zs (Ls.all x.b) x.o.zs y.zs = q := ⟨_, rfl⟩
  have HB := Lib.hid hB0
  have HBAD : Hid (B = false → allErr x y.zs = 1 ∧ allI x y.zs = [] ∧ allN x y.zs = []) := Lib.hid fun h => by simp [allErr, allI, allN, hB0, h]
  obtain ⟨E, hE⟩ : ∃ q, allErr x y.zs = q := ⟨_, rfl⟩
  obtain ⟨IL, hIL⟩ : ∃ q, allI x y.zs = q := ⟨_, rfl⟩
  obtain ⟨NL, hNL⟩ : ∃ q, allN x y.zs = q := ⟨_, rfl⟩
  rw [hE, hIL, hNL] at HBAD ⊢
  have HE := Lib.hid hE
  have HIL := Lib.hid hIL
  have HNL := Lib.hid hNL
  have hxv : x.v = .agg #[.slice x.r.A x.r.n x.r.c, .slice x.A x.n x.c, .slice x.o.A x.o.n x.o.c] := rfl
  have Vx := Lib.hid hxv
  have hyv : y.v = .slice y.A y.n y.c := rfl
  have Vy := Lib.hid hyv
  rw [hxv, hyv]
  clear hxv hyv hB0 hE hIL hNL
  go_enter Tryz.func27, Tryz.ntmps27
  have bx := InBox.new w x
  have hR0 : Own (w.alloc (.cells #[.slice x.r.A x.r.n x.r.c, .slice x.A x.n x.c, .slice x.o.A x.o.n x.o.c] 25)) w.heap.size 25 (some ⟨w.heap.size, 0, none⟩) 3 3 [.slice x.r.A x.r.n x.r.c, .slice x.A x.n x.c, .slice x.o.A x.o.n x.o.c] := Own.lit (B := w.heap.size) w 25 #[.slice x.r.A x.r.n x.r.c, .slice x.A x.n x.c, .slice x.o.A x.o.n x.o.c] 3 (Nat.le_refl _) rfl (by unfold maxLen; omega)
  have hbx : Below w.heap.size w (w.alloc (.cells #[.slice x.r.A x.r.n x.r.c, .slice x.A x.n x.c, .slice x.o.A x.o.n x.o.c] 25)) := (Below.refl _ w).alloc (Nat.le_refl _) _
  have ex0 := bx.c0
  have ex1 := bx.c1
  have ex2 := bx.c2
  obtain ⟨W, hW⟩ : ∃ q, x.may = q := ⟨_, rfl⟩
  have hc := rcheckC x (w.alloc (.cells #[.slice x.r.A x.r.n x.r.c, .slice x.A x.n x.c, .slice x.o.A x.o.n x.o.c] 25)) (hx.below hbx)
  rw [hW, Vx.out] at hc
  have HW := Lib.hid hW
  clear hW
  go_wp2_with fail
  clear ex0 ex1 ex2
  generalize w.alloc (.cells #[.slice x.r.A x.r.n x.r.c, .slice x.A x.n x.c, .slice x.o.A x.o.n x.o.c] 25) = W1 at *
  refine hc.mono ?_
  rintro e w1 ⟨rfl, hb1⟩
  clear hc
  have hB1 := hbx.trans (hb1.mono hbx.size)
  have bx1 := bx.below hb1
  have hR1 := hR0.below hb1
  clear hbx hb1 bx hR0
  have ex0 := bx1.c0
  have ex1 := bx1.c1
  cases W
  · have HF := Lib.hid (HBAD.out (by
      rw [← HB.out, mayA, show mayM x.r.zs (Ls.all x.b) x.o.zs = false from HW.out]; rfl))
    go_wp2
    go_ret3
    exact ⟨none, 0, 0, none, 0, 0, [], by rw [HF.out.1]; try rfl, Outs.none_ _ _, by rw [HF.out.2.1]; rfl, by rw [HF.out.2.2]; exact Own.none_ _ _ _ _, hB1⟩
  by_cases hyr : y.n = x.r.n
  rotate_left
  · have gn : ((y.n : Int) != (x.r.n : Int)) = true := by rw [bne_iff_ne]; omega
    have gn2 : (y.n != x.r.n) = true := by rw [bne_iff_ne]; exact hyr
    have HF := Lib.hid (HBAD.out (by
      rw [← HB.out, Bool.eq_false_iff]
      intro h
      have h5 := (mayA_iff.1 h).2.1
      rw [HYL.out, HRL.out] at h5
      exact hyr h5))
    clear hyr
    go_wp2
    go_ret3
    exact ⟨none, 0, 0, none, 0, 0, [], by rw [HF.out.1]; try rfl, Outs.none_ _ _, by rw [HF.out.2.1]; rfl, by rw [HF.out.2.2]; exact Own.none_ _ _ _ _, hB1⟩
  have gn : ((y.n : Int) != (x.r.n : Int)) = false := by rw [bne_eq_false_iff_eq]; omega
  have gn2 : (y.n != x.r.n) = false := by rw [bne_eq_false_iff_eq]; exact hyr
  have HYR := Lib.hid hyr
  clear hyr
  obtain ⟨W2, hW2⟩ : ∃ q, mayPr y.zs = q := ⟨_, rfl⟩
  have hc := rprices y w1 (hy.below hB1)
  rw [hW2] at hc
  have HW2 := Lib.hid hW2
  clear hW2
  go_wp2_with fail
  refine hc.mono ?_
  rintro e w2 ⟨rfl, hb2⟩
  clear hc ex0 ex1 gn gn2
  have hB2 := hB1.trans (hb2.mono hB1.size)
  have bx2 := bx1.below hb2
  have hR2 := hR1.below hb2
  clear hB1 hb2 bx1 hR1
  cases W2
  · have HF := Lib.hid (HBAD.out (by
      rw [← HB.out, Bool.eq_false_iff]
      intro h
      have h5 := (mayA_iff.1 h).2.2
      rw [HW2.out] at h5
      cases h5))
    go_wp2
    go_ret3
    exact ⟨none, 0, 0, none, 0, 0, [], by rw [HF.out.1]; try rfl, Outs.none_ _ _, by rw [HF.out.2.1]; rfl, by rw [HF.out.2.2]; exact Own.none_ _ _ _ _, hB2⟩
  have hmay : mayA x.r.zs (Ls.all x.b) x.o.zs y.zs = true := mayA_iff.2 ⟨HW.out, by rw [HYL.out, HRL.out]; exact HYR.out, HW2.out⟩
  have HMAY := Lib.hid hmay
  have hn8 : x.n ≤ 8 := (mk_len hx HW.out).2.2.2.1
  have HEACH : Hid (∀ l ∈ Ls.all x.b, mayD l y.zs = true) := Lib.hid (mayA_each hmay)
  have H0 : Hid (E = 0) := Lib.hid (by rw [← HE.out, allErr, if_pos hmay])
  have H1 : Hid (IL = ((Ls.all x.b).take x.n).map fun b => itemsD b y.zs) := Lib.hid (by rw [← HIL.out, allI, if_pos hmay, List.take_of_length_le (by rw [Ls.all, List.length_map, HBL.out]; exact Nat.le_refl _)])
  have H2 : Hid (NL = ((Ls.all x.b).take x.n).map fun b => decide (gainD b y.zs = 0)) := Lib.hid (by rw [← HNL.out, allN, if_pos hmay, List.take_of_length_le (by rw [Ls.all, List.length_map, HBL.out]; exact Nat.le_refl _)])
  clear hmay
  go_wp2_with fail
  go_loopw [7, 8, 9] (fun o q v wr => ∃ (i c c2 : Nat) (A A2 : Option Addr) (t : List Ls), i ≤ x.n ∧ v = .int .i64 i ∧ o = .slice A i c ∧ q = .slice A2 i c2 ∧ Outs wr w.heap.size A i c t ∧ Hid (Ls.all t = ((Ls.all x.b).take i).map fun b => itemsD b y.zs) ∧ Own wr w.heap.size 4 A2 i c2 ((((Ls.all x.b).take i).map fun b => decide (gainD b y.zs = 0)).map Value.bool) ∧ Below w.heap.size w wr ∧ Own wr w.heap.size 25 (some ⟨w.heap.size, 0, none⟩) 3 3 [.slice x.r.A x.r.n x.r.c, .slice x.A x.n x.c, .slice x.o.A x.o.n x.o.c]) (fun _ _ v _ => x.n - (intOf v).toNat)
  case atStart => exact ⟨0, 0, 0, none, none, [], Nat.zero_le _, rfl, rfl, rfl, Outs.none_ _ _, Lib.hid (by simp [Ls.all]), Own.none_ _ _ _ _, hB2, hR2⟩
  case round =>
    clear hB2 bx2 hR2
    obtain ⟨i, c, c2, A, A2, t, hi, rfl, rfl, rfl, hOt, hall, hOn, hB, hR⟩ := hrel
    have hi0 : (0 : Int) ≤ i := by omega
    have ex1 : wr.cell? ⟨w.heap.size, 1, none⟩ = some (.slice x.A x.n x.c) := hR.cell (j := 1) (by omega)
    have hsz := hB.size
    by_cases hin : i < x.n
    · have hin' : (i : Int) < x.n := by omega
      obtain ⟨p2, q2, u, hAx, hub, hbid, hp2, hcx0, hku0⟩ := hx.get hin
      have hcx := (hB.cell (p := ⟨p2, q2 + i, none⟩) hp2).trans hcx0
      replace hcx : wr.cell? ⟨p2, q2 + i, none⟩ = some (.slice u.A u.n u.c) := hcx
      have hku := hku0.below hB
      have hgi : (Ls.all x.b)[i]? = some u.zs := by rw [Ls.all, List.getElem?_map, hub]; rfl
      have hmd := HEACH.out u.zs (List.mem_of_getElem? hgi)
      have htk : (Ls.all x.b).take (i + 1) = (Ls.all x.b).take i ++ [u.zs] := by
        obtain ⟨hj, e⟩ := List.getElem?_eq_some_iff.1 hgi
        rw [List.take_succ_eq_append_getElem hj, e]
      have HTK := Lib.hid htk
      have hc := rofC u y wr hku (hy.below hB)
      rw [show u.v = .slice u.A u.n u.c from rfl, Vy.out, (de_ok hmd).1, (de_ok hmd).2.1, (de_ok hmd).2.2.1, (de_ok hmd).2.2.2] at hc
      have hilu : (itemsD u.zs y.zs).length ≤ 8 := Nat.le_trans itemsD_len (by
        have h5 := (mk_len hx HW.out).2.2.2.2.2.1 u (List.mem_of_getElem? hub)
        have h6 := (mk_len hx HW.out).1
        rw [hku.len]; omega)
      rw [hAx] at ex1
      have HAX := Lib.hid hAx
      obtain ⟨nb, hnb⟩ : ∃ q, decide (gainD u.zs y.zs = 0) = q := ⟨_, rfl⟩
      obtain ⟨il, hil⟩ : ∃ q, itemsD u.zs y.zs = q := ⟨_, rfl⟩
      rw [hnb, hil] at hc
      rw [hil] at hilu
      have HNBB := Lib.hid hnb
      have HILL := Lib.hid hil
      clear hcx0 hku0 hub hbid hgi hmd htk hku hnb hil hAx
      go_wp2_with fail
      refine hc.mono ?_
      rintro e w3 ⟨A3, n3, c3, rfl, h3, hb3⟩
      clear hc ex1 hcx
      obtain rfl : n3 = il.length := h3.len.symm
      have hOt3 := hOt.below hb3
      have hOn3 := hOn.below hb3
      have hB3 := hB.trans (hb3.mono hB.size)
      have hR3 := hR.below hb3
      have hsz3 := hb3.size
      have hszw : w.heap.size ≤ w3.heap.size := hB3.size
      have hsep : ∀ v ∈ t, ∀ g, Blk v g → g < wr.heap.size := fun v hv g hg => ((hOt.each v hv).blk hg).2
      clear hOt hOn hB hR hb3
      go_wp2_with (at_builtin; go_must (refine wpList_app1 w3 rfl _ _ 23 rfl 22 i1 _ 24 Tryz.underlying23 hi1' hy0 hy1 hy2 rfl w.heap.size A i c _ rfl hOt3.own 1 rfl rfl ?d1 ?d2 ?d3 ?_))
      case d1 => simp only [maxLen]; omega
      case d2 => omega
      try case d3 => exact hszw
      intro A5 c5 w5 hown5 hbel5 hfr5 _
      have hO5 : Outs w5 w.heap.size A5 (i + 1) c5 (t ++ [⟨A3, il.length, c3, il⟩]) := hOt3.snoc h3 hsz hsep hown5 (fun k hk h => hfr5 k hk h)
      have hOn5 := Own.other hOn3 hOt3.own (by decide) hfr5
      have hB5 := hB3.trans hbel5
      have hR5 := Own.other hR3 hOt3.own (by decide) hfr5
      have hsz5 : w.heap.size ≤ w5.heap.size := hB5.size
      have HA5 : Hid (Ls.all (t ++ [⟨A3, il.length, c3, il⟩]) = ((Ls.all x.b).take (i + 1)).map fun b => itemsD b y.zs) := Lib.hid (by
        rw [HTK.out, List.map_append, ← hall.out]; simp [Ls.all, HILL.out])
      clear hown5 hbel5 hfr5 hOt3 hOn3 h3 hall hB3 hR3 hsep
      go_wp2_with (at_builtin; go_must (refine wpList_app1 w5 rfl _ _ 59 rfl 4 i2 _ 1 Tryz.underlying59 hi2' hu0 hu1 hu2 rfl w.heap.size A2 i c2 _ rfl hOn5 1 rfl rfl ?f1 ?f2 ?f3 ?_))
      case f1 => simp only [maxLen]; omega
      case f2 => omega
      try case f3 => exact hsz5
      intro A7 c7 w7 hown7 hbel7 hfr7 _
      have hN7 : Own w7 w.heap.size 4 A7 (i + 1) c7 ((((Ls.all x.b).take (i + 1)).map fun b => decide (gainD b y.zs = 0)).map Value.bool) := by
        have e7 : ((((Ls.all x.b).take (i + 1)).map fun b => decide (gainD b y.zs = 0)).map Value.bool) = ((Ls.all x.b).map (Value.bool ∘ fun b => decide (gainD b y.zs = 0))).take i ++ [.bool nb] := by
          rw [HTK.out, ← HNBB.out]; simp [List.map_take]
        rw [e7]
        exact hown7
      have hO7 : Outs w7 w.heap.size A5 (i + 1) c5 (t ++ [⟨A3, il.length, c3, il⟩]) :=
        ⟨Own.other hO5.own hOn5 (by decide) hfr7,
          fun v hv => ⟨Own.other (hO5.each v hv).own hOn5 (by decide) hfr7, (hO5.each v hv).fit⟩, hO5.apt⟩
      have hB7 := hB5.trans hbel7
      have hR7 := Own.other hR5 hOn5 (by decide) hfr7
      clear hown7 hbel7 hfr7 hO5 hOn5 hB5 hR5
      go_wp2
      go_roundw
      case rel => exact ⟨i + 1, c5, c7, A5, A7, _, by omega, by go_num, rfl, rfl, hO7, HA5, hN7, hB7, hR7⟩
      case measure => simp [intOf]; omega
    · obtain rfl : i = x.n := by omega
      have hr1 : Hid (Ls.all t = IL) := Lib.hid (by rw [H1.out]; exact hall.out)
      have hr2 : Own wr w.heap.size 4 A2 x.n c2 (NL.map Value.bool) := by rw [H2.out]; exact hOn
      clear hall hOn
      go_wp2
      go_ret3
      exact ⟨A, x.n, c, A2, x.n, c2, t, by rw [H0.out]; try rfl, hOt, hr1.out, hr2, hB⟩
end Go.Proofs.YtdckoaljcklmhaaGreatDoor

