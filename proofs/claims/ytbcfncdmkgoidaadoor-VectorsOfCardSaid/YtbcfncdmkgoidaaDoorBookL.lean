/-
  Walks of the Book: lookByte and lookInt: each list, and the longer one, holds its marks.
-/
import Derived.Test.YtbcfncdmkgoidaaDoorProg
import Derived.Test.YtbcfncdmkgoidaaDoorBookG
import Derived.BigQuiet
import Derived.Deep.QuietTactic
import Derived.Deep.DeepMust
namespace Go.Proofs.YtbcfncdmkgoidaaDoor
open Go.RowKit
set_option linter.unusedVariables false

set_option maxRecDepth 100000 in
set_option maxHeartbeats 2000000 in
theorem lookByte_any (kb N : Nat) (vb vi : Value) (hb hi : List Hl) (w : World) (hk : Bk 43 62 60 w kb N vb vi hb hi)
    (hall : ∀ h ∈ hb, h.ln = h.n + 40 ∧ h.k < 1000 ∧ h.n ≤ 1000000000 ∧ Rd w h.A h.n (List.replicate h.n (mkB h.k)) ∧ Rd w h.L (h.n + 40) (List.replicate (h.n + 40) (mkB h.k))) (hl : hb.length ≤ 900) :
    Calls Tryd.prog 45 #[.pointer (some ⟨kb, 0, none⟩)] w fun e w' => e = .returned (.bool true) ∧ Below w.heap.size w w' := by
  have hkbl := hk.lt
  obtain ⟨A0, c0, hv0, hl0, hl1⟩ := row_slice hk.tb
  subst hv0
  unfold maxLen at hl1
  go_enter Tryd.func45, Tryd.ntmps45
  go_wp2_with fail
  go_loopw [3] (fun i wr => ∃ j : Nat, j ≤ hb.length ∧ i = .int .i64 j ∧ Below w.heap.size w wr) (fun i _ => hb.length - (intOf i).toNat)
  case atStart => exact ⟨0, Nat.zero_le _, rfl, Below.refl _ _⟩
  case round =>
    obtain ⟨j, hj, rfl, hbel⟩ := hrel
    obtain ⟨wo, rfl⟩ : ∃ wo, wo = wr := ⟨_, rfl⟩
    have hkr := hk.below hbel
    have hcv : wo.cell? ⟨kb, 1, none⟩ = some (.slice A0 hb.length c0) := hkr.cell 1
    have hkrl := hkr.lt
    by_cases hlt2 : j < hb.length
    · obtain ⟨gt, ct, hv, hgt1, hgt2, _, _⟩ := row_form hkr.tb (by omega)
      cases hv
      have t0 := row_cell hkr.tb j 0 hlt2 (by omega)
      have t1 := row_cell hkr.tb j 1 hlt2 (by omega)
      have t2 := row_cell hkr.tb j 2 hlt2 (by omega)
      have hmem : hb[j] ∈ hb := List.getElem_mem _
      obtain ⟨p1, hkk, hnn, p2, p3⟩ := hall _ hmem
      clear hmem
      generalize hb[j] = x at t0 t1 t2 p1 hkk hnn p2 p3
      obtain ⟨xA, xn, xc, xL, xln, xlc, xk⟩ := x
      simp only [Hl.cells, List.getElem?_cons_zero, List.getElem?_cons_succ, Nat.add_zero] at t0 t1 t2 p1 hkk hnn p2 p3
      subst p1
      have p2 := (p2.below hbel).alloc (.cells #[.slice xA xn xc, .slice xL (xn + 40) xlc, .int .i64 xk] 62)
      have p3 := (p3.below hbel).alloc (.cells #[.slice xA xn xc, .slice xL (xn + 40) xlc, .int .i64 xk] 62)
      clear hall
      go_wp2_with fail
      have hx2 : Bx (wo.alloc (.cells #[.slice xA xn xc, .slice xL (xn + 40) xlc, .int .i64 xk] 62)) wo.heap.size [.slice xA xn xc, .slice xL (xn + 40) xlc, .int .i64 xk] := Bx.new wo _ _ _
      have hb2 : Below w.heap.size w (wo.alloc (.cells #[.slice xA xn xc, .slice xL (xn + 40) xlc, .int .i64 xk] 62)) := hbel.alloc hbel.size _
      generalize wo.alloc (.cells #[.slice xA xn xc, .slice xL (xn + 40) xlc, .int .i64 xk] 62) = w2 at *
      go_loopw [5] (fun i wr => ∃ q : Nat, q ≤ xn + 40 ∧ i = .int .i64 q ∧ Below w2.heap.size w2 wr) (fun i _ => xn + 40 - (intOf i).toNat)
      case atStart => exact ⟨0, Nat.zero_le _, rfl, Below.refl _ _⟩
      case round =>
        obtain ⟨q, hq, rfl, hbq⟩ := hrel
        have hx3 := hx2.below hbq
        have l0 := hx3.at0
        have l1 := hx3.at1
        have l2 := hx3.at2
        have p4 := p2.below hbq
        have p5 := p3.below hbq
        by_cases hql : q < xn + 40
        · obtain ⟨bL, oL, rfl, hbL, u0, hu0, hcL⟩ := p5.get hql
          rw [List.getElem?_replicate, if_pos hql] at hu0
          cases hu0
          have hB3 : Below w2.heap.size w2 wr.drew := hbq.drew
          by_cases hqn : q < xn
          · obtain ⟨bA, oA, rfl, hbA, u1, hu1, hcA⟩ := p4.get hqn
            rw [List.getElem?_replicate, if_pos hqn] at hu1
            cases hu1
            have hd1 : decide (q < xn) = true := by simpa using hqn
            have hd2 : decide ((q : Int) < (xn : Int)) = true := by simp; omega
            go_wp2_with fail
            refine wp_region_ord (S := fun w' => w'.cell? ⟨wo.heap.size, 0, none⟩ = some (.slice (some ⟨bA, oA, none⟩) xn xc) ∧ w'.cell? ⟨wo.heap.size, 1, none⟩ = some (.slice (some ⟨bL, oL, none⟩) (xn + 40) xlc) ∧ w'.cell? ⟨wo.heap.size, 2, none⟩ = some (.int .i64 xk) ∧ w'.cell? ⟨bL, oL + q, none⟩ = some (mkB xk) ∧ w'.cell? ⟨bA, oA + q, none⟩ = some (mkB xk))
              [(0, true), (1, true), (2, true), (3, true), (4, true), (5, true), (6, true), (7, false), (8, true), (9, true), (10, true), (11, true), (12, true), (13, true), (14, true), (15, true), (16, true), (17, true), (18, true), (19, true), (20, true), (21, true), (22, true), (23, false), (24, true), (25, true), (26, true)] default (by kernel_rfl) (by kernel_rfl) (by kernel_rfl) ⟨l0, l1, l2, hcL, hcA⟩ ?_
            simp only [getOrd, nth]
            repeat (first | (refine ordS (by rfl) ?_; simp only [Act.put, List.setIfInBounds_toArray, List.set_cons_zero, List.set_cons_succ]) | (refine ordN (by rfl) ?_; simp only [Act.put, List.setIfInBounds_toArray, List.set_cons_zero, List.set_cons_succ]) | (refine ordQ (v := ?_) (by rfl) (fun _ hSw => ?_) ?_; rotate_left; (focus ((have hS1 := hSw.1); (have hS2 := hSw.2.1); (have hS3 := hSw.2.2.1); (have hS4 := hSw.2.2.2.1); (have hS5 := hSw.2.2.2.2); clear hSw; go_simp; (first | done | with_reducible rfl))); simp only [Act.put, List.setIfInBounds_toArray, List.set_cons_zero, List.set_cons_succ]))
            refine ordD (by rfl) ?_
            intro K hK
            go_simp
            refine (isByte_any xk hkk _).mono ?_
            rintro e wm ⟨rfl, rfl⟩
            go_wp2_with fail
            refine hK _ _ ⟨l0, l1, l2, hcL, hcA⟩ ?_
            clear hK K
            try simp only [Act.put, List.setIfInBounds_toArray, List.set_cons_zero, List.set_cons_succ]
            repeat (first | (refine ordS (by rfl) ?_; simp only [Act.put, List.setIfInBounds_toArray, List.set_cons_zero, List.set_cons_succ]) | (refine ordN (by rfl) ?_; simp only [Act.put, List.setIfInBounds_toArray, List.set_cons_zero, List.set_cons_succ]) | (refine ordQ (v := ?_) (by rfl) (fun _ hSw => ?_) ?_; rotate_left; (focus ((have hS1 := hSw.1); (have hS2 := hSw.2.1); (have hS3 := hSw.2.2.1); (have hS4 := hSw.2.2.2.1); (have hS5 := hSw.2.2.2.2); clear hSw; go_simp; (first | done | with_reducible rfl))); simp only [Act.put, List.setIfInBounds_toArray, List.set_cons_zero, List.set_cons_succ]))
            refine ordD (by rfl) ?_
            intro K hK
            go_simp
            refine (isByte_any xk hkk _).mono ?_
            rintro e wm ⟨rfl, rfl⟩
            go_wp2_with fail
            refine hK _ _ ⟨l0, l1, l2, hcL, hcA⟩ ?_
            clear hK K
            try simp only [Act.put, List.setIfInBounds_toArray, List.set_cons_zero, List.set_cons_succ]
            repeat (first | (refine ordS (by rfl) ?_; simp only [Act.put, List.setIfInBounds_toArray, List.set_cons_zero, List.set_cons_succ]) | (refine ordN (by rfl) ?_; simp only [Act.put, List.setIfInBounds_toArray, List.set_cons_zero, List.set_cons_succ]) | (refine ordQ (v := ?_) (by rfl) (fun _ hSw => ?_) ?_; rotate_left; (focus ((have hS1 := hSw.1); (have hS2 := hSw.2.1); (have hS3 := hSw.2.2.1); (have hS4 := hSw.2.2.2.1); (have hS5 := hSw.2.2.2.2); clear hSw; go_simp; (first | done | with_reducible rfl))); simp only [Act.put, List.setIfInBounds_toArray, List.set_cons_zero, List.set_cons_succ]))
            refine ordE ?_
            go_wp2
            go_roundw
            case rel => exact ⟨q + 1, by omega, by go_num, hB3⟩
            case measure => simp [intOf]; omega
          · have hd1 : decide (q < xn) = false := by simpa using hqn
            have hd2 : decide ((q : Int) < (xn : Int)) = false := by simp; omega
            go_wp2_with fail
            refine wp_region_ord (S := fun w' => w'.cell? ⟨wo.heap.size, 0, none⟩ = some (.slice xA xn xc) ∧ w'.cell? ⟨wo.heap.size, 1, none⟩ = some (.slice (some ⟨bL, oL, none⟩) (xn + 40) xlc) ∧ w'.cell? ⟨wo.heap.size, 2, none⟩ = some (.int .i64 xk) ∧ w'.cell? ⟨bL, oL + q, none⟩ = some (mkB xk))
              [(0, true), (1, true), (2, true), (3, true), (4, true), (5, true), (6, true), (7, false), (8, true), (9, true), (10, true), (11, true), (12, true), (13, true), (14, true), (15, true), (16, true), (17, true), (18, true), (19, true), (20, true), (21, true), (22, true), (23, false), (24, true), (25, true), (26, true)] default (by kernel_rfl) (by kernel_rfl) (by kernel_rfl) ⟨l0, l1, l2, hcL⟩ ?_
            simp only [getOrd, nth]
            repeat (first | (refine ordS (by rfl) ?_; simp only [Act.put, List.setIfInBounds_toArray, List.set_cons_zero, List.set_cons_succ]) | (refine ordN (by rfl) ?_; simp only [Act.put, List.setIfInBounds_toArray, List.set_cons_zero, List.set_cons_succ]) | (refine ordQ (v := ?_) (by rfl) (fun _ hSw => ?_) ?_; rotate_left; (focus ((have hS1 := hSw.1); (have hS2 := hSw.2.1); (have hS3 := hSw.2.2.1); (have hS4 := hSw.2.2.2); clear hSw; go_simp; (first | done | with_reducible rfl))); simp only [Act.put, List.setIfInBounds_toArray, List.set_cons_zero, List.set_cons_succ]))
            refine ordD (by rfl) ?_
            intro K hK
            go_simp
            refine (isByte_any xk hkk _).mono ?_
            rintro e wm ⟨rfl, rfl⟩
            go_wp2_with fail
            refine hK _ _ ⟨l0, l1, l2, hcL⟩ ?_
            clear hK K
            try simp only [Act.put, List.setIfInBounds_toArray, List.set_cons_zero, List.set_cons_succ]
            repeat (first | (refine ordS (by rfl) ?_; simp only [Act.put, List.setIfInBounds_toArray, List.set_cons_zero, List.set_cons_succ]) | (refine ordN (by rfl) ?_; simp only [Act.put, List.setIfInBounds_toArray, List.set_cons_zero, List.set_cons_succ]) | (refine ordQ (v := ?_) (by rfl) (fun _ hSw => ?_) ?_; rotate_left; (focus ((have hS1 := hSw.1); (have hS2 := hSw.2.1); (have hS3 := hSw.2.2.1); (have hS4 := hSw.2.2.2); clear hSw; go_simp; (first | done | with_reducible rfl))); simp only [Act.put, List.setIfInBounds_toArray, List.set_cons_zero, List.set_cons_succ]))
            refine ordE ?_
            go_wp2
            go_roundw
            case rel => exact ⟨q + 1, by omega, by go_num, hB3⟩
            case measure => simp [intOf]; omega
        · obtain rfl : q = xn + 40 := by omega
          have hB3 : Below w.heap.size w wr := hb2.trans (hbq.mono hb2.size)
          go_wp2
          go_roundw
          case rel => exact ⟨j + 1, by omega, by go_num, hB3⟩
          case measure => simp [intOf]; omega
    · obtain rfl : j = hb.length := by omega
      go_wp2
      go_ret
      exact ⟨rfl, hbel⟩

set_option maxRecDepth 100000 in
set_option maxHeartbeats 2000000 in
theorem lookInt_any (kb N : Nat) (vb vi : Value) (hb hi : List Hl) (w : World) (hk : Bk 43 62 60 w kb N vb vi hb hi)
    (hall : ∀ h ∈ hi, h.ln = h.n + 40 ∧ h.k < 1000 ∧ h.n ≤ 1000000000 ∧ Rd w h.A h.n (List.replicate h.n (mkI h.k)) ∧ Rd w h.L (h.n + 40) (List.replicate (h.n + 40) (mkI h.k))) (hl : hi.length ≤ 900) :
    Calls Tryd.prog 46 #[.pointer (some ⟨kb, 0, none⟩)] w fun e w' => e = .returned (.bool true) ∧ Below w.heap.size w w' := by
  have hkbl := hk.lt
  obtain ⟨A0, c0, hv0, hl0, hl1⟩ := row_slice hk.ti
  subst hv0
  unfold maxLen at hl1
  go_enter Tryd.func46, Tryd.ntmps46
  go_wp2_with fail
  go_loopw [3] (fun i wr => ∃ j : Nat, j ≤ hi.length ∧ i = .int .i64 j ∧ Below w.heap.size w wr) (fun i _ => hi.length - (intOf i).toNat)
  case atStart => exact ⟨0, Nat.zero_le _, rfl, Below.refl _ _⟩
  case round =>
    obtain ⟨j, hj, rfl, hbel⟩ := hrel
    obtain ⟨wo, rfl⟩ : ∃ wo, wo = wr := ⟨_, rfl⟩
    have hkr := hk.below hbel
    have hcv : wo.cell? ⟨kb, 2, none⟩ = some (.slice A0 hi.length c0) := hkr.cell 2
    have hkrl := hkr.lt
    by_cases hlt2 : j < hi.length
    · obtain ⟨gt, ct, hv, hgt1, hgt2, _, _⟩ := row_form hkr.ti (by omega)
      cases hv
      have t0 := row_cell hkr.ti j 0 hlt2 (by omega)
      have t1 := row_cell hkr.ti j 1 hlt2 (by omega)
      have t2 := row_cell hkr.ti j 2 hlt2 (by omega)
      have hmem : hi[j] ∈ hi := List.getElem_mem _
      obtain ⟨p1, hkk, hnn, p2, p3⟩ := hall _ hmem
      clear hmem
      generalize hi[j] = x at t0 t1 t2 p1 hkk hnn p2 p3
      obtain ⟨xA, xn, xc, xL, xln, xlc, xk⟩ := x
      simp only [Hl.cells, List.getElem?_cons_zero, List.getElem?_cons_succ, Nat.add_zero] at t0 t1 t2 p1 hkk hnn p2 p3
      subst p1
      have p2 := (p2.below hbel).alloc (.cells #[.slice xA xn xc, .slice xL (xn + 40) xlc, .int .i64 xk] 60)
      have p3 := (p3.below hbel).alloc (.cells #[.slice xA xn xc, .slice xL (xn + 40) xlc, .int .i64 xk] 60)
      clear hall
      go_wp2_with fail
      have hx2 : Bx (wo.alloc (.cells #[.slice xA xn xc, .slice xL (xn + 40) xlc, .int .i64 xk] 60)) wo.heap.size [.slice xA xn xc, .slice xL (xn + 40) xlc, .int .i64 xk] := Bx.new wo _ _ _
      have hb2 : Below w.heap.size w (wo.alloc (.cells #[.slice xA xn xc, .slice xL (xn + 40) xlc, .int .i64 xk] 60)) := hbel.alloc hbel.size _
      generalize wo.alloc (.cells #[.slice xA xn xc, .slice xL (xn + 40) xlc, .int .i64 xk] 60) = w2 at *
      go_loopw [5] (fun i wr => ∃ q : Nat, q ≤ xn + 40 ∧ i = .int .i64 q ∧ Below w2.heap.size w2 wr) (fun i _ => xn + 40 - (intOf i).toNat)
      case atStart => exact ⟨0, Nat.zero_le _, rfl, Below.refl _ _⟩
      case round =>
        obtain ⟨q, hq, rfl, hbq⟩ := hrel
        have hx3 := hx2.below hbq
        have l0 := hx3.at0
        have l1 := hx3.at1
        have l2 := hx3.at2
        have p4 := p2.below hbq
        have p5 := p3.below hbq
        by_cases hql : q < xn + 40
        · obtain ⟨bL, oL, rfl, hbL, u0, hu0, hcL⟩ := p5.get hql
          rw [List.getElem?_replicate, if_pos hql] at hu0
          cases hu0
          have hB3 : Below w2.heap.size w2 wr.drew := hbq.drew
          by_cases hqn : q < xn
          · obtain ⟨bA, oA, rfl, hbA, u1, hu1, hcA⟩ := p4.get hqn
            rw [List.getElem?_replicate, if_pos hqn] at hu1
            cases hu1
            have hd1 : decide (q < xn) = true := by simpa using hqn
            have hd2 : decide ((q : Int) < (xn : Int)) = true := by simp; omega
            go_wp2_with fail
            refine wp_region_ord (S := fun w' => w'.cell? ⟨wo.heap.size, 0, none⟩ = some (.slice (some ⟨bA, oA, none⟩) xn xc) ∧ w'.cell? ⟨wo.heap.size, 1, none⟩ = some (.slice (some ⟨bL, oL, none⟩) (xn + 40) xlc) ∧ w'.cell? ⟨wo.heap.size, 2, none⟩ = some (.int .i64 xk) ∧ w'.cell? ⟨bL, oL + q, none⟩ = some (mkI xk) ∧ w'.cell? ⟨bA, oA + q, none⟩ = some (mkI xk))
              [(0, true), (1, true), (2, true), (3, true), (4, true), (5, true), (6, true), (7, false), (8, true), (9, true), (10, true), (11, true), (12, true), (13, true), (14, true), (15, true), (16, true), (17, true), (18, true), (19, true), (20, true), (21, true), (22, true), (23, false), (24, true), (25, true), (26, true)] default (by kernel_rfl) (by kernel_rfl) (by kernel_rfl) ⟨l0, l1, l2, hcL, hcA⟩ ?_
            simp only [getOrd, nth]
            repeat (first | (refine ordS (by rfl) ?_; simp only [Act.put, List.setIfInBounds_toArray, List.set_cons_zero, List.set_cons_succ]) | (refine ordN (by rfl) ?_; simp only [Act.put, List.setIfInBounds_toArray, List.set_cons_zero, List.set_cons_succ]) | (refine ordQ (v := ?_) (by rfl) (fun _ hSw => ?_) ?_; rotate_left; (focus ((have hS1 := hSw.1); (have hS2 := hSw.2.1); (have hS3 := hSw.2.2.1); (have hS4 := hSw.2.2.2.1); (have hS5 := hSw.2.2.2.2); clear hSw; go_simp; (first | done | with_reducible rfl))); simp only [Act.put, List.setIfInBounds_toArray, List.set_cons_zero, List.set_cons_succ]))
            refine ordD (by rfl) ?_
            intro K hK
            go_simp
            refine (isInt_any xk hkk _).mono ?_
            rintro e wm ⟨rfl, rfl⟩
            go_wp2_with fail
            refine hK _ _ ⟨l0, l1, l2, hcL, hcA⟩ ?_
            clear hK K
            try simp only [Act.put, List.setIfInBounds_toArray, List.set_cons_zero, List.set_cons_succ]
            repeat (first | (refine ordS (by rfl) ?_; simp only [Act.put, List.setIfInBounds_toArray, List.set_cons_zero, List.set_cons_succ]) | (refine ordN (by rfl) ?_; simp only [Act.put, List.setIfInBounds_toArray, List.set_cons_zero, List.set_cons_succ]) | (refine ordQ (v := ?_) (by rfl) (fun _ hSw => ?_) ?_; rotate_left; (focus ((have hS1 := hSw.1); (have hS2 := hSw.2.1); (have hS3 := hSw.2.2.1); (have hS4 := hSw.2.2.2.1); (have hS5 := hSw.2.2.2.2); clear hSw; go_simp; (first | done | with_reducible rfl))); simp only [Act.put, List.setIfInBounds_toArray, List.set_cons_zero, List.set_cons_succ]))
            refine ordD (by rfl) ?_
            intro K hK
            go_simp
            refine (isInt_any xk hkk _).mono ?_
            rintro e wm ⟨rfl, rfl⟩
            go_wp2_with fail
            refine hK _ _ ⟨l0, l1, l2, hcL, hcA⟩ ?_
            clear hK K
            try simp only [Act.put, List.setIfInBounds_toArray, List.set_cons_zero, List.set_cons_succ]
            repeat (first | (refine ordS (by rfl) ?_; simp only [Act.put, List.setIfInBounds_toArray, List.set_cons_zero, List.set_cons_succ]) | (refine ordN (by rfl) ?_; simp only [Act.put, List.setIfInBounds_toArray, List.set_cons_zero, List.set_cons_succ]) | (refine ordQ (v := ?_) (by rfl) (fun _ hSw => ?_) ?_; rotate_left; (focus ((have hS1 := hSw.1); (have hS2 := hSw.2.1); (have hS3 := hSw.2.2.1); (have hS4 := hSw.2.2.2.1); (have hS5 := hSw.2.2.2.2); clear hSw; go_simp; (first | done | with_reducible rfl))); simp only [Act.put, List.setIfInBounds_toArray, List.set_cons_zero, List.set_cons_succ]))
            refine ordE ?_
            go_wp2
            go_roundw
            case rel => exact ⟨q + 1, by omega, by go_num, hB3⟩
            case measure => simp [intOf]; omega
          · have hd1 : decide (q < xn) = false := by simpa using hqn
            have hd2 : decide ((q : Int) < (xn : Int)) = false := by simp; omega
            go_wp2_with fail
            refine wp_region_ord (S := fun w' => w'.cell? ⟨wo.heap.size, 0, none⟩ = some (.slice xA xn xc) ∧ w'.cell? ⟨wo.heap.size, 1, none⟩ = some (.slice (some ⟨bL, oL, none⟩) (xn + 40) xlc) ∧ w'.cell? ⟨wo.heap.size, 2, none⟩ = some (.int .i64 xk) ∧ w'.cell? ⟨bL, oL + q, none⟩ = some (mkI xk))
              [(0, true), (1, true), (2, true), (3, true), (4, true), (5, true), (6, true), (7, false), (8, true), (9, true), (10, true), (11, true), (12, true), (13, true), (14, true), (15, true), (16, true), (17, true), (18, true), (19, true), (20, true), (21, true), (22, true), (23, false), (24, true), (25, true), (26, true)] default (by kernel_rfl) (by kernel_rfl) (by kernel_rfl) ⟨l0, l1, l2, hcL⟩ ?_
            simp only [getOrd, nth]
            repeat (first | (refine ordS (by rfl) ?_; simp only [Act.put, List.setIfInBounds_toArray, List.set_cons_zero, List.set_cons_succ]) | (refine ordN (by rfl) ?_; simp only [Act.put, List.setIfInBounds_toArray, List.set_cons_zero, List.set_cons_succ]) | (refine ordQ (v := ?_) (by rfl) (fun _ hSw => ?_) ?_; rotate_left; (focus ((have hS1 := hSw.1); (have hS2 := hSw.2.1); (have hS3 := hSw.2.2.1); (have hS4 := hSw.2.2.2); clear hSw; go_simp; (first | done | with_reducible rfl))); simp only [Act.put, List.setIfInBounds_toArray, List.set_cons_zero, List.set_cons_succ]))
            refine ordD (by rfl) ?_
            intro K hK
            go_simp
            refine (isInt_any xk hkk _).mono ?_
            rintro e wm ⟨rfl, rfl⟩
            go_wp2_with fail
            refine hK _ _ ⟨l0, l1, l2, hcL⟩ ?_
            clear hK K
            try simp only [Act.put, List.setIfInBounds_toArray, List.set_cons_zero, List.set_cons_succ]
            repeat (first | (refine ordS (by rfl) ?_; simp only [Act.put, List.setIfInBounds_toArray, List.set_cons_zero, List.set_cons_succ]) | (refine ordN (by rfl) ?_; simp only [Act.put, List.setIfInBounds_toArray, List.set_cons_zero, List.set_cons_succ]) | (refine ordQ (v := ?_) (by rfl) (fun _ hSw => ?_) ?_; rotate_left; (focus ((have hS1 := hSw.1); (have hS2 := hSw.2.1); (have hS3 := hSw.2.2.1); (have hS4 := hSw.2.2.2); clear hSw; go_simp; (first | done | with_reducible rfl))); simp only [Act.put, List.setIfInBounds_toArray, List.set_cons_zero, List.set_cons_succ]))
            refine ordE ?_
            go_wp2
            go_roundw
            case rel => exact ⟨q + 1, by omega, by go_num, hB3⟩
            case measure => simp [intOf]; omega
        · obtain rfl : q = xn + 40 := by omega
          have hB3 : Below w.heap.size w wr := hb2.trans (hbq.mono hb2.size)
          go_wp2
          go_roundw
          case rel => exact ⟨j + 1, by omega, by go_num, hB3⟩
          case measure => simp [intOf]; omega
    · obtain rfl : j = hi.length := by omega
      go_wp2
      go_ret
      exact ⟨rfl, hbel⟩

end Go.Proofs.YtbcfncdmkgoidaaDoor
