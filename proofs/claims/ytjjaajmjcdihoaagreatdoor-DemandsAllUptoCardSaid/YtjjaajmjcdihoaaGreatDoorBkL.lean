/-
  Walks of the Book with nine tables: each list, and the longer one, holds its marks.
-/
import Derived.Test.YtjjaajmjcdihoaaGreatDoorProg
import Derived.Test.YtjjaajmjcdihoaaGreatDoorBkG
import Derived.BigQuiet
import Derived.Deep.QuietTactic
import Derived.Deep.DeepMust
namespace Go.Proofs.YtjjaajmjcdihoaaGreatDoor
open Go.RowKit
set_option linter.unusedVariables false

set_option maxRecDepth 100000 in
set_option maxHeartbeats 2000000 in
theorem look9Byte (kb N B s : Nat) (T : Nat → Value) (H : Nat → List Hl) (w : World) (hk : Bkn 46 tHs w kb N T H)
    (hall : Looked mksB 5 w B s (H 1)) (hks : ∀ h ∈ H 1, h.k < 1000000000 ∧ h.n ≤ 1000000000) (hl : (H 1).length ≤ 1000000) :
    Calls Tryz.prog 47 #[.pointer (some ⟨kb, 0, none⟩)] w fun e w' => e = .returned (.bool true) ∧ Below w.heap.size w w' := by
  have hkbl := hk.lt
  obtain ⟨A0, c0, hv0, hl0, hl1⟩ := row_slice (hk.tab 1)
  obtain ⟨hb, hhb⟩ : ∃ hb, hb = H 1 := ⟨_, rfl⟩
  rw [← hhb] at hl0 hv0 hl hall hks
  have HB := Lib.hid hhb
  have HV := Lib.hid hv0
  clear hhb hv0
  unfold maxLen at hl1
  go_enter Tryz.func47, Tryz.ntmps47
  go_wp2_with fail
  go_loopw [3] (fun i wr => ∃ j : Nat, j ≤ hb.length ∧ i = .int .i64 j ∧ Below w.heap.size w wr) (fun i _ => hb.length - (intOf i).toNat)
  case atStart => exact ⟨0, Nat.zero_le _, rfl, Below.refl _ _⟩
  case round =>
    obtain ⟨j, hj, rfl, hbel⟩ := hrel
    obtain ⟨wo, rfl⟩ : ∃ wo, wo = wr := ⟨_, rfl⟩
    have hkr := hk.below hbel
    have hcv : wo.cell? ⟨kb, 1, none⟩ = some (.slice A0 hb.length c0) := (hkr.cell 1).trans (congrArg some HV.out)
    have hkrl := hkr.lt
    have htb := hkr.tab 1
    rw [HV.out, ← HB.out] at htb
    by_cases hlt2 : j < hb.length
    · obtain ⟨gt, ct, hv, hgt1, hgt2, _, _⟩ := row_form htb (by omega)
      cases hv
      have t0 := row_cell htb j 0 hlt2 (by omega)
      have t1 := row_cell htb j 1 hlt2 (by omega)
      have t2 := row_cell htb j 2 hlt2 (by omega)
      have hmem : hb[j] ∈ hb := List.getElem_mem _
      obtain ⟨p1, p2, p3⟩ := hall _ hmem
      obtain ⟨hkk, hnn⟩ := hks _ hmem
      clear hmem htb
      generalize hb[j] = x at t0 t1 t2 p1 hkk hnn p2 p3
      obtain ⟨xA, xn, xc, xL, xln, xlc, xk⟩ := x
      simp only [Hl.cells, List.getElem?_cons_zero, List.getElem?_cons_succ, Nat.add_zero] at t0 t1 t2 p1 hkk hnn p2 p3
      subst p1
      have p2 := (p2.below hbel).below ((Below.refl _ wo).alloc (Nat.le_refl _) (.cells #[.slice xA xn xc, .slice xL (xn + 40) xlc, .int .i64 xk] 73))
      have p3 := (p3.below hbel).below ((Below.refl _ wo).alloc (Nat.le_refl _) (.cells #[.slice xA xn xc, .slice xL (xn + 40) xlc, .int .i64 xk] 73))
      clear hall hks
      go_wp2_with fail
      have hx2 : Bx (wo.alloc (.cells #[.slice xA xn xc, .slice xL (xn + 40) xlc, .int .i64 xk] 73)) wo.heap.size [.slice xA xn xc, .slice xL (xn + 40) xlc, .int .i64 xk] := Bx.new wo _ _ _
      have hb2 : Below w.heap.size w (wo.alloc (.cells #[.slice xA xn xc, .slice xL (xn + 40) xlc, .int .i64 xk] 73)) := hbel.alloc hbel.size _
      generalize wo.alloc (.cells #[.slice xA xn xc, .slice xL (xn + 40) xlc, .int .i64 xk] 73) = w2 at *
      go_loopw [5] (fun i wr => ∃ q : Nat, q ≤ xn + 40 ∧ i = .int .i64 q ∧ Below w2.heap.size w2 wr) (fun i _ => xn + 40 - (intOf i).toNat)
      case atStart => exact ⟨0, Nat.zero_le _, rfl, Below.refl _ _⟩
      case round =>
        obtain ⟨q, hq, rfl, hbq⟩ := hrel
        have hx3 := hx2.below hbq
        have l0 := hx3.at0
        have l1 := hx3.at1
        have l2 := hx3.at2
        have lx := hx3.1
        have p4 := p2.below hbq
        have p5 := p3.below hbq
        by_cases hql : q < xn + 40
        · obtain ⟨bL, uL, rfl, hbL, hcL, hmL⟩ := p5.get hql
          by_cases hqn : q < xn
          · obtain ⟨bA, uA, rfl, hbA, hcA, hmA⟩ := p4.get hqn
            have hd1 : decide (q < xn) = true := by simpa using hqn
            have hd2 : decide ((q : Int) < (xn : Int)) = true := by simp; omega
            go_wp2_with fail
            refine wp_region_ord (S := fun w' => w'.cell? ⟨wo.heap.size, 0, none⟩ = some (.slice (some ⟨bA, 0, none⟩) xn xc) ∧ w'.cell? ⟨wo.heap.size, 1, none⟩ = some (.slice (some ⟨bL, 0, none⟩) (xn + 40) xlc) ∧ w'.cell? ⟨wo.heap.size, 2, none⟩ = some (.int .i64 xk) ∧ w'.cell? ⟨bL, q, none⟩ = some uL ∧ w'.cell? ⟨bA, q, none⟩ = some uA)
              [(0, true), (1, true), (2, true), (3, true), (4, true), (5, true), (6, true), (7, false), (8, true), (9, true), (10, true), (11, true), (12, true), (13, true), (14, true), (15, true), (16, true), (17, true), (18, true), (19, true), (20, true), (21, true), (22, true), (23, false), (24, true), (25, true), (26, true)] default (by kernel_rfl) (by kernel_rfl) (by kernel_rfl) ⟨l0, l1, l2, hcL, hcA⟩ ?_
            simp only [getOrd, nth]
            repeat (first | (refine ordS (by rfl) ?_; simp only [Act.put, List.setIfInBounds_toArray, List.set_cons_zero, List.set_cons_succ]) | (refine ordN (by rfl) ?_; simp only [Act.put, List.setIfInBounds_toArray, List.set_cons_zero, List.set_cons_succ]) | (refine ordQ (v := ?_) (by rfl) (fun _ hSw => ?_) ?_; rotate_left; (focus ((have hS1 := hSw.1); (have hS2 := hSw.2.1); (have hS3 := hSw.2.2.1); (have hS4 := hSw.2.2.2.1); (have hS5 := hSw.2.2.2.2); clear hSw; go_simp; (first | done | with_reducible rfl))); simp only [Act.put, List.setIfInBounds_toArray, List.set_cons_zero, List.set_cons_succ]))
            refine ordD (by rfl) ?_
            intro K hK
            go_simp
            refine (is9Byte xk s uL hkk _ (mksB.below hmL ((Below.refl _ wr).drew))).mono ?_
            rintro e wm ⟨rfl, hbm⟩
            have hbm : Below wr.heap.size wr wm := ((Below.refl _ wr).drew).trans hbm
            have m0 := (hbm.cell (p := ⟨wo.heap.size, 0, none⟩) lx).trans l0
            have m1 := (hbm.cell (p := ⟨wo.heap.size, 1, none⟩) lx).trans l1
            have m2 := (hbm.cell (p := ⟨wo.heap.size, 2, none⟩) lx).trans l2
            have m3 := (hbm.cell (p := ⟨bL, q, none⟩) hbL).trans hcL
            have m4 := (hbm.cell (p := ⟨bA, q, none⟩) hbA).trans hcA
            have hmA2 := mksB.below hmA hbm
            go_wp2_with fail
            refine hK _ _ ⟨m0, m1, m2, m3, m4⟩ ?_
            clear hK K
            try simp only [Act.put, List.setIfInBounds_toArray, List.set_cons_zero, List.set_cons_succ]
            repeat (first | (refine ordS (by rfl) ?_; simp only [Act.put, List.setIfInBounds_toArray, List.set_cons_zero, List.set_cons_succ]) | (refine ordN (by rfl) ?_; simp only [Act.put, List.setIfInBounds_toArray, List.set_cons_zero, List.set_cons_succ]) | (refine ordQ (v := ?_) (by rfl) (fun _ hSw => ?_) ?_; rotate_left; (focus ((have hS1 := hSw.1); (have hS2 := hSw.2.1); (have hS3 := hSw.2.2.1); (have hS4 := hSw.2.2.2.1); (have hS5 := hSw.2.2.2.2); clear hSw; go_simp; (first | done | with_reducible rfl))); simp only [Act.put, List.setIfInBounds_toArray, List.set_cons_zero, List.set_cons_succ]))
            refine ordD (by rfl) ?_
            intro K hK
            go_simp
            refine (is9Byte xk s uA hkk _ hmA2).mono ?_
            rintro e wn ⟨rfl, hbn⟩
            have hbn : Below wm.heap.size wm wn := hbn
            have lx1 := Nat.lt_of_lt_of_le lx hbm.size
            have lL1 := Nat.lt_of_lt_of_le hbL hbm.size
            have lA1 := Nat.lt_of_lt_of_le hbA hbm.size
            have n0 := (hbn.cell (p := ⟨wo.heap.size, 0, none⟩) lx1).trans m0
            have n1 := (hbn.cell (p := ⟨wo.heap.size, 1, none⟩) lx1).trans m1
            have n2 := (hbn.cell (p := ⟨wo.heap.size, 2, none⟩) lx1).trans m2
            have n3 := (hbn.cell (p := ⟨bL, q, none⟩) lL1).trans m3
            have n4 := (hbn.cell (p := ⟨bA, q, none⟩) lA1).trans m4
            have hB3 : Below w2.heap.size w2 wn := (hbq.trans (hbm.mono hbq.size)).trans (hbn.mono (Nat.le_trans hbq.size hbm.size))
            go_wp2_with fail
            refine hK _ _ ⟨n0, n1, n2, n3, n4⟩ ?_
            clear hK K
            try simp only [Act.put, List.setIfInBounds_toArray, List.set_cons_zero, List.set_cons_succ]
            repeat (first | (refine ordS (by rfl) ?_; simp only [Act.put, List.setIfInBounds_toArray, List.set_cons_zero, List.set_cons_succ]) | (refine ordN (by rfl) ?_; simp only [Act.put, List.setIfInBounds_toArray, List.set_cons_zero, List.set_cons_succ]) | (refine ordQ (v := ?_) (by rfl) (fun _ hSw => ?_) ?_; rotate_left; (focus ((have hS1 := hSw.1); (have hS2 := hSw.2.1); (have hS3 := hSw.2.2.1); (have hS4 := hSw.2.2.2.1); (have hS5 := hSw.2.2.2.2); clear hSw; go_simp; (first | done | with_reducible rfl))); simp only [Act.put, List.setIfInBounds_toArray, List.set_cons_zero, List.set_cons_succ]))
            refine ordE ?_
            clear m0 m1 m2 m3 m4 n0 n1 n2 n3 n4 hmA hmL hmA2 hbm hbn
            go_wp2
            go_roundw
            case rel => exact ⟨q + 1, by omega, by go_num, hB3⟩
            case measure => simp [intOf]; omega
          · have hd1 : decide (q < xn) = false := by simpa using hqn
            have hd2 : decide ((q : Int) < (xn : Int)) = false := by simp; omega
            go_wp2_with fail
            refine wp_region_ord (S := fun w' => w'.cell? ⟨wo.heap.size, 0, none⟩ = some (.slice xA xn xc) ∧ w'.cell? ⟨wo.heap.size, 1, none⟩ = some (.slice (some ⟨bL, 0, none⟩) (xn + 40) xlc) ∧ w'.cell? ⟨wo.heap.size, 2, none⟩ = some (.int .i64 xk) ∧ w'.cell? ⟨bL, q, none⟩ = some uL)
              [(0, true), (1, true), (2, true), (3, true), (4, true), (5, true), (6, true), (7, false), (8, true), (9, true), (10, true), (11, true), (12, true), (13, true), (14, true), (15, true), (16, true), (17, true), (18, true), (19, true), (20, true), (21, true), (22, true), (23, false), (24, true), (25, true), (26, true)] default (by kernel_rfl) (by kernel_rfl) (by kernel_rfl) ⟨l0, l1, l2, hcL⟩ ?_
            simp only [getOrd, nth]
            repeat (first | (refine ordS (by rfl) ?_; simp only [Act.put, List.setIfInBounds_toArray, List.set_cons_zero, List.set_cons_succ]) | (refine ordN (by rfl) ?_; simp only [Act.put, List.setIfInBounds_toArray, List.set_cons_zero, List.set_cons_succ]) | (refine ordQ (v := ?_) (by rfl) (fun _ hSw => ?_) ?_; rotate_left; (focus ((have hS1 := hSw.1); (have hS2 := hSw.2.1); (have hS3 := hSw.2.2.1); (have hS4 := hSw.2.2.2); clear hSw; go_simp; (first | done | with_reducible rfl))); simp only [Act.put, List.setIfInBounds_toArray, List.set_cons_zero, List.set_cons_succ]))
            refine ordD (by rfl) ?_
            intro K hK
            go_simp
            refine (is9Byte xk s uL hkk _ (mksB.below hmL ((Below.refl _ wr).drew))).mono ?_
            rintro e wm ⟨rfl, hbm⟩
            have hbm : Below wr.heap.size wr wm := ((Below.refl _ wr).drew).trans hbm
            have m0 := (hbm.cell (p := ⟨wo.heap.size, 0, none⟩) lx).trans l0
            have m1 := (hbm.cell (p := ⟨wo.heap.size, 1, none⟩) lx).trans l1
            have m2 := (hbm.cell (p := ⟨wo.heap.size, 2, none⟩) lx).trans l2
            have m3 := (hbm.cell (p := ⟨bL, q, none⟩) hbL).trans hcL
            have hB3 : Below w2.heap.size w2 wm := hbq.trans (hbm.mono hbq.size)
            go_wp2_with fail
            refine hK _ _ ⟨m0, m1, m2, m3⟩ ?_
            clear hK K
            try simp only [Act.put, List.setIfInBounds_toArray, List.set_cons_zero, List.set_cons_succ]
            repeat (first | (refine ordS (by rfl) ?_; simp only [Act.put, List.setIfInBounds_toArray, List.set_cons_zero, List.set_cons_succ]) | (refine ordN (by rfl) ?_; simp only [Act.put, List.setIfInBounds_toArray, List.set_cons_zero, List.set_cons_succ]) | (refine ordQ (v := ?_) (by rfl) (fun _ hSw => ?_) ?_; rotate_left; (focus ((have hS1 := hSw.1); (have hS2 := hSw.2.1); (have hS3 := hSw.2.2.1); (have hS4 := hSw.2.2.2); clear hSw; go_simp; (first | done | with_reducible rfl))); simp only [Act.put, List.setIfInBounds_toArray, List.set_cons_zero, List.set_cons_succ]))
            refine ordE ?_
            clear m0 m1 m2 m3 hmL hbm
            go_wp2
            go_roundw
            case rel => exact ⟨q + 1, by omega, by go_num, hB3⟩
            case measure => simp [intOf]; omega
        · obtain rfl : q = xn + 40 := by omega
          have hB3 : Below w.heap.size w wr := hb2.trans (hbq.mono hb2.size)
          go_wp2
          go_roundw
          case rel => exact ⟨j + 1, by omega, by go_num, hB3⟩
          case measure => simp [intOf]; omega
    · obtain rfl : j = hb.length := by omega
      go_wp2
      go_ret
      exact ⟨rfl, hbel⟩

set_option maxRecDepth 100000 in
set_option maxHeartbeats 2000000 in
theorem look9Int (kb N B s : Nat) (T : Nat → Value) (H : Nat → List Hl) (w : World) (hk : Bkn 46 tHs w kb N T H)
    (hall : Looked mksI 3 w B s (H 2)) (hks : ∀ h ∈ H 2, h.k < 1000000000 ∧ h.n ≤ 1000000000) (hl : (H 2).length ≤ 1000000) :
    Calls Tryz.prog 48 #[.pointer (some ⟨kb, 0, none⟩)] w fun e w' => e = .returned (.bool true) ∧ Below w.heap.size w w' := by
  have hkbl := hk.lt
  obtain ⟨A0, c0, hv0, hl0, hl1⟩ := row_slice (hk.tab 2)
  obtain ⟨hb, hhb⟩ : ∃ hb, hb = H 2 := ⟨_, rfl⟩
  rw [← hhb] at hl0 hv0 hl hall hks
  have HB := Lib.hid hhb
  have HV := Lib.hid hv0
  clear hhb hv0
  unfold maxLen at hl1
  go_enter Tryz.func48, Tryz.ntmps48
  go_wp2_with fail
  go_loopw [3] (fun i wr => ∃ j : Nat, j ≤ hb.length ∧ i = .int .i64 j ∧ Below w.heap.size w wr) (fun i _ => hb.length - (intOf i).toNat)
  case atStart => exact ⟨0, Nat.zero_le _, rfl, Below.refl _ _⟩
  case round =>
    obtain ⟨j, hj, rfl, hbel⟩ := hrel
    obtain ⟨wo, rfl⟩ : ∃ wo, wo = wr := ⟨_, rfl⟩
    have hkr := hk.below hbel
    have hcv : wo.cell? ⟨kb, 2, none⟩ = some (.slice A0 hb.length c0) := (hkr.cell 2).trans (congrArg some HV.out)
    have hkrl := hkr.lt
    have htb := hkr.tab 2
    rw [HV.out, ← HB.out] at htb
    by_cases hlt2 : j < hb.length
    · obtain ⟨gt, ct, hv, hgt1, hgt2, _, _⟩ := row_form htb (by omega)
      cases hv
      have t0 := row_cell htb j 0 hlt2 (by omega)
      have t1 := row_cell htb j 1 hlt2 (by omega)
      have t2 := row_cell htb j 2 hlt2 (by omega)
      have hmem : hb[j] ∈ hb := List.getElem_mem _
      obtain ⟨p1, p2, p3⟩ := hall _ hmem
      obtain ⟨hkk, hnn⟩ := hks _ hmem
      clear hmem htb
      generalize hb[j] = x at t0 t1 t2 p1 hkk hnn p2 p3
      obtain ⟨xA, xn, xc, xL, xln, xlc, xk⟩ := x
      simp only [Hl.cells, List.getElem?_cons_zero, List.getElem?_cons_succ, Nat.add_zero] at t0 t1 t2 p1 hkk hnn p2 p3
      subst p1
      have p2 := (p2.below hbel).below ((Below.refl _ wo).alloc (Nat.le_refl _) (.cells #[.slice xA xn xc, .slice xL (xn + 40) xlc, .int .i64 xk] 68))
      have p3 := (p3.below hbel).below ((Below.refl _ wo).alloc (Nat.le_refl _) (.cells #[.slice xA xn xc, .slice xL (xn + 40) xlc, .int .i64 xk] 68))
      clear hall hks
      go_wp2_with fail
      have hx2 : Bx (wo.alloc (.cells #[.slice xA xn xc, .slice xL (xn + 40) xlc, .int .i64 xk] 68)) wo.heap.size [.slice xA xn xc, .slice xL (xn + 40) xlc, .int .i64 xk] := Bx.new wo _ _ _
      have hb2 : Below w.heap.size w (wo.alloc (.cells #[.slice xA xn xc, .slice xL (xn + 40) xlc, .int .i64 xk] 68)) := hbel.alloc hbel.size _
      generalize wo.alloc (.cells #[.slice xA xn xc, .slice xL (xn + 40) xlc, .int .i64 xk] 68) = w2 at *
      go_loopw [5] (fun i wr => ∃ q : Nat, q ≤ xn + 40 ∧ i = .int .i64 q ∧ Below w2.heap.size w2 wr) (fun i _ => xn + 40 - (intOf i).toNat)
      case atStart => exact ⟨0, Nat.zero_le _, rfl, Below.refl _ _⟩
      case round =>
        obtain ⟨q, hq, rfl, hbq⟩ := hrel
        have hx3 := hx2.below hbq
        have l0 := hx3.at0
        have l1 := hx3.at1
        have l2 := hx3.at2
        have lx := hx3.1
        have p4 := p2.below hbq
        have p5 := p3.below hbq
        by_cases hql : q < xn + 40
        · obtain ⟨bL, uL, rfl, hbL, hcL, hmL⟩ := p5.get hql
          by_cases hqn : q < xn
          · obtain ⟨bA, uA, rfl, hbA, hcA, hmA⟩ := p4.get hqn
            have hd1 : decide (q < xn) = true := by simpa using hqn
            have hd2 : decide ((q : Int) < (xn : Int)) = true := by simp; omega
            go_wp2_with fail
            refine wp_region_ord (S := fun w' => w'.cell? ⟨wo.heap.size, 0, none⟩ = some (.slice (some ⟨bA, 0, none⟩) xn xc) ∧ w'.cell? ⟨wo.heap.size, 1, none⟩ = some (.slice (some ⟨bL, 0, none⟩) (xn + 40) xlc) ∧ w'.cell? ⟨wo.heap.size, 2, none⟩ = some (.int .i64 xk) ∧ w'.cell? ⟨bL, q, none⟩ = some uL ∧ w'.cell? ⟨bA, q, none⟩ = some uA)
              [(0, true), (1, true), (2, true), (3, true), (4, true), (5, true), (6, true), (7, false), (8, true), (9, true), (10, true), (11, true), (12, true), (13, true), (14, true), (15, true), (16, true), (17, true), (18, true), (19, true), (20, true), (21, true), (22, true), (23, false), (24, true), (25, true), (26, true)] default (by kernel_rfl) (by kernel_rfl) (by kernel_rfl) ⟨l0, l1, l2, hcL, hcA⟩ ?_
            simp only [getOrd, nth]
            repeat (first | (refine ordS (by rfl) ?_; simp only [Act.put, List.setIfInBounds_toArray, List.set_cons_zero, List.set_cons_succ]) | (refine ordN (by rfl) ?_; simp only [Act.put, List.setIfInBounds_toArray, List.set_cons_zero, List.set_cons_succ]) | (refine ordQ (v := ?_) (by rfl) (fun _ hSw => ?_) ?_; rotate_left; (focus ((have hS1 := hSw.1); (have hS2 := hSw.2.1); (have hS3 := hSw.2.2.1); (have hS4 := hSw.2.2.2.1); (have hS5 := hSw.2.2.2.2); clear hSw; go_simp; (first | done | with_reducible rfl))); simp only [Act.put, List.setIfInBounds_toArray, List.set_cons_zero, List.set_cons_succ]))
            refine ordD (by rfl) ?_
            intro K hK
            go_simp
            refine (is9Int xk s uL hkk _ (mksI.below hmL ((Below.refl _ wr).drew))).mono ?_
            rintro e wm ⟨rfl, hbm⟩
            have hbm : Below wr.heap.size wr wm := ((Below.refl _ wr).drew).trans hbm
            have m0 := (hbm.cell (p := ⟨wo.heap.size, 0, none⟩) lx).trans l0
            have m1 := (hbm.cell (p := ⟨wo.heap.size, 1, none⟩) lx).trans l1
            have m2 := (hbm.cell (p := ⟨wo.heap.size, 2, none⟩) lx).trans l2
            have m3 := (hbm.cell (p := ⟨bL, q, none⟩) hbL).trans hcL
            have m4 := (hbm.cell (p := ⟨bA, q, none⟩) hbA).trans hcA
            have hmA2 := mksI.below hmA hbm
            go_wp2_with fail
            refine hK _ _ ⟨m0, m1, m2, m3, m4⟩ ?_
            clear hK K
            try simp only [Act.put, List.setIfInBounds_toArray, List.set_cons_zero, List.set_cons_succ]
            repeat (first | (refine ordS (by rfl) ?_; simp only [Act.put, List.setIfInBounds_toArray, List.set_cons_zero, List.set_cons_succ]) | (refine ordN (by rfl) ?_; simp only [Act.put, List.setIfInBounds_toArray, List.set_cons_zero, List.set_cons_succ]) | (refine ordQ (v := ?_) (by rfl) (fun _ hSw => ?_) ?_; rotate_left; (focus ((have hS1 := hSw.1); (have hS2 := hSw.2.1); (have hS3 := hSw.2.2.1); (have hS4 := hSw.2.2.2.1); (have hS5 := hSw.2.2.2.2); clear hSw; go_simp; (first | done | with_reducible rfl))); simp only [Act.put, List.setIfInBounds_toArray, List.set_cons_zero, List.set_cons_succ]))
            refine ordD (by rfl) ?_
            intro K hK
            go_simp
            refine (is9Int xk s uA hkk _ hmA2).mono ?_
            rintro e wn ⟨rfl, hbn⟩
            have hbn : Below wm.heap.size wm wn := hbn
            have lx1 := Nat.lt_of_lt_of_le lx hbm.size
            have lL1 := Nat.lt_of_lt_of_le hbL hbm.size
            have lA1 := Nat.lt_of_lt_of_le hbA hbm.size
            have n0 := (hbn.cell (p := ⟨wo.heap.size, 0, none⟩) lx1).trans m0
            have n1 := (hbn.cell (p := ⟨wo.heap.size, 1, none⟩) lx1).trans m1
            have n2 := (hbn.cell (p := ⟨wo.heap.size, 2, none⟩) lx1).trans m2
            have n3 := (hbn.cell (p := ⟨bL, q, none⟩) lL1).trans m3
            have n4 := (hbn.cell (p := ⟨bA, q, none⟩) lA1).trans m4
            have hB3 : Below w2.heap.size w2 wn := (hbq.trans (hbm.mono hbq.size)).trans (hbn.mono (Nat.le_trans hbq.size hbm.size))
            go_wp2_with fail
            refine hK _ _ ⟨n0, n1, n2, n3, n4⟩ ?_
            clear hK K
            try simp only [Act.put, List.setIfInBounds_toArray, List.set_cons_zero, List.set_cons_succ]
            repeat (first | (refine ordS (by rfl) ?_; simp only [Act.put, List.setIfInBounds_toArray, List.set_cons_zero, List.set_cons_succ]) | (refine ordN (by rfl) ?_; simp only [Act.put, List.setIfInBounds_toArray, List.set_cons_zero, List.set_cons_succ]) | (refine ordQ (v := ?_) (by rfl) (fun _ hSw => ?_) ?_; rotate_left; (focus ((have hS1 := hSw.1); (have hS2 := hSw.2.1); (have hS3 := hSw.2.2.1); (have hS4 := hSw.2.2.2.1); (have hS5 := hSw.2.2.2.2); clear hSw; go_simp; (first | done | with_reducible rfl))); simp only [Act.put, List.setIfInBounds_toArray, List.set_cons_zero, List.set_cons_succ]))
            refine ordE ?_
            clear m0 m1 m2 m3 m4 n0 n1 n2 n3 n4 hmA hmL hmA2 hbm hbn
            go_wp2
            go_roundw
            case rel => exact ⟨q + 1, by omega, by go_num, hB3⟩
            case measure => simp [intOf]; omega
          · have hd1 : decide (q < xn) = false := by simpa using hqn
            have hd2 : decide ((q : Int) < (xn : Int)) = false := by simp; omega
            go_wp2_with fail
            refine wp_region_ord (S := fun w' => w'.cell? ⟨wo.heap.size, 0, none⟩ = some (.slice xA xn xc) ∧ w'.cell? ⟨wo.heap.size, 1, none⟩ = some (.slice (some ⟨bL, 0, none⟩) (xn + 40) xlc) ∧ w'.cell? ⟨wo.heap.size, 2, none⟩ = some (.int .i64 xk) ∧ w'.cell? ⟨bL, q, none⟩ = some uL)
              [(0, true), (1, true), (2, true), (3, true), (4, true), (5, true), (6, true), (7, false), (8, true), (9, true), (10, true), (11, true), (12, true), (13, true), (14, true), (15, true), (16, true), (17, true), (18, true), (19, true), (20, true), (21, true), (22, true), (23, false), (24, true), (25, true), (26, true)] default (by kernel_rfl) (by kernel_rfl) (by kernel_rfl) ⟨l0, l1, l2, hcL⟩ ?_
            simp only [getOrd, nth]
            repeat (first | (refine ordS (by rfl) ?_; simp only [Act.put, List.setIfInBounds_toArray, List.set_cons_zero, List.set_cons_succ]) | (refine ordN (by rfl) ?_; simp only [Act.put, List.setIfInBounds_toArray, List.set_cons_zero, List.set_cons_succ]) | (refine ordQ (v := ?_) (by rfl) (fun _ hSw => ?_) ?_; rotate_left; (focus ((have hS1 := hSw.1); (have hS2 := hSw.2.1); (have hS3 := hSw.2.2.1); (have hS4 := hSw.2.2.2); clear hSw; go_simp; (first | done | with_reducible rfl))); simp only [Act.put, List.setIfInBounds_toArray, List.set_cons_zero, List.set_cons_succ]))
            refine ordD (by rfl) ?_
            intro K hK
            go_simp
            refine (is9Int xk s uL hkk _ (mksI.below hmL ((Below.refl _ wr).drew))).mono ?_
            rintro e wm ⟨rfl, hbm⟩
            have hbm : Below wr.heap.size wr wm := ((Below.refl _ wr).drew).trans hbm
            have m0 := (hbm.cell (p := ⟨wo.heap.size, 0, none⟩) lx).trans l0
            have m1 := (hbm.cell (p := ⟨wo.heap.size, 1, none⟩) lx).trans l1
            have m2 := (hbm.cell (p := ⟨wo.heap.size, 2, none⟩) lx).trans l2
            have m3 := (hbm.cell (p := ⟨bL, q, none⟩) hbL).trans hcL
            have hB3 : Below w2.heap.size w2 wm := hbq.trans (hbm.mono hbq.size)
            go_wp2_with fail
            refine hK _ _ ⟨m0, m1, m2, m3⟩ ?_
            clear hK K
            try simp only [Act.put, List.setIfInBounds_toArray, List.set_cons_zero, List.set_cons_succ]
            repeat (first | (refine ordS (by rfl) ?_; simp only [Act.put, List.setIfInBounds_toArray, List.set_cons_zero, List.set_cons_succ]) | (refine ordN (by rfl) ?_; simp only [Act.put, List.setIfInBounds_toArray, List.set_cons_zero, List.set_cons_succ]) | (refine ordQ (v := ?_) (by rfl) (fun _ hSw => ?_) ?_; rotate_left; (focus ((have hS1 := hSw.1); (have hS2 := hSw.2.1); (have hS3 := hSw.2.2.1); (have hS4 := hSw.2.2.2); clear hSw; go_simp; (first | done | with_reducible rfl))); simp only [Act.put, List.setIfInBounds_toArray, List.set_cons_zero, List.set_cons_succ]))
            refine ordE ?_
            clear m0 m1 m2 m3 hmL hbm
            go_wp2
            go_roundw
            case rel => exact ⟨q + 1, by omega, by go_num, hB3⟩
            case measure => simp [intOf]; omega
        · obtain rfl : q = xn + 40 := by omega
          have hB3 : Below w.heap.size w wr := hb2.trans (hbq.mono hb2.size)
          go_wp2
          go_roundw
          case rel => exact ⟨j + 1, by omega, by go_num, hB3⟩
          case measure => simp [intOf]; omega
    · obtain rfl : j = hb.length := by omega
      go_wp2
      go_ret
      exact ⟨rfl, hbel⟩

set_option maxRecDepth 100000 in
set_option maxHeartbeats 2000000 in
theorem look9IntList (kb N B s : Nat) (T : Nat → Value) (H : Nat → List Hl) (w : World) (hk : Bkn 46 tHs w kb N T H)
    (hall : Looked mksL 22 w B s (H 4)) (hks : ∀ h ∈ H 4, h.k < 1000000000 ∧ h.n ≤ 1000000000) (hl : (H 4).length ≤ 1000000) :
    Calls Tryz.prog 50 #[.pointer (some ⟨kb, 0, none⟩)] w fun e w' => e = .returned (.bool true) ∧ Below w.heap.size w w' := by
  have hkbl := hk.lt
  obtain ⟨A0, c0, hv0, hl0, hl1⟩ := row_slice (hk.tab 4)
  obtain ⟨hb, hhb⟩ : ∃ hb, hb = H 4 := ⟨_, rfl⟩
  rw [← hhb] at hl0 hv0 hl hall hks
  have HB := Lib.hid hhb
  have HV := Lib.hid hv0
  clear hhb hv0
  unfold maxLen at hl1
  go_enter Tryz.func50, Tryz.ntmps50
  go_wp2_with fail
  go_loopw [3] (fun i wr => ∃ j : Nat, j ≤ hb.length ∧ i = .int .i64 j ∧ Below w.heap.size w wr) (fun i _ => hb.length - (intOf i).toNat)
  case atStart => exact ⟨0, Nat.zero_le _, rfl, Below.refl _ _⟩
  case round =>
    obtain ⟨j, hj, rfl, hbel⟩ := hrel
    obtain ⟨wo, rfl⟩ : ∃ wo, wo = wr := ⟨_, rfl⟩
    have hkr := hk.below hbel
    have hcv : wo.cell? ⟨kb, 4, none⟩ = some (.slice A0 hb.length c0) := (hkr.cell 4).trans (congrArg some HV.out)
    have hkrl := hkr.lt
    have htb := hkr.tab 4
    rw [HV.out, ← HB.out] at htb
    by_cases hlt2 : j < hb.length
    · obtain ⟨gt, ct, hv, hgt1, hgt2, _, _⟩ := row_form htb (by omega)
      cases hv
      have t0 := row_cell htb j 0 hlt2 (by omega)
      have t1 := row_cell htb j 1 hlt2 (by omega)
      have t2 := row_cell htb j 2 hlt2 (by omega)
      have hmem : hb[j] ∈ hb := List.getElem_mem _
      obtain ⟨p1, p2, p3⟩ := hall _ hmem
      obtain ⟨hkk, hnn⟩ := hks _ hmem
      clear hmem htb
      generalize hb[j] = x at t0 t1 t2 p1 hkk hnn p2 p3
      obtain ⟨xA, xn, xc, xL, xln, xlc, xk⟩ := x
      simp only [Hl.cells, List.getElem?_cons_zero, List.getElem?_cons_succ, Nat.add_zero] at t0 t1 t2 p1 hkk hnn p2 p3
      subst p1
      have p2 := (p2.below hbel).below ((Below.refl _ wo).alloc (Nat.le_refl _) (.cells #[.slice xA xn xc, .slice xL (xn + 40) xlc, .int .i64 xk] 70))
      have p3 := (p3.below hbel).below ((Below.refl _ wo).alloc (Nat.le_refl _) (.cells #[.slice xA xn xc, .slice xL (xn + 40) xlc, .int .i64 xk] 70))
      clear hall hks
      go_wp2_with fail
      have hx2 : Bx (wo.alloc (.cells #[.slice xA xn xc, .slice xL (xn + 40) xlc, .int .i64 xk] 70)) wo.heap.size [.slice xA xn xc, .slice xL (xn + 40) xlc, .int .i64 xk] := Bx.new wo _ _ _
      have hb2 : Below w.heap.size w (wo.alloc (.cells #[.slice xA xn xc, .slice xL (xn + 40) xlc, .int .i64 xk] 70)) := hbel.alloc hbel.size _
      generalize wo.alloc (.cells #[.slice xA xn xc, .slice xL (xn + 40) xlc, .int .i64 xk] 70) = w2 at *
      go_loopw [5] (fun i wr => ∃ q : Nat, q ≤ xn + 40 ∧ i = .int .i64 q ∧ Below w2.heap.size w2 wr) (fun i _ => xn + 40 - (intOf i).toNat)
      case atStart => exact ⟨0, Nat.zero_le _, rfl, Below.refl _ _⟩
      case round =>
        obtain ⟨q, hq, rfl, hbq⟩ := hrel
        have hx3 := hx2.below hbq
        have l0 := hx3.at0
        have l1 := hx3.at1
        have l2 := hx3.at2
        have lx := hx3.1
        have p4 := p2.below hbq
        have p5 := p3.below hbq
        by_cases hql : q < xn + 40
        · obtain ⟨bL, uL, rfl, hbL, hcL, hmL⟩ := p5.get hql
          by_cases hqn : q < xn
          · obtain ⟨bA, uA, rfl, hbA, hcA, hmA⟩ := p4.get hqn
            have hd1 : decide (q < xn) = true := by simpa using hqn
            have hd2 : decide ((q : Int) < (xn : Int)) = true := by simp; omega
            go_wp2_with fail
            refine wp_region_ord (S := fun w' => w'.cell? ⟨wo.heap.size, 0, none⟩ = some (.slice (some ⟨bA, 0, none⟩) xn xc) ∧ w'.cell? ⟨wo.heap.size, 1, none⟩ = some (.slice (some ⟨bL, 0, none⟩) (xn + 40) xlc) ∧ w'.cell? ⟨wo.heap.size, 2, none⟩ = some (.int .i64 xk) ∧ w'.cell? ⟨bL, q, none⟩ = some uL ∧ w'.cell? ⟨bA, q, none⟩ = some uA)
              [(0, true), (1, true), (2, true), (3, true), (4, true), (5, true), (6, true), (7, false), (8, true), (9, true), (10, true), (11, true), (12, true), (13, true), (14, true), (15, true), (16, true), (17, true), (18, true), (19, true), (20, true), (21, true), (22, true), (23, false), (24, true), (25, true), (26, true)] default (by kernel_rfl) (by kernel_rfl) (by kernel_rfl) ⟨l0, l1, l2, hcL, hcA⟩ ?_
            simp only [getOrd, nth]
            repeat (first | (refine ordS (by rfl) ?_; simp only [Act.put, List.setIfInBounds_toArray, List.set_cons_zero, List.set_cons_succ]) | (refine ordN (by rfl) ?_; simp only [Act.put, List.setIfInBounds_toArray, List.set_cons_zero, List.set_cons_succ]) | (refine ordQ (v := ?_) (by rfl) (fun _ hSw => ?_) ?_; rotate_left; (focus ((have hS1 := hSw.1); (have hS2 := hSw.2.1); (have hS3 := hSw.2.2.1); (have hS4 := hSw.2.2.2.1); (have hS5 := hSw.2.2.2.2); clear hSw; go_simp; (first | done | with_reducible rfl))); simp only [Act.put, List.setIfInBounds_toArray, List.set_cons_zero, List.set_cons_succ]))
            refine ordD (by rfl) ?_
            intro K hK
            go_simp
            refine (is9IntList xk s uL hkk _ (mksL.below hmL ((Below.refl _ wr).drew))).mono ?_
            rintro e wm ⟨rfl, hbm⟩
            have hbm : Below wr.heap.size wr wm := ((Below.refl _ wr).drew).trans hbm
            have m0 := (hbm.cell (p := ⟨wo.heap.size, 0, none⟩) lx).trans l0
            have m1 := (hbm.cell (p := ⟨wo.heap.size, 1, none⟩) lx).trans l1
            have m2 := (hbm.cell (p := ⟨wo.heap.size, 2, none⟩) lx).trans l2
            have m3 := (hbm.cell (p := ⟨bL, q, none⟩) hbL).trans hcL
            have m4 := (hbm.cell (p := ⟨bA, q, none⟩) hbA).trans hcA
            have hmA2 := mksL.below hmA hbm
            go_wp2_with fail
            refine hK _ _ ⟨m0, m1, m2, m3, m4⟩ ?_
            clear hK K
            try simp only [Act.put, List.setIfInBounds_toArray, List.set_cons_zero, List.set_cons_succ]
            repeat (first | (refine ordS (by rfl) ?_; simp only [Act.put, List.setIfInBounds_toArray, List.set_cons_zero, List.set_cons_succ]) | (refine ordN (by rfl) ?_; simp only [Act.put, List.setIfInBounds_toArray, List.set_cons_zero, List.set_cons_succ]) | (refine ordQ (v := ?_) (by rfl) (fun _ hSw => ?_) ?_; rotate_left; (focus ((have hS1 := hSw.1); (have hS2 := hSw.2.1); (have hS3 := hSw.2.2.1); (have hS4 := hSw.2.2.2.1); (have hS5 := hSw.2.2.2.2); clear hSw; go_simp; (first | done | with_reducible rfl))); simp only [Act.put, List.setIfInBounds_toArray, List.set_cons_zero, List.set_cons_succ]))
            refine ordD (by rfl) ?_
            intro K hK
            go_simp
            refine (is9IntList xk s uA hkk _ hmA2).mono ?_
            rintro e wn ⟨rfl, hbn⟩
            have hbn : Below wm.heap.size wm wn := hbn
            have lx1 := Nat.lt_of_lt_of_le lx hbm.size
            have lL1 := Nat.lt_of_lt_of_le hbL hbm.size
            have lA1 := Nat.lt_of_lt_of_le hbA hbm.size
            have n0 := (hbn.cell (p := ⟨wo.heap.size, 0, none⟩) lx1).trans m0
            have n1 := (hbn.cell (p := ⟨wo.heap.size, 1, none⟩) lx1).trans m1
            have n2 := (hbn.cell (p := ⟨wo.heap.size, 2, none⟩) lx1).trans m2
            have n3 := (hbn.cell (p := ⟨bL, q, none⟩) lL1).trans m3
            have n4 := (hbn.cell (p := ⟨bA, q, none⟩) lA1).trans m4
            have hB3 : Below w2.heap.size w2 wn := (hbq.trans (hbm.mono hbq.size)).trans (hbn.mono (Nat.le_trans hbq.size hbm.size))
            go_wp2_with fail
            refine hK _ _ ⟨n0, n1, n2, n3, n4⟩ ?_
            clear hK K
            try simp only [Act.put, List.setIfInBounds_toArray, List.set_cons_zero, List.set_cons_succ]
            repeat (first | (refine ordS (by rfl) ?_; simp only [Act.put, List.setIfInBounds_toArray, List.set_cons_zero, List.set_cons_succ]) | (refine ordN (by rfl) ?_; simp only [Act.put, List.setIfInBounds_toArray, List.set_cons_zero, List.set_cons_succ]) | (refine ordQ (v := ?_) (by rfl) (fun _ hSw => ?_) ?_; rotate_left; (focus ((have hS1 := hSw.1); (have hS2 := hSw.2.1); (have hS3 := hSw.2.2.1); (have hS4 := hSw.2.2.2.1); (have hS5 := hSw.2.2.2.2); clear hSw; go_simp; (first | done | with_reducible rfl))); simp only [Act.put, List.setIfInBounds_toArray, List.set_cons_zero, List.set_cons_succ]))
            refine ordE ?_
            clear m0 m1 m2 m3 m4 n0 n1 n2 n3 n4 hmA hmL hmA2 hbm hbn
            go_wp2
            go_roundw
            case rel => exact ⟨q + 1, by omega, by go_num, hB3⟩
            case measure => simp [intOf]; omega
          · have hd1 : decide (q < xn) = false := by simpa using hqn
            have hd2 : decide ((q : Int) < (xn : Int)) = false := by simp; omega
            go_wp2_with fail
            refine wp_region_ord (S := fun w' => w'.cell? ⟨wo.heap.size, 0, none⟩ = some (.slice xA xn xc) ∧ w'.cell? ⟨wo.heap.size, 1, none⟩ = some (.slice (some ⟨bL, 0, none⟩) (xn + 40) xlc) ∧ w'.cell? ⟨wo.heap.size, 2, none⟩ = some (.int .i64 xk) ∧ w'.cell? ⟨bL, q, none⟩ = some uL)
              [(0, true), (1, true), (2, true), (3, true), (4, true), (5, true), (6, true), (7, false), (8, true), (9, true), (10, true), (11, true), (12, true), (13, true), (14, true), (15, true), (16, true), (17, true), (18, true), (19, true), (20, true), (21, true), (22, true), (23, false), (24, true), (25, true), (26, true)] default (by kernel_rfl) (by kernel_rfl) (by kernel_rfl) ⟨l0, l1, l2, hcL⟩ ?_
            simp only [getOrd, nth]
            repeat (first | (refine ordS (by rfl) ?_; simp only [Act.put, List.setIfInBounds_toArray, List.set_cons_zero, List.set_cons_succ]) | (refine ordN (by rfl) ?_; simp only [Act.put, List.setIfInBounds_toArray, List.set_cons_zero, List.set_cons_succ]) | (refine ordQ (v := ?_) (by rfl) (fun _ hSw => ?_) ?_; rotate_left; (focus ((have hS1 := hSw.1); (have hS2 := hSw.2.1); (have hS3 := hSw.2.2.1); (have hS4 := hSw.2.2.2); clear hSw; go_simp; (first | done | with_reducible rfl))); simp only [Act.put, List.setIfInBounds_toArray, List.set_cons_zero, List.set_cons_succ]))
            refine ordD (by rfl) ?_
            intro K hK
            go_simp
            refine (is9IntList xk s uL hkk _ (mksL.below hmL ((Below.refl _ wr).drew))).mono ?_
            rintro e wm ⟨rfl, hbm⟩
            have hbm : Below wr.heap.size wr wm := ((Below.refl _ wr).drew).trans hbm
            have m0 := (hbm.cell (p := ⟨wo.heap.size, 0, none⟩) lx).trans l0
            have m1 := (hbm.cell (p := ⟨wo.heap.size, 1, none⟩) lx).trans l1
            have m2 := (hbm.cell (p := ⟨wo.heap.size, 2, none⟩) lx).trans l2
            have m3 := (hbm.cell (p := ⟨bL, q, none⟩) hbL).trans hcL
            have hB3 : Below w2.heap.size w2 wm := hbq.trans (hbm.mono hbq.size)
            go_wp2_with fail
            refine hK _ _ ⟨m0, m1, m2, m3⟩ ?_
            clear hK K
            try simp only [Act.put, List.setIfInBounds_toArray, List.set_cons_zero, List.set_cons_succ]
            repeat (first | (refine ordS (by rfl) ?_; simp only [Act.put, List.setIfInBounds_toArray, List.set_cons_zero, List.set_cons_succ]) | (refine ordN (by rfl) ?_; simp only [Act.put, List.setIfInBounds_toArray, List.set_cons_zero, List.set_cons_succ]) | (refine ordQ (v := ?_) (by rfl) (fun _ hSw => ?_) ?_; rotate_left; (focus ((have hS1 := hSw.1); (have hS2 := hSw.2.1); (have hS3 := hSw.2.2.1); (have hS4 := hSw.2.2.2); clear hSw; go_simp; (first | done | with_reducible rfl))); simp only [Act.put, List.setIfInBounds_toArray, List.set_cons_zero, List.set_cons_succ]))
            refine ordE ?_
            clear m0 m1 m2 m3 hmL hbm
            go_wp2
            go_roundw
            case rel => exact ⟨q + 1, by omega, by go_num, hB3⟩
            case measure => simp [intOf]; omega
        · obtain rfl : q = xn + 40 := by omega
          have hB3 : Below w.heap.size w wr := hb2.trans (hbq.mono hb2.size)
          go_wp2
          go_roundw
          case rel => exact ⟨j + 1, by omega, by go_num, hB3⟩
          case measure => simp [intOf]; omega
    · obtain rfl : j = hb.length := by omega
      go_wp2
      go_ret
      exact ⟨rfl, hbel⟩

end Go.Proofs.YtjjaajmjcdihoaaGreatDoor
