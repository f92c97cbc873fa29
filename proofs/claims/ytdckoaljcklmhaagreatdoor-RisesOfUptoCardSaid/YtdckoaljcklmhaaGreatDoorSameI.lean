/-
  Walks of SameInts: are two lists of ints the same?
-/
import Derived.Test.YtdckoaljcklmhaaGreatDoorProg
import Derived.Test.YtdckoaljcklmhaaGreatDoorKit
import Derived.Test.YtdckoaljcklmhaaGreatDoorGrD
import Derived.BigQuiet
import Derived.Deep.QuietTactic
import Derived.Deep.DeepMust
namespace Go.Proofs.YtdckoaljcklmhaaGreatDoor
open Go.RowKit
set_option linter.unusedVariables false

set_option maxRecDepth 100000 in
set_option maxHeartbeats 400000 in
theorem sameintsq_ne (A : Option Addr) (n c : Nat) (A2 : Option Addr) (m c2 : Nat) (w : World) (hne : n ≠ m) :
    Calls Tryz.prog 14 #[.slice A n c, .slice A2 m c2] w fun e w' => e = .returned (.bool false) ∧ ∃ q, w' = w.drewN q := by
  have h1 : ((n : Int) != (m : Int)) = true := by rw [bne_iff_ne]; omega
  go_enter Tryz.func14, Tryz.ntmps14
  go_wp2
  go_ret
  exact ⟨rfl, 0, rfl⟩

set_option maxRecDepth 100000 in
set_option maxHeartbeats 400000 in
theorem sameintsq_any (A : Option Addr) (n c : Nat) (xs : List Int) (A2 : Option Addr) (c2 : Nat) (ys : List Int) (w : World) (hr : Rd w A n (ci64 xs)) (hr2 : Rd w A2 n (ci64 ys)) (hn : n ≤ maxLen) :
    Calls Tryz.prog 14 #[.slice A n c, .slice A2 n c2] w fun e w' => e = .returned (.bool (xs == ys)) ∧ ∃ q, w' = w.drewN q := by
  unfold maxLen at hn
  have hx : xs.length = n := by have h := hr.len; rw [ci64_len] at h; exact h
  have hy : ys.length = n := by have h := hr2.len; rw [ci64_len] at h; exact h
  have HX := Lib.hid hx
  have HY := Lib.hid hy
  clear hx hy
  go_enter Tryz.func14, Tryz.ntmps14
  go_wp2
  go_loopw [5] (fun i wr => ∃ j : Nat, j ≤ n ∧ i = .int .i64 j ∧ xs.take j = ys.take j ∧ ∃ q, wr = w.drewN q) (fun i _ => n - (intOf i).toNat)
  case atStart => exact ⟨0, Nat.zero_le _, rfl, rfl, 0, rfl⟩
  case round =>
    obtain ⟨j, hj, rfl, ht, q, rfl⟩ := hrel
    have HT := Lib.hid ht
    clear ht
    by_cases hlt : j < n
    · obtain ⟨b, o, rfl, hb, u, hu, hc⟩ := hr.get hlt
      obtain ⟨b2, o2, rfl, hb2, u2, hu2, hc2⟩ := hr2.get hlt
      have hlx : j < xs.length := by rw [HX.out]; exact hlt
      have hly : j < ys.length := by rw [HY.out]; exact hlt
      rw [ci64_get _ _ hlx] at hu
      rw [ci64_get _ _ hly] at hu2
      cases hu
      cases hu2
      unfold iV at hc hc2
      by_cases hxy : xs[j] = ys[j]
      · have hne : (xs[j] != ys[j]) = false := by rw [hxy]; simp
        have HXY := Lib.hid hxy
        clear hxy
        go_wp2
        go_quiet (fail)
        go_wp2
        go_roundw
        case rel => exact ⟨j + 1, by omega, by go_num, by rw [List.take_succ_eq_append_getElem hlx, List.take_succ_eq_append_getElem hly, HT.out, HXY.out], _, rfl⟩
        case measure => simp [intOf]; omega
      · have hne : (xs[j] != ys[j]) = true := by
          rw [bne_iff_ne]
          intro h
          exact hxy h
        have hfin : (xs == ys) = false := by
          rw [beq_eq_false_iff_ne]
          intro h
          subst h
          exact hxy rfl
        have HF := Lib.hid hfin
        clear hxy hfin
        go_wp2
        go_quiet (fail)
        go_wp2
        go_ret
        exact ⟨ret_bool HF.out.symm, q + nq, by rw [World.drewN_drewN]⟩
    · obtain rfl : j = n := by omega
      have hfin : (xs == ys) = true := by
        rw [beq_iff_eq]
        have h := HT.out
        rw [List.take_of_length_le (by rw [HX.out]; omega), List.take_of_length_le (by rw [HY.out]; omega)] at h
        exact h
      have HF := Lib.hid hfin
      clear hfin
      go_wp2
      go_ret
      exact ⟨ret_bool HF.out.symm, _, rfl⟩

/-- SameInts, of whatever two lists. -/
theorem sameintsq (A : Option Addr) (n c : Nat) (xs : List Int) (A2 : Option Addr) (m c2 : Nat) (ys : List Int) (w : World) (hr : Rd w A n (ci64 xs)) (hr2 : Rd w A2 m (ci64 ys)) (hn : n ≤ maxLen) :
    Calls Tryz.prog 14 #[.slice A n c, .slice A2 m c2] w fun e w' => e = .returned (.bool (xs == ys)) ∧ ∃ q, w' = w.drewN q := by
  by_cases h : n = m
  · subst h
    exact sameintsq_any A n c xs A2 c2 ys w hr hr2 hn
  · have hx : xs.length = n := by have h := hr.len; rw [ci64_len] at h; exact h
    have hy : ys.length = m := by have h := hr2.len; rw [ci64_len] at h; exact h
    have hf : (xs == ys) = false := by
      rw [beq_eq_false_iff_ne]
      rintro rfl
      omega
    rw [hf]
    exact sameintsq_ne A n c A2 m c2 w h
end Go.Proofs.YtdckoaljcklmhaaGreatDoor

