/-
  Walks of TwinInts, LeftInts and SameInts: a copy of ints in memory of its own with a mark in the room behind it, and whether it is still that.
-/
import Derived.Test.YtjjaajmjcdihoaaProg
import Derived.Test.YtjjaajmjcdihoaaKit
import Derived.Test.YtjjaajmjcdihoaaTwin
import Derived.BigQuiet
import Derived.Deep.QuietTactic
import Derived.Deep.DeepMust
namespace Go.Proofs.Ytjjaajmjcdihoaa
open Go.RowKit
set_option linter.unusedVariables false

theorem twin_info_int : (Try.prog.info? 3).map (fun i => (i.zero, i.size, i.bytes)) = some (some (.int .i64 0), 1, 8) := by kernel_rfl

set_option maxRecDepth 100000 in
set_option maxHeartbeats 400000 in
theorem sameints_eq (A : Option Addr) (n c : Nat) (xs : List Int) (A2 : Option Addr) (c2 : Nat) (w : World) (hr : Rd w A n (ci64 xs)) (hr2 : Rd w A2 n (ci64 xs)) (hn : n ≤ maxLen) :
    Calls Try.prog 12 #[.slice A n c, .slice A2 n c2] w fun e w' => e = .returned (.bool true) ∧ Below w.heap.size w w' := by
  unfold maxLen at hn
  have hx : xs.length = n := by have h := hr.len; rw [ci64_len] at h; exact h
  have HX := Lib.hid hx
  clear hx
  go_enter Try.func12, Try.ntmps12
  go_wp2
  go_loopw [5] (fun i wr => ∃ j : Nat, j ≤ n ∧ i = .int .i64 j ∧ ∃ q, wr = w.drewN q) (fun i _ => n - (intOf i).toNat)
  case atStart => exact ⟨0, Nat.zero_le _, rfl, 0, rfl⟩
  case round =>
    obtain ⟨j, hj, rfl, q, rfl⟩ := hrel
    by_cases hlt : j < n
    · obtain ⟨b, o, rfl, hb, u, hu, hc⟩ := hr.get hlt
      obtain ⟨b2, o2, rfl, hb2, u2, hu2, hc2⟩ := hr2.get hlt
      have hlx : j < xs.length := by rw [HX.out]; exact hlt
      rw [ci64_get _ _ hlx] at hu hu2
      cases hu
      cases hu2
      unfold iV at hc hc2
      go_wp2
      go_quiet (fail)
      go_wp2
      go_roundw
      case rel => exact ⟨j + 1, by omega, by go_num, _, rfl⟩
      case measure => simp [intOf]; omega
    · obtain rfl : j = n := by omega
      go_wp2
      go_ret
      exact ⟨rfl, belowN (Below.refl _ _) _⟩
end Go.Proofs.Ytjjaajmjcdihoaa
