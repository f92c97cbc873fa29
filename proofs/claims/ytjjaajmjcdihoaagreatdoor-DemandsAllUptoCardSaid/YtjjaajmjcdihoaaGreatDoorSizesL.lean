/-
  How much is in a list, in a list of lists, in a market: whatever number that is.
-/
import Derived.Test.YtjjaajmjcdihoaaGreatDoorMarkO
namespace Go.Proofs.YtjjaajmjcdihoaaGreatDoor
open Go.RowKit
set_option linter.unusedVariables false

set_option maxRecDepth 100000 in
set_option maxHeartbeats 400000 in
theorem intssize_any (A : Option Addr) (n c : Nat) (w : World) : Calls Tryz.prog 16 #[.slice A n c] w fun e w' => e = .returned (.int .i64 n) ∧ w = w' := by
  go_enter Tryz.func16, Tryz.ntmps16
  go_wp2
  go_ret
  exact ⟨rfl, rfl⟩

set_option maxRecDepth 100000 in
set_option maxHeartbeats 1000000 in
theorem intlistssize_some (A : Option Addr) (n c : Nat) (t : List Ls) (w : World) (hl : Lss w A n t) (hc : n ≤ c) (hc2 : c ≤ maxLen) :
    Calls Tryz.prog 17 #[.slice A n c] w fun e w' => ∃ z : Int, e = .returned (.int .i64 z) ∧ w = w' := by
  have tn := Nat.le_trans hc hc2
  unfold maxLen at tn
  go_enter Tryz.func17, Tryz.ntmps17
  go_wp2_with fail
  go_loop [3, 4] (fun v i => ∃ (z : Int) (j : Nat), j ≤ n ∧ v = .int .i64 z ∧ i = .int .i64 j) (fun _ i => n - (intOf i).toNat)
  case atStart => exact ⟨n, 0, Nat.zero_le _, rfl, rfl⟩
  case round =>
    obtain ⟨z, j, hj, rfl, rfl⟩ := hrel
    by_cases hlt : j < n
    · by_cases hz : z ≤ 1048576
      · obtain ⟨p, q, u, hA, hu, hp, hcl, hk⟩ := hl.get hlt
        have hcell : w.cell? ⟨p, q + j, none⟩ = some (.slice u.A u.n u.c) := hcl
        subst hA
        clear hcl hl
        go_wp2_with fail
        refine (intssize_any u.A u.n u.c w).mono ?_
        rintro e w1 ⟨rfl, rfl⟩
        go_wp2
        go_round
        case rel => exact ⟨_, j + 1, by omega, rfl, by go_num⟩
        case measure => simp [intOf]; omega
      · have hz' : decide (z ≤ 1048576) = false := by simp; omega
        go_wp2
        go_ret
        exact ⟨⟨z, rfl⟩, rfl⟩
    · obtain rfl : j = n := by omega
      go_wp2
      go_ret
      exact ⟨⟨z, rfl⟩, rfl⟩

end Go.Proofs.YtjjaajmjcdihoaaGreatDoor
