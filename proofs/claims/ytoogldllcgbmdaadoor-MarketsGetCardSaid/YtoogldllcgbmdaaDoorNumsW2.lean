/-
  Walks of package nums: Get, PutList, GetList, PutBytes, GetBytes; and of SameBytes of the statements.
-/
import Derived.Test.YtoogldllcgbmdaaDoorNumsW
namespace Go.Proofs.YtoogldllcgbmdaaDoor
open Go.RowKit
set_option linter.unusedVariables false

theorem wrap_u64_nat (z : Int) : IntKind.u64.wrap z = ((z % 18446744073709551616).toNat : Int) := by rw [IntKind.wrap_u64]; omega
theorem toNat_lt64 (z : Int) : (z % 18446744073709551616).toNat < 18446744073709551616 := by omega

set_option maxRecDepth 100000 in
set_option maxHeartbeats 400000 in
theorem get_arg (A : Option Addr) (n c : Nat) (k : Int) (w : World) (hk : k < 1 ∨ 8 < k) :
    Calls Tryd.prog 54 #[.slice A n c, .int .i64 k] w fun e w' => e = .returned (.tuple #[.int .u64 0, .int .i64 1]) ∧ w = w' := by
  rcases hk with hk | hk
  · go_enter Tryd.func54, Tryd.ntmps54
    go_wp2
    go_ret2
    exact ⟨rfl, rfl⟩
  · have h1 : ¬ k < 1 := by omega
    go_enter Tryd.func54, Tryd.ntmps54
    go_wp2
    go_ret2
    exact ⟨rfl, rfl⟩

set_option maxRecDepth 100000 in
set_option maxHeartbeats 400000 in
theorem get_short (A : Option Addr) (n c : Nat) (k : Nat) (w : World) (h1 : 1 ≤ k) (h8 : k ≤ 8) (hn : n < k) :
    Calls Tryd.prog 54 #[.slice A n c, .int .i64 k] w fun e w' => e = .returned (.tuple #[.int .u64 0, .int .i64 5]) ∧ w = w' := by
  have h1' : ¬ (k : Int) < 1 := by omega
  have h8' : ¬ 8 < (k : Int) := by omega
  go_enter Tryd.func54, Tryd.ntmps54
  go_wp2
  go_ret2
  exact ⟨rfl, rfl⟩

set_option maxRecDepth 100000 in
set_option maxHeartbeats 400000 in
theorem get_ok (A : Option Addr) (n c : Nat) (bs : List UInt8) (k : Nat) (w : World) (hr : Rd w A n (cu8 bs)) (hc : n ≤ c) (hc2 : c ≤ maxLen) (h1 : 1 ≤ k) (h8 : k ≤ 8) (hn : k ≤ n) :
    Calls Tryd.prog 54 #[.slice A n c, .int .i64 k] w fun e w' => e = .returned (.tuple #[.int .u64 (getN (bs.take k)), .int .i64 0]) ∧ w = w' := by
  unfold maxLen at hc2
  have h1' : ¬ (k : Int) < 1 := by omega
  have h8' : ¬ 8 < (k : Int) := by omega
  have hn' : ¬ n < k := by omega
  have hkc : k ≤ c := by omega
  have hr2 := hr.take hn
  rw [cu8_take] at hr2
  go_enter Tryd.func54, Tryd.ntmps54
  go_wp2_with fail
  refine (number_any A k k (bs.take k) _ hr2 h8).mono ?_
  rintro e w1 ⟨rfl, rfl⟩
  go_wp2
  go_ret2
  exact ⟨rfl, rfl⟩
end Go.Proofs.YtoogldllcgbmdaaDoor
