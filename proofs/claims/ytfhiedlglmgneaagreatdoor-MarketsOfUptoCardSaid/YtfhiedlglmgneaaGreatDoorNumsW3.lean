/-
  Walks of package nums: PutBytes, GetBytes, GetList; and of SameBytes of the statements.
-/
import Derived.Test.YtfhiedlglmgneaaGreatDoorNumsW2
import Derived.Test.YtfhiedlglmgneaaGreatDoorSame
namespace Go.Proofs.YtfhiedlglmgneaaGreatDoor
open Go.RowKit
set_option linter.unusedVariables false
/-- Put behind nothing. -/
theorem put_nil (N : Nat) (hN : N < 18446744073709551616) (m : Nat) (hm : m ≤ 8) (w : World) :
    Calls Tryz.prog 29 #[.slice none 0 0, .int .u64 N, .int .i64 m] w fun e w' =>
      ∃ A' c', e = .returned (.slice A' m c') ∧ Own w' w.heap.size 5 A' m c' (cu8 (putB N m)) ∧ Below w.heap.size w w' := by
  refine (put_any none 0 0 [] N hN m (by omega) (by omega) w (Rd.nil _ _) (by omega)).mono ?_
  rintro e w' ⟨A', c', rfl, ho, hb⟩
  have hmm : 0 + (min (m : Int) 8).toNat = m := by omega
  rw [List.nil_append] at ho
  have hm2 : (min (m : Int) 8).toNat = m := by omega
  rw [hm2, Nat.zero_add] at ho
  exact ⟨A', c', by rw [hmm], ho, hb⟩

/-- PutList and PutBytes behind nothing. -/
theorem putlist_nil (A2 : Option Addr) (m c2 : Nat) (zs : List Int) (w : World) (hr2 : Rd w A2 m (ci64 zs)) (hm : m ≤ c2) (hc2 : c2 ≤ maxLen) (hm2 : m ≤ 255) :
    Calls Tryz.prog 28 #[.slice none 0 0, .slice A2 m c2] w fun e w' =>
      ∃ A' c', e = .returned (.slice A' (1 + 4 * m) c') ∧ Own w' w.heap.size 5 A' (1 + 4 * m) c' (cu8 (putL zs)) ∧ Below w.heap.size w w' := by
  refine (putlist_any none 0 0 [] A2 m c2 zs w (Rd.nil _ _) (by omega) hr2 hm hc2).mono ?_
  rintro e w' ⟨A', c', rfl, ho, hb⟩
  rw [Nat.min_eq_left hm2, Nat.zero_add, List.nil_append] at ho
  exact ⟨A', c', by rw [Nat.min_eq_left hm2, Nat.zero_add], ho, hb⟩
theorem putlist_le (A : Option Addr) (n c : Nat) (bs : List UInt8) (A2 : Option Addr) (m c2 : Nat) (zs : List Int) (w : World) (hr : Rd w A n (cu8 bs)) (hn : n ≤ 900000000)
    (hr2 : Rd w A2 m (ci64 zs)) (hm : m ≤ c2) (hc2 : c2 ≤ maxLen) (hm2 : m ≤ 255) :
    Calls Tryz.prog 28 #[.slice A n c, .slice A2 m c2] w fun e w' =>
      ∃ A' c', e = .returned (.slice A' (n + 1 + 4 * m) c') ∧ Own w' w.heap.size 5 A' (n + 1 + 4 * m) c' (cu8 (bs ++ putL zs)) ∧ Below w.heap.size w w' := by
  refine (putlist_any A n c bs A2 m c2 zs w hr hn hr2 hm hc2).mono ?_
  rw [Nat.min_eq_left hm2]
  exact fun _ _ h => h

/-- Put, where it is known how many bytes. -/
theorem put_at (A : Option Addr) (n c : Nat) (bs : List UInt8) (N : Nat) (hN : N < 18446744073709551616) (k : Int) (hk : k ≤ 9223372036854775807) (hk0 : -9223372036854775808 ≤ k) (w : World)
    (hr : Rd w A n (cu8 bs)) (hn : n ≤ 1000000000) (mm : Nat) (hmm : (min k 8).toNat = mm) :
    Calls Tryz.prog 29 #[.slice A n c, .int .u64 N, .int .i64 k] w fun e w' =>
      ∃ A' c', e = .returned (.slice A' (n + mm) c') ∧ Own w' w.heap.size 5 A' (n + mm) c' (cu8 (bs ++ putB N mm)) ∧ Below w.heap.size w w' := by
  subst hmm
  exact put_any A n c bs N hN k hk hk0 w hr hn
end Go.Proofs.YtfhiedlglmgneaaGreatDoor
