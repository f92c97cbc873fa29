/-
  Walks of the document's answers of layer 1 (salesroomref01): Put, PutList, PutBytes.
-/
import Derived.Test.YtjjaajmjcdihoaaGreatDoorNumsW3
namespace Go.Proofs.YtjjaajmjcdihoaaGreatDoor
open Go.RowKit
set_option linter.unusedVariables false
theorem getN_down (bs : List UInt8) (j : Nat) (hj : j < bs.length) : getN (bs.drop j) = getN (bs.drop (j + 1)) * 256 + bs[j].toNat := by
  rw [List.drop_eq_getElem_cons hj, getN]
  omega
theorem getN_small (bs : List UInt8) (j k : Nat) (hk : k ≤ 8) (hj : 1 ≤ j) : getN ((bs.take k).drop j) < 72057594037927936 := by
  have h := getN_lt ((bs.take k).drop j)
  rw [List.length_drop, List.length_take] at h
  have hp : (2 : Nat) ^ (8 * (min k bs.length - j)) ≤ 2 ^ 56 := Nat.pow_le_pow_right (by omega) (by omega)
  omega

end Go.Proofs.YtjjaajmjcdihoaaGreatDoor

namespace Go.Proofs.YtjjaajmjcdihoaaGreatDoor
open Go.RowKit
set_option linter.unusedVariables false
theorem take1_get (bs : List UInt8) (h : 0 < bs.length) : getN (bs.take 1) = bs[0].toNat := by
  cases bs with
  | nil => simp at h
  | cons b r => simp [getN]

end Go.Proofs.YtjjaajmjcdihoaaGreatDoor

namespace Go.Proofs.YtjjaajmjcdihoaaGreatDoor
open Go.RowKit
set_option linter.unusedVariables false
end Go.Proofs.YtjjaajmjcdihoaaGreatDoor
