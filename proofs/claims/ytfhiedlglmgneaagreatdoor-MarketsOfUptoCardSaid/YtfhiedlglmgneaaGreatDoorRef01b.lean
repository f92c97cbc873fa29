/-
  Walks of the document's answers of layer 1 (salesroomref01): GetBytes, GetList.
-/
import Derived.Test.YtfhiedlglmgneaaGreatDoorRef01
namespace Go.Proofs.YtfhiedlglmgneaaGreatDoor
open Go.RowKit
set_option linter.unusedVariables false
theorem take1_get (bs : List UInt8) (h : 0 < bs.length) : getN (bs.take 1) = bs[0].toNat := by
  cases bs with
  | nil => simp at h
  | cons b r => simp [getN]

end Go.Proofs.YtfhiedlglmgneaaGreatDoor
