/-
  Walks of package nums: PutBytes, GetBytes, GetList; and of SameBytes of the statements.
-/
import Derived.Test.YtjjaajmjcdihoaaGreatDoorNumsW2
import Derived.Test.YtjjaajmjcdihoaaGreatDoorSame
namespace Go.Proofs.YtjjaajmjcdihoaaGreatDoor
open Go.RowKit
set_option linter.unusedVariables false
end Go.Proofs.YtjjaajmjcdihoaaGreatDoor
