/-
  Walks of SameBytes: are two lists of bytes the same?
-/
import Derived.Test.YtjjaajmjcdihoaaGreatDoorProg
import Derived.Test.YtjjaajmjcdihoaaGreatDoorKit
import Derived.Test.YtjjaajmjcdihoaaGreatDoorNumsD
import Derived.BigQuiet
import Derived.Deep.QuietTactic
import Derived.Deep.DeepMust
namespace Go.Proofs.YtjjaajmjcdihoaaGreatDoor
open Go.RowKit
set_option linter.unusedVariables false
end Go.Proofs.YtjjaajmjcdihoaaGreatDoor
