/-
  How much is in a list, in a list of lists, in a market: whatever number that is.
-/
import Derived.Test.YtdckoaljcklmhaaGreatDoorMarkO
namespace Go.Proofs.YtdckoaljcklmhaaGreatDoor
open Go.RowKit
set_option linter.unusedVariables false

end Go.Proofs.YtdckoaljcklmhaaGreatDoor

