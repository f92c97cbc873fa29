/-
  Walks of the document's answers of layer 1 (salesroomref01): Put, PutList, PutBytes.
-/
import Derived.Test.YtdckoaljcklmhaaGreatDoorVecW
namespace Go.Proofs.YtdckoaljcklmhaaGreatDoor
open Go.RowKit
set_option linter.unusedVariables false
end Go.Proofs.YtdckoaljcklmhaaGreatDoor


namespace Go.Proofs.YtdckoaljcklmhaaGreatDoor
open Go.RowKit
set_option linter.unusedVariables false
end Go.Proofs.YtdckoaljcklmhaaGreatDoor


namespace Go.Proofs.YtdckoaljcklmhaaGreatDoor
open Go.RowKit
set_option linter.unusedVariables false
end Go.Proofs.YtdckoaljcklmhaaGreatDoor

