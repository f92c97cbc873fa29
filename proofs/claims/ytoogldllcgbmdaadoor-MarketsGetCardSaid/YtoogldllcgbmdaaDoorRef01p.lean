/-
  Walks of the document's answers of layer 1 (salesroomref01): Put, PutList, PutBytes.
-/
import Derived.Test.YtoogldllcgbmdaaDoorRef01
namespace Go.Proofs.YtoogldllcgbmdaaDoor
open Go.RowKit
set_option linter.unusedVariables false
end Go.Proofs.YtoogldllcgbmdaaDoor
