/-
  Walks of package markets: fresh, Without.
-/
import Derived.Test.YtoogldllcgbmdaaDoorMarkWb
namespace Go.Proofs.YtoogldllcgbmdaaDoor
open Go.RowKit
set_option linter.unusedVariables false
end Go.Proofs.YtoogldllcgbmdaaDoor
