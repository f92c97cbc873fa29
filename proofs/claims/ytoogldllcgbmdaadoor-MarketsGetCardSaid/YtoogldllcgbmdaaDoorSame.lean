/-
  Walks of SameBytes: are two lists of bytes the same?
-/
import Derived.Test.YtoogldllcgbmdaaDoorProg
import Derived.Test.YtoogldllcgbmdaaDoorKit
import Derived.Test.YtoogldllcgbmdaaDoorNumsD
import Derived.BigQuiet
import Derived.Deep.QuietTactic
import Derived.Deep.DeepMust
namespace Go.Proofs.YtoogldllcgbmdaaDoor
open Go.RowKit
set_option linter.unusedVariables false
end Go.Proofs.YtoogldllcgbmdaaDoor
