/-
  Walks of SameBytes: are two lists of bytes the same?
-/
import Derived.Test.YtfhiedlglmgneaaProg
import Derived.Test.YtfhiedlglmgneaaKit
import Derived.Test.YtfhiedlglmgneaaNumsD
import Derived.BigQuiet
import Derived.Deep.QuietTactic
import Derived.Deep.DeepMust
namespace Go.Proofs.Ytfhiedlglmgneaa
open Go.RowKit
set_option linter.unusedVariables false
end Go.Proofs.Ytfhiedlglmgneaa
