/-
  Walks of SameBytes: are two lists of bytes the same?
-/
import Derived.Test.YtjjaajmjcdihoaaProg
import Derived.Test.YtjjaajmjcdihoaaKit
import Derived.Test.YtjjaajmjcdihoaaNumsD
import Derived.BigQuiet
import Derived.Deep.QuietTactic
import Derived.Deep.DeepMust
namespace Go.Proofs.Ytjjaajmjcdihoaa
open Go.RowKit
set_option linter.unusedVariables false
end Go.Proofs.Ytjjaajmjcdihoaa
