/-
  Walks of SameBytes: are two lists of bytes the same?
-/
import Derived.Test.YtjjaajmjcdihoaaDoorProg
import Derived.Test.YtjjaajmjcdihoaaDoorKit
import Derived.Test.YtjjaajmjcdihoaaDoorNumsD
import Derived.BigQuiet
import Derived.Deep.QuietTactic
import Derived.Deep.DeepMust
namespace Go.Proofs.YtjjaajmjcdihoaaDoor
open Go.RowKit
set_option linter.unusedVariables false
end Go.Proofs.YtjjaajmjcdihoaaDoor
