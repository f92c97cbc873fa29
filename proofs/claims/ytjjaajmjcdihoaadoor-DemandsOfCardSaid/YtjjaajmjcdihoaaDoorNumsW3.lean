/-
  Walks of package nums: PutBytes, GetBytes, GetList; and of SameBytes of the statements.
-/
import Derived.Test.YtjjaajmjcdihoaaDoorNumsW2
import Derived.Test.YtjjaajmjcdihoaaDoorSame
namespace Go.Proofs.YtjjaajmjcdihoaaDoor
open Go.RowKit
set_option linter.unusedVariables false
end Go.Proofs.YtjjaajmjcdihoaaDoor
