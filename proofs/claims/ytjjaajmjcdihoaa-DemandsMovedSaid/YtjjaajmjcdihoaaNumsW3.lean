/-
  Walks of package nums: PutBytes, GetBytes, GetList; and of SameBytes of the statements.
-/
import Derived.Test.YtjjaajmjcdihoaaNumsW2
import Derived.Test.YtjjaajmjcdihoaaSame
namespace Go.Proofs.Ytjjaajmjcdihoaa
open Go.RowKit
set_option linter.unusedVariables false
end Go.Proofs.Ytjjaajmjcdihoaa
