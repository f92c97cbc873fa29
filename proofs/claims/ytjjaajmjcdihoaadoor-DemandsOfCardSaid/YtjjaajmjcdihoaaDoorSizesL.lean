/-
  How much is in a list, in a list of lists, in a market: whatever number that is.
-/
import Derived.Test.YtjjaajmjcdihoaaDoorMarkO
namespace Go.Proofs.YtjjaajmjcdihoaaDoor
open Go.RowKit
set_option linter.unusedVariables false
end Go.Proofs.YtjjaajmjcdihoaaDoor
