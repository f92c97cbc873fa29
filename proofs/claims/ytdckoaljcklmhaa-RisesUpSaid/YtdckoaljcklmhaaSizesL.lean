/-
  How much is in a list, in a list of lists, in a market: whatever number that is.
-/
import Derived.Test.YtdckoaljcklmhaaMarkO
namespace Go.Proofs.Ytdckoaljcklmhaa
open Go.RowKit
set_option linter.unusedVariables false
end Go.Proofs.Ytdckoaljcklmhaa
