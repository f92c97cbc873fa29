/-
  Walks of package nums: PutBytes, GetBytes, GetList; and of SameBytes of the statements.
-/
import Derived.Test.YtdckoaljcklmhaaNumsW2
import Derived.Test.YtdckoaljcklmhaaSame
namespace Go.Proofs.Ytdckoaljcklmhaa
open Go.RowKit
set_option linter.unusedVariables false
end Go.Proofs.Ytdckoaljcklmhaa
