/-
  Walks of SameBytes: are two lists of bytes the same?
-/
import Derived.Test.YtdckoaljcklmhaaProg
import Derived.Test.YtdckoaljcklmhaaKit
import Derived.Test.YtdckoaljcklmhaaNumsD
import Derived.BigQuiet
import Derived.Deep.QuietTactic
import Derived.Deep.DeepMust
namespace Go.Proofs.Ytdckoaljcklmhaa
open Go.RowKit
set_option linter.unusedVariables false
end Go.Proofs.Ytdckoaljcklmhaa
