/-
  Walks of package nums: Get, PutList, GetList, PutBytes, GetBytes; and of SameBytes of the statements.
-/
import Derived.Test.YtdckoaljcklmhaaNumsW
namespace Go.Proofs.Ytdckoaljcklmhaa
open Go.RowKit
set_option linter.unusedVariables false

theorem wrap_u64_nat (z : Int) : IntKind.u64.wrap z = ((z % 18446744073709551616).toNat : Int) := by rw [IntKind.wrap_u64]; omega
theorem toNat_lt64 (z : Int) : (z % 18446744073709551616).toNat < 18446744073709551616 := by omega

end Go.Proofs.Ytdckoaljcklmhaa
