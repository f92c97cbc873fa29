/-
  What the functions of a matchings package answer (contracts).
-/
import Derived.Test.YtdckoaljcklmhaaGreatDoorGrO
import Derived.Test.YtdckoaljcklmhaaGreatDoorMaF
namespace Go.Proofs.YtdckoaljcklmhaaGreatDoor
open Go.RowKit
set_option linter.unusedVariables false

def MostC (f : Nat) : Prop := ∀ (x : Gr) (m : Int) (w : World), x.Ok w → -9223372036854775808 ≤ m → m ≤ 9223372036854775807 →
  Calls Tryz.prog f #[x.v, .int .i64 m] w fun e w' => ∃ A' n' c', e = .returned (.tuple #[.slice A' n' c', .int .i64 (mostErr x.g m)]) ∧ OwnI w' w.heap.size ⟨A', n', c', mostE x.g m⟩ ∧ Below w.heap.size w w'
def AllC (f : Nat) : Prop := ∀ (x : Gr) (m : Int) (u : Ls) (w : World), x.Ok w → u.Ok w → -9223372036854775808 ≤ m → m ≤ 9223372036854775807 →
  Calls Tryz.prog f #[x.v, .int .i64 m, u.v] w fun e w' => e = .returned (.tuple #[.bool (allE x.g m u.zs), .int .i64 (nearErr x.g m u.zs)]) ∧ Below w.heap.size w w'
end Go.Proofs.YtdckoaljcklmhaaGreatDoor

