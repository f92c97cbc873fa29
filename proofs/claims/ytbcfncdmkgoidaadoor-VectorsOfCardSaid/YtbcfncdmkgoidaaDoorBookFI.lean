/-
  Walks of the Book: Ints (told a list).
-/
import Derived.Test.YtbcfncdmkgoidaaDoorProg
import Derived.Test.YtbcfncdmkgoidaaDoorBookWI
import Derived.Test.YtbcfncdmkgoidaaDoorBookF
import Derived.BigQuiet
import Derived.Deep.QuietTactic
import Derived.Deep.DeepMust
namespace Go.Proofs.YtbcfncdmkgoidaaDoor
open Go.RowKit
set_option linter.unusedVariables false

set_option maxHeartbeats 400000 in
theorem toldInt_any (kb N : Nat) (vb vi : Value) (hb hi : List Hl) (A : Option Addr) (n c : Nat) (w : World) (hk : Bk 43 62 60 w kb N vb vi hb hi) (hN : N < 900) (hl : hi.length ≤ 900) :
    Calls Tryd.prog 16 #[.pointer (some ⟨kb, 0, none⟩), .slice A n c] w fun e w' => e = .returned (.tuple #[]) ∧ ∃ v', Bk 43 62 60 w' kb (N + 1) vb v' hb (hi ++ [⟨A, n, c, none, 0, 0, N + 1⟩]) ∧ Below kb w w' := by
  go_enter Tryd.func16, Tryd.ntmps16
  go_wp2_with fail
  refine (keepInt_any kb N vb vi hb hi A n c w hk hN hl).mono ?_
  rintro e w1 ⟨rfl, v', h1, h2⟩
  go_wp2
  go_end0
  exact ⟨rfl, v', h1, h2⟩

end Go.Proofs.YtbcfncdmkgoidaaDoor
