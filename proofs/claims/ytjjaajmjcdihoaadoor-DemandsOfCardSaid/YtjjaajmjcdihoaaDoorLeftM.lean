/-
  Walks of LeftIntLists and LeftMarket: is a twin as it was made, the mark behind it too?
-/
import Derived.Test.YtjjaajmjcdihoaaDoorTwinM
namespace Go.Proofs.YtjjaajmjcdihoaaDoor
open Go.RowKit
set_option linter.unusedVariables false

/-- A twin of a list of ints is left as it was. -/
theorem Twn.left {w : World} {B : Nat} {u : Ls} (h : Twn w B u) (A2 : Option Addr) (c2 : Nat) (hr2 : Rd w A2 u.n (ci64 u.zs)) (hn : u.n ≤ 1000000000) :
    Calls Tryd.prog 8 #[.slice u.A u.n u.c, .slice A2 u.n c2] w fun e w' => e = .returned (.bool true) ∧ Below w.heap.size w w' :=
  leftints_any u.A u.n u.c u.zs A2 c2 w B h.own hr2 hn

end Go.Proofs.YtjjaajmjcdihoaaDoor
