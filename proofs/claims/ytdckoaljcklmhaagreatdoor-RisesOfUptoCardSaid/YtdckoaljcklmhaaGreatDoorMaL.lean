/-
  A graph of three lists that was just written down, and a list behind it.
-/
import Derived.Test.YtdckoaljcklmhaaGreatDoorGrL
import Derived.Test.YtdckoaljcklmhaaGreatDoorGrN
namespace Go.Proofs.YtdckoaljcklmhaaGreatDoor
open Go.RowKit
set_option linter.unusedVariables false

/-- A list of lists of the call's own, in which one list is another one. -/
theorem own_lists {w : World} {B : Nat} {A : Option Addr} {n c : Nat} {t : List Ls} (own : Own w B 22 A n c (t.map Ls.v)) (h : ∀ v ∈ t, v.Ok w) : Gr.Ok w ⟨A, n, c, t⟩ := ⟨⟨outs_at own, h⟩, own.le, own.cap⟩
theorem own_put {w : World} {B g n c b : Nat} {t : List Ls} {u : Ls} (own : Own w B 22 (some ⟨g, 0, none⟩) n c (t.map Ls.v)) (hb : b < n) : Own (w.setCell ⟨g, b, none⟩ u.v) B 22 (some ⟨g, 0, none⟩) n c ((t.set b u).map Ls.v) := by
  have h1 := own.set (by have := own.le; omega) b u.v
  rw [← List.map_set] at h1
  exact h1
/-- A store into a list of lists leaves lists of another type as they were. -/
theorem Own.setL {w : World} {B B' : Nat} {A : Option Addr} {g n c n2 c2 b : Nat} {xs ys : List Value} {e : TypeId} {v : Value} (h : Own w B' e A n2 c2 ys) (own : Own w B 22 (some ⟨g, 0, none⟩) n c xs) (hc : 0 < c) (hne : 22 ≠ e) : Own (w.setCell ⟨g, b, none⟩ v) B' e A n2 c2 ys := by
  refine ⟨h.1, ?_⟩
  rcases h.2 with h0 | ⟨g', cur, hA, hg, hh, r⟩
  · exact .inl h0
  · refine .inr ⟨g', cur, hA, hg, ?_, r⟩
    rw [heap_setCell_other _ _ _ _ (show g' ≠ g by
      rintro rfl
      rcases own_apart own hh hne with h1 | h1
      · omega
      · exact h1 rfl)]
    exact hh
theorem OwnI.setL {w : World} {B B' : Nat} {u : Ls} {g n c b : Nat} {xs : List Value} {v : Value} (h : OwnI w B' u) (own : Own w B 22 (some ⟨g, 0, none⟩) n c xs) (hc : 0 < c) : OwnI (w.setCell ⟨g, b, none⟩ v) B' u := ⟨h.own.setL own hc (by decide), h.fit⟩
theorem Twn.setL {w : World} {B B' : Nat} {u : Ls} {g n c b : Nat} {xs : List Value} {v : Value} (h : Twn w B' u) (own : Own w B 22 (some ⟨g, 0, none⟩) n c xs) (hc : 0 < c) : Twn (w.setCell ⟨g, b, none⟩ v) B' u := ⟨h.own.setL own hc (by decide), h.fit⟩
theorem OwnI.drew {w : World} {B : Nat} {u : Ls} (h : OwnI w B u) : OwnI w.drew B u := ⟨h.own.drew, h.fit⟩
end Go.Proofs.YtdckoaljcklmhaaGreatDoor

