/-
  What the laws of layer 10 lean on: gains that came in, in their box; the laws' own functions.
-/
import Derived.Test.YtecgakfblhiiaaaWeI
import Derived.Test.YtecgakfblhiiaaaGrL
import Derived.Test.YtecgakfblhiiaaaMaL
import Derived.Test.YtecgakfblhiiaaaReg
import Derived.Deep.CutRange
namespace Go.Proofs.Ytecgakfblhiiaaa
open Go.RowKit
set_option linter.unusedVariables false

structure WBox (w : World) (g : Nat) (x : Gr) (m : Int) : Prop where
  c0 : w.cell? ⟨g, 0, none⟩ = some (.slice x.A x.n x.c)
  c1 : w.cell? ⟨g, 1, none⟩ = some (.int .i64 m)
  lt : g < w.heap.size
theorem WBox.below {w w' : World} {g : Nat} {x : Gr} {m : Int} (h : WBox w g x m) (hb : Below w.heap.size w w') : WBox w' g x m :=
  ⟨(hb.cell (p := ⟨g, 0, none⟩) h.lt).trans h.c0, (hb.cell (p := ⟨g, 1, none⟩) h.lt).trans h.c1, Nat.lt_of_lt_of_le h.lt hb.size⟩
theorem WBox.new (w : World) (x : Gr) (m : Int) : WBox (w.alloc (.cells #[.slice x.A x.n x.c, .int .i64 m] 24)) w.heap.size x m := by
  have h := heap_alloc_new w (.cells #[.slice x.A x.n x.c, .int .i64 m] 24)
  exact ⟨by rw [cell_of_row _ _ 0 _ _ _ h]; rfl, by rw [cell_of_row _ _ 1 _ _ _ h]; rfl, by simp⟩

/-- May a row be, up to so many of it? -/
def okZ (l : List Int) : Bool := l.all fun z => decide (-1000000 ≤ z) && decide (z ≤ 1000000)
def okRow (m : Int) (l : List Int) : Bool := decide ((l.length : Int) = m) && okZ l
theorem mayW_rows (g : List (List Int)) (m : Int) : mayW g m = (decide (1 ≤ m) && (decide (m ≤ 8) && (decide (g.length ≤ 8) && g.all (okRow m)))) := rfl
theorem okZ_snoc {l : List Int} {j : Nat} (h : j < l.length) : okZ (l.take (j + 1)) = (okZ (l.take j) && (decide (-1000000 ≤ l[j]) && decide (l[j] ≤ 1000000))) := by
  rw [okZ, List.take_succ_eq_append_getElem h, List.all_append, ← okZ]; simp
theorem rows_snoc {g : List (List Int)} {m : Int} {j : Nat} {l : List Int} (h : g[j]? = some l) : (g.take (j + 1)).all (okRow m) = ((g.take j).all (okRow m) && okRow m l) := by
  obtain ⟨hj, rfl⟩ := List.getElem?_eq_some_iff.1 h
  rw [List.take_succ_eq_append_getElem hj, List.all_append]; simp
end Go.Proofs.Ytecgakfblhiiaaa
