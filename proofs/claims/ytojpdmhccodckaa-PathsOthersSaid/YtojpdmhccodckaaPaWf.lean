/-
  Walks of package paths: a list sorted (the library's own sort, by its contract).
-/
import Derived.Test.YtojpdmhccodckaaPaWe
import Derived.Shelf.Sort.Plain
import Derived.Shelf.Lay
import Derived.Ground.NamesProg
import Derived.Sort.OwnSortedInts
namespace Go.Proofs
open Go.Shelf
shelf_lay Lays.n189 Nm 189 at Try as Try.laysSort
end Go.Proofs
namespace Go.Proofs.Ytojpdmhccodckaa
open Go.RowKit Go.Shelf Go.Sort
set_option linter.unusedVariables false

theorem psort_any (B g n c : Nat) (zs : List Int) (w : World) (own : Own w B 3 (some ⟨g, 0, none⟩) n c (ci64 zs)) (hn : 0 < n) (hn2 : n ≤ 100) :
    Calls Try.prog 25 #[.slice (some ⟨g, 0, none⟩) n c] w fun e w' => e = .returned (.tuple #[]) ∧ Own w' B 3 (some ⟨g, 0, none⟩) n c (ci64 (zs.mergeSort fun x y => decide (x ≤ y))) ∧ w.grownBy w' (some g) := by
  have hl : zs.length = n := by have := own.len; rwa [ci64_len] at this
  obtain ⟨g', cur, hA, hg, hh, h1, h2, h3, h4⟩ := own.2.resolve_left (by omega)
  cases hA
  subst hl
  have hH : Holds (Value.int .i64) w g 0 zs.toArray := holds_of_blockI hh h4
  refine (Any.slices_Sort_int Try.laysSort g 0 c zs w hH (Array.getElem?_eq_some_iff.1 hh).1 (by omega)).mono ?_
  rintro e w' ⟨rfl, k, os, rfl⟩
  have hlm : (zs.mergeSort fun x y => decide (x ≤ y)).length = zs.length := List.length_mergeSort _
  refine ⟨rfl, ⟨by rw [ci64_len, hlm], .inr ⟨g, _, rfl, hg, heap_sortedI _ hh, h1, h2, by simp [putCells, h3], ?_⟩⟩, grownBy_sortedI _⟩
  have := take_putCellsI cur (zs.mergeSort fun x y => decide (x ≤ y)) (by omega)
  rw [hlm] at this
  exact this
end Go.Proofs.Ytojpdmhccodckaa
