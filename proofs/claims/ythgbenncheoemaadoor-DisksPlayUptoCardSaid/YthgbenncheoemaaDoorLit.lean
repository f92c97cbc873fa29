/-
  What a literal of bytes reads, in the world in which it was laid just now.
-/
import Derived.Test.YthgbenncheoemaaDoorKit
import Derived.Test.YthgbenncheoemaaDoorNumsD
namespace Go.Proofs.YthgbenncheoemaaDoor
open Go.RowKit

/-- What a literal of bytes reads, in the world in which it was laid just now. -/
theorem rd_lit (w : World) (e : TypeId) (cs : Array Value) (fr : Nat × Nat) (n g : Nat) (hg : w.heap.size = g) (bs : List UInt8) (hc : cs.toList = cu8 bs) (hn : bs.length = n) : Rd (w.alloc (.cells cs e fr)) (some ⟨g, 0, none⟩) n (cu8 bs) := by
  subst hg
  rw [← hc]
  have hl : cs.toList.length = n := by rw [hc, cu8_len, hn]
  refine ⟨hl, fun _ => ⟨w.heap.size, 0, rfl, fun j hj => ?_⟩⟩
  rw [cell_of_row _ _ _ _ _ _ (heap_alloc_new w _), Nat.zero_add]
  simp

end Go.Proofs.YthgbenncheoemaaDoor
