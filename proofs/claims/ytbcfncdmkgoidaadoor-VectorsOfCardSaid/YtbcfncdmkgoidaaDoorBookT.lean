/-
  From what calls have made to what a Book is told: where it lies, what it holds; lists in blocks of their own.
-/
import Derived.Test.YtbcfncdmkgoidaaDoorBookE
import Derived.Test.YtbcfncdmkgoidaaDoorTwin
namespace Go.Proofs.YtbcfncdmkgoidaaDoor
open Go.RowKit
set_option linter.unusedVariables false

/-- What a call has made lies from B on. -/
theorem Own.range {w : World} {B : Nat} {e : TypeId} {A : Option Addr} {n c : Nat} {xs : List Value} (h : Own w B e A n c xs) : ∀ g, 0 < c → A = some ⟨g, 0, none⟩ → B ≤ g ∧ g < w.heap.size := by
  intro g hc hA
  obtain ⟨g', hA', h1, h2⟩ := h.lt hc
  rw [hA] at hA'
  cases hA'
  exact ⟨h1, h2⟩
/-- What was made ahead of a book, behind what the book is told. -/
theorem Own.book {w w' : World} {B : Nat} {e : TypeId} {A : Option Addr} {n c : Nat} {xs : List Value} {o : Obj} (h : Own w B e A n c xs) (hb : Below w.heap.size (w.alloc o) w') : Own w' B e A n c xs :=
  h.keep fun g _ _ _ hlt => (hb.block g hlt).trans (Below.heap_alloc w o g hlt)
/-- A twin without its mark. -/
theorem own_twin {w : World} {B n c : Nat} {A : Option Addr} {bs : List UInt8} (hl : bs.length = n) (h : Own w B 5 A (n + 1) c (cu8 (bs ++ [77]))) : Own w B 5 A n c (cu8 bs) := by
  have h2 := h.less (m := n) (by omega)
  rw [cu8_take, List.take_append_of_le_length (by omega), List.take_of_length_le (by omega)] at h2
  exact h2
theorem own_twinI {w : World} {B n c : Nat} {A : Option Addr} {bs : List Int} (hl : bs.length = n) (h : Own w B 3 A (n + 1) c (ci64 (bs ++ [77]))) : Own w B 3 A n c (ci64 bs) := by
  have h2 := h.less (m := n) (by omega)
  rw [ci64_take, List.take_append_of_le_length (by omega), List.take_of_length_le (by omega)] at h2
  exact h2
/-- Lists in blocks of their own. -/
theorem sep_ranges (rs : List (Hl × Nat × Nat)) (hr : ∀ r ∈ rs, ∀ g, Hit r.1 g → r.2.1 ≤ g ∧ g < r.2.2) (hp : rs.Pairwise fun a b => a.2.2 ≤ b.2.1 ∨ b.2.2 ≤ a.2.1) : Sep (rs.map (·.1)) := by
  refine List.pairwise_map.2 (hp.imp_of_mem ?_)
  intro a b ha hb h g hg hg2
  have h1 := hr a ha g hg
  have h2 := hr b hb g hg2
  omega
end Go.Proofs.YtbcfncdmkgoidaaDoor
