/-
  Walks of SameIntLists and SameMarket: are two lists of lists, are two markets the same?
-/
import Derived.Test.YtdckoaljcklmhaaGreatDoorSameI
import Derived.Test.YtdckoaljcklmhaaGreatDoorMark
namespace Go.Proofs.YtdckoaljcklmhaaGreatDoor
open Go.RowKit
set_option linter.unusedVariables false

/-- The slice value '.slice A n _' holds these lists of ints. -/
structure Lss (w : World) (A : Option Addr) (n : Nat) (l : List Ls) : Prop where
  at_ : RdR w 1 A n (l.map fun u => [u.v])
  ok : ∀ u ∈ l, u.Ok w
theorem Lss.len {w : World} {A : Option Addr} {n : Nat} {l : List Ls} (h : Lss w A n l) : l.length = n := by have := h.at_.1; simpa using this
theorem Lss.get {w : World} {A : Option Addr} {n : Nat} {l : List Ls} (h : Lss w A n l) {j : Nat} (hj : j < n) :
    ∃ (p q : Nat) (u : Ls), A = some ⟨p, q, none⟩ ∧ l[j]? = some u ∧ p < w.heap.size ∧ w.cell? ⟨p, q + j, none⟩ = some u.v ∧ u.Ok w := by
  obtain ⟨p, q, hA, hc⟩ := h.at_.2 (by omega)
  have hl : j < l.length := by rw [h.len]; exact hj
  have h1 := hc j [l[j].v] (by simp [hl]) 0 (by omega)
  rw [Nat.mul_one, Nat.add_zero] at h1
  exact ⟨p, q, l[j], hA, List.getElem?_eq_getElem hl, World.block_lt_of_cell? w _ h1, h1, h.ok _ (List.getElem_mem hl)⟩
theorem Mk.Ok.lss {w : World} {x : Mk} (h : x.Ok w) : Lss w x.A x.n x.b := ⟨h.b, h.bs⟩
def Ls.all (l : List Ls) : List (List Int) := l.map Ls.zs

end Go.Proofs.YtdckoaljcklmhaaGreatDoor

