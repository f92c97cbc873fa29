/-
  Walks of the document's Put and Gains of a market.
-/
import Derived.Test.YtjjaajmjcdihoaaDoorRef04
import Derived.Test.YtjjaajmjcdihoaaDoorMarkO
namespace Go.Proofs.YtjjaajmjcdihoaaDoor
open Go.RowKit
set_option linter.unusedVariables false

theorem mayM_out {r : List Int} {b : List (List Int)} {o : List Int} (h : ¬ (mayB r r.length = true ∧ (1 ≤ b.length ∧ b.length ≤ 8 ∧ o.length = b.length))) : mayM r b o = false := by
  rw [Bool.eq_false_iff]
  intro hm
  have h1 := (mayM_iff r b o).1 hm
  exact h ⟨h1.1, h1.2.1⟩
theorem mayM_bid {r : List Int} {b : List (List Int)} {o : List Int} {j : Nat} {l : List Int} (hj : b[j]? = some l) (h : bidB l r.length = false) : mayM r b o = false := by
  rw [Bool.eq_false_iff]
  intro hm
  have h1 := ((mayM_iff r b o).1 hm).2.2.1 l (List.mem_of_getElem? hj)
  rw [h] at h1
  cases h1
theorem mayM_times {r : List Int} {b : List (List Int)} {o : List Int} {j : Nat} (hj : j < b.length) (h : times o (j : Nat) ≠ 1) : mayM r b o = false := by
  rw [Bool.eq_false_iff]
  intro hm
  exact h (((mayM_iff r b o).1 hm).2.2.2 j hj)
theorem mayM_in {r : List Int} {b : List (List Int)} {o : List Int} (h1 : mayB r r.length = true) (h2 : 1 ≤ b.length ∧ b.length ≤ 8 ∧ o.length = b.length) (h3 : ∀ l ∈ b, bidB l r.length = true) (h4 : ∀ i, i < b.length → times o (i : Nat) = 1) : mayM r b o = true :=
  (mayM_iff r b o).2 ⟨h1, h2, h3, h4⟩
theorem times_step (o : List Int) (j k : Nat) (hk : k < o.length) : ((o.take (k + 1)).countP fun z => decide (z = (j : Int))) = ((o.take k).countP fun z => decide (z = (j : Int))) + if o[k] = (j : Int) then 1 else 0 := by
  rw [List.take_succ_eq_append_getElem hk, List.countP_append, List.countP_cons, List.countP_nil]
  by_cases h : o[k] = (j : Int)
  · simp [h]
  · simp [h]

end Go.Proofs.YtjjaajmjcdihoaaDoor

namespace Go.Proofs.YtjjaajmjcdihoaaDoor
open Go.RowKit
set_option linter.unusedVariables false
theorem InBox.whole {w : World} {g : Nat} {x : Mk} (h : InBox w g x) : InBox w g x := h
end Go.Proofs.YtjjaajmjcdihoaaDoor
