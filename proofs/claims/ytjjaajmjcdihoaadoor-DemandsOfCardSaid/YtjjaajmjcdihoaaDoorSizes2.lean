/-
  How much is in a list of lists, in a market: just that number, where it is not too much.
-/
import Derived.Test.YtjjaajmjcdihoaaDoorBulk
import Derived.Test.YtjjaajmjcdihoaaDoorMarkO
namespace Go.Proofs.YtjjaajmjcdihoaaDoor
open Go.RowKit
set_option linter.unusedVariables false

def sumN (l : List Ls) : Nat := (l.map Ls.n).sum
theorem sizeL_sum (l : List Ls) : sizeL l = l.length + sumN l := by
  induction l with
  | nil => rfl
  | cons u l ih => simp only [sizeL, sumN, List.map_cons, List.sum_cons, List.length_cons] at ih ⊢; omega
theorem sumN_snoc (l : List Ls) (u : Ls) : sumN (l ++ [u]) = sumN l + u.n := by simp [sumN]
theorem sumN_take_le (l : List Ls) (j : Nat) : sumN (l.take j) ≤ sumN l := by
  have h := congrArg sumN (List.take_append_drop j l)
  rw [show sumN (l.take j ++ l.drop j) = sumN (l.take j) + sumN (l.drop j) by simp only [sumN, List.map_append, List.sum_append]] at h
  omega
theorem size_mem {l : List Ls} {u : Ls} (h : u ∈ l) : u.n + 1 ≤ sizeL l := by
  induction l with
  | nil => simp at h
  | cons x l ih =>
    simp only [sizeL, List.map_cons, List.sum_cons] at ih ⊢
    rcases List.mem_cons.1 h with rfl | h
    · omega
    · have := ih h; omega

/-- How much is in a market. -/
def Mk.size (x : Mk) : Nat := 1 + x.r.n + sizeL x.b + x.o.n

end Go.Proofs.YtjjaajmjcdihoaaDoor
