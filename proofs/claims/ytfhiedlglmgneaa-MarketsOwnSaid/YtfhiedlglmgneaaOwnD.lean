/-
  What one gains hangs on its own bid: another bid of one, another order.
-/
import Derived.Test.YtfhiedlglmgneaaMarkE
namespace Go.Proofs.Ytfhiedlglmgneaa
open Go.RowKit
set_option linter.unusedVariables false

/-- The first one stands last. -/
def rot (o : List Int) : List Int := o.drop 1 ++ [o.getD 0 0]
theorem rot_times {o : List Int} (h : 0 < o.length) (i : Int) : times (rot o) i = times o i := by
  match o, h with
  | a :: r, _ =>
    unfold times rot
    rw [List.countP_append]
    simp only [List.drop_succ_cons, List.drop_zero, List.getD_eq_getElem?_getD, List.getElem?_cons_zero, Option.getD_some, List.countP_cons, List.countP_nil]
    omega
theorem rot_len {o : List Int} (h : 0 < o.length) : (rot o).length = o.length := by
  unfold rot
  rw [List.length_append, List.length_drop, List.length_singleton]
  omega
theorem mayM_own {r : List Int} {b : List (List Int)} {o : List Int} (h : mayM r b o = true) {k : Nat} (hk : k < b.length) (l : List Int) : mayM r (b.set k l) (rot o) = bidB l r.length := by
  obtain ⟨h1, ⟨h2, h3, h4⟩, h5, h6⟩ := (mayM_iff r b o).1 h
  have ho : 0 < o.length := by omega
  rw [Bool.eq_iff_iff, mayM_iff]
  constructor
  · rintro ⟨_, _, g5, _⟩
    exact g5 l (List.mem_iff_getElem?.2 ⟨k, by rw [List.getElem?_set_self hk]⟩)
  · intro hl
    refine ⟨h1, by rw [List.length_set, rot_len ho]; exact ⟨h2, h3, h4⟩, fun x hx => ?_, fun i hi => ?_⟩
    · rcases List.mem_or_eq_of_mem_set hx with hx | rfl
      · exact h5 x hx
      · exact hl
    · rw [List.length_set] at hi
      rw [rot_times ho]
      exact h6 i hi
theorem gains_set (r : List Int) (b : List (List Int)) (k : Nat) (l : List Int) : gains r (b.set k l) = (gains r b).set k (gain r l) := by
  unfold gains
  rw [List.map_set]
theorem gains_less (r : List Int) (b : List (List Int)) (k : Nat) : gains r (less b k) = (gains r b).set k (List.replicate r.length (-1)) := by
  unfold less
  rw [gains_set]
  congr 1
  unfold gain
  rw [if_pos rfl]
  exact List.map_const' ..
end Go.Proofs.Ytfhiedlglmgneaa
