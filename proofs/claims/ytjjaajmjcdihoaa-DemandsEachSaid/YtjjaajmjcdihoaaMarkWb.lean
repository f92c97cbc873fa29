/-
  Walks of package markets: gainsOf, Gains.
-/
import Derived.Test.YtjjaajmjcdihoaaMarkF
import Derived.Test.YtjjaajmjcdihoaaMarkWa
namespace Go.Proofs.Ytjjaajmjcdihoaa
open Go.RowKit
set_option linter.unusedVariables false

theorem gainB_nil (r : List Int) : gain r [] = List.replicate r.length (-1) := by
  unfold gain
  rw [if_pos rfl]
  exact List.map_const' ..
theorem gainB_some {r l : List Int} (h : l ≠ []) : gain r l = List.zipWith (· - ·) l r := by unfold gain; rw [if_neg h]
theorem infoB_ints : (Try.prog.info? 22).map (fun i => (i.zero, i.size, i.bytes)) = some (some (.slice none 0 0), 1, 24) := by kernel_rfl
theorem takeB {α : Type} {g : List α} {k : Nat} {z : α} (h : g[k]? = some z) : g.take (k + 1) = g.take k ++ [z] := by
  obtain ⟨hk, he⟩ := List.getElem?_eq_some_iff.1 h
  rw [List.take_succ_eq_append_getElem hk, he]
/-- A store into a row of ints of which the first ones are done. -/
theorem own_step {w : World} {B g m j : Nat} {gv : List Int} {z : Int} (h : Own w B 3 (some ⟨g, 0, none⟩) m m (ci64 (gv.take j ++ List.replicate (m - j) 0))) (hj : j < m) (hz : gv[j]? = some z) :
    Own (w.setCell ⟨g, j, none⟩ (.int .i64 z)) B 3 (some ⟨g, 0, none⟩) m m (ci64 (gv.take (j + 1) ++ List.replicate (m - (j + 1)) 0)) := by
  have h1 := h.set (by omega) j (.int .i64 z)
  have hlt := (List.getElem?_eq_some_iff.1 hz).1
  rw [show m - j = (m - (j + 1)) + 1 by omega, List.replicate_succ] at h1
  have h2 := ci64_set (gv.take j) (List.replicate (m - (j + 1)) 0) 0 z
  rw [List.length_take, Nat.min_eq_left (by omega)] at h2
  rw [h2] at h1
  rw [takeB hz, List.append_assoc]
  exact h1

/-- The list of bids: where it lies, and each of them. -/
theorem bids_at {w : World} {x : Mk} (h : x.Ok w) (hn : 0 < x.n) : ∃ p q, x.A = some ⟨p, q, none⟩ ∧ p < w.heap.size ∧ ∀ j, j < x.n → ∃ u, x.b[j]? = some u ∧ w.cell? ⟨p, q + j, none⟩ = some (.slice u.A u.n u.c) ∧ u.Ok w := by
  obtain ⟨p, q, u, hA, _, _, hp, _, _⟩ := h.get hn
  refine ⟨p, q, hA, hp, fun j hj => ?_⟩
  obtain ⟨p', q', u', hA', hu', _, _, hc', hk'⟩ := h.get hj
  rw [hA] at hA'
  cases hA'
  exact ⟨u', hu', hc', hk'⟩

end Go.Proofs.Ytjjaajmjcdihoaa
