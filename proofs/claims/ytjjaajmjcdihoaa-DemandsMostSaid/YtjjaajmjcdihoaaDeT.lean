/-
  What a bid gains the most by, found from the last item on; a list turned in its place.
-/
import Derived.Test.YtjjaajmjcdihoaaDeD
namespace Go.Proofs.Ytjjaajmjcdihoaa
set_option linter.unusedVariables false

def gapB (b p : List Int) (k : Nat) : Int := gapD b p (b.length - 1 - k)
def gB (b p : List Int) (m : Nat) : Int := topN (gapB b p) m
def iB (b p : List Int) (m : Nat) : List Int := ((List.range m).filter fun k => decide (gapB b p k = gB b p m)).map fun k => ((b.length - 1 - k : Nat) : Int)
section
variable {b p : List Int} {m : Nat}
theorem gB_zero : gB b p 0 = 0 := rfl
theorem iB_zero : iB b p 0 = [] := rfl
theorem gB_succ : gB b p (m + 1) = max (gB b p m) (gapB b p m) := rfl
theorem gB_nonneg : 0 ≤ gB b p m := top_nonneg _ _
theorem iB_len : (iB b p m).length ≤ m := by
  rw [iB, List.length_map]
  exact Nat.le_trans (List.length_filter_le _ _) (by simp)
theorem iB_gt (h : gB b p m < gapB b p m) : gB b p (m + 1) = gapB b p m ∧ iB b p (m + 1) = [((b.length - 1 - m : Nat) : Int)] := by
  have h1 : gB b p (m + 1) = gapB b p m := by rw [gB_succ]; exact Int.max_eq_right (by omega)
  refine ⟨h1, ?_⟩
  rw [iB, h1, List.range_succ, List.filter_append]
  have h2 : (List.range m).filter (fun k => decide (gapB b p k = gapB b p m)) = [] := by
    refine List.filter_eq_nil_iff.2 fun k hk => ?_
    have h3 : gapB b p k ≤ gB b p m := top_ge (List.mem_range.1 hk)
    simp only [decide_eq_true_eq]; omega
  rw [h2]; simp
theorem iB_eq (h : gapB b p m = gB b p m) : gB b p (m + 1) = gB b p m ∧ iB b p (m + 1) = iB b p m ++ [((b.length - 1 - m : Nat) : Int)] := by
  have h1 : gB b p (m + 1) = gB b p m := by rw [gB_succ]; exact Int.max_eq_left (by omega)
  refine ⟨h1, ?_⟩
  rw [iB, h1, List.range_succ, List.filter_append, List.map_append]
  simp [iB, h]
theorem iB_lt (h : gapB b p m < gB b p m) : gB b p (m + 1) = gB b p m ∧ iB b p (m + 1) = iB b p m := by
  have h1 : gB b p (m + 1) = gB b p m := by rw [gB_succ]; exact Int.max_eq_left (by omega)
  refine ⟨h1, ?_⟩
  have h2 : ¬ gapB b p m = gB b p m := by omega
  rw [iB, h1, List.range_succ, List.filter_append, List.map_append]
  simp [iB, h2]
theorem gB_all : gB b p b.length = gainD b p := by
  refine Int.le_antisymm (top_le gain_nonneg fun k hk => gap_le (by omega)) (gain_le gB_nonneg fun k hk => ?_)
  have h : gapB b p (b.length - 1 - k) ≤ gB b p b.length := top_ge (by omega)
  rwa [gapB, show b.length - 1 - (b.length - 1 - k) = k by omega] at h
theorem range_back : ∀ n : Nat, (List.range n).map (fun k => n - 1 - k) = (List.range n).reverse
  | 0 => rfl
  | n + 1 => by
    rw [List.range_succ, List.reverse_append, List.reverse_singleton, List.singleton_append, ← range_back n, ← List.range_succ, List.range_succ_eq_map, List.map_cons, List.map_map]
    congr 1
    refine List.map_congr_left fun k hk => ?_
    show n + 1 - 1 - (k + 1) = n - 1 - k
    omega
theorem iB_all : (iB b p b.length).reverse = itemsD b p := by
  have h1 : (itemsN b p).reverse = ((List.range b.length).filter fun k => decide (gapB b p k = gB b p b.length)).map fun k => b.length - 1 - k := by
    rw [itemsN, ← List.filter_reverse, ← range_back, List.filter_map, gB_all]
    rfl
  rw [iB, itemsD, ← List.map_reverse]
  rw [← List.reverse_reverse (itemsN b p), h1, List.map_reverse, List.map_reverse, List.map_map]
  rfl
end
/-- k of a list's first and last ones exchanged. -/
def TurnedTo (xs ys : List Int) (k : Nat) : Prop := ys.length = xs.length ∧ ∀ i, i < xs.length → ys[i]? = if i < k ∨ xs.length - k ≤ i then xs[xs.length - 1 - i]? else xs[i]?
theorem TurnedTo.zero (xs : List Int) : TurnedTo xs xs 0 := ⟨rfl, fun i hi => by rw [if_neg (by omega)]⟩
theorem TurnedTo.done {xs ys : List Int} {k : Nat} (h : TurnedTo xs ys k) (hk : xs.length ≤ 2 * k + 1) : ys = xs.reverse := by
  refine List.ext_getElem? fun i => ?_
  by_cases hi : i < xs.length
  · rw [h.2 i hi, List.getElem?_reverse hi]
    split
    · rfl
    · rw [show xs.length - 1 - i = i by omega]
  · rw [List.getElem?_eq_none (by rw [h.1]; omega), List.getElem?_eq_none (by rw [List.length_reverse]; omega)]
theorem TurnedTo.step {xs ys : List Int} {k j : Nat} (h : TurnedTo xs ys k) (hj : j = xs.length - 1 - k) (hk : k < j) {a c : Int} (ha : ys[k]? = some a) (hc : ys[j]? = some c) : TurnedTo xs ((ys.set k c).set j a) (k + 1) := by
  have h1 := h.2 k (by omega)
  have h2 := h.2 j (by omega)
  rw [if_neg (by omega), ha] at h1
  rw [if_neg (by omega), hc] at h2
  refine ⟨by rw [List.length_set, List.length_set]; exact h.1, fun i hi => ?_⟩
  rw [List.getElem?_set, List.length_set, h.1]
  by_cases e1 : j = i
  · rw [if_pos e1, if_pos (by omega), if_pos (by omega), h1]
    congr 1; omega
  · rw [if_neg e1, List.getElem?_set, h.1]
    by_cases e2 : k = i
    · rw [if_pos e2, if_pos (by omega), if_pos (by omega), h2]
      congr 1; omega
    · rw [if_neg e2, h.2 i hi]
      by_cases e3 : i < k ∨ xs.length - k ≤ i
      · rw [if_pos e3, if_pos (by omega)]
      · rw [if_neg e3, if_neg (by omega)]
theorem TurnedTo.swapped {xs ys : List Int} {k j : Nat} (h : TurnedTo xs ys k) (hj : j = xs.length - 1 - k) (hk : k < j) {a c : Int} (ha : ys[k]? = some a) (hc : ys[j]? = some c) : TurnedTo xs ((ys.set j a).set k c) (k + 1) := by
  have := h.step hj hk ha hc
  rwa [List.set_comm _ _ (by omega)] at this
end Go.Proofs.Ytjjaajmjcdihoaa
