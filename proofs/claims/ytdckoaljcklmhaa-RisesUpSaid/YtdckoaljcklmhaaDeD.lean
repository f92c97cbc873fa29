/-
  Layer 12: what a bid would have at prices; what follows when prices move.
-/
import Derived.Test.YtdckoaljcklmhaaWeI
import Derived.Test.YtdckoaljcklmhaaVecD
namespace Go.Proofs.Ytdckoaljcklmhaa
set_option linter.unusedVariables false

/-- May prices be? -/
def mayPr (p : List Int) : Bool := decide (1 ≤ p.length) && (decide (p.length ≤ 8) && p.all fun z => decide (0 ≤ z) && decide (z ≤ 2000000))
theorem mayPr_iff {p : List Int} : mayPr p = true ↔ 1 ≤ p.length ∧ p.length ≤ 8 ∧ ∀ z ∈ p, 0 ≤ z ∧ z ≤ 2000000 := by
  simp [mayPr]
/-- May a bid be at these prices? -/
def mayD (b p : List Int) : Bool := mayPr p && (decide (b = []) || mayB b p.length)
theorem mayD_iff {b p : List Int} : mayD b p = true ↔ mayPr p = true ∧ (b = [] ∨ mayB b p.length = true) := by
  simp [mayD]
theorem mayD_len {b p : List Int} (h : mayD b p = true) : 1 ≤ p.length ∧ p.length ≤ 8 ∧ (b = [] ∨ b.length = p.length) ∧ (∀ z ∈ b, 0 ≤ z ∧ z ≤ 1000000) ∧ ∀ z ∈ p, 0 ≤ z ∧ z ≤ 2000000 := by
  obtain ⟨h1, h2⟩ := mayD_iff.1 h
  obtain ⟨h3, h4, h5⟩ := mayPr_iff.1 h1
  refine ⟨h3, h4, ?_, ?_, h5⟩
  · rcases h2 with h2 | h2
    · exact .inl h2
    · have := (mayB_iff _ _).1 h2
      exact .inr (by omega)
  · rcases h2 with rfl | h2
    · exact fun z hz => (nomatch hz)
    · exact ((mayB_iff _ _).1 h2).2.2.2
def gapD (b p : List Int) (k : Nat) : Int := b.getD k 0 - p.getD k 0
/-- How much it gains, at most. -/
def gainD (b p : List Int) : Int := topN (gapD b p) b.length
/-- What it would have. -/
def itemsN (b p : List Int) : List Nat := (List.range b.length).filter fun k => decide (gapD b p k = gainD b p)
def itemsD (b p : List Int) : List Int := (itemsN b p).map fun (k : Nat) => (k : Int)
section
variable {b p b' p' : List Int}
theorem top_is (f : Nat → Int) : ∀ m, topN f m = 0 ∨ ∃ k, k < m ∧ topN f m = f k
  | 0 => .inl rfl
  | m + 1 => by
    rw [topN]
    rcases Int.le_total (topN f m) (f m) with h | h
    · rw [Int.max_eq_right h]; exact .inr ⟨m, by omega, rfl⟩
    · rw [Int.max_eq_left h]
      rcases top_is f m with h1 | ⟨k, h1, h2⟩
      · exact .inl h1
      · exact .inr ⟨k, by omega, h2⟩
theorem mem_itemsN {k : Nat} : k ∈ itemsN b p ↔ k < b.length ∧ gapD b p k = gainD b p := by
  rw [itemsN, List.mem_filter, List.mem_range, decide_eq_true_eq]
theorem gap_le {k : Nat} (h : k < b.length) : gapD b p k ≤ gainD b p := top_ge h
theorem gain_nonneg : 0 ≤ gainD b p := top_nonneg _ _
theorem gain_at (h : 0 < gainD b p) : ∃ k, k ∈ itemsN b p := by
  rcases top_is (gapD b p) b.length with h1 | ⟨k, h1, h2⟩
  · unfold gainD at h; omega
  · exact ⟨k, mem_itemsN.2 ⟨h1, h2.symm⟩⟩
theorem gain_le {a : Int} (h0 : 0 ≤ a) (h : ∀ k, k < b.length → gapD b p k ≤ a) : gainD b p ≤ a := top_le h0 h
theorem items_sorted : (itemsN b p).Pairwise (· < ·) := List.Pairwise.filter _ List.pairwise_lt_range
theorem items_len : (itemsN b p).length ≤ b.length := Nat.le_trans (List.length_filter_le _ _) (by simp)
/-- Two that gain the same by each item would have the same. -/
theorem same_gaps (hl : b'.length = b.length) (h : ∀ k, k < b.length → gapD b' p' k = gapD b p k) : gainD b' p' = gainD b p ∧ itemsN b' p' = itemsN b p := by
  have h1 : gainD b' p' = gainD b p := by rw [gainD, gainD, hl]; exact top_congr h
  refine ⟨h1, ?_⟩
  rw [itemsN, itemsN, hl, h1]
  exact List.filter_congr fun k hk => by rw [h k (List.mem_range.1 hk)]
theorem mul_gaps {f : Nat} (hf : 0 < f) (hl : b'.length = b.length) (h : ∀ k, k < b.length → gapD b' p' k = f * gapD b p k) : gainD b' p' = f * gainD b p ∧ itemsN b' p' = itemsN b p := by
  have h1 : gainD b' p' = f * gainD b p := by
    rw [gainD, gainD, hl, ← top_mul hf]; exact top_congr h
  refine ⟨h1, ?_⟩
  rw [itemsN, itemsN, hl, h1]
  exact List.filter_congr fun k hk => by
    rw [h k (List.mem_range.1 hk), decide_eq_decide]
    exact ⟨fun h => Int.eq_of_mul_eq_mul_left (by omega) h, fun h => by rw [h]⟩
theorem gap_set {k j : Nat} {v : Int} (hk : k < p.length) : gapD b (p.set k v) j = if j = k then b.getD k 0 - v else gapD b p j := by
  unfold gapD
  rw [List.getD_eq_getElem?_getD (l := p.set k v), List.getElem?_set]
  by_cases e : j = k
  · rw [if_pos e.symm, if_pos hk, if_pos e, e]; rfl
  · rw [if_neg (fun h => e h.symm), if_neg e, ← List.getD_eq_getElem?_getD]
/-- A price is higher. -/
theorem raised_le {k : Nat} {v : Int} (hk : k < p.length) (hv : p.getD k 0 < v) : gainD b (p.set k v) ≤ gainD b p := gain_le gain_nonneg fun j hj => by
  rw [gap_set hk]
  by_cases e : j = k
  · rw [if_pos e]
    have h1 := gap_le (p := p) hj
    rw [e, gapD] at h1
    omega
  · rw [if_neg e]; exact gap_le hj
theorem raised_same {k : Nat} {v : Int} (hk : k < p.length) (hv : p.getD k 0 < v) (hw : (itemsN b p).filter (fun j => decide (j ≠ k)) ≠ [] ∨ itemsN b p = []) :
    gainD b (p.set k v) = gainD b p ∧ itemsN b (p.set k v) = (itemsN b p).filter fun j => decide (j ≠ k) := by
  have h1 : gainD b (p.set k v) = gainD b p := by
    refine Int.le_antisymm (raised_le hk hv) ?_
    rcases hw with hw | hw
    · obtain ⟨j, hj⟩ := List.exists_mem_of_ne_nil _ hw
      rw [List.mem_filter, decide_eq_true_eq] at hj
      obtain ⟨h3, h4⟩ := mem_itemsN.1 hj.1
      have h5 := gap_le (b := b) (p := p.set k v) h3
      rw [gap_set hk, if_neg hj.2, h4] at h5
      exact h5
    · have h3 : ¬ 0 < gainD b p := fun h => by
        obtain ⟨j, hj⟩ := gain_at h
        rw [hw] at hj; cases hj
      have h4 := gain_nonneg (b := b) (p := p.set k v)
      omega
  refine ⟨h1, ?_⟩
  rw [itemsN, itemsN, List.filter_filter, h1]
  refine List.filter_congr fun j hj => ?_
  rw [gap_set hk]
  by_cases e : j = k
  · rw [if_pos e, decide_eq_false (show ¬ (b.getD k 0 - v = gainD b p) from fun h => by
      have h2 := gap_le (b := b) (p := p) (k := k) (by rw [← e]; exact List.mem_range.1 hj)
      unfold gapD at h2
      omega), decide_eq_false (fun h => h e)]; rfl
  · rw [if_neg e, decide_eq_true (show j ≠ k from e), Bool.true_and]
/-- A price is lower that one would have. -/
theorem lower_one {k : Nat} {v : Int} (hm : k ∈ itemsN b p) (hk : k < p.length) (hv : v < p.getD k 0) : gainD b (p.set k v) = gainD b p + (p.getD k 0 - v) ∧ itemsN b (p.set k v) = [k] := by
  obtain ⟨h1, h2⟩ := mem_itemsN.1 hm
  have h0 := gain_nonneg (b := b) (p := p)
  have hgk : gapD b (p.set k v) k = gainD b p + (p.getD k 0 - v) := by
    rw [gap_set hk, if_pos rfl]
    unfold gapD at h2
    omega
  have hg : gainD b (p.set k v) = gainD b p + (p.getD k 0 - v) := by
    refine Int.le_antisymm (gain_le (by omega) fun j hj => ?_) ?_
    · by_cases e : j = k
      · rw [e, hgk]; omega
      · rw [gap_set hk, if_neg e]
        have := gap_le (p := p) hj
        omega
    · rw [← hgk]; exact gap_le h1
  refine ⟨hg, ?_⟩
  have hmem : ∀ j, j ∈ itemsN b (p.set k v) ↔ j = k := fun j => by
    rw [mem_itemsN, hg]
    constructor
    · rintro ⟨h3, h4⟩
      by_cases e : j = k
      · exact e
      · rw [gap_set hk, if_neg e] at h4
        have := gap_le (p := p) h3
        omega
    · intro e
      rw [e]; exact ⟨h1, hgk⟩
  have hs := items_sorted (b := b) (p := p.set k v)
  generalize itemsN b (p.set k v) = l at hmem hs
  match l, hmem, hs with
  | [], hmem, _ => exact absurd ((hmem k).2 rfl) (by simp)
  | [j], hmem, _ => rw [(hmem j).1 (by simp)]
  | j :: i :: l, hmem, hs =>
    have h3 := (hmem j).1 (by simp)
    have h4 := (hmem i).1 (by simp)
    have h5 := (List.pairwise_cons.1 hs).1 i (by simp)
    omega
end
end Go.Proofs.Ytdckoaljcklmhaa
