/-
  Layer 12: what a bid would have at prices; what follows when prices move.
-/
import Derived.Test.YtdckoaljcklmhaaGreatDoorWeI
import Derived.Test.YtdckoaljcklmhaaGreatDoorMark
namespace Go.Proofs.YtdckoaljcklmhaaGreatDoor
set_option linter.unusedVariables false

/-- May prices be? -/
def mayPr (p : List Int) : Bool := decide (1 ≤ p.length) && (decide (p.length ≤ 8) && p.all fun z => decide (0 ≤ z) && decide (z ≤ 2000000))
theorem mayPr_iff {p : List Int} : mayPr p = true ↔ 1 ≤ p.length ∧ p.length ≤ 8 ∧ ∀ z ∈ p, 0 ≤ z ∧ z ≤ 2000000 := by
  simp [mayPr]
/-- May a bid be at these prices? -/
def mayD (b p : List Int) : Bool := mayPr p && (decide (b = []) || mayB b p.length)
theorem mayD_iff {b p : List Int} : mayD b p = true ↔ mayPr p = true ∧ (b = [] ∨ mayB b p.length = true) := by
  simp [mayD]
theorem mayD_len {b p : List Int} (h : mayD b p = true) : 1 ≤ p.length ∧ p.length ≤ 8 ∧ (b = [] ∨ b.length = p.length) ∧ (∀ z ∈ b, 0 ≤ z ∧ z ≤ 1000000) ∧ ∀ z ∈ p, 0 ≤ z ∧ z ≤ 2000000 := by
  obtain ⟨h1, h2⟩ := mayD_iff.1 h
  obtain ⟨h3, h4, h5⟩ := mayPr_iff.1 h1
  refine ⟨h3, h4, ?_, ?_, h5⟩
  · rcases h2 with h2 | h2
    · exact .inl h2
    · have := (mayB_iff _ _).1 h2
      exact .inr (by omega)
  · rcases h2 with rfl | h2
    · exact fun z hz => (nomatch hz)
    · exact ((mayB_iff _ _).1 h2).2.2.2
def gapD (b p : List Int) (k : Nat) : Int := b.getD k 0 - p.getD k 0
/-- How much it gains, at most. -/
def gainD (b p : List Int) : Int := topN (gapD b p) b.length
/-- What it would have. -/
def itemsN (b p : List Int) : List Nat := (List.range b.length).filter fun k => decide (gapD b p k = gainD b p)
def itemsD (b p : List Int) : List Int := (itemsN b p).map fun (k : Nat) => (k : Int)
section
variable {b p b' p' : List Int}
theorem top_is (f : Nat → Int) : ∀ m, topN f m = 0 ∨ ∃ k, k < m ∧ topN f m = f k
  | 0 => .inl rfl
  | m + 1 => by
    rw [topN]
    rcases Int.le_total (topN f m) (f m) with h | h
    · rw [Int.max_eq_right h]; exact .inr ⟨m, by omega, rfl⟩
    · rw [Int.max_eq_left h]
      rcases top_is f m with h1 | ⟨k, h1, h2⟩
      · exact .inl h1
      · exact .inr ⟨k, by omega, h2⟩
theorem mem_itemsN {k : Nat} : k ∈ itemsN b p ↔ k < b.length ∧ gapD b p k = gainD b p := by
  rw [itemsN, List.mem_filter, List.mem_range, decide_eq_true_eq]
theorem gap_le {k : Nat} (h : k < b.length) : gapD b p k ≤ gainD b p := top_ge h
theorem gain_nonneg : 0 ≤ gainD b p := top_nonneg _ _
theorem gain_at (h : 0 < gainD b p) : ∃ k, k ∈ itemsN b p := by
  rcases top_is (gapD b p) b.length with h1 | ⟨k, h1, h2⟩
  · unfold gainD at h; omega
  · exact ⟨k, mem_itemsN.2 ⟨h1, h2.symm⟩⟩
theorem gain_le {a : Int} (h0 : 0 ≤ a) (h : ∀ k, k < b.length → gapD b p k ≤ a) : gainD b p ≤ a := top_le h0 h
theorem items_sorted : (itemsN b p).Pairwise (· < ·) := List.Pairwise.filter _ List.pairwise_lt_range
theorem items_len : (itemsN b p).length ≤ b.length := Nat.le_trans (List.length_filter_le _ _) (by simp)
end
end Go.Proofs.YtdckoaljcklmhaaGreatDoor

