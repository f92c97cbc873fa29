/-
  What every law of layer 13 asks first: some answers that the document fixes.
-/
import Derived.Test.YtdckoaljcklmhaaGreatDoorRiW
import Derived.Test.YtdckoaljcklmhaaGreatDoorMaL
import Derived.Test.YtdckoaljcklmhaaGreatDoorGrL
namespace Go.Proofs.YtdckoaljcklmhaaGreatDoor
open Go.RowKit
set_option linter.unusedVariables false
set_option linter.unusedSimpArgs false

theorem one13_lit (w : World) (rc : Array Value) : ∃ x : Mk, x.v = .agg #[.slice (some ⟨w.heap.size + 1, 0, none⟩) 1 1, .slice (some ⟨w.heap.size + 1 + 1 + 1 + 1, 0, none⟩) 2 2, .slice (some ⟨w.heap.size + 1 + 1 + 1 + 1 + 1, 0, none⟩) 2 2] ∧ x.parts = (([2], [[9], [5]], [0, 1]) : List Int × List (List Int) × List Int) ∧ x.n = 2 ∧ x.Ok ((((((w.alloc (.cells rc 25)).alloc (.cells #[.int .i64 2] 3)).alloc (.cells #[.int .i64 9] 3)).alloc (.cells #[.int .i64 5] 3)).alloc (.cells #[.slice (some ⟨w.heap.size + 1 + 1, 0, none⟩) 1 1, .slice (some ⟨w.heap.size + 1 + 1 + 1, 0, none⟩) 1 1] 22)).alloc (.cells #[.int .i64 0, .int .i64 1] 3)) ∧ Below w.heap.size w ((((((w.alloc (.cells rc 25)).alloc (.cells #[.int .i64 2] 3)).alloc (.cells #[.int .i64 9] 3)).alloc (.cells #[.int .i64 5] 3)).alloc (.cells #[.slice (some ⟨w.heap.size + 1 + 1, 0, none⟩) 1 1, .slice (some ⟨w.heap.size + 1 + 1 + 1, 0, none⟩) 1 1] 22)).alloc (.cells #[.int .i64 0, .int .i64 1] 3)) := by
  have hz : ∀ (v : World) (o1 : Obj), (v.alloc o1).heap.size = v.heap.size + 1 := fun v o1 => Array.size_push ..
  have o1 : Own ((((((w.alloc (.cells rc 25)).alloc (.cells #[.int .i64 2] 3)).alloc (.cells #[.int .i64 9] 3)).alloc (.cells #[.int .i64 5] 3)).alloc (.cells #[.slice (some ⟨w.heap.size + 1 + 1, 0, none⟩) 1 1, .slice (some ⟨w.heap.size + 1 + 1 + 1, 0, none⟩) 1 1] 22)).alloc (.cells #[.int .i64 0, .int .i64 1] 3)) w.heap.size 3 (some ⟨w.heap.size + 1, 0, none⟩) 1 1 (ci64 [2]) := by
    have h := Own.lit (B := w.heap.size) (w.alloc (.cells rc 25)) 3 #[.int .i64 2] 1 (by first | exact Nat.le_refl _ | (simp only [hz]; omega)) rfl (by unfold maxLen; omega)
    try simp only [hz] at h
    exact ((((h.alloc _).alloc _).alloc _).alloc _)
  have o2 : Own ((((((w.alloc (.cells rc 25)).alloc (.cells #[.int .i64 2] 3)).alloc (.cells #[.int .i64 9] 3)).alloc (.cells #[.int .i64 5] 3)).alloc (.cells #[.slice (some ⟨w.heap.size + 1 + 1, 0, none⟩) 1 1, .slice (some ⟨w.heap.size + 1 + 1 + 1, 0, none⟩) 1 1] 22)).alloc (.cells #[.int .i64 0, .int .i64 1] 3)) w.heap.size 3 (some ⟨w.heap.size + 1 + 1, 0, none⟩) 1 1 (ci64 [9]) := by
    have h := Own.lit (B := w.heap.size) ((w.alloc (.cells rc 25)).alloc (.cells #[.int .i64 2] 3)) 3 #[.int .i64 9] 1 (by first | exact Nat.le_refl _ | (simp only [hz]; omega)) rfl (by unfold maxLen; omega)
    try simp only [hz] at h
    exact (((h.alloc _).alloc _).alloc _)
  have o3 : Own ((((((w.alloc (.cells rc 25)).alloc (.cells #[.int .i64 2] 3)).alloc (.cells #[.int .i64 9] 3)).alloc (.cells #[.int .i64 5] 3)).alloc (.cells #[.slice (some ⟨w.heap.size + 1 + 1, 0, none⟩) 1 1, .slice (some ⟨w.heap.size + 1 + 1 + 1, 0, none⟩) 1 1] 22)).alloc (.cells #[.int .i64 0, .int .i64 1] 3)) w.heap.size 3 (some ⟨w.heap.size + 1 + 1 + 1, 0, none⟩) 1 1 (ci64 [5]) := by
    have h := Own.lit (B := w.heap.size) (((w.alloc (.cells rc 25)).alloc (.cells #[.int .i64 2] 3)).alloc (.cells #[.int .i64 9] 3)) 3 #[.int .i64 5] 1 (by first | exact Nat.le_refl _ | (simp only [hz]; omega)) rfl (by unfold maxLen; omega)
    try simp only [hz] at h
    exact ((h.alloc _).alloc _)
  have o4 : Own ((((((w.alloc (.cells rc 25)).alloc (.cells #[.int .i64 2] 3)).alloc (.cells #[.int .i64 9] 3)).alloc (.cells #[.int .i64 5] 3)).alloc (.cells #[.slice (some ⟨w.heap.size + 1 + 1, 0, none⟩) 1 1, .slice (some ⟨w.heap.size + 1 + 1 + 1, 0, none⟩) 1 1] 22)).alloc (.cells #[.int .i64 0, .int .i64 1] 3)) w.heap.size 22 (some ⟨w.heap.size + 1 + 1 + 1 + 1, 0, none⟩) 2 2 ([.slice (some ⟨w.heap.size + 1 + 1, 0, none⟩) 1 1, .slice (some ⟨w.heap.size + 1 + 1 + 1, 0, none⟩) 1 1]) := by
    have h := Own.lit (B := w.heap.size) ((((w.alloc (.cells rc 25)).alloc (.cells #[.int .i64 2] 3)).alloc (.cells #[.int .i64 9] 3)).alloc (.cells #[.int .i64 5] 3)) 22 #[.slice (some ⟨w.heap.size + 1 + 1, 0, none⟩) 1 1, .slice (some ⟨w.heap.size + 1 + 1 + 1, 0, none⟩) 1 1] 2 (by first | exact Nat.le_refl _ | (simp only [hz]; omega)) rfl (by unfold maxLen; omega)
    try simp only [hz] at h
    exact (h.alloc _)
  have o5 : Own ((((((w.alloc (.cells rc 25)).alloc (.cells #[.int .i64 2] 3)).alloc (.cells #[.int .i64 9] 3)).alloc (.cells #[.int .i64 5] 3)).alloc (.cells #[.slice (some ⟨w.heap.size + 1 + 1, 0, none⟩) 1 1, .slice (some ⟨w.heap.size + 1 + 1 + 1, 0, none⟩) 1 1] 22)).alloc (.cells #[.int .i64 0, .int .i64 1] 3)) w.heap.size 3 (some ⟨w.heap.size + 1 + 1 + 1 + 1 + 1, 0, none⟩) 2 2 (ci64 [0, 1]) := by
    have h := Own.lit (B := w.heap.size) (((((w.alloc (.cells rc 25)).alloc (.cells #[.int .i64 2] 3)).alloc (.cells #[.int .i64 9] 3)).alloc (.cells #[.int .i64 5] 3)).alloc (.cells #[.slice (some ⟨w.heap.size + 1 + 1, 0, none⟩) 1 1, .slice (some ⟨w.heap.size + 1 + 1 + 1, 0, none⟩) 1 1] 22)) 3 #[.int .i64 0, .int .i64 1] 2 (by first | exact Nat.le_refl _ | (simp only [hz]; omega)) rfl (by unfold maxLen; omega)
    try simp only [hz] at h
    exact h
  refine ⟨⟨⟨some ⟨w.heap.size + 1, 0, none⟩, 1, 1, [2]⟩, some ⟨w.heap.size + 1 + 1 + 1 + 1, 0, none⟩, 2, 2, [⟨some ⟨w.heap.size + 1 + 1, 0, none⟩, 1, 1, [9]⟩, ⟨some ⟨w.heap.size + 1 + 1 + 1, 0, none⟩, 1, 1, [5]⟩], ⟨some ⟨w.heap.size + 1 + 1 + 1 + 1 + 1, 0, none⟩, 2, 2, [0, 1]⟩⟩, rfl, rfl, rfl, ?_, ?_⟩
  · refine MkOwn.ok (B := w.heap.size) ⟨⟨o1, by simp⟩, ⟨o5, by simp⟩, o4, ?_, ?_⟩
    · intro u hu
      simp only [List.mem_cons, List.not_mem_nil, or_false] at hu
      rcases hu with rfl | rfl
      · exact ⟨o2, by simp⟩
      · exact ⟨o3, by simp⟩
    · simp [AptL, Blk]
  · exact (((((((Below.refl _ w).alloc (by first | exact Nat.le_refl _ | (simp only [hz]; omega)) _).alloc (by first | exact Nat.le_refl _ | (simp only [hz]; omega)) _).alloc (by first | exact Nat.le_refl _ | (simp only [hz]; omega)) _).alloc (by first | exact Nat.le_refl _ | (simp only [hz]; omega)) _).alloc (by first | exact Nat.le_refl _ | (simp only [hz]; omega)) _).alloc (by first | exact Nat.le_refl _ | (simp only [hz]; omega)) _)
theorem n13_lit (w : World) : ∃ x : Mk, x.v = .agg #[.slice (some ⟨w.heap.size, 0, none⟩) 2 2, .slice (some ⟨w.heap.size + 1 + 1 + 1 + 1, 0, none⟩) 3 3, .slice (some ⟨w.heap.size + 1 + 1 + 1 + 1 + 1, 0, none⟩) 3 3] ∧ x.parts = (([0, 0], [[4, 4], [4, 4], [3, 0]], [0, 1, 2]) : List Int × List (List Int) × List Int) ∧ x.n = 3 ∧ x.Ok ((((((w.alloc (.cells #[.int .i64 0, .int .i64 0] 3)).alloc (.cells #[.int .i64 4, .int .i64 4] 3)).alloc (.cells #[.int .i64 4, .int .i64 4] 3)).alloc (.cells #[.int .i64 3, .int .i64 0] 3)).alloc (.cells #[.slice (some ⟨w.heap.size + 1, 0, none⟩) 2 2, .slice (some ⟨w.heap.size + 1 + 1, 0, none⟩) 2 2, .slice (some ⟨w.heap.size + 1 + 1 + 1, 0, none⟩) 2 2] 22)).alloc (.cells #[.int .i64 0, .int .i64 1, .int .i64 2] 3)) ∧ Below w.heap.size w ((((((w.alloc (.cells #[.int .i64 0, .int .i64 0] 3)).alloc (.cells #[.int .i64 4, .int .i64 4] 3)).alloc (.cells #[.int .i64 4, .int .i64 4] 3)).alloc (.cells #[.int .i64 3, .int .i64 0] 3)).alloc (.cells #[.slice (some ⟨w.heap.size + 1, 0, none⟩) 2 2, .slice (some ⟨w.heap.size + 1 + 1, 0, none⟩) 2 2, .slice (some ⟨w.heap.size + 1 + 1 + 1, 0, none⟩) 2 2] 22)).alloc (.cells #[.int .i64 0, .int .i64 1, .int .i64 2] 3)) := by
  have hz : ∀ (v : World) (o1 : Obj), (v.alloc o1).heap.size = v.heap.size + 1 := fun v o1 => Array.size_push ..
  have o0 : Own ((((((w.alloc (.cells #[.int .i64 0, .int .i64 0] 3)).alloc (.cells #[.int .i64 4, .int .i64 4] 3)).alloc (.cells #[.int .i64 4, .int .i64 4] 3)).alloc (.cells #[.int .i64 3, .int .i64 0] 3)).alloc (.cells #[.slice (some ⟨w.heap.size + 1, 0, none⟩) 2 2, .slice (some ⟨w.heap.size + 1 + 1, 0, none⟩) 2 2, .slice (some ⟨w.heap.size + 1 + 1 + 1, 0, none⟩) 2 2] 22)).alloc (.cells #[.int .i64 0, .int .i64 1, .int .i64 2] 3)) w.heap.size 3 (some ⟨w.heap.size, 0, none⟩) 2 2 (ci64 [0, 0]) := by
    have h := Own.lit (B := w.heap.size) w 3 #[.int .i64 0, .int .i64 0] 2 (by first | exact Nat.le_refl _ | (simp only [hz]; omega)) rfl (by unfold maxLen; omega)
    try simp only [hz] at h
    exact (((((h.alloc _).alloc _).alloc _).alloc _).alloc _)
  have o1 : Own ((((((w.alloc (.cells #[.int .i64 0, .int .i64 0] 3)).alloc (.cells #[.int .i64 4, .int .i64 4] 3)).alloc (.cells #[.int .i64 4, .int .i64 4] 3)).alloc (.cells #[.int .i64 3, .int .i64 0] 3)).alloc (.cells #[.slice (some ⟨w.heap.size + 1, 0, none⟩) 2 2, .slice (some ⟨w.heap.size + 1 + 1, 0, none⟩) 2 2, .slice (some ⟨w.heap.size + 1 + 1 + 1, 0, none⟩) 2 2] 22)).alloc (.cells #[.int .i64 0, .int .i64 1, .int .i64 2] 3)) w.heap.size 3 (some ⟨w.heap.size + 1, 0, none⟩) 2 2 (ci64 [4, 4]) := by
    have h := Own.lit (B := w.heap.size) (w.alloc (.cells #[.int .i64 0, .int .i64 0] 3)) 3 #[.int .i64 4, .int .i64 4] 2 (by first | exact Nat.le_refl _ | (simp only [hz]; omega)) rfl (by unfold maxLen; omega)
    try simp only [hz] at h
    exact ((((h.alloc _).alloc _).alloc _).alloc _)
  have o2 : Own ((((((w.alloc (.cells #[.int .i64 0, .int .i64 0] 3)).alloc (.cells #[.int .i64 4, .int .i64 4] 3)).alloc (.cells #[.int .i64 4, .int .i64 4] 3)).alloc (.cells #[.int .i64 3, .int .i64 0] 3)).alloc (.cells #[.slice (some ⟨w.heap.size + 1, 0, none⟩) 2 2, .slice (some ⟨w.heap.size + 1 + 1, 0, none⟩) 2 2, .slice (some ⟨w.heap.size + 1 + 1 + 1, 0, none⟩) 2 2] 22)).alloc (.cells #[.int .i64 0, .int .i64 1, .int .i64 2] 3)) w.heap.size 3 (some ⟨w.heap.size + 1 + 1, 0, none⟩) 2 2 (ci64 [4, 4]) := by
    have h := Own.lit (B := w.heap.size) ((w.alloc (.cells #[.int .i64 0, .int .i64 0] 3)).alloc (.cells #[.int .i64 4, .int .i64 4] 3)) 3 #[.int .i64 4, .int .i64 4] 2 (by first | exact Nat.le_refl _ | (simp only [hz]; omega)) rfl (by unfold maxLen; omega)
    try simp only [hz] at h
    exact (((h.alloc _).alloc _).alloc _)
  have o3 : Own ((((((w.alloc (.cells #[.int .i64 0, .int .i64 0] 3)).alloc (.cells #[.int .i64 4, .int .i64 4] 3)).alloc (.cells #[.int .i64 4, .int .i64 4] 3)).alloc (.cells #[.int .i64 3, .int .i64 0] 3)).alloc (.cells #[.slice (some ⟨w.heap.size + 1, 0, none⟩) 2 2, .slice (some ⟨w.heap.size + 1 + 1, 0, none⟩) 2 2, .slice (some ⟨w.heap.size + 1 + 1 + 1, 0, none⟩) 2 2] 22)).alloc (.cells #[.int .i64 0, .int .i64 1, .int .i64 2] 3)) w.heap.size 3 (some ⟨w.heap.size + 1 + 1 + 1, 0, none⟩) 2 2 (ci64 [3, 0]) := by
    have h := Own.lit (B := w.heap.size) (((w.alloc (.cells #[.int .i64 0, .int .i64 0] 3)).alloc (.cells #[.int .i64 4, .int .i64 4] 3)).alloc (.cells #[.int .i64 4, .int .i64 4] 3)) 3 #[.int .i64 3, .int .i64 0] 2 (by first | exact Nat.le_refl _ | (simp only [hz]; omega)) rfl (by unfold maxLen; omega)
    try simp only [hz] at h
    exact ((h.alloc _).alloc _)
  have o4 : Own ((((((w.alloc (.cells #[.int .i64 0, .int .i64 0] 3)).alloc (.cells #[.int .i64 4, .int .i64 4] 3)).alloc (.cells #[.int .i64 4, .int .i64 4] 3)).alloc (.cells #[.int .i64 3, .int .i64 0] 3)).alloc (.cells #[.slice (some ⟨w.heap.size + 1, 0, none⟩) 2 2, .slice (some ⟨w.heap.size + 1 + 1, 0, none⟩) 2 2, .slice (some ⟨w.heap.size + 1 + 1 + 1, 0, none⟩) 2 2] 22)).alloc (.cells #[.int .i64 0, .int .i64 1, .int .i64 2] 3)) w.heap.size 22 (some ⟨w.heap.size + 1 + 1 + 1 + 1, 0, none⟩) 3 3 ([.slice (some ⟨w.heap.size + 1, 0, none⟩) 2 2, .slice (some ⟨w.heap.size + 1 + 1, 0, none⟩) 2 2, .slice (some ⟨w.heap.size + 1 + 1 + 1, 0, none⟩) 2 2]) := by
    have h := Own.lit (B := w.heap.size) ((((w.alloc (.cells #[.int .i64 0, .int .i64 0] 3)).alloc (.cells #[.int .i64 4, .int .i64 4] 3)).alloc (.cells #[.int .i64 4, .int .i64 4] 3)).alloc (.cells #[.int .i64 3, .int .i64 0] 3)) 22 #[.slice (some ⟨w.heap.size + 1, 0, none⟩) 2 2, .slice (some ⟨w.heap.size + 1 + 1, 0, none⟩) 2 2, .slice (some ⟨w.heap.size + 1 + 1 + 1, 0, none⟩) 2 2] 3 (by first | exact Nat.le_refl _ | (simp only [hz]; omega)) rfl (by unfold maxLen; omega)
    try simp only [hz] at h
    exact (h.alloc _)
  have o5 : Own ((((((w.alloc (.cells #[.int .i64 0, .int .i64 0] 3)).alloc (.cells #[.int .i64 4, .int .i64 4] 3)).alloc (.cells #[.int .i64 4, .int .i64 4] 3)).alloc (.cells #[.int .i64 3, .int .i64 0] 3)).alloc (.cells #[.slice (some ⟨w.heap.size + 1, 0, none⟩) 2 2, .slice (some ⟨w.heap.size + 1 + 1, 0, none⟩) 2 2, .slice (some ⟨w.heap.size + 1 + 1 + 1, 0, none⟩) 2 2] 22)).alloc (.cells #[.int .i64 0, .int .i64 1, .int .i64 2] 3)) w.heap.size 3 (some ⟨w.heap.size + 1 + 1 + 1 + 1 + 1, 0, none⟩) 3 3 (ci64 [0, 1, 2]) := by
    have h := Own.lit (B := w.heap.size) (((((w.alloc (.cells #[.int .i64 0, .int .i64 0] 3)).alloc (.cells #[.int .i64 4, .int .i64 4] 3)).alloc (.cells #[.int .i64 4, .int .i64 4] 3)).alloc (.cells #[.int .i64 3, .int .i64 0] 3)).alloc (.cells #[.slice (some ⟨w.heap.size + 1, 0, none⟩) 2 2, .slice (some ⟨w.heap.size + 1 + 1, 0, none⟩) 2 2, .slice (some ⟨w.heap.size + 1 + 1 + 1, 0, none⟩) 2 2] 22)) 3 #[.int .i64 0, .int .i64 1, .int .i64 2] 3 (by first | exact Nat.le_refl _ | (simp only [hz]; omega)) rfl (by unfold maxLen; omega)
    try simp only [hz] at h
    exact h
  refine ⟨⟨⟨some ⟨w.heap.size, 0, none⟩, 2, 2, [0, 0]⟩, some ⟨w.heap.size + 1 + 1 + 1 + 1, 0, none⟩, 3, 3, [⟨some ⟨w.heap.size + 1, 0, none⟩, 2, 2, [4, 4]⟩, ⟨some ⟨w.heap.size + 1 + 1, 0, none⟩, 2, 2, [4, 4]⟩, ⟨some ⟨w.heap.size + 1 + 1 + 1, 0, none⟩, 2, 2, [3, 0]⟩], ⟨some ⟨w.heap.size + 1 + 1 + 1 + 1 + 1, 0, none⟩, 3, 3, [0, 1, 2]⟩⟩, rfl, rfl, rfl, ?_, ?_⟩
  · refine MkOwn.ok (B := w.heap.size) ⟨⟨o0, by simp⟩, ⟨o5, by simp⟩, o4, ?_, ?_⟩
    · intro u hu
      simp only [List.mem_cons, List.not_mem_nil, or_false] at hu
      rcases hu with rfl | rfl | rfl
      · exact ⟨o1, by simp⟩
      · exact ⟨o2, by simp⟩
      · exact ⟨o3, by simp⟩
    · simp [AptL, Blk]
  · exact (((((((Below.refl _ w).alloc (by first | exact Nat.le_refl _ | (simp only [hz]; omega)) _).alloc (by first | exact Nat.le_refl _ | (simp only [hz]; omega)) _).alloc (by first | exact Nat.le_refl _ | (simp only [hz]; omega)) _).alloc (by first | exact Nat.le_refl _ | (simp only [hz]; omega)) _).alloc (by first | exact Nat.le_refl _ | (simp only [hz]; omega)) _).alloc (by first | exact Nat.le_refl _ | (simp only [hz]; omega)) _)

set_option maxRecDepth 100000 in
set_option maxHeartbeats 1000000 in
theorem one13_any (w : World) : Calls Tryz.prog 20 #[] w fun e w' => ∃ x : Mk, e = .returned x.v ∧ x.Ok w' ∧ x.parts = (([2], [[9], [5]], [0, 1]) : List Int × List (List Int) × List Int) ∧ Below w.heap.size w w' := by
  obtain ⟨x, hv, hp, hn, hx, hB⟩ := one13_lit w #[.slice (some ⟨w.heap.size + 1, 0, none⟩) 1 1, .slice (some ⟨w.heap.size + 1 + 1 + 1 + 1, 0, none⟩) 2 2, .slice (some ⟨w.heap.size + 1 + 1 + 1 + 1 + 1, 0, none⟩) 2 2]
  have HV := Lib.hid hv
  clear hv
  go_enter Tryz.func20, Tryz.ntmps20
  go_wp2
  (try simp only [Exit.inBlock, Exit.then])
  refine bodyPost_ret (v := x.v) ?r rfl ⟨x, rfl, hx, hp, hB⟩
  case r =>
    rw [HV.out]
    simp only [results, Tryz.f20]
    go_simp
theorem one13_says {x : Mk} (hp : x.parts = (([2], [[9], [5]], [0, 1]) : List Int × List (List Int) × List Int)) :
    (stepE x [2] = [5] ∧ stepB x [2] = true ∧ stepErr x [2] = 0) ∧ (stepE x [5] = [5] ∧ stepB x [5] = false ∧ stepErr x [5] = 0) ∧ (stepE x [1] = [] ∧ stepB x [1] = false ∧ stepErr x [1] = 1) ∧ leastE x = [5] ∧ x.err = 0 := by
  simp only [Mk.parts, Prod.mk.injEq] at hp
  obtain ⟨h1, h2, h3⟩ := hp
  unfold stepE stepB stepErr leastE Mk.err mayS Mk.may
  rw [h1, h2, h3]
  decide +kernel
theorem n13_says {x : Mk} (hp : x.parts = (([0, 0], [[4, 4], [4, 4], [3, 0]], [0, 1, 2]) : List Int × List (List Int) × List Int)) : leastE x = [3, 3] ∧ x.err = 0 := by
  simp only [Mk.parts, Prod.mk.injEq] at hp
  obtain ⟨h1, h2, h3⟩ := hp
  unfold leastE Mk.err Mk.may
  rw [h1, h2, h3]
  decide +kernel
set_option maxRecDepth 100000 in
set_option maxHeartbeats 4000000 in
theorem alive13_any (w : World) : Calls Tryz.prog 5 #[] w fun e w' => e = .returned (.bool true) ∧ Below w.heap.size w w' := by
  have hB := Below.refl w.heap.size w
  obtain ⟨nk, hnv, hnp, hnn, hnk, hbl⟩ := n13_lit w
  obtain ⟨sn1, sn2⟩ := n13_says hnp
  have SN1 := Lib.hid sn1
  have SN2 := Lib.hid sn2
  have VN := Lib.hid hnv
  clear hnv hnp hnn sn1 sn2
  go_enter Tryz.func5, Tryz.ntmps5
  replace hB := hB.trans (hbl.mono hB.size)
  clear hbl
  have bn := InBox.new ((((((w.alloc (.cells #[.int .i64 0, .int .i64 0] 3)).alloc (.cells #[.int .i64 4, .int .i64 4] 3)).alloc (.cells #[.int .i64 4, .int .i64 4] 3)).alloc (.cells #[.int .i64 3, .int .i64 0] 3)).alloc (.cells #[.slice (some ⟨w.heap.size + 1, 0, none⟩) 2 2, .slice (some ⟨w.heap.size + 1 + 1, 0, none⟩) 2 2, .slice (some ⟨w.heap.size + 1 + 1 + 1, 0, none⟩) 2 2] 22)).alloc (.cells #[.int .i64 0, .int .i64 1, .int .i64 2] 3)) nk
  have hbx : Below ((((((w.alloc (.cells #[.int .i64 0, .int .i64 0] 3)).alloc (.cells #[.int .i64 4, .int .i64 4] 3)).alloc (.cells #[.int .i64 4, .int .i64 4] 3)).alloc (.cells #[.int .i64 3, .int .i64 0] 3)).alloc (.cells #[.slice (some ⟨w.heap.size + 1, 0, none⟩) 2 2, .slice (some ⟨w.heap.size + 1 + 1, 0, none⟩) 2 2, .slice (some ⟨w.heap.size + 1 + 1 + 1, 0, none⟩) 2 2] 22)).alloc (.cells #[.int .i64 0, .int .i64 1, .int .i64 2] 3)).heap.size ((((((w.alloc (.cells #[.int .i64 0, .int .i64 0] 3)).alloc (.cells #[.int .i64 4, .int .i64 4] 3)).alloc (.cells #[.int .i64 4, .int .i64 4] 3)).alloc (.cells #[.int .i64 3, .int .i64 0] 3)).alloc (.cells #[.slice (some ⟨w.heap.size + 1, 0, none⟩) 2 2, .slice (some ⟨w.heap.size + 1 + 1, 0, none⟩) 2 2, .slice (some ⟨w.heap.size + 1 + 1 + 1, 0, none⟩) 2 2] 22)).alloc (.cells #[.int .i64 0, .int .i64 1, .int .i64 2] 3)) (((((((w.alloc (.cells #[.int .i64 0, .int .i64 0] 3)).alloc (.cells #[.int .i64 4, .int .i64 4] 3)).alloc (.cells #[.int .i64 4, .int .i64 4] 3)).alloc (.cells #[.int .i64 3, .int .i64 0] 3)).alloc (.cells #[.slice (some ⟨w.heap.size + 1, 0, none⟩) 2 2, .slice (some ⟨w.heap.size + 1 + 1, 0, none⟩) 2 2, .slice (some ⟨w.heap.size + 1 + 1 + 1, 0, none⟩) 2 2] 22)).alloc (.cells #[.int .i64 0, .int .i64 1, .int .i64 2] 3)).alloc (.cells #[.slice (some ⟨w.heap.size, 0, none⟩) 2 2, .slice (some ⟨w.heap.size + 1 + 1 + 1 + 1, 0, none⟩) 3 3, .slice (some ⟨w.heap.size + 1 + 1 + 1 + 1 + 1, 0, none⟩) 3 3] 25)) := (Below.refl _ ((((((w.alloc (.cells #[.int .i64 0, .int .i64 0] 3)).alloc (.cells #[.int .i64 4, .int .i64 4] 3)).alloc (.cells #[.int .i64 4, .int .i64 4] 3)).alloc (.cells #[.int .i64 3, .int .i64 0] 3)).alloc (.cells #[.slice (some ⟨w.heap.size + 1, 0, none⟩) 2 2, .slice (some ⟨w.heap.size + 1 + 1, 0, none⟩) 2 2, .slice (some ⟨w.heap.size + 1 + 1 + 1, 0, none⟩) 2 2] 22)).alloc (.cells #[.int .i64 0, .int .i64 1, .int .i64 2] 3))).alloc (Nat.le_refl _) _
  have ev : (#[.slice nk.r.A nk.r.n nk.r.c, .slice nk.A nk.n nk.c, .slice nk.o.A nk.o.n nk.o.c] : Array Value) = #[.slice (some ⟨w.heap.size, 0, none⟩) 2 2, .slice (some ⟨w.heap.size + 1 + 1 + 1 + 1, 0, none⟩) 3 3, .slice (some ⟨w.heap.size + 1 + 1 + 1 + 1 + 1, 0, none⟩) 3 3] := by
    have h : Value.agg #[.slice nk.r.A nk.r.n nk.r.c, .slice nk.A nk.n nk.c, .slice nk.o.A nk.o.n nk.o.c] = .agg #[.slice (some ⟨w.heap.size, 0, none⟩) 2 2, .slice (some ⟨w.heap.size + 1 + 1 + 1 + 1, 0, none⟩) 3 3, .slice (some ⟨w.heap.size + 1 + 1 + 1 + 1 + 1, 0, none⟩) 3 3] := VN.out
    injection h
  rw [ev] at bn
  have hz : ∀ (v : World) (o1 : Obj), (v.alloc o1).heap.size = v.heap.size + 1 := fun v o1 => Array.size_push ..
  have hgs : ((((((w.alloc (.cells #[.int .i64 0, .int .i64 0] 3)).alloc (.cells #[.int .i64 4, .int .i64 4] 3)).alloc (.cells #[.int .i64 4, .int .i64 4] 3)).alloc (.cells #[.int .i64 3, .int .i64 0] 3)).alloc (.cells #[.slice (some ⟨w.heap.size + 1, 0, none⟩) 2 2, .slice (some ⟨w.heap.size + 1 + 1, 0, none⟩) 2 2, .slice (some ⟨w.heap.size + 1 + 1 + 1, 0, none⟩) 2 2] 22)).alloc (.cells #[.int .i64 0, .int .i64 1, .int .i64 2] 3)).heap.size = w.heap.size + 1 + 1 + 1 + 1 + 1 + 1 := by simp only [hz]
  rw [hgs] at bn
  clear ev hz hgs
  replace hnk := hnk.below hbx
  replace hB := hB.trans (hbx.mono hB.size)
  clear hbx
  have en0 := bn.c0
  have en1 := bn.c1
  have en2 := bn.c2
  have hc := one13_any (((((((w.alloc (.cells #[.int .i64 0, .int .i64 0] 3)).alloc (.cells #[.int .i64 4, .int .i64 4] 3)).alloc (.cells #[.int .i64 4, .int .i64 4] 3)).alloc (.cells #[.int .i64 3, .int .i64 0] 3)).alloc (.cells #[.slice (some ⟨w.heap.size + 1, 0, none⟩) 2 2, .slice (some ⟨w.heap.size + 1 + 1, 0, none⟩) 2 2, .slice (some ⟨w.heap.size + 1 + 1 + 1, 0, none⟩) 2 2] 22)).alloc (.cells #[.int .i64 0, .int .i64 1, .int .i64 2] 3)).alloc (.cells #[.slice (some ⟨w.heap.size, 0, none⟩) 2 2, .slice (some ⟨w.heap.size + 1 + 1 + 1 + 1, 0, none⟩) 3 3, .slice (some ⟨w.heap.size + 1 + 1 + 1 + 1 + 1, 0, none⟩) 3 3] 25))
  go_wp2_with fail
  clear en0 en1 en2
  generalize ((((((w.alloc (.cells #[.int .i64 0, .int .i64 0] 3)).alloc (.cells #[.int .i64 4, .int .i64 4] 3)).alloc (.cells #[.int .i64 4, .int .i64 4] 3)).alloc (.cells #[.int .i64 3, .int .i64 0] 3)).alloc (.cells #[.slice (some ⟨w.heap.size + 1, 0, none⟩) 2 2, .slice (some ⟨w.heap.size + 1 + 1, 0, none⟩) 2 2, .slice (some ⟨w.heap.size + 1 + 1 + 1, 0, none⟩) 2 2] 22)).alloc (.cells #[.int .i64 0, .int .i64 1, .int .i64 2] 3)).alloc (.cells #[.slice (some ⟨w.heap.size, 0, none⟩) 2 2, .slice (some ⟨w.heap.size + 1 + 1 + 1 + 1, 0, none⟩) 3 3, .slice (some ⟨w.heap.size + 1 + 1 + 1 + 1 + 1, 0, none⟩) 3 3] 25) = W1 at *
  refine hc.mono ?_
  rintro e v2 ⟨x1, rfl, hx1, hp1, hb⟩
  clear hc
  replace hnk := hnk.below hb
  replace bn := bn.below hb
  replace hB := hB.trans (hb.mono hB.size)
  clear hb
  have P1 := Lib.hid (one13_says hp1)
  clear hp1
  obtain ⟨u1q, vu1q, zu1q, hu1q, hbl⟩ : ∃ u : Ls, u.v = .slice (some ⟨v2.heap.size, 0, none⟩) 1 1 ∧ u.zs = [2] ∧ u.Ok (v2.alloc (.cells #[.int .i64 2] 3)) ∧ Below v2.heap.size v2 (v2.alloc (.cells #[.int .i64 2] 3)) := lit_ls v2 [2] (by decide) (by decide)
  have Vu1q := Lib.hid vu1q
  have Zu1q := Lib.hid zu1q
  clear vu1q zu1q
  replace hnk := hnk.below hbl
  replace hx1 := hx1.below hbl
  replace bn := bn.below hbl
  replace hB := hB.trans (hbl.mono hB.size)
  clear hbl
  have en0 := bn.c0
  have en1 := bn.c1
  have en2 := bn.c2
  have hc := pstepC x1 u1q (v2.alloc (.cells #[.int .i64 2] 3)) hx1 hu1q
  rw [Vu1q.out, Zu1q.out, P1.out.1.1, P1.out.1.2.1, P1.out.1.2.2] at hc
  go_wp2_with fail
  clear en0 en1 en2
  generalize v2.alloc (.cells #[.int .i64 2] 3) = W3 at *
  refine hc.mono ?_
  rintro e v4 ⟨A1, n1, c1, rfl, h1, hb⟩
  clear hc
  replace hnk := hnk.below hb
  replace hx1 := hx1.below hb
  replace hu1q := hu1q.below hb
  replace bn := bn.below hb
  replace hB := hB.trans (hb.mono hB.size)
  clear hb
  clear hx1 hu1q
  have en0 := bn.c0
  have en1 := bn.c1
  have en2 := bn.c2
  have hc := one13_any v4
  go_wp2_with fail
  clear en0 en1 en2
  refine hc.mono ?_
  rintro e v5 ⟨x2, rfl, hx2, hp2, hb⟩
  clear hc
  replace hnk := hnk.below hb
  replace h1 := h1.below hb
  replace bn := bn.below hb
  replace hB := hB.trans (hb.mono hB.size)
  clear hb
  have P2 := Lib.hid (one13_says hp2)
  clear hp2
  obtain ⟨u2q, vu2q, zu2q, hu2q, hbl⟩ : ∃ u : Ls, u.v = .slice (some ⟨v5.heap.size, 0, none⟩) 1 1 ∧ u.zs = [5] ∧ u.Ok (v5.alloc (.cells #[.int .i64 5] 3)) ∧ Below v5.heap.size v5 (v5.alloc (.cells #[.int .i64 5] 3)) := lit_ls v5 [5] (by decide) (by decide)
  have Vu2q := Lib.hid vu2q
  have Zu2q := Lib.hid zu2q
  clear vu2q zu2q
  replace hnk := hnk.below hbl
  replace h1 := h1.below hbl
  replace hx2 := hx2.below hbl
  replace bn := bn.below hbl
  replace hB := hB.trans (hbl.mono hB.size)
  clear hbl
  have en0 := bn.c0
  have en1 := bn.c1
  have en2 := bn.c2
  have hc := pstepC x2 u2q (v5.alloc (.cells #[.int .i64 5] 3)) hx2 hu2q
  rw [Vu2q.out, Zu2q.out, P2.out.2.1.1, P2.out.2.1.2.1, P2.out.2.1.2.2] at hc
  go_wp2_with fail
  clear en0 en1 en2
  generalize v5.alloc (.cells #[.int .i64 5] 3) = W6 at *
  refine hc.mono ?_
  rintro e v7 ⟨A2, n2, c2, rfl, h2, hb⟩
  clear hc
  replace hnk := hnk.below hb
  replace h1 := h1.below hb
  replace hx2 := hx2.below hb
  replace hu2q := hu2q.below hb
  replace bn := bn.below hb
  replace hB := hB.trans (hb.mono hB.size)
  clear hb
  clear hx2 hu2q
  have en0 := bn.c0
  have en1 := bn.c1
  have en2 := bn.c2
  have hc := one13_any v7
  go_wp2_with fail
  clear en0 en1 en2
  refine hc.mono ?_
  rintro e v8 ⟨x3, rfl, hx3, hp3, hb⟩
  clear hc
  replace hnk := hnk.below hb
  replace h1 := h1.below hb
  replace h2 := h2.below hb
  replace bn := bn.below hb
  replace hB := hB.trans (hb.mono hB.size)
  clear hb
  have P3 := Lib.hid (one13_says hp3)
  clear hp3
  have en0 := bn.c0
  have en1 := bn.c1
  have en2 := bn.c2
  have hc := pleastC x3 v8 hx3
  rw [P3.out.2.2.2.1, P3.out.2.2.2.2] at hc
  go_wp2_with fail
  clear en0 en1 en2
  refine hc.mono ?_
  rintro e v9 ⟨A3, n3, c3, rfl, h3, hb⟩
  clear hc
  replace hnk := hnk.below hb
  replace h1 := h1.below hb
  replace h2 := h2.below hb
  replace hx3 := hx3.below hb
  replace bn := bn.below hb
  replace hB := hB.trans (hb.mono hB.size)
  clear hb
  clear hx3
  have en0 := bn.c0
  have en1 := bn.c1
  have en2 := bn.c2
  have hc := pleastC nk v9 hnk
  rw [SN1.out, SN2.out, show nk.v = .agg #[.slice nk.r.A nk.r.n nk.r.c, .slice nk.A nk.n nk.c, .slice nk.o.A nk.o.n nk.o.c] from rfl] at hc
  go_wp2_with fail
  clear en0 en1 en2
  refine hc.mono ?_
  rintro e v10 ⟨A9, n9, c9, rfl, h9, hb⟩
  clear hc
  replace hnk := hnk.below hb
  replace h1 := h1.below hb
  replace h2 := h2.below hb
  replace h3 := h3.below hb
  replace bn := bn.below hb
  replace hB := hB.trans (hb.mono hB.size)
  clear hb
  clear hnk bn
  have hc := one13_any v10
  go_wp2_with fail
  refine hc.mono ?_
  rintro e v11 ⟨x4, rfl, hx4, hp4, hb⟩
  clear hc
  replace h1 := h1.below hb
  replace h2 := h2.below hb
  replace h3 := h3.below hb
  replace h9 := h9.below hb
  replace hB := hB.trans (hb.mono hB.size)
  clear hb
  have P4 := Lib.hid (one13_says hp4)
  clear hp4
  obtain ⟨u4q, vu4q, zu4q, hu4q, hbl⟩ : ∃ u : Ls, u.v = .slice (some ⟨v11.heap.size, 0, none⟩) 1 1 ∧ u.zs = [1] ∧ u.Ok (v11.alloc (.cells #[.int .i64 1] 3)) ∧ Below v11.heap.size v11 (v11.alloc (.cells #[.int .i64 1] 3)) := lit_ls v11 [1] (by decide) (by decide)
  have Vu4q := Lib.hid vu4q
  have Zu4q := Lib.hid zu4q
  clear vu4q zu4q
  replace h1 := h1.below hbl
  replace h2 := h2.below hbl
  replace h3 := h3.below hbl
  replace h9 := h9.below hbl
  replace hx4 := hx4.below hbl
  replace hB := hB.trans (hbl.mono hB.size)
  clear hbl
  have hc := pstepC x4 u4q (v11.alloc (.cells #[.int .i64 1] 3)) hx4 hu4q
  rw [Vu4q.out, Zu4q.out, P4.out.2.2.1.1, P4.out.2.2.1.2.1, P4.out.2.2.1.2.2] at hc
  go_wp2_with fail
  generalize v11.alloc (.cells #[.int .i64 1] 3) = W12 at *
  refine hc.mono ?_
  rintro e v13 ⟨A4, n4, c4, rfl, h4, hb⟩
  clear hc
  replace h1 := h1.below hb
  replace h2 := h2.below hb
  replace h3 := h3.below hb
  replace h9 := h9.below hb
  replace hx4 := hx4.below hb
  replace hu4q := hu4q.below hb
  replace hB := hB.trans (hb.mono hB.size)
  clear hb
  clear hx4 hu4q
  obtain rfl : n4 = 0 := h4.len.symm
  clear h4
  obtain ⟨s1q, vs1q, zs1q, hs1q, hbl⟩ : ∃ u : Ls, u.v = .slice (some ⟨v13.heap.size, 0, none⟩) 1 1 ∧ u.zs = [5] ∧ u.Ok (v13.alloc (.cells #[.int .i64 5] 3)) ∧ Below v13.heap.size v13 (v13.alloc (.cells #[.int .i64 5] 3)) := lit_ls v13 [5] (by decide) (by decide)
  have Vs1q := Lib.hid vs1q
  have Zs1q := Lib.hid zs1q
  clear vs1q zs1q
  replace h1 := h1.below hbl
  replace h2 := h2.below hbl
  replace h3 := h3.below hbl
  replace h9 := h9.below hbl
  replace hB := hB.trans (hbl.mono hB.size)
  clear hbl
  have hc := sameints_b ⟨A1, n1, c1, [5]⟩ s1q (v13.alloc (.cells #[.int .i64 5] 3)) h1.ok hs1q
  rw [Vs1q.out, show (([5] : List Int) == s1q.zs) = true by rw [Zs1q.out]; decide] at hc
  go_wp2_with fail
  generalize v13.alloc (.cells #[.int .i64 5] 3) = W14 at *
  refine hc.mono ?_
  rintro e v15 ⟨rfl, hb⟩
  clear hc
  replace h1 := h1.below hb
  replace h2 := h2.below hb
  replace h3 := h3.below hb
  replace h9 := h9.below hb
  replace hs1q := hs1q.below hb
  replace hB := hB.trans (hb.mono hB.size)
  clear hb
  obtain ⟨s2q, vs2q, zs2q, hs2q, hbl⟩ : ∃ u : Ls, u.v = .slice (some ⟨v15.heap.size, 0, none⟩) 1 1 ∧ u.zs = [5] ∧ u.Ok (v15.alloc (.cells #[.int .i64 5] 3)) ∧ Below v15.heap.size v15 (v15.alloc (.cells #[.int .i64 5] 3)) := lit_ls v15 [5] (by decide) (by decide)
  have Vs2q := Lib.hid vs2q
  have Zs2q := Lib.hid zs2q
  clear vs2q zs2q
  replace h1 := h1.below hbl
  replace h2 := h2.below hbl
  replace h3 := h3.below hbl
  replace h9 := h9.below hbl
  replace hs1q := hs1q.below hbl
  replace hB := hB.trans (hbl.mono hB.size)
  clear hbl
  have hc := sameints_b ⟨A2, n2, c2, [5]⟩ s2q (v15.alloc (.cells #[.int .i64 5] 3)) h2.ok hs2q
  rw [Vs2q.out, show (([5] : List Int) == s2q.zs) = true by rw [Zs2q.out]; decide] at hc
  go_wp2_with fail
  generalize v15.alloc (.cells #[.int .i64 5] 3) = W16 at *
  refine hc.mono ?_
  rintro e v17 ⟨rfl, hb⟩
  clear hc
  replace h1 := h1.below hb
  replace h2 := h2.below hb
  replace h3 := h3.below hb
  replace h9 := h9.below hb
  replace hs1q := hs1q.below hb
  replace hs2q := hs2q.below hb
  replace hB := hB.trans (hb.mono hB.size)
  clear hb
  obtain ⟨s3q, vs3q, zs3q, hs3q, hbl⟩ : ∃ u : Ls, u.v = .slice (some ⟨v17.heap.size, 0, none⟩) 1 1 ∧ u.zs = [5] ∧ u.Ok (v17.alloc (.cells #[.int .i64 5] 3)) ∧ Below v17.heap.size v17 (v17.alloc (.cells #[.int .i64 5] 3)) := lit_ls v17 [5] (by decide) (by decide)
  have Vs3q := Lib.hid vs3q
  have Zs3q := Lib.hid zs3q
  clear vs3q zs3q
  replace h1 := h1.below hbl
  replace h2 := h2.below hbl
  replace h3 := h3.below hbl
  replace h9 := h9.below hbl
  replace hs1q := hs1q.below hbl
  replace hs2q := hs2q.below hbl
  replace hB := hB.trans (hbl.mono hB.size)
  clear hbl
  have hc := sameints_b ⟨A3, n3, c3, [5]⟩ s3q (v17.alloc (.cells #[.int .i64 5] 3)) h3.ok hs3q
  rw [Vs3q.out, show (([5] : List Int) == s3q.zs) = true by rw [Zs3q.out]; decide] at hc
  go_wp2_with fail
  generalize v17.alloc (.cells #[.int .i64 5] 3) = W18 at *
  refine hc.mono ?_
  rintro e v19 ⟨rfl, hb⟩
  clear hc
  replace h1 := h1.below hb
  replace h2 := h2.below hb
  replace h3 := h3.below hb
  replace h9 := h9.below hb
  replace hs1q := hs1q.below hb
  replace hs2q := hs2q.below hb
  replace hs3q := hs3q.below hb
  replace hB := hB.trans (hb.mono hB.size)
  clear hb
  obtain ⟨s9q, vs9q, zs9q, hs9q, hbl⟩ : ∃ u : Ls, u.v = .slice (some ⟨v19.heap.size, 0, none⟩) 2 2 ∧ u.zs = [3, 3] ∧ u.Ok (v19.alloc (.cells #[.int .i64 3, .int .i64 3] 3)) ∧ Below v19.heap.size v19 (v19.alloc (.cells #[.int .i64 3, .int .i64 3] 3)) := lit_ls v19 [3, 3] (by decide) (by decide)
  have Vs9q := Lib.hid vs9q
  have Zs9q := Lib.hid zs9q
  clear vs9q zs9q
  replace h1 := h1.below hbl
  replace h2 := h2.below hbl
  replace h3 := h3.below hbl
  replace h9 := h9.below hbl
  replace hs1q := hs1q.below hbl
  replace hs2q := hs2q.below hbl
  replace hs3q := hs3q.below hbl
  replace hB := hB.trans (hbl.mono hB.size)
  clear hbl
  have hc := sameints_b ⟨A9, n9, c9, [3, 3]⟩ s9q (v19.alloc (.cells #[.int .i64 3, .int .i64 3] 3)) h9.ok hs9q
  rw [Vs9q.out, show (([3, 3] : List Int) == s9q.zs) = true by rw [Zs9q.out]; decide] at hc
  go_wp2_with fail
  generalize v19.alloc (.cells #[.int .i64 3, .int .i64 3] 3) = W20 at *
  refine hc.mono ?_
  rintro e v21 ⟨rfl, hb⟩
  clear hc
  replace h1 := h1.below hb
  replace h2 := h2.below hb
  replace h3 := h3.below hb
  replace h9 := h9.below hb
  replace hs1q := hs1q.below hb
  replace hs2q := hs2q.below hb
  replace hs3q := hs3q.below hb
  replace hs9q := hs9q.below hb
  replace hB := hB.trans (hb.mono hB.size)
  clear hb
  go_wp2
  go_ret
  exact ⟨rfl, hB⟩
end Go.Proofs.YtdckoaljcklmhaaGreatDoor

