/-
  Layer 13: the market with bidders named otherwise, and one that has no bid.
-/
import Derived.Test.YtdckoaljcklmhaaRiT
namespace Go.Proofs.Ytdckoaljcklmhaa
set_option linter.unusedVariables false

/-- The first of one list, the rest of another. -/
def mixG {α : Type} (f g : Nat → α) (N s : Nat) : List α := (List.range N).map fun t => if t < s then f t else g t
theorem mixG_len {α : Type} (f g : Nat → α) (N s : Nat) : (mixG f g N s).length = N := by simp [mixG]
theorem mixG_zero {α : Type} (f g : Nat → α) (N : Nat) : mixG f g N 0 = (List.range N).map g := List.map_congr_left fun t _ => by rw [if_neg (by omega)]
theorem mixG_all {α : Type} (f g : Nat → α) (N : Nat) : mixG f g N N = (List.range N).map f := List.map_congr_left fun t ht => by rw [if_pos (List.mem_range.1 ht)]
theorem mixG_set {α : Type} (f g : Nat → α) (N s : Nat) : (mixG f g N s).set s (f s) = mixG f g N (s + 1) := by
  refine List.ext_getElem? fun i => ?_
  rw [List.getElem?_set, mixG_len, mixG, mixG, List.getElem?_map, List.getElem?_map]
  by_cases hi : i < N
  · rw [List.getElem?_range hi]
    by_cases e : s = i
    · subst e
      rw [if_pos rfl, if_pos hi]
      show _ = some (if s < s + 1 then f s else g s)
      rw [if_pos (by omega)]
    · rw [if_neg e]
      show some (if i < s then f i else g i) = some (if i < s + 1 then f i else g i)
      by_cases h2 : i < s
      · rw [if_pos h2, if_pos (by omega)]
      · rw [if_neg h2, if_neg (by omega)]
  · rw [List.getElem?_eq_none (l := List.range N) (by simp; omega)]
    by_cases e : s = i
    · rw [if_pos e, if_neg (by omega)]; rfl
    · rw [if_neg e]; rfl
theorem range_getD {α : Type} (l : List α) (d : α) : (List.range l.length).map (fun t => l.getD t d) = l := by
  refine List.ext_getElem? fun i => ?_
  rw [List.getElem?_map]
  by_cases hi : i < l.length
  · rw [List.getElem?_range hi, List.getElem?_eq_getElem hi, Option.map_some, List.getD_eq_getElem?_getD, List.getElem?_eq_getElem hi]; rfl
  · rw [List.getElem?_eq_none (by simp; omega), List.getElem?_eq_none (by omega)]; rfl
/-- Named otherwise. -/
def rotR (L : List (List Int)) (t : Nat) : List (List Int) := (List.range L.length).map fun i => L.getD ((i + t) % L.length) []
theorem rotR_len (L : List (List Int)) (t : Nat) : (rotR L t).length = L.length := by simp [rotR]
theorem rotR_get {L : List (List Int)} {t i : Nat} (hi : i < L.length) : (rotR L t).getD i [] = L.getD ((i + t) % L.length) [] := by
  rw [rotR, List.getD_eq_getElem?_getD, List.getElem?_map, List.getElem?_range hi]; rfl
theorem rotR_mem {L : List (List Int)} {t : Nat} {l : List Int} (h : l ∈ rotR L t) : l ∈ L := by
  obtain ⟨i, hi, rfl⟩ := List.mem_map.1 h
  have hn : 0 < L.length := by have := List.mem_range.1 hi; omega
  rw [List.getD_eq_getElem?_getD, List.getElem?_eq_getElem (Nat.mod_lt _ hn)]
  exact List.getElem_mem _
theorem rot_hall {L : List (List Int)} {q : List Int} (t : Nat) : HallP (rotR L t) q ↔ HallP L q := by
  by_cases hn : L.length = 0
  · have h1 : rotR L t = L := by
      rw [List.eq_nil_of_length_eq_zero hn]; rfl
    rw [h1]
  have hr : t % L.length ≤ L.length := Nat.le_of_lt (Nat.mod_lt _ (by omega))
  have hm : ∀ i, (i + t) % L.length = (i + t % L.length) % L.length := fun i => by rw [Nat.add_mod_mod]
  constructor
  · refine hall_named (fun b => (b + (L.length - t % L.length)) % L.length) (fun i hi => ?_) fun i j hi hj e => ?_
    · rw [rotR_len]
      refine ⟨Nat.mod_lt _ (by omega), ?_⟩
      rw [rotR_get (Nat.mod_lt _ (by omega)), hm, rot_back hr hi]
    · have h1 := rot_back hr hi
      have h2 := rot_back hr hj
      rw [← h1, ← h2, e]
  · refine hall_named (fun b => (b + t) % L.length) (fun i hi => ?_) fun i j hi hj e => ?_
    · rw [rotR_len] at hi
      exact ⟨Nat.mod_lt _ (by omega), rotR_get hi⟩
    · rw [rotR_len] at hi hj
      simp only [hm] at e
      exact rot_inj hr hi hj e
theorem rot_rows {r : List Int} {L : List (List Int)} (h : RowsM r L) (t : Nat) : RowsM r (rotR L t) := fun l hl => h l (rotR_mem hl)
theorem rot_least {r : List Int} {L : List (List Int)} (h : RowsM r L) (t : Nat) : leastL r (rotR L t) = leastL r L := least_named h (rot_rows h t) (fun q hq => (rot_hall t).2 hq) fun q hq => (rot_hall t).1 hq
theorem snoc_rows {r : List Int} {L : List (List Int)} (h : RowsM r L) : RowsM r (L ++ [[]]) := fun l hl => by
  rcases List.mem_append.1 hl with hl | hl
  · exact h l hl
  · rw [List.mem_singleton.1 hl]; exact .inl rfl
theorem snoc_least {r : List Int} {L : List (List Int)} (h : RowsM r L) : leastL r (L ++ [[]]) = leastL r L := least_named h (snoc_rows h) (fun q hq => hall_snoc.2 hq) fun q hq => hall_snoc.1 hq
/-- An order, from behind. -/
def revL (o : List Int) : List Int := (List.range o.length).map fun i => o.getD (o.length - 1 - i) 0
theorem revL_eq (o : List Int) : revL o = o.reverse := by
  refine List.ext_getElem? fun i => ?_
  rw [revL, List.getElem?_map]
  by_cases hi : i < o.length
  · rw [List.getElem?_range hi, List.getElem?_reverse hi, Option.map_some, List.getD_eq_getElem?_getD, List.getElem?_eq_getElem (by omega)]; rfl
  · rw [List.getElem?_eq_none (by simp; omega), List.getElem?_eq_none (by simp; omega)]; rfl
theorem may_rot {r : List Int} {L : List (List Int)} {o : List Int} (h : mayM r L o = true) (t : Nat) : mayM r (rotR L t) (revL o) = true := by
  obtain ⟨h1, ⟨h2, h3, h4⟩, h5, h6⟩ := (mayM_iff _ _ _).1 h
  refine (mayM_iff _ _ _).2 ⟨h1, ⟨by rw [rotR_len]; exact h2, by rw [rotR_len]; exact h3, by rw [revL_eq, List.length_reverse, rotR_len]; exact h4⟩, fun l hl => h5 l (rotR_mem hl), fun i hi => ?_⟩
  rw [rotR_len] at hi
  rw [revL_eq, times, List.countP_reverse]
  exact h6 i hi
theorem may_snoc {r : List Int} {L : List (List Int)} {o : List Int} (h : mayM r L o = true) (hn : L.length < 8) : mayM r (L ++ [[]]) (o ++ [(L.length : Int)]) = true := by
  obtain ⟨h1, ⟨h2, h3, h4⟩, h5, h6⟩ := (mayM_iff _ _ _).1 h
  have hin := order_in (by omega : o.length = L.length) h6
  refine (mayM_iff _ _ _).2 ⟨h1, ⟨by simp, by simp; omega, by simp; omega⟩, fun l hl => ?_, fun i hi => ?_⟩
  · rcases List.mem_append.1 hl with hl | hl
    · exact h5 l hl
    · rw [List.mem_singleton.1 hl]; rfl
  · rw [List.length_append, List.length_singleton] at hi
    rw [times, List.countP_append, List.countP_singleton]
    by_cases e : i = L.length
    · have h0 : o.countP (fun z => decide (z = (i : Int))) = 0 := List.countP_eq_zero.2 fun z hz => by
        have := hin z hz
        simp; omega
      rw [h0, e]; simp
    · have h7 := h6 i (by omega)
      rw [times] at h7
      rw [h7, decide_eq_false (show ¬ (L.length : Int) = i by omega)]; simp
end Go.Proofs.Ytdckoaljcklmhaa
