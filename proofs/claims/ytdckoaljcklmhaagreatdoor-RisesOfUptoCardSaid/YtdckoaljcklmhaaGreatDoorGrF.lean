/-
  What follows of matchings that fit (mathematics for GraphsFits).
-/
import Derived.Test.YtdckoaljcklmhaaGreatDoorGrO
namespace Go.Proofs.YtdckoaljcklmhaaGreatDoor
set_option linter.unusedVariables false

theorem mem_all {n : Nat} {x : Int} : x ∈ upto n (fun _ => true) ↔ 0 ≤ x ∧ x < n := by
  rw [mem_upto]
  constructor
  · rintro ⟨i, h1, _, rfl⟩; omega
  · rintro ⟨h1, h2⟩; exact ⟨x.toNat, by omega, rfl, by omega⟩
theorem upto_all_len (n : Nat) : (upto n fun _ => true).length = n := by
  rw [upto, List.length_map, List.filter_eq_self.2 (by simp), List.length_range]
theorem near_err {g : List (List Int)} {m : Int} {s : List Int} (h : nearOk g m s = true) : nearErr g m s = 0 := by rw [nearErr, if_pos h]
theorem near_ans {g : List (List Int)} {m : Nat} {s : List Int} (h : nearOk g m s = true) : nearE g m s = nearG g m s := by rw [nearE, if_pos h, Int.toNat_natCast]
theorem near_err_bad {g : List (List Int)} {m : Int} {s : List Int} (h : nearOk g m s = false) : nearErr g m s = 1 := by rw [nearErr, if_neg (by simp [h])]
end Go.Proofs.YtdckoaljcklmhaaGreatDoor


namespace Go.Proofs.YtdckoaljcklmhaaGreatDoor
set_option linter.unusedVariables false

theorem getD_take_mem {l : List Int} {i j : Nat} (h : j < i) (hj : j < l.length) : l.getD j (-1) ∈ l.take i := by
  rw [List.getD_eq_getElem?_getD, List.getElem?_eq_getElem hj]
  exact List.mem_take_iff_getElem.2 ⟨j, by omega, rfl⟩
theorem mem_take_getD {l : List Int} {i : Nat} {z : Int} (h : z ∈ l.take i) : ∃ j, j < i ∧ j < l.length ∧ l.getD j (-1) = z := by
  obtain ⟨j, hj, rfl⟩ := List.mem_take_iff_getElem.1 h
  exact ⟨j, by omega, by omega, by rw [List.getD_eq_getElem?_getD, List.getElem?_eq_getElem (by omega)]; rfl⟩
theorem okAt_iff {g : List (List Int)} {l : List Int} {i : Nat} : okAt g l i = true ↔ l.getD i (-1) = -1 ∨ (l.getD i (-1) ∈ g.getD i [] ∧ ∀ j, j < i → j < l.length → l.getD j (-1) ≠ l.getD i (-1)) := by
  simp only [okAt, Bool.or_eq_true, Bool.and_eq_true, decide_eq_true_eq, Bool.not_eq_true', decide_eq_false_iff_not]
  constructor
  · rintro (h | ⟨h1, h2⟩)
    · exact .inl h
    · exact .inr ⟨h1, fun j hj hjl he => h2 (he ▸ getD_take_mem hj hjl)⟩
  · rintro (h | ⟨h1, h2⟩)
    · exact .inl h
    · refine .inr ⟨h1, fun hm => ?_⟩
      obtain ⟨j, hj, hjl, he⟩ := mem_take_getD hm
      exact h2 j hj hjl he
/-- Fits, in numbers. -/
structure Fit (g : List (List Int)) (M : Nat) (l : List Int) : Prop where
  len : l.length = g.length
  item : ∀ i, i < l.length → l.getD i (-1) ≠ -1 → l.getD i (-1) ∈ g.getD i []
  one : ∀ i j, i < l.length → j < l.length → i ≠ j → l.getD i (-1) ≠ -1 → l.getD i (-1) ≠ l.getD j (-1)
  rng : ∀ i, i < l.length → l.getD i (-1) ≠ -1 → 0 ≤ l.getD i (-1) ∧ l.getD i (-1) < M
theorem fit_of {g : List (List Int)} {M : Nat} {l : List Int} (h : fitsG g M l = true) : Fit g M l := by
  obtain ⟨h1, h2, h3⟩ := fitsG_iff.1 h
  have hit : ∀ i, i < l.length → l.getD i (-1) ≠ -1 → l.getD i (-1) ∈ g.getD i [] := fun i hi hn => ((okAt_iff.1 (h3 i hi)).resolve_left hn).1
  refine ⟨h2, hit, ?_, fun i hi hn => ?_⟩
  · intro i j hi hj hne hn he
    rcases Nat.lt_or_ge i j with hlt | hge
    · exact ((okAt_iff.1 (h3 j hj)).resolve_left (by rw [← he]; exact hn)).2 i hlt hi he
    · exact ((okAt_iff.1 (h3 i hi)).resolve_left hn).2 j (by omega) hj he.symm
  · exact ((checkG_iff.1 h1).2.2.2 _ (getD_mem (by omega))).1 _ (hit i hi hn)
theorem fits_of {g : List (List Int)} {M : Nat} {l : List Int} (hc : checkG g M = true) (hl : l.length = g.length) (h1 : ∀ i, i < l.length → l.getD i (-1) ≠ -1 → l.getD i (-1) ∈ g.getD i [])
    (h2 : ∀ i j, j < i → i < l.length → l.getD i (-1) ≠ -1 → l.getD j (-1) ≠ l.getD i (-1)) : fitsG g M l = true := by
  refine fitsG_iff.2 ⟨hc, hl, fun i hi => okAt_iff.2 ?_⟩
  by_cases hn : l.getD i (-1) = -1
  · exact .inl hn
  · exact .inr ⟨h1 i hi hn, fun j hj hjl => h2 i j hj hi hn⟩

theorem many_cons (z : Int) (l : List Int) : manyG (z :: l) = manyG l + (if z ≠ -1 then 1 else 0) := by
  rw [manyG, manyG, List.countP_cons]
  by_cases h : z = -1 <;> simp [h]
theorem count_or {M y : Nat} (hy : y < M) {p : Nat → Bool} (hp : p y = false) : (List.range M).countP (fun k => decide (k = y) || p k) = (List.range M).countP p + 1 := by
  induction M with
  | zero => omega
  | succ M ih =>
    rw [List.range_succ, List.countP_append, List.countP_append]
    by_cases h : y = M
    · subst h
      have h1 : (List.range y).countP (fun k => decide (k = y) || p k) = (List.range y).countP p := by
        refine List.countP_congr fun k hk => ?_
        have := List.mem_range.1 hk
        simp [show k ≠ y by omega]
      rw [h1]
      simp [hp]
    · have := ih (by omega)
      rw [this]
      have h2 : ([M].countP fun k => decide (k = y) || p k) = [M].countP p := by simp [show M ≠ y from fun h' => h h'.symm]
      omega
end Go.Proofs.YtdckoaljcklmhaaGreatDoor

