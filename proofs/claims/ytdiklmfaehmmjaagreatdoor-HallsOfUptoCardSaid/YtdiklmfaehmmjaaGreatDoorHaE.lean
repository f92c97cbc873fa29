/-
  Layer 9, more: where two lists part; names that are moved; who want the same.
-/
import Derived.Test.YtdiklmfaehmmjaaGreatDoorHaO
namespace Go.Proofs.YtdiklmfaehmmjaaGreatDoor
set_option linter.unusedVariables false

theorem lexB_at : ∀ (i : Nat) {l r : List Int} (hi : i < l.length) (hj : i < r.length), l.take i = r.take i → l[i] ≠ r[i] → lexB l r = decide (l[i] < r[i])
  | 0, a :: l, b :: r, _, _, _, hne => by
    rw [lexB, if_neg (by simpa using hne)]; rfl
  | 0, [], _, h, _, _, _ => by simp at h
  | 0, _ :: _, [], _, h, _, _ => by simp at h
  | i + 1, a :: l, b :: r, hi, hj, ht, hne => by
    simp only [List.take_succ_cons, List.cons.injEq] at ht
    obtain ⟨rfl, ht⟩ := ht
    rw [lexB, if_pos rfl]
    exact lexB_at i (by simpa using hi) (by simpa using hj) ht (by simpa using hne)
  | i + 1, [], _, h, _, _, _ => by simp at h
  | i + 1, _ :: _, [], _, h, _, _ => by simp at h
/-- Ahead, where both are as many and part at i. -/
theorem bef_at {l r : List Int} {i : Nat} (hl : l.length = r.length) (hi : i < l.length) (ht : l.take i = r.take i) (hne : l[i] ≠ r[i]'(by omega)) : befB l r = decide (l[i] < r[i]'(by omega)) := by
  rw [befB, lexB_at i hi (by omega) ht hne, decide_eq_false (show ¬ l.length < r.length by omega), decide_eq_true hl]; simp
theorem bef_same {l r : List Int} (hl : l.length = r.length) (ht : l.take l.length = r.take l.length) : befB l r = decide (l.length < r.length) := by
  have e : l = r := by
    rw [List.take_of_length_le (Nat.le_refl _), List.take_of_length_le (by omega)] at ht; exact ht
  subst e
  rw [befB, lexB_self]; simp
theorem bef_len {l r : List Int} (hl : l.length ≠ r.length) : befB l r = decide (l.length < r.length) := by
  rw [befB, decide_eq_false hl]; simp
/-- Of whatever other items: not both too few and ahead. -/
theorem few_first {g : List (List Int)} {m : Nat} {s l r : List Int} (h : Best g m s l) (hr : Rises m r) : (fewB g s r && befB r l) = false := by
  rw [Bool.and_eq_false_iff]
  cases hf : fewB g s r with
  | false => exact .inl rfl
  | true =>
    refine .inr ?_
    rcases h.least r ⟨hr, hf⟩ with h2 | h2
    · rw [h2, befB, lexB_self]; simp
    · exact befB_asym h2
theorem few_never {g : List (List Int)} {m : Nat} {s r : List Int} (h : fewP g m s = none) (hr : Rises m r) : fewB g s r = false := by
  cases hf : fewB g s r with
  | false => rfl
  | true => exact absurd ⟨hr, hf⟩ (few_none h r)

/-! All bidders, in whatever order. -/
def allL (n : Nat) : List Int := upto n fun _ => true
theorem allL_eq (n : Nat) : allL n = (List.range n).map fun (i : Nat) => (i : Int) := by
  rw [allL]
  induction n with
  | zero => rfl
  | succ n ih => rw [upto_succ, ih, List.range_succ, List.map_append]; rfl
theorem within_all {g : List (List Int)} {l : List Int} : (withinL g (allL g.length) l).length = g.countP fun w => wantB w l := by
  rw [withinL, ← List.countP_eq_length_filter, allL_eq, List.countP_map]
  have h : g = (List.range g.length).map fun i => g.getD i [] := by
    refine List.ext_getElem (by simp) fun i h1 h2 => ?_
    rw [List.getElem_map, List.getElem_range, List.getD_eq_getElem?_getD, List.getElem?_eq_getElem h1]; rfl
  have h2 : (g.countP fun w => wantB w l) = ((List.range g.length).map fun i => g.getD i []).countP fun w => wantB w l := congrArg (fun a => a.countP fun w => wantB w l) h
  rw [h2, List.countP_map]
  rfl
theorem turn_few {g : List (List Int)} {m k : Nat} : fewP (g.drop k ++ g.take k) m (allL (g.drop k ++ g.take k).length) = fewP g m (allL g.length) := by
  refine fewB_congr fun l _ => ?_
  rw [within_all, within_all, List.countP_append]
  have h := List.countP_append (p := fun w => wantB w l) (l₁ := g.take k) (l₂ := g.drop k)
  rw [List.take_append_drop] at h
  omega
theorem turn_check {g : List (List Int)} {m : Int} {k : Nat} : checkG (g.drop k ++ g.take k) m = checkG g m := by
  rw [Bool.eq_iff_iff, checkG_iff, checkG_iff]
  have hl : (g.drop k ++ g.take k).length = g.length := by
    rw [List.length_append, List.length_drop, List.length_take]; omega
  rw [hl]
  refine and_congr_right fun _ => and_congr_right fun _ => and_congr_right fun _ => ?_
  constructor
  · intro h l hl
    rw [← List.take_append_drop k g] at hl
    exact h l (List.mem_append.2 ((List.mem_append.1 hl).symm))
  · intro h l hl
    refine h l ?_
    rcases List.mem_append.1 hl with h1 | h1
    · exact List.mem_of_mem_drop h1
    · exact List.mem_of_mem_take h1
theorem allL_rises (n : Nat) : Rises n (allL n) := upto_rises _ _
theorem allL_ok {g : List (List Int)} {m : Int} : nearOk g m (allL g.length) = checkG g m := by
  rw [nearOk, riseB, decide_eq_true (allL_rises g.length), Bool.and_true]

/-! Who want the same. -/
theorem same_check {m k : Nat} {w : List Int} (hw : Rises m w) (hm : m ≤ 8) (hk : k ≤ 8) : checkG (List.replicate k w) m = true :=
  checkG_iff.2 ⟨by omega, by omega, by simpa using hk, fun l hl => by rw [(List.mem_replicate.1 hl).2]; exact hw⟩
theorem same_within {k : Nat} {w l : List Int} : (withinL (List.replicate k w) (allL k) l).length = if wantB w l = true then k else 0 := by
  have h := within_all (g := List.replicate k w) (l := l)
  rw [List.length_replicate] at h
  rw [h, List.countP_replicate]
theorem want_le {m : Nat} {w l : List Int} (hw : Rises m w) (h : wantB w l = true) : w.length ≤ l.length := nodup_sub (nodup_of_rises hw) (wantB_iff.1 h)
theorem same_none {m : Nat} {w : List Int} (hw : Rises m w) : fewP (List.replicate w.length w) m (allL w.length) = none := by
  cases h : fewP (List.replicate w.length w) m (allL w.length) with
  | none => rfl
  | some l =>
    have hf := of_decide_eq_true (few_some h).is.few
    rw [same_within] at hf
    split at hf
    · rename_i h2
      have := want_le hw h2
      omega
    · omega
theorem same_few {m : Nat} {w : List Int} (hw : Rises m w) : fewP (List.replicate (w.length + 1) w) m (allL (w.length + 1)) = some w := by
  have hself : wantB w w = true := wantB_iff.2 fun k hk => hk
  refine few_best ⟨⟨hw, ?_⟩, fun r hr => ?_⟩
  · rw [fewB, same_within, if_pos hself]; exact decide_eq_true (by omega)
  · have hf := of_decide_eq_true hr.few
    rw [same_within] at hf
    split at hf
    · rename_i h2
      have h3 := want_le hw h2
      have h4 : r.length = w.length := by omega
      refine .inl ?_
      refine rise_ext hr.rises.2 hw.2 fun x => ⟨fun hx => ?_, fun hx => wantB_iff.1 h2 x hx⟩
      exact mem_of_full (nodup_of_rises hw) (wantB_iff.1 h2) (by omega) x hx
    · omega
end Go.Proofs.YtdiklmfaehmmjaaGreatDoor
