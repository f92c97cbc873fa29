/-
  Layer 9, more: where two lists part; names that are moved; who want the same.
-/
import Derived.Test.YtdckoaljcklmhaaGreatDoorMaF
import Derived.Test.YtdckoaljcklmhaaGreatDoorMaP
import Derived.Test.YtdckoaljcklmhaaGreatDoorGrO
namespace Go.Proofs.YtdckoaljcklmhaaGreatDoor
set_option linter.unusedVariables false

/-! Lists in their order. -/
def lexB : List Int → List Int → Bool
  | a :: l, b :: r => if a = b then lexB l r else decide (a < b)
  | _, _ => false
theorem lexB_self : ∀ l : List Int, lexB l l = false
  | [] => rfl
  | a :: l => by rw [lexB, if_pos rfl, lexB_self l]
theorem lexB_asym : ∀ {l r : List Int}, lexB l r = true → lexB r l = false
  | [], _, h => by simp [lexB] at h
  | _ :: _, [], h => by simp [lexB] at h
  | a :: l, b :: r, h => by
    rw [lexB] at h ⊢
    by_cases e : a = b
    · rw [if_pos e] at h; rw [if_pos e.symm]; exact lexB_asym h
    · rw [if_neg e] at h; rw [if_neg fun e' => e e'.symm]
      have := of_decide_eq_true h
      exact decide_eq_false (by omega)
theorem lexB_tri : ∀ {l r : List Int}, l.length = r.length → l = r ∨ lexB l r = true ∨ lexB r l = true
  | [], [], _ => .inl rfl
  | [], _ :: _, h => by simp at h
  | _ :: _, [], h => by simp at h
  | a :: l, b :: r, h => by
    rw [lexB, lexB]
    by_cases e : a = b
    · subst e
      rw [if_pos rfl, if_pos rfl]
      rcases lexB_tri (l := l) (r := r) (by simpa using h) with h1 | h1
      · exact .inl (by rw [h1])
      · exact .inr h1
    · rw [if_neg e, if_neg fun e' => e e'.symm]
      refine .inr ?_
      rcases Int.lt_or_lt_of_ne e with h1 | h1
      · exact .inl (decide_eq_true h1)
      · exact .inr (decide_eq_true h1)
theorem lexB_trans : ∀ {l r t : List Int}, lexB l r = true → lexB r t = true → lexB l t = true
  | [], _, _, h, _ => by simp [lexB] at h
  | _ :: _, [], _, h, _ => by simp [lexB] at h
  | _ :: _, _ :: _, [], _, h => by simp [lexB] at h
  | a :: l, b :: r, c :: t, h1, h2 => by
    rw [lexB] at h1 h2 ⊢
    by_cases e1 : a = b
    · subst e1
      rw [if_pos rfl] at h1
      by_cases e2 : a = c
      · subst e2
        rw [if_pos rfl] at h2 ⊢
        exact lexB_trans h1 h2
      · rw [if_neg e2] at h2 ⊢
        exact h2
    · rw [if_neg e1] at h1
      have h1 := of_decide_eq_true h1
      by_cases e2 : b = c
      · subst e2
        rw [if_neg e1]
        exact decide_eq_true h1
      · rw [if_neg e2] at h2
        have h2 := of_decide_eq_true h2
        rw [if_neg (by omega)]
        exact decide_eq_true (by omega)
/-- Fewer, or as many and ahead. -/
def befB (a b : List Int) : Bool := decide (a.length < b.length) || (decide (a.length = b.length) && lexB a b)
theorem befB_iff {a b : List Int} : befB a b = true ↔ a.length < b.length ∨ a.length = b.length ∧ lexB a b = true := by
  simp [befB]
theorem befB_asym {a b : List Int} (h : befB a b = true) : befB b a = false := by
  rw [Bool.eq_false_iff]
  intro h2
  rw [befB_iff] at h h2
  rcases h with h | ⟨h, h3⟩
  · rcases h2 with h2 | ⟨h2, _⟩ <;> omega
  · rcases h2 with h2 | ⟨_, h4⟩
    · omega
    · rw [lexB_asym h3] at h4; cases h4
theorem befB_tri (a b : List Int) : a = b ∨ befB a b = true ∨ befB b a = true := by
  rw [befB_iff, befB_iff]
  rcases Nat.lt_trichotomy a.length b.length with h | h | h
  · exact .inr (.inl (.inl h))
  · rcases lexB_tri h with h1 | h1 | h1
    · exact .inl h1
    · exact .inr (.inl (.inr ⟨h, h1⟩))
    · exact .inr (.inr (.inr ⟨h.symm, h1⟩))
  · exact .inr (.inr (.inl h))
theorem befB_trans {a b c : List Int} (h1 : befB a b = true) (h2 : befB b c = true) : befB a c = true := by
  rw [befB_iff] at h1 h2 ⊢
  rcases h1 with h1 | ⟨h1, h3⟩
  · rcases h2 with h2 | ⟨h2, _⟩ <;> exact .inl (by omega)
  · rcases h2 with h2 | ⟨h2, h4⟩
    · exact .inl (by omega)
    · exact .inr ⟨by omega, lexB_trans h3 h4⟩

/-! Too few. -/
/-- Does one want nothing but these? -/
def wantB (w l : List Int) : Bool := w.all fun k => decide (k ∈ l)
/-- Who of some want nothing but these. -/
def withinL (g : List (List Int)) (s l : List Int) : List Int := s.filter fun i => wantB (g.getD i.toNat []) l
def fewB (g : List (List Int)) (s l : List Int) : Bool := decide (l.length < (withinL g s l).length)
theorem wantB_iff {w l : List Int} : wantB w l = true ↔ ∀ k ∈ w, k ∈ l := by simp [wantB]
theorem mem_within {g : List (List Int)} {s l : List Int} {i : Int} : i ∈ withinL g s l ↔ i ∈ s ∧ ∀ k ∈ g.getD i.toNat [], k ∈ l := by
  rw [withinL, List.mem_filter, wantB_iff]
/-- Is one ahead of what was found, if anything was? -/
def betB (o : Option (List Int)) (l : List Int) : Bool := match o with
  | none => true
  | some b => befB l b
def fewN (g : List (List Int)) (m : Nat) (s : List Int) : Nat → Option (List Int)
  | 0 => none
  | N + 1 => if (fewB g s (partL m N) && betB (fewN g m s N) (partL m N)) = true then some (partL m N) else fewN g m s N
theorem filter_both {α : Type} (l : List α) (p : α → Bool) : l.length = (l.filter p).length + (l.filter fun x => !p x).length := by
  rw [← List.countP_eq_length_filter, ← List.countP_eq_length_filter]
  exact countP_true l p
/-- The fewest items that are too few for some, of several the first list. -/
def fewP (g : List (List Int)) (m : Nat) (s : List Int) : Option (List Int) := fewN g m s (2 ^ m)
structure IsFew (g : List (List Int)) (m : Nat) (s l : List Int) : Prop where
  rises : Rises m l
  few : fewB g s l = true
structure Best (g : List (List Int)) (m : Nat) (s l : List Int) : Prop where
  is : IsFew g m s l
  least : ∀ r, IsFew g m s r → r = l ∨ befB l r = true
section
variable {g : List (List Int)} {m : Nat} {s l : List Int}
theorem best_one {r : List Int} (h1 : Best g m s l) (h2 : Best g m s r) : l = r := by
  rcases h1.least r h2.is with h | h
  · exact h.symm
  · rcases h2.least l h1.is with h3 | h3
    · exact h3
    · rw [befB_asym h] at h3; cases h3
theorem fewN_none {N : Nat} : fewN g m s N = none → ∀ p, p < N → fewB g s (partL m p) = false := by
  induction N with
  | zero => exact fun _ p hp => absurd hp (by omega)
  | succ N ih =>
    intro h p hp
    rw [fewN] at h
    split at h
    · cases h
    · rename_i h1
      rw [h] at h1
      have h2 : fewB g s (partL m N) = false := by simpa [betB] using h1
      by_cases e : p = N
      · rw [e]; exact h2
      · exact ih h p (by omega)
theorem fewN_some {N : Nat} : ∀ {l}, fewN g m s N = some l → (∃ p, p < N ∧ l = partL m p) ∧ fewB g s l = true ∧ ∀ p, p < N → fewB g s (partL m p) = true → partL m p = l ∨ befB l (partL m p) = true := by
  induction N with
  | zero => intro l h; cases h
  | succ N ih =>
    intro l h
    rw [fewN] at h
    split at h
    · rename_i h1
      injection h with h
      subst h
      rw [Bool.and_eq_true] at h1
      refine ⟨⟨N, by omega, rfl⟩, h1.1, fun p hp hf => ?_⟩
      by_cases e : p = N
      · rw [e]; exact .inl rfl
      · cases hN : fewN g m s N with
        | none => rw [fewN_none hN p (by omega)] at hf; cases hf
        | some b =>
          rw [hN] at h1
          have h2 : befB (partL m N) b = true := by simpa [betB] using h1.2
          rcases (ih hN).2.2 p (by omega) hf with h3 | h3
          · rw [h3]; exact .inr h2
          · exact .inr (befB_trans h2 h3)
    · rename_i h1
      obtain ⟨⟨p, hp, e⟩, h2, h3⟩ := ih h
      refine ⟨⟨p, by omega, e⟩, h2, fun q hq hf => ?_⟩
      by_cases e2 : q = N
      · subst e2
        rw [h] at h1
        have h4 : befB (partL m q) l = false := by
          cases h5 : befB (partL m q) l with
          | false => rfl
          | true => exact absurd (by rw [hf]; simpa [betB] using h5) h1
        rcases befB_tri (partL m q) l with h5 | h5 | h5
        · exact .inl h5
        · rw [h4] at h5; cases h5
        · exact .inr h5
      · exact h3 q (by omega) hf
theorem few_some (h : fewP g m s = some l) : Best g m s l := by
  obtain ⟨⟨p, hp, e⟩, h2, h3⟩ := fewN_some h
  refine ⟨⟨by rw [e]; exact upto_rises _ _, h2⟩, fun r hr => ?_⟩
  obtain ⟨q, hq, rfl⟩ := part_of hr.rises
  exact h3 q hq hr.few
theorem few_none (h : fewP g m s = none) : ∀ r, ¬ IsFew g m s r := by
  intro r hr
  obtain ⟨q, hq, rfl⟩ := part_of hr.rises
  have h2 := hr.few
  rw [fewN_none h q hq] at h2
  cases h2
theorem few_best (h : Best g m s l) : fewP g m s = some l := by
  cases h2 : fewP g m s with
  | none => exact absurd h.is (few_none h2 l)
  | some r => rw [best_one (few_some h2) h]
theorem few_iff : (fewP g m s).isSome = true ↔ ∃ l, IsFew g m s l := by
  cases h : fewP g m s with
  | none => simp; exact few_none h
  | some r => simp; exact ⟨r, (few_some h).is⟩
/-- No items are too few, if some are none. -/
theorem fewB_congr {g' : List (List Int)} {s' : List Int} (h : ∀ l, Rises m l → (withinL g s l).length = (withinL g' s' l).length) : fewP g m s = fewP g' m s' := by
  have e : ∀ l, IsFew g m s l ↔ IsFew g' m s' l := fun l => by
    constructor
    · rintro ⟨h1, h2⟩; exact ⟨h1, by rw [fewB, h l h1] at h2; exact h2⟩
    · rintro ⟨h1, h2⟩; exact ⟨h1, by rw [fewB, ← h l h1] at h2; exact h2⟩
  cases h2 : fewP g m s with
  | none =>
    cases h3 : fewP g' m s' with
    | none => rfl
    | some r => exact absurd ((e r).2 (few_some h3).is) (few_none h2 r)
  | some r =>
    have b := few_some h2
    exact (few_best ⟨(e r).1 b.is, fun t ht => b.least t ((e t).2 ht)⟩).symm

/-! By Hall: some are too many for items just if not all of them can have one. -/
theorem within_rises {n : Int} (hs : Rises n s) : Rises n (withinL g s l) := ⟨fun x hx => hs.1 x (List.mem_filter.1 hx).1, hs.2.sublist List.filter_sublist⟩
theorem nodup_of_rises {n : Int} (hs : Rises n s) : s.Nodup := hs.2.imp fun h => by omega
theorem near_within (hc : checkG g m = true) (hs : Rises g.length s) : (nearG g m (withinL g s l)).length ≤ l.length := by
  refine nodup_sub (nodup_of_rises (upto_rises _ _)) fun k hk => ?_
  obtain ⟨i, _, _, rfl⟩ := mem_upto.1 hk
  obtain ⟨_, j, hj, hk2⟩ := mem_nearG.1 hk
  exact (mem_within.1 hj).2 _ hk2
theorem few_not (hc : checkG g m = true) (hs : Rises g.length s) : (fewP g m s).isSome = !allB g m s := by
  rw [Bool.eq_iff_iff, few_iff, Bool.not_eq_true']
  have hrow : ∀ t, Rises s.length t → nearG (rowsG g s) m t = nearG g m (t.map fun i => s.getD i.toNat 0) := fun t ht => near_rows ht
  constructor
  · rintro ⟨l, h1, h2⟩
    rw [Bool.eq_false_iff]
    intro h3
    have h4 := (all_part hc hs (List.filter_sublist (p := fun i => wantB (g.getD i.toNat []) l)) h3)
    have hs2 : Rises g.length (withinL g s l) := within_rises hs
    have h5 := (all_hall hc hs2).1 h4 (upto (withinL g s l).length fun _ => true) (upto_rises _ _)
    rw [upto_all_len] at h5
    have h6 : (nearG (rowsG g (withinL g s l)) m (upto (withinL g s l).length fun _ => true)).length ≤ (nearG g m (withinL g s l)).length := by
      refine nodup_sub (nodup_of_rises (upto_rises _ _)) fun k hk => ?_
      rw [near_rows (upto_rises _ _)] at hk
      obtain ⟨q, _, _, rfl⟩ := mem_upto.1 hk
      obtain ⟨hq, j, hj, hk2⟩ := mem_nearG.1 hk
      obtain ⟨a, ha, rfl⟩ := List.mem_map.1 hj
      refine mem_nearG.2 ⟨hq, _, ?_, hk2⟩
      have := mem_all.1 ha
      rw [List.getD_eq_getElem?_getD, List.getElem?_eq_getElem (by omega)]
      exact List.getElem_mem _
    have h7 := near_within (l := l) hc hs
    have h8 := of_decide_eq_true h2
    omega
  · intro h
    have h1 : ¬ ∀ t, Rises s.length t → t.length ≤ (nearG (rowsG g s) m t).length := fun h2 => by
      rw [(all_hall hc hs).2 h2] at h; cases h
    obtain ⟨t, ht⟩ := Classical.not_forall.1 h1
    obtain ⟨hr, hlt⟩ := Classical.not_imp.1 ht
    rw [hrow t hr] at hlt
    have hg : ∀ a ∈ t, ∃ h : a.toNat < s.length, s.getD a.toNat 0 = s[a.toNat] := fun a ha => by
      have := hr.1 a ha
      refine ⟨by omega, ?_⟩
      rw [List.getD_eq_getElem?_getD, List.getElem?_eq_getElem (by omega)]; rfl
    refine ⟨nearG g m (t.map fun i => s.getD i.toNat 0), upto_rises _ _, decide_eq_true ?_⟩
    have hsub : (t.map fun i => s.getD i.toNat 0).length ≤ (withinL g s (nearG g m (t.map fun i => s.getD i.toNat 0))).length := by
      refine nodup_sub ?_ fun x hx => ?_
      · refine List.pairwise_map.2 (hr.2.imp_of_mem fun {a b} ha hb hab => ?_)
        obtain ⟨h1, e1⟩ := hg a ha
        obtain ⟨h2, e2⟩ := hg b hb
        rw [e1, e2]
        have h0 := hr.1 a ha
        have := List.pairwise_iff_getElem.1 hs.2 _ _ h1 h2 (by omega)
        omega
      · obtain ⟨a, ha, rfl⟩ := List.mem_map.1 hx
        obtain ⟨h1, e1⟩ := hg a ha
        have hm : s.getD a.toNat 0 ∈ s := by rw [e1]; exact List.getElem_mem _
        have hr2 := hs.1 _ hm
        refine mem_within.2 ⟨hm, fun k hk => ?_⟩
        have h3 := ((checkG_iff.1 hc).2.2.2 _ (getD_mem (i := (s.getD a.toNat 0).toNat) (by omega))).1 k hk
        obtain ⟨k, rfl⟩ : ∃ y : Nat, k = y := ⟨k.toNat, by omega⟩
        exact mem_nearG.2 ⟨by omega, _, List.mem_map.2 ⟨a, ha, rfl⟩, hk⟩
    rw [List.length_map] at hsub
    omega
/-- No part of the least can be left out. -/
def wantAny (w p : List Int) : Bool := p.any fun k => decide (k ∈ w)
theorem few_part (h : Best g m s l) {p : List Int} (hp : p.Sublist l) (h0 : p ≠ []) : p.length < ((withinL g s l).filter fun i => wantAny (g.getD i.toNat []) p).length := by
  have hr := h.is.rises
  have hf := of_decide_eq_true h.is.few
  obtain ⟨q, hq⟩ : ∃ q, l.filter (fun k => decide (k ∉ p)) = q := ⟨_, rfl⟩
  have hql : q.length + p.length = l.length := by
    have h1 := filter_both l fun k => decide (k ∈ p)
    have h2 : (l.filter fun k => decide (k ∈ p)).length = p.length := by
      have hn := nodup_of_rises hr
      refine Nat.le_antisymm (nodup_sub (hn.filter _) fun x hx => of_decide_eq_true (List.mem_filter.1 hx).2) (nodup_sub (hn.sublist hp) fun x hx => List.mem_filter.2 ⟨hp.mem hx, decide_eq_true hx⟩)
    have h3 : l.filter (fun k => decide (k ∉ p)) = l.filter (fun k => !decide (k ∈ p)) := by
      refine List.filter_congr fun x _ => ?_
      simp
    rw [← hq, h3]
    omega
  have hqr : Rises m q := by rw [← hq]; exact ⟨fun x hx => hr.1 x (List.mem_filter.1 hx).1, hr.2.sublist List.filter_sublist⟩
  have hp1 : 0 < p.length := List.length_pos_iff.2 h0
  have hnf : (withinL g s q).length ≤ q.length := by
    refine Nat.le_of_not_lt fun h1 => ?_
    rcases h.least q ⟨hqr, decide_eq_true h1⟩ with h2 | h2
    · rw [h2] at hql; omega
    · rcases befB_iff.1 h2 with h3 | ⟨h3, _⟩ <;> omega
  have hsplit : (withinL g s l).length ≤ ((withinL g s l).filter fun i => wantAny (g.getD i.toNat []) p).length + (withinL g s q).length := by
    have h1 := filter_both (withinL g s l) fun i => wantAny (g.getD i.toNat []) p
    have h2 : ((withinL g s l).filter fun i => !wantAny (g.getD i.toNat []) p) = (withinL g s q).filter fun i => wantB (g.getD i.toNat []) l := by
      rw [withinL, withinL, List.filter_filter, List.filter_filter]
      refine List.filter_congr fun i _ => ?_
      rw [Bool.eq_iff_iff, Bool.and_eq_true, Bool.and_eq_true, wantB_iff, wantB_iff, Bool.not_eq_true', wantAny, List.any_eq_false]
      simp only [decide_eq_true_eq, ← hq, List.mem_filter]
      constructor
      · rintro ⟨h1, h2⟩
        exact ⟨h2, fun k hk => ⟨h2 k hk, fun hkp => h1 k hkp hk⟩⟩
      · rintro ⟨h1, h2⟩
        exact ⟨fun k hkp hk => (h2 k hk).2 hkp, h1⟩
    have h3 : ((withinL g s q).filter fun i => wantB (g.getD i.toNat []) l).length ≤ (withinL g s q).length := List.length_filter_le _ _
    rw [h2] at h1
    omega
  omega
end

/-! What the function answers. -/
def fewF (g : List (List Int)) (m : Int) (s : List Int) : Bool := nearOk g m s && (fewP g m.toNat s).isSome
def fewE (g : List (List Int)) (m : Int) (s : List Int) : List Int := if nearOk g m s = true then (fewP g m.toNat s).getD [] else []
theorem few_bad {g : List (List Int)} {m : Int} {s : List Int} (h : nearOk g m s = false) : fewF g m s = false ∧ fewE g m s = [] := by simp [fewF, fewE, h]
theorem few_yes {g : List (List Int)} {m : Nat} {s l : List Int} (h : nearOk g m s = true) (hl : fewP g m s = some l) : fewF g m s = true ∧ fewE g m s = l := by simp [fewF, fewE, h, hl]
theorem few_no {g : List (List Int)} {m : Nat} {s : List Int} (h : nearOk g m s = true) (hl : fewP g m s = none) : fewF g m s = false ∧ fewE g m s = [] := by simp [fewF, fewE, h, hl]
end Go.Proofs.YtdckoaljcklmhaaGreatDoor


namespace Go.Proofs.YtdckoaljcklmhaaGreatDoor
open Go.RowKit
set_option linter.unusedVariables false

def FewC (f : Nat) : Prop := ∀ (x : Gr) (m : Int) (u : Ls) (w : World), x.Ok w → u.Ok w → -9223372036854775808 ≤ m → m ≤ 9223372036854775807 →
  Calls Tryz.prog f #[x.v, .int .i64 m, u.v] w fun e w' => ∃ A' n' c', e = .returned (.tuple #[.slice A' n' c', .bool (fewF x.g m u.zs), .int .i64 (nearErr x.g m u.zs)]) ∧ OwnI w' w.heap.size ⟨A', n', c', fewE x.g m u.zs⟩ ∧ Below w.heap.size w w'
end Go.Proofs.YtdckoaljcklmhaaGreatDoor


namespace Go.Proofs.YtdckoaljcklmhaaGreatDoor
set_option linter.unusedVariables false

theorem lexB_at : ∀ (i : Nat) {l r : List Int} (hi : i < l.length) (hj : i < r.length), l.take i = r.take i → l[i] ≠ r[i] → lexB l r = decide (l[i] < r[i])
  | 0, a :: l, b :: r, _, _, _, hne => by
    rw [lexB, if_neg (by simpa using hne)]; rfl
  | 0, [], _, h, _, _, _ => by simp at h
  | 0, _ :: _, [], _, h, _, _ => by simp at h
  | i + 1, a :: l, b :: r, hi, hj, ht, hne => by
    simp only [List.take_succ_cons, List.cons.injEq] at ht
    obtain ⟨rfl, ht⟩ := ht
    rw [lexB, if_pos rfl]
    exact lexB_at i (by simpa using hi) (by simpa using hj) ht (by simpa using hne)
  | i + 1, [], _, h, _, _, _ => by simp at h
  | i + 1, _ :: _, [], _, h, _, _ => by simp at h
/-! All bidders, in whatever order. -/
/-! Who want the same. -/
end Go.Proofs.YtdckoaljcklmhaaGreatDoor

