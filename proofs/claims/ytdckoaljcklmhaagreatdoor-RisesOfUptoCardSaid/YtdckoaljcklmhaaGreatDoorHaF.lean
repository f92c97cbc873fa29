/-
  The mathematics of layer 9: the sets of some items, those of fewer ahead, of as many the first list ahead; the first of them that are too few.
-/
import Derived.Test.YtdckoaljcklmhaaGreatDoorHaE
namespace Go.Proofs.YtdckoaljcklmhaaGreatDoor
set_option linter.unusedVariables false

def setsN : List Int → Nat → List (List Int)
  | _, 0 => [[]]
  | [], _ + 1 => []
  | a :: l, k + 1 => (setsN l k).map (a :: ·) ++ setsN l (k + 1)
theorem setsN_zero (l : List Int) : setsN l 0 = [[]] := by cases l <;> rfl
theorem mem_setsN : ∀ {l : List Int} {k : Nat} {r : List Int}, r ∈ setsN l k ↔ r.Sublist l ∧ r.length = k
  | l, 0, r => by
    rw [setsN_zero, List.mem_singleton]
    exact ⟨fun h => by subst h; exact ⟨List.nil_sublist _, rfl⟩, fun h => List.eq_nil_of_length_eq_zero h.2⟩
  | [], k + 1, r => by
    constructor
    · intro h; cases h
    · rintro ⟨h, h2⟩
      rw [List.sublist_nil.1 h] at h2
      cases h2
  | a :: l, k + 1, r => by
    rw [setsN, List.mem_append, List.mem_map, mem_setsN (l := l)]
    constructor
    · rintro (⟨t, ht, rfl⟩ | ⟨h1, h2⟩)
      · obtain ⟨h1, h2⟩ := mem_setsN.1 ht
        exact ⟨h1.cons_cons a, by simp [h2]⟩
      · exact ⟨h1.cons a, h2⟩
    · rintro ⟨h1, h2⟩
      cases h1 with
      | cons _ h => exact .inr ⟨h, h2⟩
      | cons_cons _ h => exact .inl ⟨_, mem_setsN.2 ⟨h, by simpa using h2⟩, rfl⟩
theorem setsN_ordered : ∀ {l : List Int} (k : Nat), l.Pairwise (· < ·) → (setsN l k).Pairwise fun a b => lexB a b = true
  | l, 0, _ => by rw [setsN_zero]; exact List.pairwise_singleton _ _
  | [], k + 1, _ => List.Pairwise.nil
  | a :: l, k + 1, h => by
    obtain ⟨h1, h2⟩ := List.pairwise_cons.1 h
    rw [setsN, List.pairwise_append]
    refine ⟨?_, setsN_ordered (k + 1) h2, ?_⟩
    · rw [List.pairwise_map]
      refine (setsN_ordered k h2).imp fun {x y} hxy => ?_
      rw [lexB, if_pos rfl]; exact hxy
    · intro x hx y hy
      obtain ⟨t, _, rfl⟩ := List.mem_map.1 hx
      obtain ⟨hy1, hy2⟩ := mem_setsN.1 hy
      cases y with
      | nil => cases hy2
      | cons b y =>
        have hb := h1 b (hy1.subset (List.mem_cons_self ..))
        rw [lexB, if_neg (by omega)]
        exact decide_eq_true hb
/-- Those that begin with one of the first j items. -/
def setsTo (l : List Int) (k j : Nat) : List (List Int) := (List.range j).flatMap fun i => (setsN (l.drop (i + 1)) k).map (l.getD i 0 :: ·)
theorem setsTo_succ (l : List Int) (k j : Nat) : setsTo l k (j + 1) = setsTo l k j ++ (setsN (l.drop (j + 1)) k).map (l.getD j 0 :: ·) := by
  simp only [setsTo, List.range_succ, List.flatMap_append, List.flatMap_cons, List.flatMap_nil, List.append_nil]
theorem setsTo_all : ∀ (l : List Int) (k : Nat), setsTo l k l.length = setsN l (k + 1)
  | [], k => rfl
  | a :: l, k => by
    rw [setsN, ← setsTo_all l k, setsTo, List.length_cons, List.range_succ_eq_map, List.flatMap_cons, List.flatMap_map]
    rfl
theorem setsTo_pre (l : List Int) (k : Nat) {i j : Nat} (h : i ≤ j) : setsTo l k i <+: setsTo l k j := by
  obtain ⟨m, rfl⟩ := Nat.exists_eq_add_of_le h
  rw [setsTo, setsTo, List.range_add, List.flatMap_append]
  exact ⟨_, rfl⟩
/-- All the sets, up to so many items. -/
def setsUp (l : List Int) (m : Nat) : List (List Int) := (List.range m).flatMap fun k => setsN l k
theorem setsUp_succ (l : List Int) (m : Nat) : setsUp l (m + 1) = setsUp l m ++ setsN l m := by
  simp only [setsUp, List.range_succ, List.flatMap_append, List.flatMap_cons, List.flatMap_nil, List.append_nil]
theorem setsUp_pre (l : List Int) {i j : Nat} (h : i ≤ j) : setsUp l i <+: setsUp l j := by
  obtain ⟨m, rfl⟩ := Nat.exists_eq_add_of_le h
  rw [setsUp, setsUp, List.range_add, List.flatMap_append]
  exact ⟨_, rfl⟩
theorem mem_setsUp {l : List Int} {m : Nat} {r : List Int} : r ∈ setsUp l m ↔ r.Sublist l ∧ r.length < m := by
  rw [setsUp, List.mem_flatMap]
  constructor
  · rintro ⟨k, hk, hr⟩
    obtain ⟨h1, h2⟩ := mem_setsN.1 hr
    have := List.mem_range.1 hk
    exact ⟨h1, by omega⟩
  · rintro ⟨h1, h2⟩
    exact ⟨_, List.mem_range.2 h2, mem_setsN.2 ⟨h1, rfl⟩⟩
def allSets (l : List Int) : List (List Int) := setsUp l (l.length + 1)
theorem mem_allSets {l r : List Int} : r ∈ allSets l ↔ r.Sublist l := by
  rw [allSets, mem_setsUp]
  exact ⟨fun h => h.1, fun h => ⟨h, by have := h.length_le; omega⟩⟩
theorem setsUp_ordered {l : List Int} (h : l.Pairwise (· < ·)) : ∀ m, (setsUp l m).Pairwise fun a b => befB a b = true
  | 0 => List.Pairwise.nil
  | m + 1 => by
    rw [setsUp_succ, List.pairwise_append]
    refine ⟨setsUp_ordered h m, ?_, ?_⟩
    · refine (setsN_ordered m h).imp_of_mem fun {x y} hx hy hxy => ?_
      rw [befB_iff]
      exact .inr ⟨by rw [(mem_setsN.1 hx).2, (mem_setsN.1 hy).2], hxy⟩
    · intro x hx y hy
      rw [befB_iff]
      exact .inl (by have := (mem_setsUp.1 hx).2; have := (mem_setsN.1 hy).2; omega)
theorem find_first {l : List (List Int)} (ho : l.Pairwise fun a b => befB a b = true) {f : List Int → Bool} {pre post : List (List Int)} {x b : List Int} (hl : l = pre ++ x :: post) (hp : ∀ y ∈ pre, f y = false) (hb : b ∈ l) (hfb : f b = true) : x = b ∨ befB x b = true := by
  rw [hl] at hb ho
  obtain ⟨_, h2, h3⟩ := List.pairwise_append.1 ho
  rcases List.mem_append.1 hb with h | h
  · rw [hp b h] at hfb; cases hfb
  · rcases List.mem_cons.1 h with h | h
    · exact .inl h.symm
    · exact .inr ((List.pairwise_cons.1 h2).1 b h)

section
variable {g : List (List Int)} {m : Nat} {s : List Int}
/-- No item stands among the fewest that is not near. -/
theorem best_near {l : List Int} (h : Best g m s l) : l.Sublist (nearG g m s) := by
  have hn : ∀ z ∈ l, z ∈ nearG g m s := by
    intro z hz
    have h1 := few_part h (p := [z]) (List.singleton_sublist.2 hz) (by simp)
    rw [List.length_singleton] at h1
    obtain ⟨i, hi⟩ := List.exists_mem_of_length_pos (show 0 < ((withinL g s l).filter fun i => wantAny (g.getD i.toNat []) [z]).length by omega)
    obtain ⟨h2, h3⟩ := List.mem_filter.1 hi
    obtain ⟨h4, _⟩ := mem_within.1 h2
    have h5 : z ∈ g.getD i.toNat [] := by simpa [wantAny] using h3
    have hr := h.is.rises.1 z hz
    rw [nearG, mem_upto]
    refine ⟨z.toNat, by omega, ?_, by omega⟩
    rw [List.any_eq_true]
    exact ⟨i, h4, decide_eq_true (by rw [show ((z.toNat : Nat) : Int) = z by omega]; exact h5)⟩
  have hs : ∀ {a b : List Int}, a.Pairwise (· < ·) → b.Pairwise (· < ·) → (∀ z ∈ a, z ∈ b) → a.Sublist b := by
    intro a b ha hb hab
    induction b generalizing a with
    | nil =>
      cases a with
      | nil => exact List.Sublist.refl _
      | cons x a => exact absurd (hab x (List.mem_cons_self ..)) (by simp)
    | cons y b ih =>
      obtain ⟨hb1, hb2⟩ := List.pairwise_cons.1 hb
      cases a with
      | nil => exact List.nil_sublist _
      | cons x a =>
        obtain ⟨ha1, ha2⟩ := List.pairwise_cons.1 ha
        rcases List.mem_cons.1 (hab x (List.mem_cons_self ..)) with e | e
        · subst e
          refine (ih ha2 hb2 fun z hz => ?_).cons_cons x
          rcases List.mem_cons.1 (hab z (List.mem_cons_of_mem _ hz)) with e2 | e2
          · have := ha1 z hz; omega
          · exact e2
        · refine (ih ha hb2 fun z hz => ?_).cons y
          rcases List.mem_cons.1 (hab z hz) with e2 | e2
          · rcases List.mem_cons.1 hz with e3 | e3
            · rw [e3]; exact e
            · have := ha1 z e3; have := hb1 x e; omega
          · exact e2
  exact hs h.is.rises.2 (upto_rises _ _).2 hn
theorem sub_rises {r : List Int} (h : r.Sublist (nearG g m s)) : Rises m r := ⟨fun z hz => (upto_rises m _).1 z (h.subset hz), (upto_rises m _).2.sublist h⟩
/-- The first that is found is the one. -/
theorem first_few {pre post : List (List Int)} {x : List Int} (hl : allSets (nearG g m s) = pre ++ x :: post) (hp : ∀ y ∈ pre, fewB g s y = false) (hx : fewB g s x = true) : fewP g m s = some x := by
  have hxm : x ∈ allSets (nearG g m s) := by rw [hl]; simp
  have hr := sub_rises (mem_allSets.1 hxm)
  have hsome : (fewP g m s).isSome = true := few_iff.2 ⟨x, hr, hx⟩
  obtain ⟨b, hb⟩ := Option.isSome_iff_exists.1 hsome
  have hB := few_some hb
  have hbm : b ∈ allSets (nearG g m s) := mem_allSets.2 (best_near hB)
  rcases find_first (setsUp_ordered (upto_rises m _).2 _) hl hp hbm hB.is.few with h | h
  · rw [hb, h]
  · rcases hB.least x ⟨hr, hx⟩ with h2 | h2
    · rw [hb, h2]
    · rw [befB_asym h] at h2; cases h2
theorem none_few (hp : ∀ y ∈ allSets (nearG g m s), fewB g s y = false) : fewP g m s = none := by
  cases h : fewP g m s with
  | none => rfl
  | some b =>
    have hB := few_some h
    have := hp b (mem_allSets.2 (best_near hB))
    rw [hB.is.few] at this
    cases this
end
end Go.Proofs.YtdckoaljcklmhaaGreatDoor

