/-
  Lists of ints that a call grows side by side, each in memory of its own.
-/
import Derived.Test.YtbcfncdmkgoidaaKit
import Derived.Test.YtbcfncdmkgoidaaNumsD
namespace Go.Proofs.Ytbcfncdmkgoidaa
open Go.RowKit
set_option linter.unusedVariables false

structure Li where
  A : Option Addr
  n : Nat
  c : Nat
  xs : List Int
def LiHit (h : Li) (g : Nat) : Prop := 0 < h.c ∧ h.A = some ⟨g, 0, none⟩
structure Lists (w : World) (B : Nat) (e : TypeId) (L : List Li) : Prop where
  own : ∀ t ∈ L, Own w B e t.A t.n t.c (ci64 t.xs)
  sep : L.Pairwise fun a b => ∀ g, LiHit a g → ¬ LiHit b g

theorem Lists.none_ (w : World) (B : Nat) (e : TypeId) (k : Nat) : Lists w B e (List.replicate k ⟨none, 0, 0, []⟩) where
  own := fun t ht => by rw [(List.mem_replicate.1 ht).2]; exact Own.none_ _ _ _ _
  sep := by
    refine List.pairwise_replicate.2 ?_
    by_cases hk : k ≤ 1
    · exact .inl hk
    · refine .inr fun g hg => absurd hg.1 (by simp)
theorem Lists.below {w w' : World} {B : Nat} {e : TypeId} {L : List Li} (h : Lists w B e L) (hb : Below w.heap.size w w') : Lists w' B e L := ⟨fun t ht => (h.own t ht).below hb, h.sep⟩
/-- One of them grows by one. -/
theorem Lists.grow {w w' : World} {B : Nat} {e : TypeId} {L : List Li} (h : Lists w B e L) {i : Nat} {A : Option Addr} {n c : Nat} {xs : List Int} (hi : L[i]? = some ⟨A, n, c, xs⟩) (v : Int) (A2 : Option Addr) (c2 S : Nat)
    (ho : Own w' B e A2 (n + 1) c2 (ci64 (xs ++ [v]))) (hf : ∀ k, k < w.heap.size → ((n = 0 ∧ c = 0) ∨ A ≠ some ⟨k, 0, none⟩) → w'.heap[k]? = w.heap[k]?) (hat : (A2 = A ∧ c2 = c) ∨ A2 = some ⟨S, 0, none⟩) (hS : w.heap.size ≤ S) :
    Lists w' B e (L.set i ⟨A2, n + 1, c2, xs ++ [v]⟩) := by
  obtain ⟨hil, hie⟩ := List.getElem?_eq_some_iff.1 hi
  have hself := h.own _ (List.mem_of_getElem? hi)
  have hlt : ∀ t ∈ L, ∀ g, LiHit t g → g < w.heap.size := by
    intro t ht g hg
    obtain ⟨g', hA, _, hl⟩ := (h.own t ht).lt hg.1
    rw [hg.2] at hA
    cases hA
    exact hl
  have hnew : ∀ t ∈ L, ∀ g, LiHit t g → (∀ g', LiHit (⟨A, n, c, xs⟩ : Li) g' → g' ≠ g) → ¬ LiHit (⟨A2, n + 1, c2, xs ++ [v]⟩ : Li) g := by
    intro t ht g hg hne hg2
    have hgl := hlt t ht g hg
    rcases hat with ⟨e1, e2⟩ | e1
    · have h1 : 0 < c := by have := hg2.1; simp at this; omega
      exact hne g ⟨h1, by rw [← e1]; exact hg2.2⟩ rfl
    · have h2 : A2 = some ⟨g, 0, none⟩ := hg2.2
      rw [e1] at h2
      cases h2
      omega
  have hkeep : ∀ (j : Nat) (t : Li), j ≠ i → L[j]? = some t → Own w' B e t.A t.n t.c (ci64 t.xs) := by
    intro j t hj ht
    have hm := List.mem_of_getElem? ht
    by_cases hc0 : 0 < t.c
    · refine (h.own t hm).keep fun g hA _ hB hgl => hf g hgl ?_
      by_cases hcs : 0 < c
      · right
        intro he
        obtain ⟨hjl, hje⟩ := List.getElem?_eq_some_iff.1 ht
        have hp := List.pairwise_iff_getElem.1 h.sep
        rcases Nat.lt_or_gt_of_ne hj with hx | hx
        · have := hp j i hjl hil hx g (by rw [hje]; exact ⟨hc0, hA⟩)
          rw [hie] at this
          exact this ⟨hcs, he⟩
        · have := hp i j hil hjl hx g (by rw [hie]; exact ⟨hcs, he⟩)
          rw [hje] at this
          exact this ⟨hc0, hA⟩
      · left
        have := hself.le
        exact ⟨by show n = 0; have h1 : n ≤ c := this; omega, by omega⟩
    · have hle := (h.own t hm).le
      exact ⟨(h.own t hm).1, .inl ⟨by omega, by omega⟩⟩
  refine ⟨fun t ht => ?_, ?_⟩
  · obtain ⟨j, hj⟩ := List.getElem?_of_mem ht
    by_cases hji : j = i
    · subst hji
      rw [List.getElem?_set_self hil] at hj
      cases hj
      exact ho
    · rw [List.getElem?_set_ne (by omega)] at hj
      exact hkeep j t hji hj
  · have hp := List.pairwise_iff_getElem.1 h.sep
    refine List.pairwise_iff_getElem.2 fun a b ha hb hab g hg hg2 => ?_
    have ha' : a < L.length := by simpa using ha
    have hb' : b < L.length := by simpa using hb
    have oth : ∀ (k : Nat) (hk : k < L.length), k ≠ i → ∀ g, LiHit L[k] g → ¬ LiHit (⟨A2, n + 1, c2, xs ++ [v]⟩ : Li) g := by
      intro k hk hki g hg
      refine hnew _ (List.getElem_mem hk) g hg fun g' hg' he => ?_
      subst he
      rcases Nat.lt_or_gt_of_ne hki with hx | hx
      · exact hp k i hk hil hx g' hg (by rw [hie]; exact hg')
      · exact hp i k hil hk hx g' (by rw [hie]; exact hg') hg
    by_cases hai : a = i
    · subst hai
      rw [List.getElem_set_self] at hg
      rw [List.getElem_set_ne (by omega)] at hg2
      exact oth b hb' (by omega) g hg2 hg
    · rw [List.getElem_set_ne (by omega)] at hg
      by_cases hbi : b = i
      · subst hbi
        rw [List.getElem_set_self] at hg2
        exact oth a ha' hai g hg hg2
      · rw [List.getElem_set_ne (by omega)] at hg2
        exact hp a b ha' hb' hab g hg hg2
end Go.Proofs.Ytbcfncdmkgoidaa
