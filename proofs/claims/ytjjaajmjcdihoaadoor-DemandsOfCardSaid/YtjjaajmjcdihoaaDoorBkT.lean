/-
  The end of a law that tells a Book of bytes, ints and lists of ints: what Apart asks, out of where each list lies.
-/
import Derived.Test.YtjjaajmjcdihoaaDoorBkE
import Derived.Test.YtjjaajmjcdihoaaDoorTwinM
namespace Go.Proofs.YtjjaajmjcdihoaaDoor
open Go.RowKit
set_option linter.unusedVariables false

/-- A list, as it is held, with its number. -/
def Ls.held (u : Ls) (k : Nat) : Hl := ⟨u.A, u.n, u.c, none, 0, 0, k⟩
/-- Lists, as they are held one behind the other, from number N + 1 on. -/
def told : Nat → List Ls → List Hl
  | _, [] => []
  | N, u :: r => u.held (N + 1) :: told (N + 1) r
theorem told_snoc (N : Nat) (l : List Ls) (u : Ls) : told N (l ++ [u]) = told N l ++ [u.held (N + l.length + 1)] := by
  induction l generalizing N with
  | nil => rfl
  | cons x l ih => rw [List.cons_append, told, told, ih, List.cons_append, List.length_cons, show N + 1 + l.length + 1 = N + (l.length + 1) + 1 by omega]
theorem told_len (N : Nat) (l : List Ls) : (told N l).length = l.length := by
  induction l generalizing N with
  | nil => rfl
  | cons x l ih => rw [told, List.length_cons, ih, List.length_cons]
theorem told_mem {N : Nat} {l : List Ls} {h : Hl} (hm : h ∈ told N l) : ∃ u ∈ l, ∃ k, k ≤ N + l.length ∧ h = u.held k := by
  induction l generalizing N with
  | nil => simp [told] at hm
  | cons x l ih =>
    rw [told, List.mem_cons] at hm
    rcases hm with rfl | hm
    · exact ⟨x, by simp, N + 1, by simp, rfl⟩
    · obtain ⟨u, hu, k, hk, e⟩ := ih hm
      exact ⟨u, by simp [hu], k, by rw [List.length_cons]; omega, e⟩
theorem told_sep {N : Nat} {l : List Ls} (h : AptL l) : Sep (told N l) := by
  induction l generalizing N with
  | nil => exact List.Pairwise.nil
  | cons x l ih =>
    obtain ⟨h1, h2⟩ := List.pairwise_cons.1 h
    refine List.pairwise_cons.2 ⟨fun b hb g hg hg2 => ?_, ih h2⟩
    obtain ⟨u, hu, k, _, rfl⟩ := told_mem hb
    exact h1 u hu g hg hg2

/-- The tables are those of T, but for those of ints and of lists. -/
def SameT (T T' : Nat → Value) : Prop := ∀ j, j ≠ 1 → j ≠ 2 → j ≠ 4 → T' j = T j
theorem SameT.refl (T : Nat → Value) : SameT T T := fun _ _ _ _ => rfl
theorem SameT.trans {T T' T'' : Nat → Value} (h : SameT T T') (h2 : SameT T' T'') : SameT T T'' := fun j a b c => (h2 j a b c).trans (h j a b c)
theorem SameT.upd (T : Nat → Value) {j : Nat} (v : Value) (hj : j = 1 ∨ j = 2 ∨ j = 4) : SameT T (upd T j v) := fun i a b c => upd_ne _ _ (by omega)
theorem SameT.none_ {T T' : Nat → Value} (h : SameT T T') (h0 : ∀ j, j = 3 ∨ 5 ≤ j → T j = .slice none 0 0) : ∀ j, j = 3 ∨ 5 ≤ j → T' j = .slice none 0 0 := fun j hj => (h j (by omega) (by omega) (by omega)).trans (h0 j hj)

/-- A book that was told these lists more: ints i, lists of lists l, bytes b. -/
def more (H : Nat → List Hl) (b i l : List Hl) : Nat → List Hl := upd (upd (upd H 1 (H 1 ++ b)) 2 (H 2 ++ i)) 4 (H 4 ++ l)
theorem more_nil (H : Nat → List Hl) : more H [] [] [] = H := by
  funext j
  unfold more
  by_cases h4 : j = 4
  · subst h4; rw [upd_self, List.append_nil]
  · rw [upd_ne _ _ h4]
    by_cases h2 : j = 2
    · subst h2; rw [upd_self, List.append_nil]
    · rw [upd_ne _ _ h2]
      by_cases h1 : j = 1
      · subst h1; rw [upd_self, List.append_nil]
      · rw [upd_ne _ _ h1]
theorem more_more (H : Nat → List Hl) (b i l b' i' l' : List Hl) : more (more H b i l) b' i' l' = more H (b ++ b') (i ++ i') (l ++ l') := by
  funext j
  have e1 : more H b i l 1 = H 1 ++ b := rfl
  have e2 : more H b i l 2 = H 2 ++ i := rfl
  have e4 : more H b i l 4 = H 4 ++ l := rfl
  by_cases h4 : j = 4
  · subst h4
    show more H b i l 4 ++ l' = H 4 ++ (l ++ l')
    rw [e4, List.append_assoc]
  · by_cases h2 : j = 2
    · subst h2
      show more H b i l 2 ++ i' = H 2 ++ (i ++ i')
      rw [e2, List.append_assoc]
    · by_cases h1 : j = 1
      · subst h1
        show more H b i l 1 ++ b' = H 1 ++ (b ++ b')
        rw [e1, List.append_assoc]
      · unfold more
        simp only [upd_ne _ _ h4, upd_ne _ _ h2, upd_ne _ _ h1]
theorem more_one (H : Nat → List Hl) (h : Hl) : upd H 1 (H 1 ++ [h]) = more H [h] [] [] := by
  funext j
  unfold more
  by_cases h4 : j = 4
  · subst h4; rw [upd_self, List.append_nil]; rfl
  · by_cases h2 : j = 2
    · subst h2; rw [upd_ne _ _ h4, upd_self, List.append_nil]; rfl
    · rw [upd_ne _ _ h4, upd_ne _ _ h2]
theorem more_two (H : Nat → List Hl) (h : Hl) : upd H 2 (H 2 ++ [h]) = more H [] [h] [] := by
  funext j
  unfold more
  by_cases h4 : j = 4
  · subst h4; rw [upd_self, List.append_nil]; rfl
  · rw [upd_ne _ _ h4]
    by_cases h2 : j = 2
    · subst h2; rw [upd_self, upd_self]
    · rw [upd_ne _ _ h2, upd_ne _ _ h2]
      by_cases h1 : j = 1
      · subst h1; rw [upd_self, List.append_nil]
      · rw [upd_ne _ _ h1]
theorem more_four (H : Nat → List Hl) (h : Hl) : upd H 4 (H 4 ++ [h]) = more H [] [] [h] := by
  funext j
  unfold more
  by_cases h4 : j = 4
  · subst h4; rw [upd_self, upd_self]
  · rw [upd_ne _ _ h4, upd_ne _ _ h4]
    by_cases h2 : j = 2
    · subst h2; rw [upd_self, List.append_nil]
    · rw [upd_ne _ _ h2]
      by_cases h1 : j = 1
      · subst h1; rw [upd_self, List.append_nil]
      · rw [upd_ne _ _ h1]

abbrev Bkm (w : World) (kb N : Nat) (T : Nat → Value) (H : Nat → List Hl) : Prop := Bkn 38 tHs w kb N T H

/-- Each block is as it was, but for those of the book and its tables (told by their types). -/
def KeptT (w w' : World) : Prop := ∀ (X : Nat) (cur : Array Value) (t : TypeId), w.heap[X]? = some (.cells cur t (0, 0)) → t ≠ 38 → (∀ j, tHs j ≠ t) → w'.heap[X]? = w.heap[X]?
theorem KeptT.refl (w : World) : KeptT w w := fun _ _ _ _ _ _ => rfl
theorem KeptT.trans {w w' w'' : World} (h : KeptT w w') (h2 : KeptT w' w'') : KeptT w w'' := fun X cur t hx h1 h3 => (h2 X cur t ((h X cur t hx h1 h3).trans hx) h1 h3).trans (h X cur t hx h1 h3)
theorem KeptT.below {w w' : World} (h : Below w.heap.size w w') : KeptT w w' := fun X cur t hx _ _ => h.block X (Array.getElem?_eq_some_iff.1 hx).1
theorem Bkn.kept {w w' : World} {kb N : Nat} {T : Nat → Value} {H : Nat → List Hl} (hk : Bkm w kb N T H) {j : Nat} (hf : Fr (fun b => b = kb ∨ (T j).ownBlock = some b) w w') : KeptT w w' := by
  intro X cur t hx h1 h2
  refine hf.2 X (Array.getElem?_eq_some_iff.1 hx).1 ?_
  rintro (rfl | hb)
  · rw [hk.blk] at hx
    injection hx with hx
    injection hx with _ hx
    exact h1 hx.symm
  · rcases (hk.tab j).2 with ⟨hv, _⟩ | ⟨g, cap, cur', hv, _, hh, _⟩
    · rw [hv] at hb; cases hb
    · rw [hv] at hb
      have hg : g = X := by injection hb
      subst hg
      rw [hh] at hx
      injection hx with hx
      injection hx with _ hx
      exact h2 j hx

theorem toldInts (kb N : Nat) (T : Nat → Value) (H : Nat → List Hl) (u : Ls) (w : World) (hk : Bkm w kb N T H) (hN : N < 1000000) (hl : (H 2).length ≤ 1000000) :
    Calls Tryd.prog 9 #[.pointer (some ⟨kb, 0, none⟩), .slice u.A u.n u.c] w fun e w' => e = .returned (.tuple #[]) ∧ ∃ T', SameT T T' ∧ Bkm w' kb (N + 1) T' (more H [] [u.held (N + 1)] []) ∧ Below kb w w' ∧ KeptT w w' :=
  (told9Int kb N T H u.A u.n u.c w hk hN hl).mono fun e w' ⟨h1, v', h2, h3, h4⟩ => ⟨h1, _, SameT.upd T v' (.inr (.inl rfl)), by rw [← more_two]; exact h2, h3, hk.kept h4⟩

end Go.Proofs.YtjjaajmjcdihoaaDoor

namespace Go.Proofs.YtjjaajmjcdihoaaDoor
open Go.RowKit
set_option linter.unusedVariables false

theorem more_mem {b i l : List Hl} {j : Nat} {h : Hl} (hm : h ∈ more noLists b i l j) : (j = 1 ∧ h ∈ b) ∨ (j = 2 ∧ h ∈ i) ∨ (j = 4 ∧ h ∈ l) := by
  by_cases h4 : j = 4
  · subst h4; exact .inr (.inr ⟨rfl, by simpa [more, upd_self, noLists] using hm⟩)
  · by_cases h2 : j = 2
    · subst h2; exact .inr (.inl ⟨rfl, by simpa [more, upd, noLists] using hm⟩)
    · by_cases h1 : j = 1
      · subst h1; exact .inl ⟨rfl, by simpa [more, upd, noLists] using hm⟩
      · simp [more, upd, noLists, h1, h2, h4] at hm
theorem more_cases (b i l : List Hl) (j : Nat) (p : List Hl → Prop) (h0 : p []) (h1 : p b) (h2 : p i) (h4 : p l) : p (more noLists b i l j) := by
  by_cases e4 : j = 4
  · subst e4; simpa [more, upd_self, noLists] using h4
  · by_cases e2 : j = 2
    · subst e2; simpa [more, upd, noLists] using h2
    · by_cases e1 : j = 1
      · subst e1; simpa [more, upd, noLists] using h1
      · simpa [more, upd, noLists, e1, e2, e4] using h0
theorem Bkn.offLt {tB : TypeId} {tH : Nat → TypeId} {w : World} {kb N : Nat} {T : Nat → Value} {H : Nat → List Hl} (h : Bkn tB tH w kb N T H) {g : Nat} (hg : g < kb) : OffLN kb T w.heap.size g :=
  ⟨Nat.lt_trans hg h.lt, by omega, fun j hj => by have := (h.tlt j g hj).1; omega⟩
theorem cross_types {w : World} {B B' : Nat} {e e' : TypeId} {a b : List Hl} (ha : ∀ h ∈ a, ∃ xs, Own w B e h.A h.n h.c xs) (hb : ∀ h ∈ b, ∃ xs, Own w B' e' h.A h.n h.c xs) (hne : e' ≠ e) : Cross a b := by
  refine Cross.of fun x hx y hy g hg hg2 => ?_
  obtain ⟨xs, ox⟩ := ha x hx
  obtain ⟨ys, oy⟩ := hb y hy
  obtain ⟨g', cur, hA, _, hh, _⟩ := ox.2.resolve_left (by have := hg.1; omega)
  rw [hg.2] at hA
  cases hA
  rcases own_apart oy hh hne with h0 | h0
  · have := hg2.1; omega
  · exact h0 hg2.2
/-- A list's place. -/
def Hl.key (h : Hl) : Option Addr × Nat := (h.A, h.c)
def Ls.key (u : Ls) : Option Addr × Nat := (u.A, u.c)
theorem sep_of_apt {l : List Ls} {hs : List Hl} (hk : hs.map Hl.key = l.map Ls.key) (h : AptL l) : Sep hs := by
  have h2 : (l.map Ls.key).Pairwise fun a b => ∀ g, 0 < a.2 ∧ a.1 = some ⟨g, 0, none⟩ → ¬ (0 < b.2 ∧ b.1 = some ⟨g, 0, none⟩) := List.pairwise_map.2 h
  rw [← hk] at h2
  exact List.pairwise_map.1 h2
theorem held_key (u : Ls) (k : Nat) : (u.held k).key = u.key := rfl
theorem told_key (N : Nat) (l : List Ls) : (told N l).map Hl.key = l.map Ls.key := by
  induction l generalizing N with
  | nil => rfl
  | cons u l ih => rw [told, List.map_cons, List.map_cons, ih]; rfl
theorem aptL_app {a b : List Ls} {s : Nat} (h1 : AptL a) (h2 : AptL b) (ha : ∀ x ∈ a, ∀ g, Blk x g → g < s) (hb : ∀ x ∈ b, ∀ g, Blk x g → s ≤ g) : AptL (a ++ b) :=
  List.pairwise_append.2 ⟨h1, h2, fun x hx y hy g hg hg2 => by have := ha x hx g hg; have := hb y hy g hg2; omega⟩

set_option maxRecDepth 100000 in
/-- Apart, of lists that were there ahead of the book. -/
theorem apart_lists (kb N B : Nat) (T : Nat → Value) (b i l : List Hl) (w : World) (hk : Bkm w kb N T (more noLists b i l)) (hT : SameT noTabs T)
    (o1 : ∀ h ∈ b, ∃ xs, Own w B 5 h.A h.n h.c xs) (o2 : ∀ h ∈ i, ∃ xs, Own w B 3 h.A h.n h.c xs) (o4 : ∀ h ∈ l, ∃ xs, Own w B 22 h.A h.n h.c xs)
    (lt : ∀ h, h ∈ b ∨ h ∈ i ∨ h ∈ l → (∀ g, Hit h g → g < kb) ∧ h.k < 1000000000 ∧ h.n ≤ 1000000000) (s1 : Sep b) (s2 : Sep i) (s4 : Sep l) (hl : b.length ≤ 1000000 ∧ i.length ≤ 1000000 ∧ l.length ≤ 1000000) (hBk : B ≤ kb) :
    Calls Tryd.prog 10 #[.pointer (some ⟨kb, 0, none⟩)] w fun e w' => e = .returned (.bool true) ∧ Below B w w' := by
  have mm : ∀ j h, h ∈ more noLists b i l j → h ∈ b ∨ h ∈ i ∨ h ∈ l := fun j h hm => by
    rcases more_mem hm with ⟨_, h1⟩ | ⟨_, h1⟩ | ⟨_, h1⟩
    · exact .inl h1
    · exact .inr (.inl h1)
    · exact .inr (.inr h1)
  have e1 : more noLists b i l 1 = b := by simp [more, upd, noLists]
  have e2 : more noLists b i l 2 = i := by simp [more, upd, noLists]
  have e4 : more noLists b i l 4 = l := by simp [more, upd, noLists]
  refine apart9 kb N B T _ w hk (hT.none_ fun _ _ => rfl) (by rw [e1]; exact o1) (by rw [e2]; exact o2) (by rw [e4]; exact o4)
    (fun j h hm g hg => hk.offLt ((lt h (mm j h hm)).1 g hg)) (fun j => more_cases b i l j Sep List.Pairwise.nil s1 s2 s4)
    (by rw [e1, e2]; exact cross_types o1 o2 (by decide)) (by rw [e1, e4]; exact cross_types o1 o4 (by decide)) (by rw [e2, e4]; exact cross_types o2 o4 (by decide))
    (fun j h hm => (lt h (mm j h hm)).2) (fun j => more_cases b i l j (fun x => x.length ≤ 1000000) (by simp) hl.1 hl.2.1 hl.2.2) hBk
end Go.Proofs.YtjjaajmjcdihoaaDoor
