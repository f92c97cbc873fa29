/-
  The end of a law that tells a Book of bytes, ints and lists of ints: what Apart asks, out of where each list lies.
-/
import Derived.Test.YtecgakfblhiiaaaDoorBkM
namespace Go.Proofs.YtecgakfblhiiaaaDoor
open Go.RowKit
set_option linter.unusedVariables false

theorem more_mem {b i l : List Hl} {j : Nat} {h : Hl} (hm : h ∈ more noLists b i l j) : (j = 1 ∧ h ∈ b) ∨ (j = 2 ∧ h ∈ i) ∨ (j = 4 ∧ h ∈ l) := by
  by_cases h4 : j = 4
  · subst h4; exact .inr (.inr ⟨rfl, by simpa [more, upd_self, noLists] using hm⟩)
  · by_cases h2 : j = 2
    · subst h2; exact .inr (.inl ⟨rfl, by simpa [more, upd, noLists] using hm⟩)
    · by_cases h1 : j = 1
      · subst h1; exact .inl ⟨rfl, by simpa [more, upd, noLists] using hm⟩
      · simp [more, upd, noLists, h1, h2, h4] at hm
theorem more_cases (b i l : List Hl) (j : Nat) (p : List Hl → Prop) (h0 : p []) (h1 : p b) (h2 : p i) (h4 : p l) : p (more noLists b i l j) := by
  by_cases e4 : j = 4
  · subst e4; simpa [more, upd_self, noLists] using h4
  · by_cases e2 : j = 2
    · subst e2; simpa [more, upd, noLists] using h2
    · by_cases e1 : j = 1
      · subst e1; simpa [more, upd, noLists] using h1
      · simpa [more, upd, noLists, e1, e2, e4] using h0
theorem Bkn.offLt {tB : TypeId} {tH : Nat → TypeId} {w : World} {kb N : Nat} {T : Nat → Value} {H : Nat → List Hl} (h : Bkn tB tH w kb N T H) {g : Nat} (hg : g < kb) : OffLN kb T w.heap.size g :=
  ⟨Nat.lt_trans hg h.lt, by omega, fun j hj => by have := (h.tlt j g hj).1; omega⟩
theorem cross_types {w : World} {B B' : Nat} {e e' : TypeId} {a b : List Hl} (ha : ∀ h ∈ a, ∃ xs, Own w B e h.A h.n h.c xs) (hb : ∀ h ∈ b, ∃ xs, Own w B' e' h.A h.n h.c xs) (hne : e' ≠ e) : Cross a b := by
  refine Cross.of fun x hx y hy g hg hg2 => ?_
  obtain ⟨xs, ox⟩ := ha x hx
  obtain ⟨ys, oy⟩ := hb y hy
  obtain ⟨g', cur, hA, _, hh, _⟩ := ox.2.resolve_left (by have := hg.1; omega)
  rw [hg.2] at hA
  cases hA
  rcases own_apart oy hh hne with h0 | h0
  · have := hg2.1; omega
  · exact h0 hg2.2
/-- A list's place. -/
def Hl.key (h : Hl) : Option Addr × Nat := (h.A, h.c)
def Ls.key (u : Ls) : Option Addr × Nat := (u.A, u.c)
theorem sep_of_apt {l : List Ls} {hs : List Hl} (hk : hs.map Hl.key = l.map Ls.key) (h : AptL l) : Sep hs := by
  have h2 : (l.map Ls.key).Pairwise fun a b => ∀ g, 0 < a.2 ∧ a.1 = some ⟨g, 0, none⟩ → ¬ (0 < b.2 ∧ b.1 = some ⟨g, 0, none⟩) := List.pairwise_map.2 h
  rw [← hk] at h2
  exact List.pairwise_map.1 h2
theorem held_key (u : Ls) (k : Nat) : (u.held k).key = u.key := rfl
theorem told_key (N : Nat) (l : List Ls) : (told N l).map Hl.key = l.map Ls.key := by
  induction l generalizing N with
  | nil => rfl
  | cons u l ih => rw [told, List.map_cons, List.map_cons, ih]; rfl
theorem aptL_app {a b : List Ls} {s : Nat} (h1 : AptL a) (h2 : AptL b) (ha : ∀ x ∈ a, ∀ g, Blk x g → g < s) (hb : ∀ x ∈ b, ∀ g, Blk x g → s ≤ g) : AptL (a ++ b) :=
  List.pairwise_append.2 ⟨h1, h2, fun x hx y hy g hg hg2 => by have := ha x hx g hg; have := hb y hy g hg2; omega⟩

set_option maxRecDepth 100000 in
/-- Apart, of lists that were there ahead of the book. -/
theorem apart_lists (kb N B : Nat) (T : Nat → Value) (b i l : List Hl) (w : World) (hk : Bkm w kb N T (more noLists b i l)) (hT : SameT noTabs T)
    (o1 : ∀ h ∈ b, ∃ xs, Own w B 5 h.A h.n h.c xs) (o2 : ∀ h ∈ i, ∃ xs, Own w B 3 h.A h.n h.c xs) (o4 : ∀ h ∈ l, ∃ xs, Own w B 25 h.A h.n h.c xs)
    (lt : ∀ h, h ∈ b ∨ h ∈ i ∨ h ∈ l → (∀ g, Hit h g → g < kb) ∧ h.k < 1000000000 ∧ h.n ≤ 1000000000) (s1 : Sep b) (s2 : Sep i) (s4 : Sep l) (hl : b.length ≤ 1000000 ∧ i.length ≤ 1000000 ∧ l.length ≤ 1000000) (hBk : B ≤ kb) :
    Calls Tryd.prog 14 #[.pointer (some ⟨kb, 0, none⟩)] w fun e w' => e = .returned (.bool true) ∧ Below B w w' := by
  have mm : ∀ j h, h ∈ more noLists b i l j → h ∈ b ∨ h ∈ i ∨ h ∈ l := fun j h hm => by
    rcases more_mem hm with ⟨_, h1⟩ | ⟨_, h1⟩ | ⟨_, h1⟩
    · exact .inl h1
    · exact .inr (.inl h1)
    · exact .inr (.inr h1)
  have e1 : more noLists b i l 1 = b := by simp [more, upd, noLists]
  have e2 : more noLists b i l 2 = i := by simp [more, upd, noLists]
  have e4 : more noLists b i l 4 = l := by simp [more, upd, noLists]
  refine apart9 kb N B T _ w hk (hT.none_ fun _ _ => rfl) (by rw [e1]; exact o1) (by rw [e2]; exact o2) (by rw [e4]; exact o4)
    (fun j h hm g hg => hk.offLt ((lt h (mm j h hm)).1 g hg)) (fun j => more_cases b i l j Sep List.Pairwise.nil s1 s2 s4)
    (by rw [e1, e2]; exact cross_types o1 o2 (by decide)) (by rw [e1, e4]; exact cross_types o1 o4 (by decide)) (by rw [e2, e4]; exact cross_types o2 o4 (by decide))
    (fun j h hm => (lt h (mm j h hm)).2) (fun j => more_cases b i l j (fun x => x.length ≤ 1000000) (by simp) hl.1 hl.2.1 hl.2.2) hBk
end Go.Proofs.YtecgakfblhiiaaaDoor
