/-
  Words for the Book of the statements, whatever kinds of lists it is told: its nine tables. No program here.
-/
import Derived.Test.YtjjaajmjcdihoaaGreatDoorBookD
namespace Go.Proofs.YtjjaajmjcdihoaaGreatDoor
open Go.RowKit
set_option linter.unusedVariables false

/-- A function that is another one at one place. -/
def upd {α : Type} (f : Nat → α) (j : Nat) (v : α) : Nat → α := fun i => if i = j then v else f i
theorem upd_self {α : Type} (f : Nat → α) (j : Nat) (v : α) : upd f j v j = v := if_pos rfl
theorem upd_ne {α : Type} (f : Nat → α) {i j : Nat} (v : α) (h : i ≠ j) : upd f j v i = f i := if_neg h
theorem upd_same {α : Type} (f : Nat → α) (j : Nat) : upd f j (f j) = f := by
  funext i
  by_cases h : i = j
  · rw [h, upd_self]
  · rw [upd_ne f _ h]
theorem upd_upd {α : Type} (f : Nat → α) (j : Nat) (v u : α) : upd (upd f j v) j u = upd f j u := by
  funext i
  by_cases h : i = j
  · rw [h, upd_self, upd_self]
  · rw [upd_ne _ _ h, upd_ne _ _ h, upd_ne _ _ h]

/-- None of the book's own blocks. -/
def OffN (kb : Nat) (T : Nat → Value) (b : Nat) : Prop := b ≠ kb ∧ ∀ j, (T j).ownBlock ≠ some b
/-- The same, and there ahead of block s. -/
def OffLN (kb : Nat) (T : Nat → Value) (s b : Nat) : Prop := b < s ∧ OffN kb T b
theorem OffLN.mono {kb s s' b : Nat} {T : Nat → Value} (h : OffLN kb T s b) (hs : s ≤ s') : OffLN kb T s' b := ⟨Nat.lt_of_lt_of_le h.1 hs, h.2⟩

/-- The cells of a book. -/
def bookCells (N : Nat) (T : Nat → Value) : Array Value := #[.int .i64 N, T 1, T 2, T 3, T 4, T 5, T 6, T 7, T 8, T 9]

/-- The book lies in block kb: how many lists it was told, and its tables, one of each kind. -/
structure Bkn (tB : TypeId) (tH : Nat → TypeId) (w : World) (kb N : Nat) (T : Nat → Value) (H : Nat → List Hl) : Prop where
  blk : w.heap[kb]? = some (.cells #[.int .i64 N, T 1, T 2, T 3, T 4, T 5, T 6, T 7, T 8, T 9] tB (0, 0))
  tab : ∀ j, w.ownsRow (kb + 1) (tH j) 3 (T j) (H j).length (rowsOf (H j))
  ne : ∀ i j, i ≠ j → ∀ g, (T i).ownBlock = some g → (T j).ownBlock ≠ some g

section
variable {tB : TypeId} {tH : Nat → TypeId} {w w' : World} {kb N : Nat} {T : Nat → Value} {H : Nat → List Hl} {P : Nat → Prop}

theorem Bkn.lt (h : Bkn tB tH w kb N T H) : kb < w.heap.size := (Array.getElem?_eq_some_iff.1 h.blk).1
theorem Bkn.tlt (h : Bkn tB tH w kb N T H) (j g : Nat) (hg : (T j).ownBlock = some g) : kb < g ∧ g < w.heap.size := by
  have := (h.tab j).lt g hg
  omega
theorem Bkn.fr (h : Bkn tB tH w kb N T H) (hf : Fr P w w') (hp : ∀ b, P b → OffN kb T b) : Bkn tB tH w' kb N T H where
  blk := by rw [hf.2 kb h.lt (fun hx => (hp _ hx).1 rfl)]; exact h.blk
  tab := fun j => ownsRow_fr (h.tab j) hf fun g hg hx => (hp g hx).2 j hg
  ne := h.ne
theorem Bkn.below (h : Bkn tB tH w kb N T H) (hf : Below w.heap.size w w') : Bkn tB tH w' kb N T H :=
  h.fr (P := fun _ => False) (Fr.of_below hf) (fun _ hx => hx.elim)
theorem Bkn.drew (h : Bkn tB tH w kb N T H) : Bkn tB tH w.drew kb N T H := ⟨h.blk, h.tab, h.ne⟩
theorem Bkn.drewN (h : Bkn tB tH w kb N T H) (q : Nat) : Bkn tB tH (w.drewN q) kb N T H := ⟨h.blk, h.tab, h.ne⟩
theorem Bkn.cell (h : Bkn tB tH w kb N T H) (j : Nat) : w.cell? ⟨kb, j, none⟩ = (#[.int .i64 N, T 1, T 2, T 3, T 4, T 5, T 6, T 7, T 8, T 9] : Array Value)[j]? :=
  cell_of_row w kb j _ _ _ h.blk
theorem Bkn.free (h : Bkn tB tH w kb N T H) (j : Nat) : w.frozen? ⟨kb, j, none⟩ = false := by
  have := h.blk
  simp [World.frozen?, this]
def noTabs : Nat → Value := fun _ => .slice none 0 0
def noLists : Nat → List Hl := fun _ => []
theorem Bkn.new (tB : TypeId) (tH : Nat → TypeId) (w : World) : Bkn tB tH (w.alloc (.cells #[.int .i64 0, .slice none 0 0, .slice none 0 0, .slice none 0 0, .slice none 0 0, .slice none 0 0, .slice none 0 0, .slice none 0 0, .slice none 0 0, .slice none 0 0] tB)) w.heap.size 0 noTabs noLists where
  blk := heap_alloc_new w _
  tab := fun j => World.ownsRow_nil _ _ _ _
  ne := fun i j _ g hg => by cases hg

/-- A table is another one behind a call that leaves the others alone. -/
theorem Bkn.put {N' : Nat} {v' : Value} {hs' : List Hl} (j : Nat) (h : Bkn tB tH w kb N T H) (hj : 1 ≤ j ∧ j ≤ 9)
    (hb : w'.heap[kb]? = some (.cells (bookCells N' (upd T j v')) tB (0, 0))) (ht : w'.ownsRow (kb + 1) (tH j) 3 v' hs'.length (rowsOf hs'))
    (ho : ∀ i, i ≠ j → w'.ownsRow (kb + 1) (tH i) 3 (T i) (H i).length (rowsOf (H i))) (hn : ∀ i, i ≠ j → ∀ g, v'.ownBlock = some g → (T i).ownBlock ≠ some g) : Bkn tB tH w' kb N' (upd T j v') (upd H j hs') where
  blk := hb
  tab := fun i => by
    by_cases hi : i = j
    · rw [hi, upd_self, upd_self]; exact ht
    · rw [upd_ne _ _ hi, upd_ne _ _ hi]; exact ho i hi
  ne := fun i k hik g hg => by
    by_cases hi : i = j
    · rw [hi, upd_self] at hg
      rw [upd_ne _ _ (by omega : k ≠ j)]
      exact hn k (by omega) g hg
    · rw [upd_ne _ _ hi] at hg
      by_cases hk : k = j
      · rw [hk, upd_self]
        exact fun hx => hn i hi g hx hg
      · rw [upd_ne _ _ hk]
        exact h.ne i k hik g hg
theorem Bkn.long (j : Nat) {g cap : Nat} (h : Bkn tB tH w kb N T H) (hT : T j = .slice (some ⟨g, 0, none⟩) (H j).length cap) (q : Nat) (hq : q < (H j).length) (L : Option Addr) (ln lc : Nat) :
    Bkn tB tH (w.setCell ⟨g, q * 3 + 1, none⟩ (.slice L ln lc)) kb N T (upd H j ((H j).set q { (H j)[q] with L := L, ln := ln, lc := lc })) where
  blk := by
    have := (h.tlt j g (by rw [hT]; rfl)).1
    rw [setCell_ne (by show kb ≠ g; omega)]
    exact h.blk
  tab := fun i => by
    by_cases hi : i = j
    · subst hi
      have h0 := h.tab i
      rw [hT] at h0
      have h1 := (h0.stored (q * 3 + 1) (.slice L ln lc)).1
      rw [rowsOf_set (H i) q hq] at h1
      rw [upd_self, List.length_set, hT]
      exact h1
    · rw [upd_ne _ _ hi]
      exact ownsRow_setCell_other (h.tab i) (fun he => h.ne j i (fun e => hi e.symm) g (by rw [hT]; rfl) he) _
  ne := h.ne
end

/-- The marks of a kind: which a list's cells are, in memory, from block s on. -/
structure Marks where
  is : World → Nat → Nat → Value → Prop
  t : TypeId
  one : ∀ {w : World} {s k : Nat} {v : Value}, is w s k v → v.oneCell' = true
  kp : ∀ {w w' : World} {s k : Nat} {v : Value}, is w s k v → (∀ g cur, s ≤ g → w.heap[g]? = some (.cells cur t (0, 0)) → w'.heap[g]? = w.heap[g]?) → is w' s k v
  mono : ∀ {w : World} {s s' k : Nat} {v : Value}, is w s k v → s' ≤ s → is w s' k v
theorem Marks.fr (M : Marks) {w w' : World} {s k : Nat} {v : Value} {P : Nat → Prop} (h : M.is w s k v) (hf : Fr P w w') (hn : ∀ g, s ≤ g → ¬ P g) : M.is w' s k v :=
  M.kp h fun g cur hg hc => hf.2 g (Array.getElem?_eq_some_iff.1 hc).1 (hn g hg)
theorem Marks.below (M : Marks) {w w' : World} {s k : Nat} {v : Value} (h : M.is w s k v) (hb : Below w.heap.size w w') : M.is w' s k v :=
  M.kp h fun g cur hg hc => hb.block g (Array.getElem?_eq_some_iff.1 hc).1

/-- A list that holds nothing but its marks. -/
def OwnM (M : Marks) (w : World) (B : Nat) (e : TypeId) (s : Nat) (A : Option Addr) (n c k : Nat) : Prop := ∃ xs, Own w B e A n c xs ∧ ∀ v ∈ xs, M.is w s k v
section
variable {M : Marks} {P : Nat → Prop} {w w' : World} {B : Nat} {e : TypeId} {s : Nat} {A : Option Addr} {n c k : Nat}
theorem OwnM.fr (h : OwnM M w B e s A n c k) (hf : Fr P w w') (hn : ∀ g, 0 < c → A = some ⟨g, 0, none⟩ → ¬ P g) (hs : ∀ g, s ≤ g → ¬ P g) : OwnM M w' B e s A n c k := by
  obtain ⟨xs, ho, hm⟩ := h
  exact ⟨xs, ho.fr hf hn, fun v hv => M.fr (hm v hv) hf hs⟩
theorem OwnM.below (h : OwnM M w B e s A n c k) (hb : Below w.heap.size w w') : OwnM M w' B e s A n c k :=
  h.fr (P := fun _ => False) (Fr.of_below hb) (fun _ _ _ hx => hx) (fun _ _ hx => hx)
theorem OwnM.drew (h : OwnM M w B e s A n c k) : OwnM M w.drew B e s A n c k := h.below ((Below.refl _ w).drew)
theorem OwnM.le (h : OwnM M w B e s A n c k) : n ≤ c := by
  obtain ⟨xs, ho, _⟩ := h
  exact ho.le
theorem OwnM.less (h : OwnM M w B e s A n c k) {m : Nat} (hm : m ≤ n) : OwnM M w B e s A m c k := by
  obtain ⟨xs, ho, hx⟩ := h
  exact ⟨xs.take m, ho.less hm, fun v hv => hx v (List.mem_of_mem_take hv)⟩
theorem OwnM.none_ (M : Marks) (w : World) (B : Nat) (e : TypeId) (s : Nat) (A : Option Addr) (k : Nat) : OwnM M w B e s A 0 0 k := ⟨[], Own.none_ _ _ _ _, by simp⟩
/-- One of them, where it lies. -/
theorem OwnM.get (h : OwnM M w B e s A n c k) {j : Nat} (hj : j < n) : ∃ g u, A = some ⟨g, 0, none⟩ ∧ g < w.heap.size ∧ w.cell? ⟨g, j, none⟩ = some u ∧ M.is w s k u := by
  obtain ⟨xs, ho, hx⟩ := h
  obtain ⟨g, hA, _, hg⟩ := ho.lt (by have := ho.le; omega)
  have hl := ho.len
  subst hA
  exact ⟨g, xs[j]'(by omega), rfl, hg, (ho.cell hj).trans (List.getElem?_eq_getElem (by omega)), hx _ (List.getElem_mem _)⟩
end

/-- A list with 40 marks behind it: both slices hold marks, in memory of the list itself, or from block s on. -/
def GrownM (M : Marks) (e : TypeId) (w : World) (B s s' : Nat) (h h' : Hl) : Prop :=
  h'.A = h.A ∧ h'.n = h.n ∧ h'.c = h.c ∧ h'.k = h.k ∧ h'.ln = h.n + 40 ∧ OwnM M w B e s h.A h.n h.c h.k ∧ OwnM M w B e s h'.L h'.ln h'.lc h.k ∧
    ∀ g, 0 < h'.lc → h'.L = some ⟨g, 0, none⟩ → Hit h g ∨ s' ≤ g
theorem GrownM.fr {M : Marks} {e : TypeId} {w w' : World} {B s s' : Nat} {h h' : Hl} {P : Nat → Prop} (H : GrownM M e w B s s' h h') (hf : Fr P w w') (h1 : ∀ g, Hit h g → ¬ P g) (h2 : ∀ g, s' ≤ g → ¬ P g) (h3 : ∀ g, s ≤ g → ¬ P g) : GrownM M e w' B s s' h h' := by
  obtain ⟨a1, a2, a3, a4, a5, a6, a7, a8⟩ := H
  refine ⟨a1, a2, a3, a4, a5, a6.fr hf (fun g hc hA => h1 g ⟨hc, hA⟩) h3, a7.fr hf (fun g hc hA => ?_) h3, a8⟩
  rcases a8 g hc hA with hh | hh
  · exact h1 g hh
  · exact h2 g hh
def AllGrownM (M : Marks) (e : TypeId) (w : World) (B s s' : Nat) (hs hs' : List Hl) : Prop :=
  hs'.length = hs.length ∧ ∀ (j : Nat) (h h' : Hl), hs[j]? = some h → hs'[j]? = some h' → GrownM M e w B s s' h h'
theorem AllGrownM.fr {M : Marks} {e : TypeId} {w w' : World} {B s s' : Nat} {hs hs' : List Hl} {P : Nat → Prop} (H : AllGrownM M e w B s s' hs hs') (hf : Fr P w w') (h1 : ∀ h ∈ hs, ∀ g, Hit h g → ¬ P g) (h2 : ∀ g, s' ≤ g → ¬ P g) (h3 : ∀ g, s ≤ g → ¬ P g) : AllGrownM M e w' B s s' hs hs' :=
  ⟨H.1, fun j h h' hj hj' => (H.2 j h h' hj hj').fr hf (h1 h (List.mem_of_getElem? hj)) h2 h3⟩
/-- What the last looks ask of each list. -/
def Looked (M : Marks) (e : TypeId) (w : World) (B s : Nat) (hs : List Hl) : Prop := ∀ h ∈ hs, h.ln = h.n + 40 ∧ OwnM M w B e s h.A h.n h.c h.k ∧ OwnM M w B e s h.L (h.n + 40) h.lc h.k
theorem AllGrownM.look {M : Marks} {e : TypeId} {w : World} {B s s' : Nat} {hs hs' : List Hl} (H : AllGrownM M e w B s s' hs hs') : Looked M e w B s hs' := by
  intro h' hm
  obtain ⟨j, hj'⟩ := List.getElem?_of_mem hm
  have hlt : j < hs.length := by rw [← H.1]; exact (List.getElem?_eq_some_iff.1 hj').1
  obtain ⟨a1, a2, a3, a4, a5, a6, a7, _⟩ := H.2 j _ h' (List.getElem?_eq_getElem hlt) hj'
  rw [a1, a2, a3, a4]
  rw [a5] at a7
  exact ⟨a5, a6, a7⟩
theorem AllGrownM.same {M : Marks} {e : TypeId} {w : World} {B s s' : Nat} {hs hs' : List Hl} (H : AllGrownM M e w B s s' hs hs') (p : Nat → Nat → Prop) (hp : ∀ h ∈ hs, p h.k h.n) : ∀ h ∈ hs', p h.k h.n := by
  intro h' hm
  obtain ⟨j, hj'⟩ := List.getElem?_of_mem hm
  have hlt : j < hs.length := by rw [← H.1]; exact (List.getElem?_eq_some_iff.1 hj').1
  obtain ⟨a1, a2, a3, a4, _⟩ := H.2 j _ h' (List.getElem?_eq_getElem hlt) hj'
  rw [a2, a4]
  exact hp _ (List.getElem_mem hlt)
theorem Looked.below {M : Marks} {e : TypeId} {w w' : World} {B s : Nat} {hs : List Hl} (H : Looked M e w B s hs) (hb : Below w.heap.size w w') : Looked M e w' B s hs := fun h hm => by
  obtain ⟨a1, a2, a3⟩ := H h hm
  exact ⟨a1, a2.below hb, a3.below hb⟩

/-- What is appended elsewhere leaves marks as they are. -/
theorem Marks.app (M : Marks) {w w' : World} {B s k : Nat} {e : TypeId} {v : Value} {A : Option Addr} {n c : Nat} {xs : List Value} (h : M.is w s k v) (ho : Own w B e A n c xs) (hne : e ≠ M.t)
    (hf : ∀ k, k < w.heap.size → ((n = 0 ∧ c = 0) ∨ A ≠ some ⟨k, 0, none⟩) → w'.heap[k]? = w.heap[k]?) : M.is w' s k v :=
  M.kp h fun g cur hg hc => hf g (Array.getElem?_eq_some_iff.1 hc).1 (by
    rcases ho.2 with h0 | ⟨g', cur', hA, _, hh, _⟩
    · exact .inl h0
    · refine .inr fun he => ?_
      rw [hA] at he
      cases he
      rw [hh] at hc
      injection hc with hc
      injection hc with _ h2
      exact hne h2)
/-- A store into the list leaves them as they are. -/
theorem Marks.store (M : Marks) {w : World} {B s k : Nat} {e : TypeId} {v : Value} {g n c : Nat} {xs : List Value} (h : M.is w s k v) (ho : Own w B e (some ⟨g, 0, none⟩) n c xs) (hc : 0 < c) (hne : e ≠ M.t) (q : Nat) (u : Value) : M.is (w.setCell ⟨g, q, none⟩ u) s k v :=
  M.kp h fun g' cur hg hh => setCell_ne (by
    intro he
    have he : g' = g := he
    subst he
    rcases ho.2 with h0 | ⟨g2, cur', hA, _, h2, _⟩
    · omega
    · cases hA
      rw [h2] at hh
      injection hh with hh
      injection hh with _ h3
      exact hne h3)
theorem fill_stepM (p : Value → Prop) (ys : List Value) (q : Nat) (m : Value) (hq : q < ys.length) (h : ∀ v ∈ ys.take q, p v) (hm : p m) : ∀ v ∈ (ys.set q m).take (q + 1), p v := by
  rw [List.take_succ_eq_append_getElem (by simpa using hq), List.take_set_of_le (Nat.le_refl _), List.getElem_set_self]
  intro v hv
  rcases List.mem_append.1 hv with hv | hv
  · exact h v hv
  · rw [List.mem_singleton.1 hv]; exact hm

/-- Marks that are plain values. -/
def plainMarks (mk : Nat → Value) (h : ∀ k, (mk k).oneCell' = true) : Marks where
  is := fun _ _ k v => v = mk k
  t := 1000000
  one := fun e => by rw [e]; exact h _
  kp := fun e _ => e
  mono := fun e _ => e
/-- Marks that are lists of one number each. -/
def listMarks (t : TypeId) : Marks where
  is := fun w s k v => ∃ g, v = .slice (some ⟨g, 0, none⟩) 1 1 ∧ s ≤ g ∧ w.heap[g]? = some (.cells #[.int .i64 k] t (0, 0))
  t := t
  one := fun ⟨g, e, _⟩ => by rw [e]; rfl
  kp := fun ⟨g, e, hs, hg⟩ hp => ⟨g, e, hs, by rw [hp g _ hs hg]; exact hg⟩
  mono := fun ⟨g, e, hs, hg⟩ h => ⟨g, e, Nat.le_trans h hs, hg⟩
end Go.Proofs.YtjjaajmjcdihoaaGreatDoor
