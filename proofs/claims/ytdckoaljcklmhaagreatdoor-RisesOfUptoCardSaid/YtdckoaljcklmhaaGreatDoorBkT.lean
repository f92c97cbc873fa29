/-
  The end of a law that tells a Book of bytes, ints and lists of ints: what Apart asks, out of where each list lies.
-/
import Derived.Test.YtdckoaljcklmhaaGreatDoorBookD
import Derived.Test.YtdckoaljcklmhaaGreatDoorProg
import Derived.Test.YtdckoaljcklmhaaGreatDoorReg2
import Derived.Lib.AppendZeros
import Derived.BigQuiet
import Derived.Deep.QuietTactic
import Derived.Deep.DeepMust
import Derived.Test.YtdckoaljcklmhaaGreatDoorKit2
import Derived.Test.YtdckoaljcklmhaaGreatDoorTwinM
namespace Go.Proofs.YtdckoaljcklmhaaGreatDoor
open Go.RowKit
set_option linter.unusedVariables false

/-- A function that is another one at one place. -/
def upd {α : Type} (f : Nat → α) (j : Nat) (v : α) : Nat → α := fun i => if i = j then v else f i
theorem upd_self {α : Type} (f : Nat → α) (j : Nat) (v : α) : upd f j v j = v := if_pos rfl
theorem upd_ne {α : Type} (f : Nat → α) {i j : Nat} (v : α) (h : i ≠ j) : upd f j v i = f i := if_neg h
theorem upd_same {α : Type} (f : Nat → α) (j : Nat) : upd f j (f j) = f := by
  funext i
  by_cases h : i = j
  · rw [h, upd_self]
  · rw [upd_ne f _ h]
theorem upd_upd {α : Type} (f : Nat → α) (j : Nat) (v u : α) : upd (upd f j v) j u = upd f j u := by
  funext i
  by_cases h : i = j
  · rw [h, upd_self, upd_self]
  · rw [upd_ne _ _ h, upd_ne _ _ h, upd_ne _ _ h]

/-- None of the book's own blocks. -/
def OffN (kb : Nat) (T : Nat → Value) (b : Nat) : Prop := b ≠ kb ∧ ∀ j, (T j).ownBlock ≠ some b
/-- The same, and there ahead of block s. -/
def OffLN (kb : Nat) (T : Nat → Value) (s b : Nat) : Prop := b < s ∧ OffN kb T b
theorem OffLN.mono {kb s s' b : Nat} {T : Nat → Value} (h : OffLN kb T s b) (hs : s ≤ s') : OffLN kb T s' b := ⟨Nat.lt_of_lt_of_le h.1 hs, h.2⟩

/-- The cells of a book. -/
def bookCells (N : Nat) (T : Nat → Value) : Array Value := #[.int .i64 N, T 1, T 2, T 3, T 4, T 5, T 6, T 7, T 8, T 9]

/-- The book lies in block kb: how many lists it was told, and its tables, one of each kind. -/
structure Bkn (tB : TypeId) (tH : Nat → TypeId) (w : World) (kb N : Nat) (T : Nat → Value) (H : Nat → List Hl) : Prop where
  blk : w.heap[kb]? = some (.cells #[.int .i64 N, T 1, T 2, T 3, T 4, T 5, T 6, T 7, T 8, T 9] tB (0, 0))
  tab : ∀ j, w.ownsRow (kb + 1) (tH j) 3 (T j) (H j).length (rowsOf (H j))
  ne : ∀ i j, i ≠ j → ∀ g, (T i).ownBlock = some g → (T j).ownBlock ≠ some g

section
variable {tB : TypeId} {tH : Nat → TypeId} {w w' : World} {kb N : Nat} {T : Nat → Value} {H : Nat → List Hl} {P : Nat → Prop}

theorem Bkn.lt (h : Bkn tB tH w kb N T H) : kb < w.heap.size := (Array.getElem?_eq_some_iff.1 h.blk).1
theorem Bkn.tlt (h : Bkn tB tH w kb N T H) (j g : Nat) (hg : (T j).ownBlock = some g) : kb < g ∧ g < w.heap.size := by
  have := (h.tab j).lt g hg
  omega
theorem Bkn.fr (h : Bkn tB tH w kb N T H) (hf : Fr P w w') (hp : ∀ b, P b → OffN kb T b) : Bkn tB tH w' kb N T H where
  blk := by rw [hf.2 kb h.lt (fun hx => (hp _ hx).1 rfl)]; exact h.blk
  tab := fun j => ownsRow_fr (h.tab j) hf fun g hg hx => (hp g hx).2 j hg
  ne := h.ne
theorem Bkn.below (h : Bkn tB tH w kb N T H) (hf : Below w.heap.size w w') : Bkn tB tH w' kb N T H :=
  h.fr (P := fun _ => False) (Fr.of_below hf) (fun _ hx => hx.elim)
theorem Bkn.drew (h : Bkn tB tH w kb N T H) : Bkn tB tH w.drew kb N T H := ⟨h.blk, h.tab, h.ne⟩
theorem Bkn.drewN (h : Bkn tB tH w kb N T H) (q : Nat) : Bkn tB tH (w.drewN q) kb N T H := ⟨h.blk, h.tab, h.ne⟩
theorem Bkn.cell (h : Bkn tB tH w kb N T H) (j : Nat) : w.cell? ⟨kb, j, none⟩ = (#[.int .i64 N, T 1, T 2, T 3, T 4, T 5, T 6, T 7, T 8, T 9] : Array Value)[j]? :=
  cell_of_row w kb j _ _ _ h.blk
theorem Bkn.free (h : Bkn tB tH w kb N T H) (j : Nat) : w.frozen? ⟨kb, j, none⟩ = false := by
  have := h.blk
  simp [World.frozen?, this]
def noTabs : Nat → Value := fun _ => .slice none 0 0
def noLists : Nat → List Hl := fun _ => []
theorem Bkn.new (tB : TypeId) (tH : Nat → TypeId) (w : World) : Bkn tB tH (w.alloc (.cells #[.int .i64 0, .slice none 0 0, .slice none 0 0, .slice none 0 0, .slice none 0 0, .slice none 0 0, .slice none 0 0, .slice none 0 0, .slice none 0 0, .slice none 0 0] tB)) w.heap.size 0 noTabs noLists where
  blk := heap_alloc_new w _
  tab := fun j => World.ownsRow_nil _ _ _ _
  ne := fun i j _ g hg => by cases hg

/-- A table is another one behind a call that leaves the others alone. -/
theorem Bkn.put {N' : Nat} {v' : Value} {hs' : List Hl} (j : Nat) (h : Bkn tB tH w kb N T H) (hj : 1 ≤ j ∧ j ≤ 9)
    (hb : w'.heap[kb]? = some (.cells (bookCells N' (upd T j v')) tB (0, 0))) (ht : w'.ownsRow (kb + 1) (tH j) 3 v' hs'.length (rowsOf hs'))
    (ho : ∀ i, i ≠ j → w'.ownsRow (kb + 1) (tH i) 3 (T i) (H i).length (rowsOf (H i))) (hn : ∀ i, i ≠ j → ∀ g, v'.ownBlock = some g → (T i).ownBlock ≠ some g) : Bkn tB tH w' kb N' (upd T j v') (upd H j hs') where
  blk := hb
  tab := fun i => by
    by_cases hi : i = j
    · rw [hi, upd_self, upd_self]; exact ht
    · rw [upd_ne _ _ hi, upd_ne _ _ hi]; exact ho i hi
  ne := fun i k hik g hg => by
    by_cases hi : i = j
    · rw [hi, upd_self] at hg
      rw [upd_ne _ _ (by omega : k ≠ j)]
      exact hn k (by omega) g hg
    · rw [upd_ne _ _ hi] at hg
      by_cases hk : k = j
      · rw [hk, upd_self]
        exact fun hx => hn i hi g hx hg
      · rw [upd_ne _ _ hk]
        exact h.ne i k hik g hg
theorem Bkn.long (j : Nat) {g cap : Nat} (h : Bkn tB tH w kb N T H) (hT : T j = .slice (some ⟨g, 0, none⟩) (H j).length cap) (q : Nat) (hq : q < (H j).length) (L : Option Addr) (ln lc : Nat) :
    Bkn tB tH (w.setCell ⟨g, q * 3 + 1, none⟩ (.slice L ln lc)) kb N T (upd H j ((H j).set q { (H j)[q] with L := L, ln := ln, lc := lc })) where
  blk := by
    have := (h.tlt j g (by rw [hT]; rfl)).1
    rw [setCell_ne (by show kb ≠ g; omega)]
    exact h.blk
  tab := fun i => by
    by_cases hi : i = j
    · subst hi
      have h0 := h.tab i
      rw [hT] at h0
      have h1 := (h0.stored (q * 3 + 1) (.slice L ln lc)).1
      rw [rowsOf_set (H i) q hq] at h1
      rw [upd_self, List.length_set, hT]
      exact h1
    · rw [upd_ne _ _ hi]
      exact ownsRow_setCell_other (h.tab i) (fun he => h.ne j i (fun e => hi e.symm) g (by rw [hT]; rfl) he) _
  ne := h.ne
end

/-- The marks of a kind: which a list's cells are, in memory, from block s on. -/
structure Marks where
  is : World → Nat → Nat → Value → Prop
  t : TypeId
  one : ∀ {w : World} {s k : Nat} {v : Value}, is w s k v → v.oneCell' = true
  kp : ∀ {w w' : World} {s k : Nat} {v : Value}, is w s k v → (∀ g cur, s ≤ g → w.heap[g]? = some (.cells cur t (0, 0)) → w'.heap[g]? = w.heap[g]?) → is w' s k v
  mono : ∀ {w : World} {s s' k : Nat} {v : Value}, is w s k v → s' ≤ s → is w s' k v
theorem Marks.fr (M : Marks) {w w' : World} {s k : Nat} {v : Value} {P : Nat → Prop} (h : M.is w s k v) (hf : Fr P w w') (hn : ∀ g, s ≤ g → ¬ P g) : M.is w' s k v :=
  M.kp h fun g cur hg hc => hf.2 g (Array.getElem?_eq_some_iff.1 hc).1 (hn g hg)
theorem Marks.below (M : Marks) {w w' : World} {s k : Nat} {v : Value} (h : M.is w s k v) (hb : Below w.heap.size w w') : M.is w' s k v :=
  M.kp h fun g cur hg hc => hb.block g (Array.getElem?_eq_some_iff.1 hc).1

/-- A list that holds nothing but its marks. -/
def OwnM (M : Marks) (w : World) (B : Nat) (e : TypeId) (s : Nat) (A : Option Addr) (n c k : Nat) : Prop := ∃ xs, Own w B e A n c xs ∧ ∀ v ∈ xs, M.is w s k v
section
variable {M : Marks} {P : Nat → Prop} {w w' : World} {B : Nat} {e : TypeId} {s : Nat} {A : Option Addr} {n c k : Nat}
theorem OwnM.fr (h : OwnM M w B e s A n c k) (hf : Fr P w w') (hn : ∀ g, 0 < c → A = some ⟨g, 0, none⟩ → ¬ P g) (hs : ∀ g, s ≤ g → ¬ P g) : OwnM M w' B e s A n c k := by
  obtain ⟨xs, ho, hm⟩ := h
  exact ⟨xs, ho.fr hf hn, fun v hv => M.fr (hm v hv) hf hs⟩
theorem OwnM.below (h : OwnM M w B e s A n c k) (hb : Below w.heap.size w w') : OwnM M w' B e s A n c k :=
  h.fr (P := fun _ => False) (Fr.of_below hb) (fun _ _ _ hx => hx) (fun _ _ hx => hx)
theorem OwnM.drew (h : OwnM M w B e s A n c k) : OwnM M w.drew B e s A n c k := h.below ((Below.refl _ w).drew)
theorem OwnM.le (h : OwnM M w B e s A n c k) : n ≤ c := by
  obtain ⟨xs, ho, _⟩ := h
  exact ho.le
theorem OwnM.less (h : OwnM M w B e s A n c k) {m : Nat} (hm : m ≤ n) : OwnM M w B e s A m c k := by
  obtain ⟨xs, ho, hx⟩ := h
  exact ⟨xs.take m, ho.less hm, fun v hv => hx v (List.mem_of_mem_take hv)⟩
theorem OwnM.none_ (M : Marks) (w : World) (B : Nat) (e : TypeId) (s : Nat) (A : Option Addr) (k : Nat) : OwnM M w B e s A 0 0 k := ⟨[], Own.none_ _ _ _ _, by simp⟩
/-- One of them, where it lies. -/
theorem OwnM.get (h : OwnM M w B e s A n c k) {j : Nat} (hj : j < n) : ∃ g u, A = some ⟨g, 0, none⟩ ∧ g < w.heap.size ∧ w.cell? ⟨g, j, none⟩ = some u ∧ M.is w s k u := by
  obtain ⟨xs, ho, hx⟩ := h
  obtain ⟨g, hA, _, hg⟩ := ho.lt (by have := ho.le; omega)
  have hl := ho.len
  subst hA
  exact ⟨g, xs[j]'(by omega), rfl, hg, (ho.cell hj).trans (List.getElem?_eq_getElem (by omega)), hx _ (List.getElem_mem _)⟩
end

/-- A list with 40 marks behind it: both slices hold marks, in memory of the list itself, or from block s on. -/
def GrownM (M : Marks) (e : TypeId) (w : World) (B s s' : Nat) (h h' : Hl) : Prop :=
  h'.A = h.A ∧ h'.n = h.n ∧ h'.c = h.c ∧ h'.k = h.k ∧ h'.ln = h.n + 40 ∧ OwnM M w B e s h.A h.n h.c h.k ∧ OwnM M w B e s h'.L h'.ln h'.lc h.k ∧
    ∀ g, 0 < h'.lc → h'.L = some ⟨g, 0, none⟩ → Hit h g ∨ s' ≤ g
theorem GrownM.fr {M : Marks} {e : TypeId} {w w' : World} {B s s' : Nat} {h h' : Hl} {P : Nat → Prop} (H : GrownM M e w B s s' h h') (hf : Fr P w w') (h1 : ∀ g, Hit h g → ¬ P g) (h2 : ∀ g, s' ≤ g → ¬ P g) (h3 : ∀ g, s ≤ g → ¬ P g) : GrownM M e w' B s s' h h' := by
  obtain ⟨a1, a2, a3, a4, a5, a6, a7, a8⟩ := H
  refine ⟨a1, a2, a3, a4, a5, a6.fr hf (fun g hc hA => h1 g ⟨hc, hA⟩) h3, a7.fr hf (fun g hc hA => ?_) h3, a8⟩
  rcases a8 g hc hA with hh | hh
  · exact h1 g hh
  · exact h2 g hh
def AllGrownM (M : Marks) (e : TypeId) (w : World) (B s s' : Nat) (hs hs' : List Hl) : Prop :=
  hs'.length = hs.length ∧ ∀ (j : Nat) (h h' : Hl), hs[j]? = some h → hs'[j]? = some h' → GrownM M e w B s s' h h'
theorem AllGrownM.fr {M : Marks} {e : TypeId} {w w' : World} {B s s' : Nat} {hs hs' : List Hl} {P : Nat → Prop} (H : AllGrownM M e w B s s' hs hs') (hf : Fr P w w') (h1 : ∀ h ∈ hs, ∀ g, Hit h g → ¬ P g) (h2 : ∀ g, s' ≤ g → ¬ P g) (h3 : ∀ g, s ≤ g → ¬ P g) : AllGrownM M e w' B s s' hs hs' :=
  ⟨H.1, fun j h h' hj hj' => (H.2 j h h' hj hj').fr hf (h1 h (List.mem_of_getElem? hj)) h2 h3⟩
/-- What the last looks ask of each list. -/
def Looked (M : Marks) (e : TypeId) (w : World) (B s : Nat) (hs : List Hl) : Prop := ∀ h ∈ hs, h.ln = h.n + 40 ∧ OwnM M w B e s h.A h.n h.c h.k ∧ OwnM M w B e s h.L (h.n + 40) h.lc h.k
theorem AllGrownM.look {M : Marks} {e : TypeId} {w : World} {B s s' : Nat} {hs hs' : List Hl} (H : AllGrownM M e w B s s' hs hs') : Looked M e w B s hs' := by
  intro h' hm
  obtain ⟨j, hj'⟩ := List.getElem?_of_mem hm
  have hlt : j < hs.length := by rw [← H.1]; exact (List.getElem?_eq_some_iff.1 hj').1
  obtain ⟨a1, a2, a3, a4, a5, a6, a7, _⟩ := H.2 j _ h' (List.getElem?_eq_getElem hlt) hj'
  rw [a1, a2, a3, a4]
  rw [a5] at a7
  exact ⟨a5, a6, a7⟩
theorem AllGrownM.same {M : Marks} {e : TypeId} {w : World} {B s s' : Nat} {hs hs' : List Hl} (H : AllGrownM M e w B s s' hs hs') (p : Nat → Nat → Prop) (hp : ∀ h ∈ hs, p h.k h.n) : ∀ h ∈ hs', p h.k h.n := by
  intro h' hm
  obtain ⟨j, hj'⟩ := List.getElem?_of_mem hm
  have hlt : j < hs.length := by rw [← H.1]; exact (List.getElem?_eq_some_iff.1 hj').1
  obtain ⟨a1, a2, a3, a4, _⟩ := H.2 j _ h' (List.getElem?_eq_getElem hlt) hj'
  rw [a2, a4]
  exact hp _ (List.getElem_mem hlt)
theorem Looked.below {M : Marks} {e : TypeId} {w w' : World} {B s : Nat} {hs : List Hl} (H : Looked M e w B s hs) (hb : Below w.heap.size w w') : Looked M e w' B s hs := fun h hm => by
  obtain ⟨a1, a2, a3⟩ := H h hm
  exact ⟨a1, a2.below hb, a3.below hb⟩

/-- What is appended elsewhere leaves marks as they are. -/
theorem Marks.app (M : Marks) {w w' : World} {B s k : Nat} {e : TypeId} {v : Value} {A : Option Addr} {n c : Nat} {xs : List Value} (h : M.is w s k v) (ho : Own w B e A n c xs) (hne : e ≠ M.t)
    (hf : ∀ k, k < w.heap.size → ((n = 0 ∧ c = 0) ∨ A ≠ some ⟨k, 0, none⟩) → w'.heap[k]? = w.heap[k]?) : M.is w' s k v :=
  M.kp h fun g cur hg hc => hf g (Array.getElem?_eq_some_iff.1 hc).1 (by
    rcases ho.2 with h0 | ⟨g', cur', hA, _, hh, _⟩
    · exact .inl h0
    · refine .inr fun he => ?_
      rw [hA] at he
      cases he
      rw [hh] at hc
      injection hc with hc
      injection hc with _ h2
      exact hne h2)
/-- A store into the list leaves them as they are. -/
theorem Marks.store (M : Marks) {w : World} {B s k : Nat} {e : TypeId} {v : Value} {g n c : Nat} {xs : List Value} (h : M.is w s k v) (ho : Own w B e (some ⟨g, 0, none⟩) n c xs) (hc : 0 < c) (hne : e ≠ M.t) (q : Nat) (u : Value) : M.is (w.setCell ⟨g, q, none⟩ u) s k v :=
  M.kp h fun g' cur hg hh => setCell_ne (by
    intro he
    have he : g' = g := he
    subst he
    rcases ho.2 with h0 | ⟨g2, cur', hA, _, h2, _⟩
    · omega
    · cases hA
      rw [h2] at hh
      injection hh with hh
      injection hh with _ h3
      exact hne h3)
theorem fill_stepM (p : Value → Prop) (ys : List Value) (q : Nat) (m : Value) (hq : q < ys.length) (h : ∀ v ∈ ys.take q, p v) (hm : p m) : ∀ v ∈ (ys.set q m).take (q + 1), p v := by
  rw [List.take_succ_eq_append_getElem (by simpa using hq), List.take_set_of_le (Nat.le_refl _), List.getElem_set_self]
  intro v hv
  rcases List.mem_append.1 hv with hv | hv
  · exact h v hv
  · rw [List.mem_singleton.1 hv]; exact hm

/-- Marks that are plain values. -/
def plainMarks (mk : Nat → Value) (h : ∀ k, (mk k).oneCell' = true) : Marks where
  is := fun _ _ k v => v = mk k
  t := 1000000
  one := fun e => by rw [e]; exact h _
  kp := fun e _ => e
  mono := fun e _ => e
/-- Marks that are lists of one number each. -/
def listMarks (t : TypeId) : Marks where
  is := fun w s k v => ∃ g, v = .slice (some ⟨g, 0, none⟩) 1 1 ∧ s ≤ g ∧ w.heap[g]? = some (.cells #[.int .i64 k] t (0, 0))
  t := t
  one := fun ⟨g, e, _⟩ => by rw [e]; rfl
  kp := fun ⟨g, e, hs, hg⟩ hp => ⟨g, e, hs, by rw [hp g _ hs hg]; exact hg⟩
  mono := fun ⟨g, e, hs, hg⟩ h => ⟨g, e, Nat.le_trans h hs, hg⟩
end Go.Proofs.YtdckoaljcklmhaaGreatDoor


namespace Go.Proofs.YtdckoaljcklmhaaGreatDoor
open Go.RowKit
set_option linter.unusedVariables false

/-- The types of what the tables hold. -/
def tHs : Nat → TypeId
  | 1 => 80
  | 2 => 77
  | 3 => 85
  | 4 => 88
  | 5 => 92
  | 6 => 96
  | 7 => 102
  | 8 => 111
  | _ => 118

/-- The marks. -/
def ksB (k : Nat) : Value := .int .u8 ((k : Int) % 256)
def ksI (k : Nat) : Value := .int .i64 (-(k : Int))
def mksB : Marks := plainMarks ksB (fun _ => rfl)
def mksI : Marks := plainMarks ksI (fun _ => rfl)
def mksL : Marks := listMarks 3

theorem mark9Byte (k : Nat) (hk : k < 1000000000) (w : World) : Calls Tryz.prog 75 #[.int .i64 k] w fun e w' => e = .returned (.int .u8 ((k : Int) % 256)) ∧ mksB.is w' w.heap.size k (.int .u8 ((k : Int) % 256)) ∧ Below w.heap.size w w' := by
  go_enter Tryz.func75, Tryz.ntmps75
  go_wp2
  go_ret
  exact ⟨by simp, rfl, Below.refl _ _⟩
theorem mark9Int (k : Nat) (hk : k < 1000000000) (w : World) : Calls Tryz.prog 76 #[.int .i64 k] w fun e w' => e = .returned (.int .i64 (-(k : Int))) ∧ mksI.is w' w.heap.size k (.int .i64 (-(k : Int))) ∧ Below w.heap.size w w' := by
  have v1 : IntKind.i64.wrap (-(k : Int)) = -(k : Int) := by rw [IntKind.wrap_i64]; omega
  go_enter Tryz.func76, Tryz.ntmps76
  go_wp2
  go_ret
  exact ⟨by simp, rfl, Below.refl _ _⟩
theorem mark9IntList (k : Nat) (hk : k < 1000000000) (w : World) : Calls Tryz.prog 78 #[.int .i64 k] w fun e w' => ∃ m, e = .returned (.slice (some ⟨m, 0, none⟩) 1 1) ∧ mksL.is w' w.heap.size k (.slice (some ⟨m, 0, none⟩) 1 1) ∧ Below w.heap.size w w' := by
  go_enter Tryz.func78, Tryz.ntmps78
  go_wp2
  go_ret
  exact ⟨w.heap.size, rfl, ⟨w.heap.size, rfl, Nat.le_refl _, heap_alloc_new w _⟩, (Below.refl _ w).alloc (Nat.le_refl _) _⟩
theorem is9Byte (k s : Nat) (v : Value) (hk : k < 1000000000) (w : World) (hv : mksB.is w s k v) : Calls Tryz.prog 84 #[v, .int .i64 k] w fun e w' => e = .returned (.bool true) ∧ Below w.heap.size w w' := by
  obtain rfl : v = ksB k := hv
  unfold ksB
  go_enter Tryz.func84, Tryz.ntmps84
  go_wp2
  go_ret
  exact ⟨by simp, Below.refl _ _⟩
theorem is9Int (k s : Nat) (v : Value) (hk : k < 1000000000) (w : World) (hv : mksI.is w s k v) : Calls Tryz.prog 85 #[v, .int .i64 k] w fun e w' => e = .returned (.bool true) ∧ Below w.heap.size w w' := by
  obtain rfl : v = ksI k := hv
  have v1 : IntKind.i64.wrap (-(k : Int)) = -(k : Int) := by rw [IntKind.wrap_i64]; omega
  unfold ksI
  go_enter Tryz.func85, Tryz.ntmps85
  go_wp2
  go_ret
  exact ⟨by simp, Below.refl _ _⟩
theorem is9IntList (k s : Nat) (v : Value) (hk : k < 1000000000) (w : World) (hv : mksL.is w s k v) : Calls Tryz.prog 87 #[v, .int .i64 k] w fun e w' => e = .returned (.bool true) ∧ Below w.heap.size w w' := by
  obtain ⟨g, rfl, _, hg⟩ := hv
  have hc : w.cell? ⟨g, 0, none⟩ = some (.int .i64 k) := by rw [cell_of_row w g 0 _ _ _ hg]; rfl
  go_enter Tryz.func87, Tryz.ntmps87
  go_wp2
  go_ret
  exact ⟨by simp, Below.refl _ _⟩

theorem info9_heldInt : (Tryz.prog.info? 77).map (fun i => (i.zero, i.size, i.bytes)) = some (some (.agg #[.slice none 0 0, .slice none 0 0, .int .i64 0]), 3, 56) := by kernel_rfl
set_option maxRecDepth 100000 in
set_option maxHeartbeats 1000000 in
theorem keep9Int (kb N : Nat) (T : Nat → Value) (H : Nat → List Hl) (A : Option Addr) (n c : Nat) (w : World) (hk : Bkn 45 tHs w kb N T H) (hN : N < 1000000) (hl : (H 2).length ≤ 1000000) :
    Calls Tryz.prog 32 #[.pointer (some ⟨kb, 0, none⟩), .slice A n c] w fun e w' => e = .returned (.tuple #[]) ∧ ∃ v', Bkn 45 tHs w' kb (N + 1) (upd T 2 v') (upd H 2 (H 2 ++ [⟨A, n, c, none, 0, 0, N + 1⟩])) ∧ Below kb w w' ∧ Fr (fun b => b = kb ∨ (T 2).ownBlock = some b) w w' := by
  obtain ⟨i0, hi0, hz0, hz1, hz2⟩ := info_parts info9_heldInt
  have hc0 : w.cell? ⟨kb, 0, none⟩ = some (.int .i64 N) := hk.cell 0
  have hf0 := hk.free 0
  have hblk := heap_setCell_same w kb 0 _ _ (.int .i64 ((N + 1 : Nat) : Int)) hk.blk
  have hlt := hk.lt
  obtain ⟨A0, c0, hv0, hl0, hl1⟩ := row_slice (hk.tab 2)
  have htb := hk.tab 2
  rw [hv0] at htb
  obtain ⟨hb, hhb⟩ : ∃ hb, hb = H 2 := ⟨_, rfl⟩
  rw [← hhb] at htb hl0 hv0 hl
  have HB := Lib.hid hhb
  have HV := Lib.hid hv0
  clear hhb
  unfold maxLen at hl1
  go_enter Tryz.func32, Tryz.ntmps32
  go_wp2_with fail
  have eN : (N : Int) + 1 = ((N + 1 : Nat) : Int) := by omega
  simp only [eN]
  generalize hw1 : w.setCell ⟨kb, 0, none⟩ (.int .i64 ((N + 1 : Nat) : Int)) = w1 at hblk ⊢
  have hF1 : Fr (fun b => b = kb ∨ (Value.slice A0 hb.length c0).ownBlock = some b) w w1 := by rw [← hw1]; exact (Fr.refl _ w).setCell (p := ⟨kb, 0, none⟩) (.inl rfl) _
  have hb1 : Below kb w w1 := by rw [← hw1]; exact (Below.refl kb w).setCell (p := ⟨kb, 0, none⟩) (Nat.le_refl _) _
  have htb1 := ownsRow_setCell_below htb (a := ⟨kb, 0, none⟩) (Nat.lt_succ_self _) (.int .i64 ((N + 1 : Nat) : Int))
  have hti1 := fun i => ownsRow_setCell_below (hk.tab i) (a := ⟨kb, 0, none⟩) (Nat.lt_succ_self _) (.int .i64 ((N + 1 : Nat) : Int))
  rw [hw1] at htb1
  simp only [hw1] at hti1
  have hc1 : w1.cell? ⟨kb, 2, none⟩ = some (.slice A0 hb.length c0) := by rw [cell_of_row w1 kb 2 _ _ _ hblk, ← HV.out]; rfl
  have hc2 : w1.cell? ⟨kb, 0, none⟩ = some (.int .i64 ((N + 1 : Nat) : Int)) := by rw [cell_of_row w1 kb 0 _ _ _ hblk]; rfl
  have hlt1 : kb < w1.heap.size := (Array.getElem?_eq_some_iff.1 hblk).1
  clear hw1 eN hc0 hf0
  generalize hM : N + 1 = M at hblk hc2 ⊢
  have HM := Lib.hid hM
  clear hM
  refine wp_region_tr (S := fun _ => True) (.q 0 (.q 1 (.q 2 (.q 3 (.q 5 (.q 6 (.q 7 (.q 8 (.b 4 9 (.d 9 (.q 10 (.d 11 (.d 12 (.q 13 (.q 14 (.d 15 .nil))))))) (.q 10 (.b 4 11 (.d 11 (.d 12 (.q 13 (.q 14 (.d 15 .nil))))) (.d 4 (.d 12 (.q 13 (.q 14 (.d 15 .nil)))))))))))))))) default (by kernel_rfl) (by kernel_rfl) (by kernel_rfl) trivial ?_
  simp only [getTr, nth]
  have hcd1 : w1.drew.cell? ⟨kb, 2, none⟩ = some (.slice A0 hb.length c0) := hc1
  have hcd2 : w1.drew.cell? ⟨kb, 0, none⟩ = some (.int .i64 M) := hc2
  have hcd3 : (w1.alloc (.cells #[.slice A n c, .slice none 0 0, .int .i64 M] 77)).cell? ⟨kb, 2, none⟩ = some (.slice A0 hb.length c0) := (World.cell?_of_block (w := w1) (Below.heap_alloc w1 _ kb hlt1)).trans hc1
  repeat (first | (refine trS (by rfl) ?_; simp only [Act.put, List.setIfInBounds_toArray, List.set_cons_zero, List.set_cons_succ]) | (refine trN (by rfl) ?_; simp only [Act.put, List.setIfInBounds_toArray, List.set_cons_zero, List.set_cons_succ]) | (refine trQ (v := ?_) (by rfl) (fun _ hSw => ?_) ?_; rotate_left; (focus (go_simp; (first | done | with_reducible rfl))); simp only [Act.put, List.setIfInBounds_toArray, List.set_cons_zero, List.set_cons_succ]))
  refine trB ?_ ?_
  refine trD (by rfl) ?_
  intro K hK
  go_simp
  refine hK _ _ trivial ?_
  clear hK K
  try simp only [Act.put, List.setIfInBounds_toArray, List.set_cons_zero, List.set_cons_succ]
  refine trD (by rfl) ?_
  intro K hK
  go_simp
  refine hK _ _ trivial ?_
  clear hK K
  try simp only [Act.put, List.setIfInBounds_toArray, List.set_cons_zero, List.set_cons_succ]
  repeat (first | (refine trS (by rfl) ?_; simp only [Act.put, List.setIfInBounds_toArray, List.set_cons_zero, List.set_cons_succ]) | (refine trN (by rfl) ?_; simp only [Act.put, List.setIfInBounds_toArray, List.set_cons_zero, List.set_cons_succ]) | (refine trQ (v := ?_) (by rfl) (fun _ hSw => ?_) ?_; rotate_left; (focus (go_simp; (first | done | with_reducible rfl))); simp only [Act.put, List.setIfInBounds_toArray, List.set_cons_zero, List.set_cons_succ]))
  refine trD (by rfl) ?_
  intro K hK
  go_simp
  refine hK _ _ trivial ?_
  clear hK K
  try simp only [Act.put, List.setIfInBounds_toArray, List.set_cons_zero, List.set_cons_succ]
  rotate_left
  refine trD (by rfl) ?_
  intro K hK
  go_simp
  refine hK _ _ trivial ?_
  clear hK K
  try simp only [Act.put, List.setIfInBounds_toArray, List.set_cons_zero, List.set_cons_succ]
  repeat (first | (refine trS (by rfl) ?_; simp only [Act.put, List.setIfInBounds_toArray, List.set_cons_zero, List.set_cons_succ]) | (refine trN (by rfl) ?_; simp only [Act.put, List.setIfInBounds_toArray, List.set_cons_zero, List.set_cons_succ]) | (refine trQ (v := ?_) (by rfl) (fun _ hSw => ?_) ?_; rotate_left; (focus (go_simp; (first | done | with_reducible rfl))); simp only [Act.put, List.setIfInBounds_toArray, List.set_cons_zero, List.set_cons_succ]))
  refine trB ?_ ?_
  refine trD (by rfl) ?_
  intro K hK
  go_simp
  refine hK _ _ trivial ?_
  clear hK K
  try simp only [Act.put, List.setIfInBounds_toArray, List.set_cons_zero, List.set_cons_succ]
  refine trD (by rfl) ?_
  intro K hK
  go_simp
  refine hK _ _ trivial ?_
  clear hK K
  try simp only [Act.put, List.setIfInBounds_toArray, List.set_cons_zero, List.set_cons_succ]
  rotate_left
  refine trD (by rfl) ?_
  intro K hK
  go_simp
  refine hK _ _ trivial ?_
  clear hK K
  try simp only [Act.put, List.setIfInBounds_toArray, List.set_cons_zero, List.set_cons_succ]
  refine trD (by rfl) ?_
  intro K hK
  go_simp
  refine hK _ _ trivial ?_
  clear hK K
  try simp only [Act.put, List.setIfInBounds_toArray, List.set_cons_zero, List.set_cons_succ]
  all_goals
    clear hcd1 hcd2 hcd3
    have hlit : ∀ j u, (Hl.cells ⟨A, n, c, none, 0, 0, M⟩)[j]? = some u → (w1.alloc (.cells #[.slice A n c, .slice none 0 0, .int .i64 M] 77)).drew.cell? ((⟨w1.heap.size, 0, none⟩ : Addr).add j) = some u :=
      fun j u hu => lit_cell w1 #[.slice A n c, .slice none 0 0, .int .i64 M] 77 j u hu
    generalize hw2 : (w1.alloc (.cells #[.slice A n c, .slice none 0 0, .int .i64 M] 77)).drew = w2 at hlit ⊢
    have hs2 : w2.heap.size = w1.heap.size + 1 := by rw [← hw2]; simp
    have hblk2 : ∀ b, b < w1.heap.size → w2.heap[b]? = w1.heap[b]? := fun b hb => by rw [← hw2]; exact Below.heap_alloc w1 _ b hb
    have hb2 : Below kb w w2 := by rw [← hw2]; exact (hb1.alloc (Nat.le_of_lt hlt1) _).drew
    have hF2 : Fr (fun b => b = kb ∨ (Value.slice A0 hb.length c0).ownBlock = some b) w w2 := by rw [← hw2]; exact hF1.alloc _
    have htb2 := (htb1.alloc (.cells #[.slice A n c, .slice none 0 0, .int .i64 M] 77)).drew
    have hti2 := fun i => ((hti1 i).alloc (.cells #[.slice A n c, .slice none 0 0, .int .i64 M] 77)).drew
    rw [hw2] at htb2
    simp only [hw2] at hti2
    clear hw2
    obtain ⟨v', w3, hrun, hown3, hgr3, _, hat3⟩ := run_append_own_at (P := Tryz.prog) w2 (kb + 1) 36 36 77 i0 _ 3 56 Tryz.underlying36 hi0 hz0 hz1 hz2 rfl (by omega) (.slice A0 hb.length c0) hb.length (rowsOf hb) htb2 ⟨w1.heap.size, 0, none⟩ 1 1 (Hl.cells ⟨A, n, c, none, 0, 0, M⟩) rfl hlit (by intro u hu; simp [Hl.cells] at hu; rcases hu with rfl | rfl | rfl <;> rfl) (by simp only [maxLen]; omega) (by omega) (by omega)
    obtain ⟨A3, c3, rfl⟩ := own_slice hown3
    have hkb3 : w3.heap[kb]? = w1.heap[kb]? := by
      rw [hgr3.block kb (by omega) ?_, hblk2 kb hlt1]
      intro he
      have := (htb2.lt kb he.symm).1
      omega
    have hne3 : (Value.slice A3 (hb.length + 1) c3).ownBlock ≠ some kb := by
      intro he
      have := (hown3.lt kb he).1
      omega
    have hc31 : w3.cell? ⟨kb, 2, none⟩ = some (.slice A0 hb.length c0) := by rw [World.cell?_of_block (w := w1) hkb3]; exact hc1
    have hc32 : w3.cell? ⟨kb, 0, none⟩ = some (.int .i64 M) := by rw [World.cell?_of_block (w := w1) hkb3]; exact hc2
    have hblk3 := hkb3.trans hblk
    have hfr3 : w3.frozen? ⟨kb, 2, none⟩ = false := by simp [World.frozen?, hblk3]
    have hb3 : Below kb w w3 := hb2.grown hgr3 (Nat.le_of_lt (by omega)) (fun k hk' => by have := (htb2.lt k hk').1; omega)
    refine trD (by rfl) ?_
    intro K hK
    refine Lib.wp_append_run _ _ _ 36 36 rfl _ _ (by rfl) (by rfl) (.slice A3 (hb.length + 1) c3) w3 hrun ?_
    refine hK _ _ trivial ?_
    clear hK K
    try simp only [Act.put, List.setIfInBounds_toArray, List.set_cons_zero, List.set_cons_succ]
    repeat (first | (refine trS (by rfl) ?_; simp only [Act.put, List.setIfInBounds_toArray, List.set_cons_zero, List.set_cons_succ]) | (refine trN (by rfl) ?_; simp only [Act.put, List.setIfInBounds_toArray, List.set_cons_zero, List.set_cons_succ]) | (refine trQ (v := ?_) (by rfl) (fun _ hSw => ?_) ?_; rotate_left; (focus (go_simp; (first | done | with_reducible rfl))); simp only [Act.put, List.setIfInBounds_toArray, List.set_cons_zero, List.set_cons_succ]))
    refine trD (by rfl) ?_
    intro K hK
    go_simp
    refine hK _ _ trivial ?_
    clear hK K
    refine trE ?_
    go_wp2
    go_end0
    have hblk4 := heap_setCell_same w3 kb 2 _ _ (.slice A3 (hb.length + 1) c3) hblk3
    have hF4 : Fr (fun b => b = kb ∨ (Value.slice A0 hb.length c0).ownBlock = some b) w (w3.setCell ⟨kb, 2, none⟩ (.slice A3 (hb.length + 1) c3)) := (hF2.grown hgr3 (fun k hk' => .inr hk')).setCell (p := ⟨kb, 2, none⟩) (.inl rfl) _
    have hB4 : Below kb w (w3.setCell ⟨kb, 2, none⟩ (.slice A3 (hb.length + 1) c3)) := hb3.setCell (p := ⟨kb, 2, none⟩) (Nat.le_refl _) _
    have hm4 := ownsRow_setCell_other hown3 (a := ⟨kb, 2, none⟩) hne3 (.slice A3 (hb.length + 1) c3)
    have hVb : (T 2).ownBlock = (Value.slice A0 hb.length c0).ownBlock := congrArg Value.ownBlock HV.out
    have hoth3 := fun i (hi : i ≠ 2) => (hti2 i).kept hgr3 (by
      rcases hv : (T i).ownBlock with _ | g
      · exact .inl rfl
      · right
        intro he
        exact hk.ne i 2 hi g hv (hVb.trans he.symm))
    have hoth4 := fun i (hi : i ≠ 2) => ownsRow_setCell_other (hoth3 i hi) (a := ⟨kb, 2, none⟩) (u := .slice A3 (hb.length + 1) c3) (by
      intro he
      have := ((hoth3 i hi).lt kb he).1
      omega)
    have hrow : rowsOf hb ++ Hl.cells ⟨A, n, c, none, 0, 0, M⟩ = rowsOf (hb ++ [⟨A, n, c, none, 0, 0, M⟩]) := by rw [rowsOf_app]; rfl
    have hlen : hb.length + 1 = (hb ++ [(⟨A, n, c, none, 0, 0, M⟩ : Hl)]).length := by simp
    rw [hrow] at hm4
    rw [HM.out, ← HB.out]
    refine ⟨rfl, _, hk.put 2 (by omega) hblk4 (by rw [← hlen]; exact hm4) hoth4 ?_, hB4, ?_⟩
    · intro i hi g hg he
      rcases hat3 with h | h
      · exact hk.ne i 2 hi g he (hVb.trans (h.symm.trans hg))
      · have h2 := ((hti2 i).lt g he).2
        rw [hg] at h
        cases h
        omega
    · rw [hVb]; exact hF4

theorem info9_heldIntList : (Tryz.prog.info? 88).map (fun i => (i.zero, i.size, i.bytes)) = some (some (.agg #[.slice none 0 0, .slice none 0 0, .int .i64 0]), 3, 56) := by kernel_rfl
set_option maxRecDepth 100000 in
set_option maxHeartbeats 1000000 in
theorem keep9IntList (kb N : Nat) (T : Nat → Value) (H : Nat → List Hl) (A : Option Addr) (n c : Nat) (w : World) (hk : Bkn 45 tHs w kb N T H) (hN : N < 1000000) (hl : (H 4).length ≤ 1000000) :
    Calls Tryz.prog 74 #[.pointer (some ⟨kb, 0, none⟩), .slice A n c] w fun e w' => e = .returned (.tuple #[]) ∧ ∃ v', Bkn 45 tHs w' kb (N + 1) (upd T 4 v') (upd H 4 (H 4 ++ [⟨A, n, c, none, 0, 0, N + 1⟩])) ∧ Below kb w w' ∧ Fr (fun b => b = kb ∨ (T 4).ownBlock = some b) w w' := by
  obtain ⟨i0, hi0, hz0, hz1, hz2⟩ := info_parts info9_heldIntList
  have hc0 : w.cell? ⟨kb, 0, none⟩ = some (.int .i64 N) := hk.cell 0
  have hf0 := hk.free 0
  have hblk := heap_setCell_same w kb 0 _ _ (.int .i64 ((N + 1 : Nat) : Int)) hk.blk
  have hlt := hk.lt
  obtain ⟨A0, c0, hv0, hl0, hl1⟩ := row_slice (hk.tab 4)
  have htb := hk.tab 4
  rw [hv0] at htb
  obtain ⟨hb, hhb⟩ : ∃ hb, hb = H 4 := ⟨_, rfl⟩
  rw [← hhb] at htb hl0 hv0 hl
  have HB := Lib.hid hhb
  have HV := Lib.hid hv0
  clear hhb
  unfold maxLen at hl1
  go_enter Tryz.func74, Tryz.ntmps74
  go_wp2_with fail
  have eN : (N : Int) + 1 = ((N + 1 : Nat) : Int) := by omega
  simp only [eN]
  generalize hw1 : w.setCell ⟨kb, 0, none⟩ (.int .i64 ((N + 1 : Nat) : Int)) = w1 at hblk ⊢
  have hF1 : Fr (fun b => b = kb ∨ (Value.slice A0 hb.length c0).ownBlock = some b) w w1 := by rw [← hw1]; exact (Fr.refl _ w).setCell (p := ⟨kb, 0, none⟩) (.inl rfl) _
  have hb1 : Below kb w w1 := by rw [← hw1]; exact (Below.refl kb w).setCell (p := ⟨kb, 0, none⟩) (Nat.le_refl _) _
  have htb1 := ownsRow_setCell_below htb (a := ⟨kb, 0, none⟩) (Nat.lt_succ_self _) (.int .i64 ((N + 1 : Nat) : Int))
  have hti1 := fun i => ownsRow_setCell_below (hk.tab i) (a := ⟨kb, 0, none⟩) (Nat.lt_succ_self _) (.int .i64 ((N + 1 : Nat) : Int))
  rw [hw1] at htb1
  simp only [hw1] at hti1
  have hc1 : w1.cell? ⟨kb, 4, none⟩ = some (.slice A0 hb.length c0) := by rw [cell_of_row w1 kb 4 _ _ _ hblk, ← HV.out]; rfl
  have hc2 : w1.cell? ⟨kb, 0, none⟩ = some (.int .i64 ((N + 1 : Nat) : Int)) := by rw [cell_of_row w1 kb 0 _ _ _ hblk]; rfl
  have hlt1 : kb < w1.heap.size := (Array.getElem?_eq_some_iff.1 hblk).1
  clear hw1 eN hc0 hf0
  generalize hM : N + 1 = M at hblk hc2 ⊢
  have HM := Lib.hid hM
  clear hM
  refine wp_region_tr (S := fun _ => True) (.q 0 (.q 1 (.q 2 (.q 3 (.q 5 (.q 6 (.q 7 (.q 8 (.b 4 9 (.d 9 (.q 10 (.d 11 (.d 12 (.q 13 (.q 14 (.d 15 .nil))))))) (.q 10 (.b 4 11 (.d 11 (.d 12 (.q 13 (.q 14 (.d 15 .nil))))) (.d 4 (.d 12 (.q 13 (.q 14 (.d 15 .nil)))))))))))))))) default (by kernel_rfl) (by kernel_rfl) (by kernel_rfl) trivial ?_
  simp only [getTr, nth]
  have hcd1 : w1.drew.cell? ⟨kb, 4, none⟩ = some (.slice A0 hb.length c0) := hc1
  have hcd2 : w1.drew.cell? ⟨kb, 0, none⟩ = some (.int .i64 M) := hc2
  have hcd3 : (w1.alloc (.cells #[.slice A n c, .slice none 0 0, .int .i64 M] 88)).cell? ⟨kb, 4, none⟩ = some (.slice A0 hb.length c0) := (World.cell?_of_block (w := w1) (Below.heap_alloc w1 _ kb hlt1)).trans hc1
  repeat (first | (refine trS (by rfl) ?_; simp only [Act.put, List.setIfInBounds_toArray, List.set_cons_zero, List.set_cons_succ]) | (refine trN (by rfl) ?_; simp only [Act.put, List.setIfInBounds_toArray, List.set_cons_zero, List.set_cons_succ]) | (refine trQ (v := ?_) (by rfl) (fun _ hSw => ?_) ?_; rotate_left; (focus (go_simp; (first | done | with_reducible rfl))); simp only [Act.put, List.setIfInBounds_toArray, List.set_cons_zero, List.set_cons_succ]))
  refine trB ?_ ?_
  refine trD (by rfl) ?_
  intro K hK
  go_simp
  refine hK _ _ trivial ?_
  clear hK K
  try simp only [Act.put, List.setIfInBounds_toArray, List.set_cons_zero, List.set_cons_succ]
  refine trD (by rfl) ?_
  intro K hK
  go_simp
  refine hK _ _ trivial ?_
  clear hK K
  try simp only [Act.put, List.setIfInBounds_toArray, List.set_cons_zero, List.set_cons_succ]
  repeat (first | (refine trS (by rfl) ?_; simp only [Act.put, List.setIfInBounds_toArray, List.set_cons_zero, List.set_cons_succ]) | (refine trN (by rfl) ?_; simp only [Act.put, List.setIfInBounds_toArray, List.set_cons_zero, List.set_cons_succ]) | (refine trQ (v := ?_) (by rfl) (fun _ hSw => ?_) ?_; rotate_left; (focus (go_simp; (first | done | with_reducible rfl))); simp only [Act.put, List.setIfInBounds_toArray, List.set_cons_zero, List.set_cons_succ]))
  refine trD (by rfl) ?_
  intro K hK
  go_simp
  refine hK _ _ trivial ?_
  clear hK K
  try simp only [Act.put, List.setIfInBounds_toArray, List.set_cons_zero, List.set_cons_succ]
  rotate_left
  refine trD (by rfl) ?_
  intro K hK
  go_simp
  refine hK _ _ trivial ?_
  clear hK K
  try simp only [Act.put, List.setIfInBounds_toArray, List.set_cons_zero, List.set_cons_succ]
  repeat (first | (refine trS (by rfl) ?_; simp only [Act.put, List.setIfInBounds_toArray, List.set_cons_zero, List.set_cons_succ]) | (refine trN (by rfl) ?_; simp only [Act.put, List.setIfInBounds_toArray, List.set_cons_zero, List.set_cons_succ]) | (refine trQ (v := ?_) (by rfl) (fun _ hSw => ?_) ?_; rotate_left; (focus (go_simp; (first | done | with_reducible rfl))); simp only [Act.put, List.setIfInBounds_toArray, List.set_cons_zero, List.set_cons_succ]))
  refine trB ?_ ?_
  refine trD (by rfl) ?_
  intro K hK
  go_simp
  refine hK _ _ trivial ?_
  clear hK K
  try simp only [Act.put, List.setIfInBounds_toArray, List.set_cons_zero, List.set_cons_succ]
  refine trD (by rfl) ?_
  intro K hK
  go_simp
  refine hK _ _ trivial ?_
  clear hK K
  try simp only [Act.put, List.setIfInBounds_toArray, List.set_cons_zero, List.set_cons_succ]
  rotate_left
  refine trD (by rfl) ?_
  intro K hK
  go_simp
  refine hK _ _ trivial ?_
  clear hK K
  try simp only [Act.put, List.setIfInBounds_toArray, List.set_cons_zero, List.set_cons_succ]
  refine trD (by rfl) ?_
  intro K hK
  go_simp
  refine hK _ _ trivial ?_
  clear hK K
  try simp only [Act.put, List.setIfInBounds_toArray, List.set_cons_zero, List.set_cons_succ]
  all_goals
    clear hcd1 hcd2 hcd3
    have hlit : ∀ j u, (Hl.cells ⟨A, n, c, none, 0, 0, M⟩)[j]? = some u → (w1.alloc (.cells #[.slice A n c, .slice none 0 0, .int .i64 M] 88)).drew.cell? ((⟨w1.heap.size, 0, none⟩ : Addr).add j) = some u :=
      fun j u hu => lit_cell w1 #[.slice A n c, .slice none 0 0, .int .i64 M] 88 j u hu
    generalize hw2 : (w1.alloc (.cells #[.slice A n c, .slice none 0 0, .int .i64 M] 88)).drew = w2 at hlit ⊢
    have hs2 : w2.heap.size = w1.heap.size + 1 := by rw [← hw2]; simp
    have hblk2 : ∀ b, b < w1.heap.size → w2.heap[b]? = w1.heap[b]? := fun b hb => by rw [← hw2]; exact Below.heap_alloc w1 _ b hb
    have hb2 : Below kb w w2 := by rw [← hw2]; exact (hb1.alloc (Nat.le_of_lt hlt1) _).drew
    have hF2 : Fr (fun b => b = kb ∨ (Value.slice A0 hb.length c0).ownBlock = some b) w w2 := by rw [← hw2]; exact hF1.alloc _
    have htb2 := (htb1.alloc (.cells #[.slice A n c, .slice none 0 0, .int .i64 M] 88)).drew
    have hti2 := fun i => ((hti1 i).alloc (.cells #[.slice A n c, .slice none 0 0, .int .i64 M] 88)).drew
    rw [hw2] at htb2
    simp only [hw2] at hti2
    clear hw2
    obtain ⟨v', w3, hrun, hown3, hgr3, _, hat3⟩ := run_append_own_at (P := Tryz.prog) w2 (kb + 1) 38 38 88 i0 _ 3 56 Tryz.underlying38 hi0 hz0 hz1 hz2 rfl (by omega) (.slice A0 hb.length c0) hb.length (rowsOf hb) htb2 ⟨w1.heap.size, 0, none⟩ 1 1 (Hl.cells ⟨A, n, c, none, 0, 0, M⟩) rfl hlit (by intro u hu; simp [Hl.cells] at hu; rcases hu with rfl | rfl | rfl <;> rfl) (by simp only [maxLen]; omega) (by omega) (by omega)
    obtain ⟨A3, c3, rfl⟩ := own_slice hown3
    have hkb3 : w3.heap[kb]? = w1.heap[kb]? := by
      rw [hgr3.block kb (by omega) ?_, hblk2 kb hlt1]
      intro he
      have := (htb2.lt kb he.symm).1
      omega
    have hne3 : (Value.slice A3 (hb.length + 1) c3).ownBlock ≠ some kb := by
      intro he
      have := (hown3.lt kb he).1
      omega
    have hc31 : w3.cell? ⟨kb, 4, none⟩ = some (.slice A0 hb.length c0) := by rw [World.cell?_of_block (w := w1) hkb3]; exact hc1
    have hc32 : w3.cell? ⟨kb, 0, none⟩ = some (.int .i64 M) := by rw [World.cell?_of_block (w := w1) hkb3]; exact hc2
    have hblk3 := hkb3.trans hblk
    have hfr3 : w3.frozen? ⟨kb, 4, none⟩ = false := by simp [World.frozen?, hblk3]
    have hb3 : Below kb w w3 := hb2.grown hgr3 (Nat.le_of_lt (by omega)) (fun k hk' => by have := (htb2.lt k hk').1; omega)
    refine trD (by rfl) ?_
    intro K hK
    refine Lib.wp_append_run _ _ _ 38 38 rfl _ _ (by rfl) (by rfl) (.slice A3 (hb.length + 1) c3) w3 hrun ?_
    refine hK _ _ trivial ?_
    clear hK K
    try simp only [Act.put, List.setIfInBounds_toArray, List.set_cons_zero, List.set_cons_succ]
    repeat (first | (refine trS (by rfl) ?_; simp only [Act.put, List.setIfInBounds_toArray, List.set_cons_zero, List.set_cons_succ]) | (refine trN (by rfl) ?_; simp only [Act.put, List.setIfInBounds_toArray, List.set_cons_zero, List.set_cons_succ]) | (refine trQ (v := ?_) (by rfl) (fun _ hSw => ?_) ?_; rotate_left; (focus (go_simp; (first | done | with_reducible rfl))); simp only [Act.put, List.setIfInBounds_toArray, List.set_cons_zero, List.set_cons_succ]))
    refine trD (by rfl) ?_
    intro K hK
    go_simp
    refine hK _ _ trivial ?_
    clear hK K
    refine trE ?_
    go_wp2
    go_end0
    have hblk4 := heap_setCell_same w3 kb 4 _ _ (.slice A3 (hb.length + 1) c3) hblk3
    have hF4 : Fr (fun b => b = kb ∨ (Value.slice A0 hb.length c0).ownBlock = some b) w (w3.setCell ⟨kb, 4, none⟩ (.slice A3 (hb.length + 1) c3)) := (hF2.grown hgr3 (fun k hk' => .inr hk')).setCell (p := ⟨kb, 4, none⟩) (.inl rfl) _
    have hB4 : Below kb w (w3.setCell ⟨kb, 4, none⟩ (.slice A3 (hb.length + 1) c3)) := hb3.setCell (p := ⟨kb, 4, none⟩) (Nat.le_refl _) _
    have hm4 := ownsRow_setCell_other hown3 (a := ⟨kb, 4, none⟩) hne3 (.slice A3 (hb.length + 1) c3)
    have hVb : (T 4).ownBlock = (Value.slice A0 hb.length c0).ownBlock := congrArg Value.ownBlock HV.out
    have hoth3 := fun i (hi : i ≠ 4) => (hti2 i).kept hgr3 (by
      rcases hv : (T i).ownBlock with _ | g
      · exact .inl rfl
      · right
        intro he
        exact hk.ne i 4 hi g hv (hVb.trans he.symm))
    have hoth4 := fun i (hi : i ≠ 4) => ownsRow_setCell_other (hoth3 i hi) (a := ⟨kb, 4, none⟩) (u := .slice A3 (hb.length + 1) c3) (by
      intro he
      have := ((hoth3 i hi).lt kb he).1
      omega)
    have hrow : rowsOf hb ++ Hl.cells ⟨A, n, c, none, 0, 0, M⟩ = rowsOf (hb ++ [⟨A, n, c, none, 0, 0, M⟩]) := by rw [rowsOf_app]; rfl
    have hlen : hb.length + 1 = (hb ++ [(⟨A, n, c, none, 0, 0, M⟩ : Hl)]).length := by simp
    rw [hrow] at hm4
    rw [HM.out, ← HB.out]
    refine ⟨rfl, _, hk.put 4 (by omega) hblk4 (by rw [← hlen]; exact hm4) hoth4 ?_, hB4, ?_⟩
    · intro i hi g hg he
      rcases hat3 with h | h
      · exact hk.ne i 4 hi g he (hVb.trans (h.symm.trans hg))
      · have h2 := ((hti2 i).lt g he).2
        rw [hg] at h
        cases h
        omega
    · rw [hVb]; exact hF4

end Go.Proofs.YtdckoaljcklmhaaGreatDoor


namespace Go.Proofs.YtdckoaljcklmhaaGreatDoor
open Go.RowKit
set_option linter.unusedVariables false
set_option maxHeartbeats 400000 in
theorem told9Int (kb N : Nat) (T : Nat → Value) (H : Nat → List Hl) (A : Option Addr) (n c : Nat) (w : World) (hk : Bkn 45 tHs w kb N T H) (hN : N < 1000000) (hl : (H 2).length ≤ 1000000) :
    Calls Tryz.prog 13 #[.pointer (some ⟨kb, 0, none⟩), .slice A n c] w fun e w' => e = .returned (.tuple #[]) ∧ ∃ v', Bkn 45 tHs w' kb (N + 1) (upd T 2 v') (upd H 2 (H 2 ++ [⟨A, n, c, none, 0, 0, N + 1⟩])) ∧ Below kb w w' ∧ Fr (fun b => b = kb ∨ (T 2).ownBlock = some b) w w' := by
  go_enter Tryz.func13, Tryz.ntmps13
  go_wp2_with fail
  refine (keep9Int kb N T H A n c w hk hN hl).mono ?_
  rintro e w1 ⟨rfl, v', h1, h2, h3⟩
  go_wp2
  go_end0
  exact ⟨rfl, v', h1, h2, h3⟩

set_option maxRecDepth 100000 in
set_option maxHeartbeats 1000000 in
theorem fill9Byte (kb N B s : Nat) (T : Nat → Value) (H : Nat → List Hl) (w : World) (hk : Bkn 45 tHs w kb N T H)
    (hown : ∀ h ∈ H 1, ∃ xs, Own w B 5 h.A h.n h.c xs) (hlt : ∀ h ∈ H 1, ∀ g, Hit h g → OffLN kb T s g) (hsep : Sep (H 1)) (hks : ∀ h ∈ H 1, h.k < 1000000000) (hns : ∀ h ∈ H 1, h.n ≤ 1000000000) (hl : (H 1).length ≤ 1000000) (hBk : B ≤ kb) (hs : s ≤ w.heap.size) :
    Calls Tryz.prog 34 #[.pointer (some ⟨kb, 0, none⟩)] w fun e w' => e = .returned (.tuple #[]) ∧ Fr (Hits (H 1)) w w' ∧ Below B w w' ∧ ∀ h ∈ H 1, OwnM mksB w' B 5 s h.A h.n h.c h.k := by
  have hkbl := hk.lt
  obtain ⟨A0, c0, hv0, hl0, hl1⟩ := row_slice (hk.tab 1)
  obtain ⟨hb, hhb⟩ : ∃ hb, hb = H 1 := ⟨_, rfl⟩
  rw [← hhb] at hl0 hv0 hl hown hlt hsep hks hns ⊢
  have HB := Lib.hid hhb
  have HV := Lib.hid hv0
  clear hhb hv0
  unfold maxLen at hl1
  go_enter Tryz.func34, Tryz.ntmps34
  go_wp2_with fail
  go_loopw [2] (fun i wr => ∃ j : Nat, j ≤ hb.length ∧ i = .int .i64 j ∧ Fr (Hits (hb.take j)) w wr ∧ Below B w wr ∧ ∀ h ∈ hb.take j, OwnM mksB wr B 5 s h.A h.n h.c h.k) (fun i _ => hb.length - (intOf i).toNat)
  case atStart => exact ⟨0, Nat.zero_le _, rfl, Fr.refl _ _, Below.refl _ _, fun h hh => by simp at hh⟩
  case round =>
    obtain ⟨j, hj, rfl, hfr, hbel, hdone⟩ := hrel
    obtain ⟨wo, rfl⟩ : ∃ wo, wo = wr := ⟨_, rfl⟩
    have hws := hfr.1
    have hpk : ∀ b, Hits (hb.take j) b → OffN kb T b := fun b ⟨h, hm, hb'⟩ => (hlt h (List.mem_of_mem_take hm) b hb').2
    have hkr := hk.fr hfr hpk
    have hcv : wo.cell? ⟨kb, 1, none⟩ = some (.slice A0 hb.length c0) := (hkr.cell 1).trans (congrArg some HV.out)
    have hkrl := hkr.lt
    have htb := hkr.tab 1
    rw [HV.out, ← HB.out] at htb
    by_cases hlt2 : j < hb.length
    · obtain ⟨gt, ct, hv, hgt1, hgt2, _, _⟩ := row_form htb (by omega)
      cases hv
      have t0 := row_cell htb j 0 hlt2 (by omega)
      have t1 := row_cell htb j 1 hlt2 (by omega)
      have t2 := row_cell htb j 2 hlt2 (by omega)
      have hmem : hb[j] ∈ hb := List.getElem_mem _
      obtain ⟨xs, ho⟩ := hown _ hmem
      have hkk := hks _ hmem
      have hnn := hns _ hmem
      have hll := hlt _ hmem
      have hnot : ∀ h ∈ hb.take j, ∀ g, Hit h g → ¬ Hit hb[j] g := sep_take hsep hlt2
      have htake := List.take_succ_eq_append_getElem hlt2
      obtain ⟨x, hx⟩ : ∃ x, x = hb[j] := ⟨_, rfl⟩
      rw [← hx] at t0 t1 t2 ho hkk hnn hll hnot htake
      have HT := Lib.hid htake
      clear hx htake hmem
      have ho1 := ho.fr hfr (fun g hc hA hh => by obtain ⟨h, hm, hb'⟩ := hh; exact hnot h hm g hb' ⟨hc, hA⟩)
      obtain ⟨xA, xn, xc, xL, xln, xlc, xk⟩ := x
      simp only [Hl.cells, List.getElem?_cons_zero, List.getElem?_cons_succ, Nat.add_zero] at t0 t1 t2 ho ho1 hkk hnn
      clear ho
      go_wp2_with fail
      have hw2b : ∀ b, b < wo.heap.size → (wo.alloc (.cells #[.slice xA xn xc, .slice xL xln xlc, .int .i64 xk] 80)).heap[b]? = wo.heap[b]? := fun b hb => Below.heap_alloc wo _ b hb
      have ho2 : Own (wo.alloc (.cells #[.slice xA xn xc, .slice xL xln xlc, .int .i64 xk] 80)) B 5 xA xn xc xs := ho1.alloc _
      have hx2 : Bx (wo.alloc (.cells #[.slice xA xn xc, .slice xL xln xlc, .int .i64 xk] 80)) wo.heap.size [.slice xA xn xc, .slice xL xln xlc, .int .i64 xk] := Bx.new wo _ _ _
      have hb2 : Below B w (wo.alloc (.cells #[.slice xA xn xc, .slice xL xln xlc, .int .i64 xk] 80)) := hbel.alloc (Nat.le_trans (by omega : B ≤ w.heap.size) hbel.size) _
      have hfr2 : Fr (Hits (hb.take j)) w (wo.alloc (.cells #[.slice xA xn xc, .slice xL xln xlc, .int .i64 xk] 80)) := hfr.alloc _
      have hsz2 : wo.heap.size ≤ (wo.alloc (.cells #[.slice xA xn xc, .slice xL xln xlc, .int .i64 xk] 80)).heap.size := by simp
      generalize wo.alloc (.cells #[.slice xA xn xc, .slice xL xln xlc, .int .i64 xk] 80) = w2 at *
      go_loopw [4] (fun i wr => ∃ (q : Nat) (ys : List Value), q ≤ xn ∧ i = .int .i64 q ∧ Own wr B 5 xA xn xc ys ∧ Hid (∀ v ∈ ys.take q, mksB.is wr s xk v) ∧ Fr (Hit ⟨xA, xn, xc, xL, xln, xlc, xk⟩) w2 wr ∧ Below B w2 wr) (fun i _ => xn - (intOf i).toNat)
      case atStart => exact ⟨0, xs, Nat.zero_le _, rfl, ho2, Lib.hid (by simp), Fr.refl _ _, Below.refl _ _⟩
      case round =>
        obtain ⟨q, ys, hq, rfl, hoq, hyq, hfq, hbq⟩ := hrel
        have hnl : ¬ Hit ⟨xA, xn, xc, xL, xln, xlc, xk⟩ wo.heap.size := fun hh => by have := (hll _ hh).1; omega
        have hbx : ∀ o, wr.cell? ⟨wo.heap.size, o, none⟩ = w2.cell? ⟨wo.heap.size, o, none⟩ := fun o => World.cell?_of_block (w := w2) (hfq.2 wo.heap.size hx2.1 hnl)
        have l0 : wr.cell? ⟨wo.heap.size, 0, none⟩ = some (.slice xA xn xc) := (hbx 0).trans hx2.at0
        have l2 : wr.cell? ⟨wo.heap.size, 2, none⟩ = some (.int .i64 xk) := (hbx 2).trans hx2.at2
        have hwor : wo.heap.size < wr.heap.size := Nat.lt_of_lt_of_le hx2.1 hbq.size
        clear hbx
        by_cases hql : q < xn
        · have hle := hoq.le
          obtain ⟨g, rfl, hBg, hgl⟩ := hoq.lt (by omega)
          have hyl := hoq.len
          have hgk : g < s := (hll g ⟨by show 0 < xc; omega, rfl⟩).1
          have hne : ¬ (g = wo.heap.size) := by omega
          have hne' : ¬ (wo.heap.size = g) := by omega
          have HL := Lib.hid hyl
          clear hyl
          go_wp2_with fail
          refine wp_region_ord (S := fun w' => w'.cell? ⟨wo.heap.size, 0, none⟩ = some (.slice (some ⟨g, 0, none⟩) xn xc) ∧ w'.cell? ⟨wo.heap.size, 2, none⟩ = some (.int .i64 xk)) [(0, true), (1, true), (2, true), (3, true), (4, true), (5, false), (6, true), (7, false)] default (by kernel_rfl) (by kernel_rfl) (by kernel_rfl) ⟨l0, l2⟩ ?_
          simp only [getOrd, nth]
          repeat (first | (refine ordS (by rfl) ?_; simp only [Act.put, List.setIfInBounds_toArray, List.set_cons_zero, List.set_cons_succ]) | (refine ordN (by rfl) ?_; simp only [Act.put, List.setIfInBounds_toArray, List.set_cons_zero, List.set_cons_succ]) | (refine ordQ (v := ?_) (by rfl) (fun _ hSw => ?_) ?_; rotate_left; (focus ((have hS1 := hSw.1); (have hS2 := hSw.2); clear hSw; go_simp; (first | done | with_reducible rfl))); simp only [Act.put, List.setIfInBounds_toArray, List.set_cons_zero, List.set_cons_succ]))
          refine ordD (by rfl) ?_
          intro K hK
          go_simp
          refine (mark9Byte xk hkk _).mono ?_
          rintro e wm ⟨rfl, hmis0, hbm⟩
          have hbm2 : Below wr.heap.size wr wm := ((Below.refl _ wr).drew).trans hbm
          have hom : Own wm B 5 (some ⟨g, 0, none⟩) xn xc ys := hoq.below hbm2
          have l0m : wm.cell? ⟨wo.heap.size, 0, none⟩ = some (.slice (some ⟨g, 0, none⟩) xn xc) := (hbm2.cell (p := ⟨wo.heap.size, 0, none⟩) hwor).trans l0
          have l2m : wm.cell? ⟨wo.heap.size, 2, none⟩ = some (.int .i64 xk) := (hbm2.cell (p := ⟨wo.heap.size, 2, none⟩) hwor).trans l2
          have hym : ∀ v ∈ ys.take q, mksB.is wm s xk v := fun v hv => mksB.below (hyq.out v hv) hbm2
          have hmis : mksB.is wm s xk (.int .u8 ((xk : Int) % 256)) := mksB.mono hmis0 (by show s ≤ wr.heap.size; have := hbq.size; omega)
          have HY := Lib.hid (fill_stepM (mksB.is wm s xk) ys q (.int .u8 ((xk : Int) % 256)) (by rw [HL.out]; exact hql) hym hmis)
          obtain ⟨u0, hcg⟩ : ∃ u0, wm.cell? ⟨g, q, none⟩ = some u0 := ⟨_, (hom.cell hql).trans (List.getElem?_eq_getElem (by rw [HL.out]; exact hql))⟩
          have hfg := hom.free (by omega) q
          clear hmis0 hym hmis
          go_wp2_with fail
          refine hK _ _ ⟨l0m, l2m⟩ ?_
          clear hK K
          try simp only [Act.put, List.setIfInBounds_toArray, List.set_cons_zero, List.set_cons_succ]
          repeat (first | (refine ordS (by rfl) ?_; simp only [Act.put, List.setIfInBounds_toArray, List.set_cons_zero, List.set_cons_succ]) | (refine ordN (by rfl) ?_; simp only [Act.put, List.setIfInBounds_toArray, List.set_cons_zero, List.set_cons_succ]) | (refine ordQ (v := ?_) (by rfl) (fun _ hSw => ?_) ?_; rotate_left; (focus ((have hS1 := hSw.1); (have hS2 := hSw.2); clear hSw; go_simp; (first | done | with_reducible rfl))); simp only [Act.put, List.setIfInBounds_toArray, List.set_cons_zero, List.set_cons_succ]))
          refine ordD (by rfl) ?_
          intro K hK
          go_simp
          refine hK _ _ ⟨(World.cell?_of_block (w := wm) (setCell_ne (by exact hne'))).trans l0m, (World.cell?_of_block (w := wm) (setCell_ne (by exact hne'))).trans l2m⟩ ?_
          clear hK K
          refine ordE ?_
          have ho3 : Own (wm.setCell ⟨g, q, none⟩ (.int .u8 ((xk : Int) % 256))) B 5 (some ⟨g, 0, none⟩) xn xc (ys.set q (.int .u8 ((xk : Int) % 256))) := hom.set (by omega) q _
          have hf3 : Fr (Hit ⟨some ⟨g, 0, none⟩, xn, xc, xL, xln, xlc, xk⟩) w2 (wm.setCell ⟨g, q, none⟩ (.int .u8 ((xk : Int) % 256))) := (hfq.trans (Fr.of_below hbm2)).setCell (p := ⟨g, q, none⟩) ⟨by show 0 < xc; omega, rfl⟩ _
          have hb3 : Below B w2 (wm.setCell ⟨g, q, none⟩ (.int .u8 ((xk : Int) % 256))) := (hbq.trans (hbm2.mono (Nat.le_trans (by omega : B ≤ w2.heap.size) hbq.size))).setCell (p := ⟨g, q, none⟩) hBg _
          have HZ := Lib.hid (fun v hv => mksB.store (HY.out v hv) hom (by omega) (by decide) q (.int .u8 ((xk : Int) % 256)))
          clear HY hom l0m l2m hbm hbm2
          go_wp2
          go_roundw
          case rel => exact ⟨q + 1, ys.set q (.int .u8 ((xk : Int) % 256)), by omega, by go_num, ho3, HZ, hf3, hb3⟩
          case measure => simp [intOf]; omega
        · obtain rfl : q = xn := by omega
          have hys : ∀ v ∈ ys, mksB.is wr s xk v := by
            have h := hyq.out
            rw [List.take_of_length_le (by rw [hoq.len]; exact Nat.le_refl _)] at h
            exact h
          clear hyq
          have hfr3 : Fr (Hits (hb.take (j + 1))) w wr := by
            rw [HT.out]
            exact (hfr2.mono fun b ⟨h, hm, hh⟩ => ⟨h, List.mem_append_left _ hm, hh⟩).trans (hfq.mono fun b hh => ⟨_, List.mem_append_right _ (List.mem_singleton.2 rfl), hh⟩)
          have hbel3 : Below B w wr := hb2.trans hbq
          have hdone3 : ∀ h ∈ hb.take (j + 1), OwnM mksB wr B 5 s h.A h.n h.c h.k := by
            intro h hh
            rw [HT.out] at hh
            rcases List.mem_append.1 hh with hm | hm
            · have h1 := (hdone h hm).fr (P := fun _ => False) (w' := w2) ⟨hsz2, fun b hb _ => hw2b b hb⟩ (fun _ _ _ hx => hx) (fun _ _ hx => hx)
              exact h1.fr hfq (fun g hc hA hx => hnot h hm g ⟨hc, hA⟩ hx) (fun g hg hx => by have := (hll g hx).1; omega)
            · rw [List.mem_singleton.1 hm]
              exact ⟨ys, hoq, hys⟩
          have HD := Lib.hid hdone3
          have HF := Lib.hid hfr3
          clear hdone3 hfr3 hdone hfr hnot hown hlt hks hns hll hpk
          go_wp2
          go_roundw
          case rel => exact ⟨j + 1, by omega, by go_num, HF.out, hbel3, HD.out⟩
          case measure => simp [intOf]; omega
    · obtain rfl : j = hb.length := by omega
      rw [List.take_length] at hfr hdone
      go_wp2
      go_end0
      exact ⟨rfl, hfr, hbel, hdone⟩

set_option maxRecDepth 100000 in
set_option maxHeartbeats 1000000 in
theorem fill9Int (kb N B s : Nat) (T : Nat → Value) (H : Nat → List Hl) (w : World) (hk : Bkn 45 tHs w kb N T H)
    (hown : ∀ h ∈ H 2, ∃ xs, Own w B 3 h.A h.n h.c xs) (hlt : ∀ h ∈ H 2, ∀ g, Hit h g → OffLN kb T s g) (hsep : Sep (H 2)) (hks : ∀ h ∈ H 2, h.k < 1000000000) (hns : ∀ h ∈ H 2, h.n ≤ 1000000000) (hl : (H 2).length ≤ 1000000) (hBk : B ≤ kb) (hs : s ≤ w.heap.size) :
    Calls Tryz.prog 35 #[.pointer (some ⟨kb, 0, none⟩)] w fun e w' => e = .returned (.tuple #[]) ∧ Fr (Hits (H 2)) w w' ∧ Below B w w' ∧ ∀ h ∈ H 2, OwnM mksI w' B 3 s h.A h.n h.c h.k := by
  have hkbl := hk.lt
  obtain ⟨A0, c0, hv0, hl0, hl1⟩ := row_slice (hk.tab 2)
  obtain ⟨hb, hhb⟩ : ∃ hb, hb = H 2 := ⟨_, rfl⟩
  rw [← hhb] at hl0 hv0 hl hown hlt hsep hks hns ⊢
  have HB := Lib.hid hhb
  have HV := Lib.hid hv0
  clear hhb hv0
  unfold maxLen at hl1
  go_enter Tryz.func35, Tryz.ntmps35
  go_wp2_with fail
  go_loopw [2] (fun i wr => ∃ j : Nat, j ≤ hb.length ∧ i = .int .i64 j ∧ Fr (Hits (hb.take j)) w wr ∧ Below B w wr ∧ ∀ h ∈ hb.take j, OwnM mksI wr B 3 s h.A h.n h.c h.k) (fun i _ => hb.length - (intOf i).toNat)
  case atStart => exact ⟨0, Nat.zero_le _, rfl, Fr.refl _ _, Below.refl _ _, fun h hh => by simp at hh⟩
  case round =>
    obtain ⟨j, hj, rfl, hfr, hbel, hdone⟩ := hrel
    obtain ⟨wo, rfl⟩ : ∃ wo, wo = wr := ⟨_, rfl⟩
    have hws := hfr.1
    have hpk : ∀ b, Hits (hb.take j) b → OffN kb T b := fun b ⟨h, hm, hb'⟩ => (hlt h (List.mem_of_mem_take hm) b hb').2
    have hkr := hk.fr hfr hpk
    have hcv : wo.cell? ⟨kb, 2, none⟩ = some (.slice A0 hb.length c0) := (hkr.cell 2).trans (congrArg some HV.out)
    have hkrl := hkr.lt
    have htb := hkr.tab 2
    rw [HV.out, ← HB.out] at htb
    by_cases hlt2 : j < hb.length
    · obtain ⟨gt, ct, hv, hgt1, hgt2, _, _⟩ := row_form htb (by omega)
      cases hv
      have t0 := row_cell htb j 0 hlt2 (by omega)
      have t1 := row_cell htb j 1 hlt2 (by omega)
      have t2 := row_cell htb j 2 hlt2 (by omega)
      have hmem : hb[j] ∈ hb := List.getElem_mem _
      obtain ⟨xs, ho⟩ := hown _ hmem
      have hkk := hks _ hmem
      have hnn := hns _ hmem
      have hll := hlt _ hmem
      have hnot : ∀ h ∈ hb.take j, ∀ g, Hit h g → ¬ Hit hb[j] g := sep_take hsep hlt2
      have htake := List.take_succ_eq_append_getElem hlt2
      obtain ⟨x, hx⟩ : ∃ x, x = hb[j] := ⟨_, rfl⟩
      rw [← hx] at t0 t1 t2 ho hkk hnn hll hnot htake
      have HT := Lib.hid htake
      clear hx htake hmem
      have ho1 := ho.fr hfr (fun g hc hA hh => by obtain ⟨h, hm, hb'⟩ := hh; exact hnot h hm g hb' ⟨hc, hA⟩)
      obtain ⟨xA, xn, xc, xL, xln, xlc, xk⟩ := x
      simp only [Hl.cells, List.getElem?_cons_zero, List.getElem?_cons_succ, Nat.add_zero] at t0 t1 t2 ho ho1 hkk hnn
      clear ho
      go_wp2_with fail
      have hw2b : ∀ b, b < wo.heap.size → (wo.alloc (.cells #[.slice xA xn xc, .slice xL xln xlc, .int .i64 xk] 77)).heap[b]? = wo.heap[b]? := fun b hb => Below.heap_alloc wo _ b hb
      have ho2 : Own (wo.alloc (.cells #[.slice xA xn xc, .slice xL xln xlc, .int .i64 xk] 77)) B 3 xA xn xc xs := ho1.alloc _
      have hx2 : Bx (wo.alloc (.cells #[.slice xA xn xc, .slice xL xln xlc, .int .i64 xk] 77)) wo.heap.size [.slice xA xn xc, .slice xL xln xlc, .int .i64 xk] := Bx.new wo _ _ _
      have hb2 : Below B w (wo.alloc (.cells #[.slice xA xn xc, .slice xL xln xlc, .int .i64 xk] 77)) := hbel.alloc (Nat.le_trans (by omega : B ≤ w.heap.size) hbel.size) _
      have hfr2 : Fr (Hits (hb.take j)) w (wo.alloc (.cells #[.slice xA xn xc, .slice xL xln xlc, .int .i64 xk] 77)) := hfr.alloc _
      have hsz2 : wo.heap.size ≤ (wo.alloc (.cells #[.slice xA xn xc, .slice xL xln xlc, .int .i64 xk] 77)).heap.size := by simp
      generalize wo.alloc (.cells #[.slice xA xn xc, .slice xL xln xlc, .int .i64 xk] 77) = w2 at *
      go_loopw [4] (fun i wr => ∃ (q : Nat) (ys : List Value), q ≤ xn ∧ i = .int .i64 q ∧ Own wr B 3 xA xn xc ys ∧ Hid (∀ v ∈ ys.take q, mksI.is wr s xk v) ∧ Fr (Hit ⟨xA, xn, xc, xL, xln, xlc, xk⟩) w2 wr ∧ Below B w2 wr) (fun i _ => xn - (intOf i).toNat)
      case atStart => exact ⟨0, xs, Nat.zero_le _, rfl, ho2, Lib.hid (by simp), Fr.refl _ _, Below.refl _ _⟩
      case round =>
        obtain ⟨q, ys, hq, rfl, hoq, hyq, hfq, hbq⟩ := hrel
        have hnl : ¬ Hit ⟨xA, xn, xc, xL, xln, xlc, xk⟩ wo.heap.size := fun hh => by have := (hll _ hh).1; omega
        have hbx : ∀ o, wr.cell? ⟨wo.heap.size, o, none⟩ = w2.cell? ⟨wo.heap.size, o, none⟩ := fun o => World.cell?_of_block (w := w2) (hfq.2 wo.heap.size hx2.1 hnl)
        have l0 : wr.cell? ⟨wo.heap.size, 0, none⟩ = some (.slice xA xn xc) := (hbx 0).trans hx2.at0
        have l2 : wr.cell? ⟨wo.heap.size, 2, none⟩ = some (.int .i64 xk) := (hbx 2).trans hx2.at2
        have hwor : wo.heap.size < wr.heap.size := Nat.lt_of_lt_of_le hx2.1 hbq.size
        clear hbx
        by_cases hql : q < xn
        · have hle := hoq.le
          obtain ⟨g, rfl, hBg, hgl⟩ := hoq.lt (by omega)
          have hyl := hoq.len
          have hgk : g < s := (hll g ⟨by show 0 < xc; omega, rfl⟩).1
          have hne : ¬ (g = wo.heap.size) := by omega
          have hne' : ¬ (wo.heap.size = g) := by omega
          have HL := Lib.hid hyl
          clear hyl
          go_wp2_with fail
          refine wp_region_ord (S := fun w' => w'.cell? ⟨wo.heap.size, 0, none⟩ = some (.slice (some ⟨g, 0, none⟩) xn xc) ∧ w'.cell? ⟨wo.heap.size, 2, none⟩ = some (.int .i64 xk)) [(0, true), (1, true), (2, true), (3, true), (4, true), (5, false), (6, true), (7, false)] default (by kernel_rfl) (by kernel_rfl) (by kernel_rfl) ⟨l0, l2⟩ ?_
          simp only [getOrd, nth]
          repeat (first | (refine ordS (by rfl) ?_; simp only [Act.put, List.setIfInBounds_toArray, List.set_cons_zero, List.set_cons_succ]) | (refine ordN (by rfl) ?_; simp only [Act.put, List.setIfInBounds_toArray, List.set_cons_zero, List.set_cons_succ]) | (refine ordQ (v := ?_) (by rfl) (fun _ hSw => ?_) ?_; rotate_left; (focus ((have hS1 := hSw.1); (have hS2 := hSw.2); clear hSw; go_simp; (first | done | with_reducible rfl))); simp only [Act.put, List.setIfInBounds_toArray, List.set_cons_zero, List.set_cons_succ]))
          refine ordD (by rfl) ?_
          intro K hK
          go_simp
          refine (mark9Int xk hkk _).mono ?_
          rintro e wm ⟨rfl, hmis0, hbm⟩
          have hbm2 : Below wr.heap.size wr wm := ((Below.refl _ wr).drew).trans hbm
          have hom : Own wm B 3 (some ⟨g, 0, none⟩) xn xc ys := hoq.below hbm2
          have l0m : wm.cell? ⟨wo.heap.size, 0, none⟩ = some (.slice (some ⟨g, 0, none⟩) xn xc) := (hbm2.cell (p := ⟨wo.heap.size, 0, none⟩) hwor).trans l0
          have l2m : wm.cell? ⟨wo.heap.size, 2, none⟩ = some (.int .i64 xk) := (hbm2.cell (p := ⟨wo.heap.size, 2, none⟩) hwor).trans l2
          have hym : ∀ v ∈ ys.take q, mksI.is wm s xk v := fun v hv => mksI.below (hyq.out v hv) hbm2
          have hmis : mksI.is wm s xk (.int .i64 (-(xk : Int))) := mksI.mono hmis0 (by show s ≤ wr.heap.size; have := hbq.size; omega)
          have HY := Lib.hid (fill_stepM (mksI.is wm s xk) ys q (.int .i64 (-(xk : Int))) (by rw [HL.out]; exact hql) hym hmis)
          obtain ⟨u0, hcg⟩ : ∃ u0, wm.cell? ⟨g, q, none⟩ = some u0 := ⟨_, (hom.cell hql).trans (List.getElem?_eq_getElem (by rw [HL.out]; exact hql))⟩
          have hfg := hom.free (by omega) q
          clear hmis0 hym hmis
          go_wp2_with fail
          refine hK _ _ ⟨l0m, l2m⟩ ?_
          clear hK K
          try simp only [Act.put, List.setIfInBounds_toArray, List.set_cons_zero, List.set_cons_succ]
          repeat (first | (refine ordS (by rfl) ?_; simp only [Act.put, List.setIfInBounds_toArray, List.set_cons_zero, List.set_cons_succ]) | (refine ordN (by rfl) ?_; simp only [Act.put, List.setIfInBounds_toArray, List.set_cons_zero, List.set_cons_succ]) | (refine ordQ (v := ?_) (by rfl) (fun _ hSw => ?_) ?_; rotate_left; (focus ((have hS1 := hSw.1); (have hS2 := hSw.2); clear hSw; go_simp; (first | done | with_reducible rfl))); simp only [Act.put, List.setIfInBounds_toArray, List.set_cons_zero, List.set_cons_succ]))
          refine ordD (by rfl) ?_
          intro K hK
          go_simp
          refine hK _ _ ⟨(World.cell?_of_block (w := wm) (setCell_ne (by exact hne'))).trans l0m, (World.cell?_of_block (w := wm) (setCell_ne (by exact hne'))).trans l2m⟩ ?_
          clear hK K
          refine ordE ?_
          have ho3 : Own (wm.setCell ⟨g, q, none⟩ (.int .i64 (-(xk : Int)))) B 3 (some ⟨g, 0, none⟩) xn xc (ys.set q (.int .i64 (-(xk : Int)))) := hom.set (by omega) q _
          have hf3 : Fr (Hit ⟨some ⟨g, 0, none⟩, xn, xc, xL, xln, xlc, xk⟩) w2 (wm.setCell ⟨g, q, none⟩ (.int .i64 (-(xk : Int)))) := (hfq.trans (Fr.of_below hbm2)).setCell (p := ⟨g, q, none⟩) ⟨by show 0 < xc; omega, rfl⟩ _
          have hb3 : Below B w2 (wm.setCell ⟨g, q, none⟩ (.int .i64 (-(xk : Int)))) := (hbq.trans (hbm2.mono (Nat.le_trans (by omega : B ≤ w2.heap.size) hbq.size))).setCell (p := ⟨g, q, none⟩) hBg _
          have HZ := Lib.hid (fun v hv => mksI.store (HY.out v hv) hom (by omega) (by decide) q (.int .i64 (-(xk : Int))))
          clear HY hom l0m l2m hbm hbm2
          go_wp2
          go_roundw
          case rel => exact ⟨q + 1, ys.set q (.int .i64 (-(xk : Int))), by omega, by go_num, ho3, HZ, hf3, hb3⟩
          case measure => simp [intOf]; omega
        · obtain rfl : q = xn := by omega
          have hys : ∀ v ∈ ys, mksI.is wr s xk v := by
            have h := hyq.out
            rw [List.take_of_length_le (by rw [hoq.len]; exact Nat.le_refl _)] at h
            exact h
          clear hyq
          have hfr3 : Fr (Hits (hb.take (j + 1))) w wr := by
            rw [HT.out]
            exact (hfr2.mono fun b ⟨h, hm, hh⟩ => ⟨h, List.mem_append_left _ hm, hh⟩).trans (hfq.mono fun b hh => ⟨_, List.mem_append_right _ (List.mem_singleton.2 rfl), hh⟩)
          have hbel3 : Below B w wr := hb2.trans hbq
          have hdone3 : ∀ h ∈ hb.take (j + 1), OwnM mksI wr B 3 s h.A h.n h.c h.k := by
            intro h hh
            rw [HT.out] at hh
            rcases List.mem_append.1 hh with hm | hm
            · have h1 := (hdone h hm).fr (P := fun _ => False) (w' := w2) ⟨hsz2, fun b hb _ => hw2b b hb⟩ (fun _ _ _ hx => hx) (fun _ _ hx => hx)
              exact h1.fr hfq (fun g hc hA hx => hnot h hm g ⟨hc, hA⟩ hx) (fun g hg hx => by have := (hll g hx).1; omega)
            · rw [List.mem_singleton.1 hm]
              exact ⟨ys, hoq, hys⟩
          have HD := Lib.hid hdone3
          have HF := Lib.hid hfr3
          clear hdone3 hfr3 hdone hfr hnot hown hlt hks hns hll hpk
          go_wp2
          go_roundw
          case rel => exact ⟨j + 1, by omega, by go_num, HF.out, hbel3, HD.out⟩
          case measure => simp [intOf]; omega
    · obtain rfl : j = hb.length := by omega
      rw [List.take_length] at hfr hdone
      go_wp2
      go_end0
      exact ⟨rfl, hfr, hbel, hdone⟩

set_option maxRecDepth 100000 in
set_option maxHeartbeats 1000000 in
theorem fill9IntList (kb N B s : Nat) (T : Nat → Value) (H : Nat → List Hl) (w : World) (hk : Bkn 45 tHs w kb N T H)
    (hown : ∀ h ∈ H 4, ∃ xs, Own w B 22 h.A h.n h.c xs) (hlt : ∀ h ∈ H 4, ∀ g, Hit h g → OffLN kb T s g) (hsep : Sep (H 4)) (hks : ∀ h ∈ H 4, h.k < 1000000000) (hns : ∀ h ∈ H 4, h.n ≤ 1000000000) (hl : (H 4).length ≤ 1000000) (hBk : B ≤ kb) (hs : s ≤ w.heap.size) :
    Calls Tryz.prog 37 #[.pointer (some ⟨kb, 0, none⟩)] w fun e w' => e = .returned (.tuple #[]) ∧ Fr (Hits (H 4)) w w' ∧ Below B w w' ∧ ∀ h ∈ H 4, OwnM mksL w' B 22 s h.A h.n h.c h.k := by
  have hkbl := hk.lt
  obtain ⟨A0, c0, hv0, hl0, hl1⟩ := row_slice (hk.tab 4)
  obtain ⟨hb, hhb⟩ : ∃ hb, hb = H 4 := ⟨_, rfl⟩
  rw [← hhb] at hl0 hv0 hl hown hlt hsep hks hns ⊢
  have HB := Lib.hid hhb
  have HV := Lib.hid hv0
  clear hhb hv0
  unfold maxLen at hl1
  go_enter Tryz.func37, Tryz.ntmps37
  go_wp2_with fail
  go_loopw [2] (fun i wr => ∃ j : Nat, j ≤ hb.length ∧ i = .int .i64 j ∧ Fr (Hits (hb.take j)) w wr ∧ Below B w wr ∧ ∀ h ∈ hb.take j, OwnM mksL wr B 22 s h.A h.n h.c h.k) (fun i _ => hb.length - (intOf i).toNat)
  case atStart => exact ⟨0, Nat.zero_le _, rfl, Fr.refl _ _, Below.refl _ _, fun h hh => by simp at hh⟩
  case round =>
    obtain ⟨j, hj, rfl, hfr, hbel, hdone⟩ := hrel
    obtain ⟨wo, rfl⟩ : ∃ wo, wo = wr := ⟨_, rfl⟩
    have hws := hfr.1
    have hpk : ∀ b, Hits (hb.take j) b → OffN kb T b := fun b ⟨h, hm, hb'⟩ => (hlt h (List.mem_of_mem_take hm) b hb').2
    have hkr := hk.fr hfr hpk
    have hcv : wo.cell? ⟨kb, 4, none⟩ = some (.slice A0 hb.length c0) := (hkr.cell 4).trans (congrArg some HV.out)
    have hkrl := hkr.lt
    have htb := hkr.tab 4
    rw [HV.out, ← HB.out] at htb
    by_cases hlt2 : j < hb.length
    · obtain ⟨gt, ct, hv, hgt1, hgt2, _, _⟩ := row_form htb (by omega)
      cases hv
      have t0 := row_cell htb j 0 hlt2 (by omega)
      have t1 := row_cell htb j 1 hlt2 (by omega)
      have t2 := row_cell htb j 2 hlt2 (by omega)
      have hmem : hb[j] ∈ hb := List.getElem_mem _
      obtain ⟨xs, ho⟩ := hown _ hmem
      have hkk := hks _ hmem
      have hnn := hns _ hmem
      have hll := hlt _ hmem
      have hnot : ∀ h ∈ hb.take j, ∀ g, Hit h g → ¬ Hit hb[j] g := sep_take hsep hlt2
      have htake := List.take_succ_eq_append_getElem hlt2
      obtain ⟨x, hx⟩ : ∃ x, x = hb[j] := ⟨_, rfl⟩
      rw [← hx] at t0 t1 t2 ho hkk hnn hll hnot htake
      have HT := Lib.hid htake
      clear hx htake hmem
      have ho1 := ho.fr hfr (fun g hc hA hh => by obtain ⟨h, hm, hb'⟩ := hh; exact hnot h hm g hb' ⟨hc, hA⟩)
      obtain ⟨xA, xn, xc, xL, xln, xlc, xk⟩ := x
      simp only [Hl.cells, List.getElem?_cons_zero, List.getElem?_cons_succ, Nat.add_zero] at t0 t1 t2 ho ho1 hkk hnn
      clear ho
      go_wp2_with fail
      have hw2b : ∀ b, b < wo.heap.size → (wo.alloc (.cells #[.slice xA xn xc, .slice xL xln xlc, .int .i64 xk] 88)).heap[b]? = wo.heap[b]? := fun b hb => Below.heap_alloc wo _ b hb
      have ho2 : Own (wo.alloc (.cells #[.slice xA xn xc, .slice xL xln xlc, .int .i64 xk] 88)) B 22 xA xn xc xs := ho1.alloc _
      have hx2 : Bx (wo.alloc (.cells #[.slice xA xn xc, .slice xL xln xlc, .int .i64 xk] 88)) wo.heap.size [.slice xA xn xc, .slice xL xln xlc, .int .i64 xk] := Bx.new wo _ _ _
      have hb2 : Below B w (wo.alloc (.cells #[.slice xA xn xc, .slice xL xln xlc, .int .i64 xk] 88)) := hbel.alloc (Nat.le_trans (by omega : B ≤ w.heap.size) hbel.size) _
      have hfr2 : Fr (Hits (hb.take j)) w (wo.alloc (.cells #[.slice xA xn xc, .slice xL xln xlc, .int .i64 xk] 88)) := hfr.alloc _
      have hsz2 : wo.heap.size ≤ (wo.alloc (.cells #[.slice xA xn xc, .slice xL xln xlc, .int .i64 xk] 88)).heap.size := by simp
      generalize wo.alloc (.cells #[.slice xA xn xc, .slice xL xln xlc, .int .i64 xk] 88) = w2 at *
      go_loopw [4] (fun i wr => ∃ (q : Nat) (ys : List Value), q ≤ xn ∧ i = .int .i64 q ∧ Own wr B 22 xA xn xc ys ∧ Hid (∀ v ∈ ys.take q, mksL.is wr s xk v) ∧ Fr (Hit ⟨xA, xn, xc, xL, xln, xlc, xk⟩) w2 wr ∧ Below B w2 wr) (fun i _ => xn - (intOf i).toNat)
      case atStart => exact ⟨0, xs, Nat.zero_le _, rfl, ho2, Lib.hid (by simp), Fr.refl _ _, Below.refl _ _⟩
      case round =>
        obtain ⟨q, ys, hq, rfl, hoq, hyq, hfq, hbq⟩ := hrel
        have hnl : ¬ Hit ⟨xA, xn, xc, xL, xln, xlc, xk⟩ wo.heap.size := fun hh => by have := (hll _ hh).1; omega
        have hbx : ∀ o, wr.cell? ⟨wo.heap.size, o, none⟩ = w2.cell? ⟨wo.heap.size, o, none⟩ := fun o => World.cell?_of_block (w := w2) (hfq.2 wo.heap.size hx2.1 hnl)
        have l0 : wr.cell? ⟨wo.heap.size, 0, none⟩ = some (.slice xA xn xc) := (hbx 0).trans hx2.at0
        have l2 : wr.cell? ⟨wo.heap.size, 2, none⟩ = some (.int .i64 xk) := (hbx 2).trans hx2.at2
        have hwor : wo.heap.size < wr.heap.size := Nat.lt_of_lt_of_le hx2.1 hbq.size
        clear hbx
        by_cases hql : q < xn
        · have hle := hoq.le
          obtain ⟨g, rfl, hBg, hgl⟩ := hoq.lt (by omega)
          have hyl := hoq.len
          have hgk : g < s := (hll g ⟨by show 0 < xc; omega, rfl⟩).1
          have hne : ¬ (g = wo.heap.size) := by omega
          have hne' : ¬ (wo.heap.size = g) := by omega
          have HL := Lib.hid hyl
          clear hyl
          go_wp2_with fail
          refine wp_region_ord (S := fun w' => w'.cell? ⟨wo.heap.size, 0, none⟩ = some (.slice (some ⟨g, 0, none⟩) xn xc) ∧ w'.cell? ⟨wo.heap.size, 2, none⟩ = some (.int .i64 xk)) [(0, true), (1, true), (2, true), (3, true), (4, true), (5, false), (6, true), (7, false)] default (by kernel_rfl) (by kernel_rfl) (by kernel_rfl) ⟨l0, l2⟩ ?_
          simp only [getOrd, nth]
          repeat (first | (refine ordS (by rfl) ?_; simp only [Act.put, List.setIfInBounds_toArray, List.set_cons_zero, List.set_cons_succ]) | (refine ordN (by rfl) ?_; simp only [Act.put, List.setIfInBounds_toArray, List.set_cons_zero, List.set_cons_succ]) | (refine ordQ (v := ?_) (by rfl) (fun _ hSw => ?_) ?_; rotate_left; (focus ((have hS1 := hSw.1); (have hS2 := hSw.2); clear hSw; go_simp; (first | done | with_reducible rfl))); simp only [Act.put, List.setIfInBounds_toArray, List.set_cons_zero, List.set_cons_succ]))
          refine ordD (by rfl) ?_
          intro K hK
          go_simp
          refine (mark9IntList xk hkk _).mono ?_
          rintro e wm ⟨m, rfl, hmis0, hbm⟩
          have hbm2 : Below wr.heap.size wr wm := ((Below.refl _ wr).drew).trans hbm
          have hom : Own wm B 22 (some ⟨g, 0, none⟩) xn xc ys := hoq.below hbm2
          have l0m : wm.cell? ⟨wo.heap.size, 0, none⟩ = some (.slice (some ⟨g, 0, none⟩) xn xc) := (hbm2.cell (p := ⟨wo.heap.size, 0, none⟩) hwor).trans l0
          have l2m : wm.cell? ⟨wo.heap.size, 2, none⟩ = some (.int .i64 xk) := (hbm2.cell (p := ⟨wo.heap.size, 2, none⟩) hwor).trans l2
          have hym : ∀ v ∈ ys.take q, mksL.is wm s xk v := fun v hv => mksL.below (hyq.out v hv) hbm2
          have hmis : mksL.is wm s xk (.slice (some ⟨m, 0, none⟩) 1 1) := mksL.mono hmis0 (by show s ≤ wr.heap.size; have := hbq.size; omega)
          have HY := Lib.hid (fill_stepM (mksL.is wm s xk) ys q (.slice (some ⟨m, 0, none⟩) 1 1) (by rw [HL.out]; exact hql) hym hmis)
          obtain ⟨u0, hcg⟩ : ∃ u0, wm.cell? ⟨g, q, none⟩ = some u0 := ⟨_, (hom.cell hql).trans (List.getElem?_eq_getElem (by rw [HL.out]; exact hql))⟩
          have hfg := hom.free (by omega) q
          clear hmis0 hym hmis
          go_wp2_with fail
          refine hK _ _ ⟨l0m, l2m⟩ ?_
          clear hK K
          try simp only [Act.put, List.setIfInBounds_toArray, List.set_cons_zero, List.set_cons_succ]
          repeat (first | (refine ordS (by rfl) ?_; simp only [Act.put, List.setIfInBounds_toArray, List.set_cons_zero, List.set_cons_succ]) | (refine ordN (by rfl) ?_; simp only [Act.put, List.setIfInBounds_toArray, List.set_cons_zero, List.set_cons_succ]) | (refine ordQ (v := ?_) (by rfl) (fun _ hSw => ?_) ?_; rotate_left; (focus ((have hS1 := hSw.1); (have hS2 := hSw.2); clear hSw; go_simp; (first | done | with_reducible rfl))); simp only [Act.put, List.setIfInBounds_toArray, List.set_cons_zero, List.set_cons_succ]))
          refine ordD (by rfl) ?_
          intro K hK
          go_simp
          refine hK _ _ ⟨(World.cell?_of_block (w := wm) (setCell_ne (by exact hne'))).trans l0m, (World.cell?_of_block (w := wm) (setCell_ne (by exact hne'))).trans l2m⟩ ?_
          clear hK K
          refine ordE ?_
          have ho3 : Own (wm.setCell ⟨g, q, none⟩ (.slice (some ⟨m, 0, none⟩) 1 1)) B 22 (some ⟨g, 0, none⟩) xn xc (ys.set q (.slice (some ⟨m, 0, none⟩) 1 1)) := hom.set (by omega) q _
          have hf3 : Fr (Hit ⟨some ⟨g, 0, none⟩, xn, xc, xL, xln, xlc, xk⟩) w2 (wm.setCell ⟨g, q, none⟩ (.slice (some ⟨m, 0, none⟩) 1 1)) := (hfq.trans (Fr.of_below hbm2)).setCell (p := ⟨g, q, none⟩) ⟨by show 0 < xc; omega, rfl⟩ _
          have hb3 : Below B w2 (wm.setCell ⟨g, q, none⟩ (.slice (some ⟨m, 0, none⟩) 1 1)) := (hbq.trans (hbm2.mono (Nat.le_trans (by omega : B ≤ w2.heap.size) hbq.size))).setCell (p := ⟨g, q, none⟩) hBg _
          have HZ := Lib.hid (fun v hv => mksL.store (HY.out v hv) hom (by omega) (by decide) q (.slice (some ⟨m, 0, none⟩) 1 1))
          clear HY hom l0m l2m hbm hbm2
          go_wp2
          go_roundw
          case rel => exact ⟨q + 1, ys.set q (.slice (some ⟨m, 0, none⟩) 1 1), by omega, by go_num, ho3, HZ, hf3, hb3⟩
          case measure => simp [intOf]; omega
        · obtain rfl : q = xn := by omega
          have hys : ∀ v ∈ ys, mksL.is wr s xk v := by
            have h := hyq.out
            rw [List.take_of_length_le (by rw [hoq.len]; exact Nat.le_refl _)] at h
            exact h
          clear hyq
          have hfr3 : Fr (Hits (hb.take (j + 1))) w wr := by
            rw [HT.out]
            exact (hfr2.mono fun b ⟨h, hm, hh⟩ => ⟨h, List.mem_append_left _ hm, hh⟩).trans (hfq.mono fun b hh => ⟨_, List.mem_append_right _ (List.mem_singleton.2 rfl), hh⟩)
          have hbel3 : Below B w wr := hb2.trans hbq
          have hdone3 : ∀ h ∈ hb.take (j + 1), OwnM mksL wr B 22 s h.A h.n h.c h.k := by
            intro h hh
            rw [HT.out] at hh
            rcases List.mem_append.1 hh with hm | hm
            · have h1 := (hdone h hm).fr (P := fun _ => False) (w' := w2) ⟨hsz2, fun b hb _ => hw2b b hb⟩ (fun _ _ _ hx => hx) (fun _ _ hx => hx)
              exact h1.fr hfq (fun g hc hA hx => hnot h hm g ⟨hc, hA⟩ hx) (fun g hg hx => by have := (hll g hx).1; omega)
            · rw [List.mem_singleton.1 hm]
              exact ⟨ys, hoq, hys⟩
          have HD := Lib.hid hdone3
          have HF := Lib.hid hfr3
          clear hdone3 hfr3 hdone hfr hnot hown hlt hks hns hll hpk
          go_wp2
          go_roundw
          case rel => exact ⟨j + 1, by omega, by go_num, HF.out, hbel3, HD.out⟩
          case measure => simp [intOf]; omega
    · obtain rfl : j = hb.length := by omega
      rw [List.take_length] at hfr hdone
      go_wp2
      go_end0
      exact ⟨rfl, hfr, hbel, hdone⟩

end Go.Proofs.YtdckoaljcklmhaaGreatDoor


namespace Go.Proofs.YtdckoaljcklmhaaGreatDoor
open Go.RowKit
set_option linter.unusedVariables false

theorem book9_info_u8 : (Tryz.prog.info? 5).map (fun i => (i.zero, i.size, i.bytes)) = some (some (.int .u8 0), 1, 1) := by kernel_rfl
theorem book9_info_int : (Tryz.prog.info? 3).map (fun i => (i.zero, i.size, i.bytes)) = some (some (.int .i64 0), 1, 8) := by kernel_rfl
theorem book9_info_ints : (Tryz.prog.info? 22).map (fun i => (i.zero, i.size, i.bytes)) = some (some (.slice none 0 0), 1, 24) := by kernel_rfl

set_option maxRecDepth 100000 in
set_option maxHeartbeats 1000000 in
theorem grow9Byte (kb N B s : Nat) (T : Nat → Value) (H : Nat → List Hl) (w : World) (hk : Bkn 45 tHs w kb N T H)
    (hown : ∀ h ∈ H 1, OwnM mksB w B 5 s h.A h.n h.c h.k) (hlt : ∀ h ∈ H 1, ∀ g, Hit h g → OffLN kb T s g) (hts : ∀ j g, (T j).ownBlock = some g → g < s) (hsep : Sep (H 1)) (hks : ∀ h ∈ H 1, h.k < 1000000000) (hns : ∀ h ∈ H 1, h.n ≤ 1000000000) (hl : (H 1).length ≤ 1000000) (hBk : B ≤ kb) (hs : s ≤ w.heap.size) :
    Calls Tryz.prog 43 #[.pointer (some ⟨kb, 0, none⟩)] w fun e w' => e = .returned (.tuple #[]) ∧ ∃ hs', Bkn 45 tHs w' kb N T (upd H 1 hs') ∧ Fr (fun b => Hits (H 1) b ∨ (T 1).ownBlock = some b) w w' ∧ Below B w w' ∧ AllGrownM mksB 5 w' B s w.heap.size (H 1) hs' := by
  obtain ⟨i0, hi0, hz0, hz1, hz2⟩ := info_parts book9_info_u8
  have hkbl := hk.lt
  obtain ⟨A0, c0, hv0, hl0, hl1⟩ := row_slice (hk.tab 1)
  have hvlt : ∀ g, (Value.slice A0 (H 1).length c0).ownBlock = some g → kb < g ∧ g < s := fun g hg => ⟨(hk.tlt 1 g (by rw [hv0]; exact hg)).1, hts 1 g (by rw [hv0]; exact hg)⟩
  have hupd := upd_same H 1
  obtain ⟨hb, hhb⟩ : ∃ hb, hb = H 1 := ⟨_, rfl⟩
  rw [← hhb] at hl0 hv0 hl hown hlt hsep hks hns hvlt hupd ⊢
  have HV := Lib.hid hv0
  have hk' : Bkn 45 tHs w kb N T (upd H 1 hb) := by rw [hupd]; exact hk
  clear hhb hupd
  rw [hv0]
  have hTne : ∀ g, (T 1).ownBlock = some g ↔ (Value.slice A0 hb.length c0).ownBlock = some g := fun g => by rw [hv0]
  clear hv0
  unfold maxLen at hl1
  go_enter Tryz.func43, Tryz.ntmps43
  go_wp2_with fail
  go_loopw [2] (fun i wr => ∃ (j : Nat) (hs1 : List Hl), j ≤ hb.length ∧ i = .int .i64 j ∧ Bkn 45 tHs wr kb N T (upd H 1 hs1) ∧ Hid (hs1.length = hb.length) ∧ Hid (∀ m : Nat, j ≤ m → hs1[m]? = hb[m]?) ∧ Hid (∀ (m : Nat) (h h' : Hl), m < j → hb[m]? = some h → hs1[m]? = some h' → GrownM mksB 5 wr B s w.heap.size h h') ∧
    Fr (fun b => Hits (hb.take j) b ∨ (Value.slice A0 hb.length c0).ownBlock = some b) w wr ∧ Below B w wr) (fun i _ => hb.length - (intOf i).toNat)
  case atStart => exact ⟨0, hb, Nat.zero_le _, rfl, hk', Lib.hid rfl, Lib.hid fun _ _ => rfl, Lib.hid fun m h h' hm => absurd hm (Nat.not_lt_zero _), Fr.refl _ _, Below.refl _ _⟩
  case round =>
    obtain ⟨j, hs1, hj, rfl, hkr, HLEN, HSAME, HDONE, hfr, hbel⟩ := hrel
    obtain ⟨wo, rfl⟩ : ∃ wo, wo = wr := ⟨_, rfl⟩
    have hcv : wo.cell? ⟨kb, 1, none⟩ = some (.slice A0 hb.length c0) := (hkr.cell 1).trans (congrArg some HV.out)
    have hkrl := hkr.lt
    by_cases hlt2 : j < hb.length
    · have hj1 : j < hs1.length := by rw [HLEN.out]; exact hlt2
      have htb := hkr.tab 1
      rw [upd_self, HV.out, ← HLEN.out] at htb
      obtain ⟨gt, ct, hv, hgt1, hgt2, _, _⟩ := row_form htb (by omega)
      injection hv with e1 e2 e3
      subst e1
      subst e3
      clear e2
      have hgtw := (hvlt gt rfl).2
      have t0 := row_cell htb j 0 hj1 (by omega)
      have t1 := row_cell htb j 1 hj1 (by omega)
      have t2 := row_cell htb j 2 hj1 (by omega)
      have hxe : hs1[j] = hb[j] := by
        have h := HSAME.out j (Nat.le_refl _)
        rw [List.getElem?_eq_getElem hj1, List.getElem?_eq_getElem hlt2] at h
        exact Option.some.inj h
      have hmem : hb[j] ∈ hb := List.getElem_mem _
      have ho := hown _ hmem
      have hkk := hks _ hmem
      have hnn := hns _ hmem
      have hll := hlt _ hmem
      have hnot : ∀ h ∈ hb.take j, ∀ g, Hit h g → ¬ Hit hb[j] g := sep_take hsep hlt2
      have htake := List.take_succ_eq_append_getElem hlt2
      have hjth : hb[j]? = some hb[j] := List.getElem?_eq_getElem hlt2
      rw [hxe] at t0 t1 t2
      have HXE := Lib.hid hxe
      clear hxe htb
      obtain ⟨x, hx⟩ : ∃ x, x = hb[j] := ⟨_, rfl⟩
      rw [← hx] at t0 t1 t2 ho hkk hnn hll hnot htake hjth HXE
      have HT := Lib.hid htake
      have HJ := Lib.hid hjth
      clear hx htake hmem hjth
      have ho1 := ho.fr hfr (fun g hc hA hh => by
        rcases hh with ⟨h, hm, hb'⟩ | hh
        · exact hnot h hm g hb' ⟨hc, hA⟩
        · exact (hll g ⟨hc, hA⟩).2.2 1 ((hTne g).2 hh)) (fun g hg hh => by
        rcases hh with ⟨h, hm, hb'⟩ | hh
        · have := (hlt h (List.mem_of_mem_take hm) g hb').1; omega
        · have := (hvlt g hh).2; omega)
      obtain ⟨xA, xn, xc, xL, xln, xlc, xk⟩ := x
      simp only [Hl.cells, List.getElem?_cons_zero, List.getElem?_cons_succ, Nat.add_zero] at t0 t1 t2 ho ho1 hkk hnn
      clear ho
      go_wp2_with fail
      have hkr2 : Bkn 45 tHs (wo.alloc (.cells #[.slice xA xn xc, .slice xL xln xlc, .int .i64 xk] 80)) kb N T (upd H 1 hs1) := hkr.below ((Below.refl _ wo).alloc (Nat.le_refl _) _)
      have ho2 : OwnM mksB (wo.alloc (.cells #[.slice xA xn xc, .slice xL xln xlc, .int .i64 xk] 80)) B 5 s xA xn xc xk := ho1.below ((Below.refl _ wo).alloc (Nat.le_refl _) _)
      have hx2 : Bx (wo.alloc (.cells #[.slice xA xn xc, .slice xL xln xlc, .int .i64 xk] 80)) wo.heap.size [.slice xA xn xc, .slice xL xln xlc, .int .i64 xk] := Bx.new wo _ _ _
      have hb2 : Below B w (wo.alloc (.cells #[.slice xA xn xc, .slice xL xln xlc, .int .i64 xk] 80)) := hbel.alloc (Nat.le_trans (by omega : B ≤ w.heap.size) hbel.size) _
      have hfro : Fr (fun b => Hit ⟨xA, xn, xc, xL, xln, xlc, xk⟩ b ∨ b = gt) wo (wo.alloc (.cells #[.slice xA xn xc, .slice xL xln xlc, .int .i64 xk] 80)) := (Fr.refl _ _).alloc _
      have hsz2 : wo.heap.size < (wo.alloc (.cells #[.slice xA xn xc, .slice xL xln xlc, .int .i64 xk] 80)).heap.size := by simp
      generalize wo.alloc (.cells #[.slice xA xn xc, .slice xL xln xlc, .int .i64 xk] 80) = w2 at *
      have hwsz : w.heap.size ≤ wo.heap.size := hbel.size
      go_loopw [4, 5] (fun v i wr => ∃ (q : Nat) (A' : Option Addr) (c' : Nat), q ≤ 40 ∧ i = .int .i64 q ∧ v = .slice A' (xn + q) c' ∧ OwnM mksB wr B 5 s A' (xn + q) c' xk ∧ OwnM mksB wr B 5 s xA xn xc xk ∧
        Fr (Hit ⟨xA, xn, xc, xL, xln, xlc, xk⟩) w2 wr ∧ Below B w2 wr ∧ Loc xA xc w2.heap.size A' c') (fun _ i _ => 40 - (intOf i).toNat)
      case atStart => exact ⟨0, xA, xc, by omega, rfl, rfl, ho2, ho2, Fr.refl _ _, Below.refl _ _, .inl ⟨rfl, rfl⟩⟩
      case round =>
        obtain ⟨q, A', c', hq, rfl, rfl, hoq, hox, hfq, hbq, hloc⟩ := hrel
        have hnl : ¬ Hit ⟨xA, xn, xc, xL, xln, xlc, xk⟩ wo.heap.size := fun hh => by have := (hll _ hh).1; omega
        have l2 : wr.cell? ⟨wo.heap.size, 2, none⟩ = some (.int .i64 xk) := (World.cell?_of_block (w := w2) (hfq.2 wo.heap.size hx2.1 hnl)).trans hx2.at2
        have hBwr : B ≤ wr.heap.size := by have := hbq.size; omega
        have hswr : s ≤ wr.heap.size := by have := hbq.size; omega
        by_cases hql : q < 40
        · go_wp2_with fail
          refine (mark9Byte xk hkk _).mono ?_
          rintro e wm ⟨rfl, hmis0, hbm⟩
          have hmis := mksB.mono hmis0 hswr
          obtain ⟨ys, hoq1, hoq2⟩ := hoq.below hbm
          have hoxm := hox.below hbm
          have hBwm : B ≤ wm.heap.size := Nat.le_trans hBwr hbm.size
          clear hmis0 hox hoq
          go_wp2_with (at_builtin; go_must (refine wpList_app1x wm rfl _ _ 78 rfl 5 i0 _ 1 Tryz.underlying78 hi0 hz0 hz1 hz2 rfl B A' (xn + q) c' _ rfl hoq1 1 rfl rfl ?c3 ?c4 ?c5 ?_))
          case c3 => simp only [maxLen]; omega
          case c4 => omega
          case c5 => exact hBwm
          intro A2 c2 w3 ho3 hb3 hf3 hat3 hold3
          have hf4 : ∀ k, k < wm.heap.size → ((xn + q = 0 ∧ c' = 0) ∨ A' ≠ some ⟨k, 0, none⟩) → w3.heap[k]? = wm.heap[k]? := fun k hk hh => hf3 k hk (by
            rcases hh with ⟨h1, h2⟩ | hh
            · first | exact .inl ⟨⟨by omega, by omega⟩, h2⟩ | exact .inl ⟨h1, h2⟩
            · exact .inr hh)
          have hmk3 : ∀ v ∈ ys, mksB.is w3 s xk v := fun v hv => mksB.app (hoq2 v hv) hoq1 (by decide) hf4
          have hmk4 : mksB.is w3 s xk (.int .u8 ((xk : Int) % 256)) := mksB.app hmis hoq1 (by decide) hf4
          have ho4 : OwnM mksB w3 B 5 s A2 (xn + (q + 1)) c2 xk := by
            refine ⟨ys ++ [(.int .u8 ((xk : Int) % 256))], ?_, fun v hv => ?_⟩
            · rw [← Nat.add_assoc]; exact ho3
            · rcases List.mem_append.1 hv with hv | hv
              · exact hmk3 v hv
              · rw [List.mem_singleton.1 hv]; exact hmk4
          have hox4 : OwnM mksB w3 B 5 s xA xn xc xk := by
            rcases hloc with ⟨rfl, rfl⟩ | ⟨g', rfl, hg'⟩
            · exact (show OwnM mksB w3 B 5 s A' (xn + q) c' xk from ⟨ys, hold3, hmk3⟩).less (by omega)
            · obtain ⟨zs, hz1', hz2'⟩ := hoxm
              refine ⟨zs, ?_, fun v hv => mksB.app (hz2' v hv) hoq1 (by decide) hf4⟩
              by_cases hc0 : xc = 0
              · have := hz1'.le
                exact ⟨hz1'.1, .inl ⟨by omega, hc0⟩⟩
              · refine hz1'.keep fun g hA _ _ hg => hf3 g hg (.inr ?_)
                intro he
                have hgg : g' = g := by
                  injection he with h1
                  injection h1
                have := (hll g ⟨by show 0 < xc; omega, hA⟩).1
                omega
          have hfqm : Fr (Hit ⟨xA, xn, xc, xL, xln, xlc, xk⟩) w2 wm := hfq.trans (Fr.of_below hbm)
          have hfq4 : Fr (Hit ⟨xA, xn, xc, xL, xln, xlc, xk⟩) w2 w3 := hfqm.later (s := w2.heap.size) ⟨hb3.size, fun b hb hnp => hf3 b hb (by
            by_cases hc0 : c' = 0
            · have := hoq1.le
              exact .inl ⟨by omega, hc0⟩
            · right
              intro he
              rcases hloc with ⟨h1, h2⟩ | ⟨g', h1, hg'⟩
              · exact hnp (.inl ⟨by show 0 < xc; omega, by rw [← h1]; exact he⟩)
              · rw [h1] at he
                cases he
                exact hnp (.inr hg'))⟩ (Nat.le_refl _)
          have hloc4 : Loc xA xc w2.heap.size A2 c2 := by
            rcases hat3 with ⟨rfl, rfl⟩ | h
            · exact hloc
            · exact .inr ⟨_, h, by have := hbq.size; have := hbm.size; omega⟩
          have hbq4 : Below B w2 w3 := (hbq.trans (hbm.mono hBwr)).trans hb3
          clear ho3 hf3 hf4 hat3 hold3 hmk3 hmk4 hoxm hoq1 hoq2 hfqm hbm hmis
          go_wp2
          go_roundw
          case rel => exact ⟨q + 1, A2, c2, by omega, by go_num, by first | rfl | (congr 1), ho4, hox4, hfq4, hbq4, hloc4⟩
          case measure => simp [intOf]; omega
        · obtain rfl : q = 40 := by omega
          have hk5 := hkr2.fr hfq (fun b hh => (hll b hh).2)
          have hc5 : wr.cell? ⟨kb, 1, none⟩ = some (.slice (some ⟨gt, 0, none⟩) hb.length c0) := (hk5.cell 1).trans (congrArg some HV.out)
          have hk6 := hk5.tab 1
          rw [upd_self, HV.out, ← HLEN.out] at hk6
          obtain ⟨u0, hcg⟩ : ∃ u0, wr.cell? ⟨gt, j * 3 + 1, none⟩ = some u0 := ⟨_, (row_cell hk6 j 1 hj1 (by omega)).trans (List.getElem?_eq_getElem (by show 1 < 3; omega))⟩
          have hfg : wr.frozen? ⟨gt, j * 3 + 1, none⟩ = false := hk6.frozenAt _
          have hk7 := hk5.long 1 (g := gt) (cap := c0) (by rw [upd_self, HLEN.out]; exact HV.out) j (by rw [upd_self]; exact hj1) A' (xn + 40) c'
          rw [upd_upd] at hk7
          simp only [upd_self, HXE.out] at hk7
          have hset : Fr (fun b => b = gt) wr (wr.setCell ⟨gt, j * 3 + 1, none⟩ (.slice A' (xn + 40) c')) := (Fr.refl (fun b => b = gt) wr).setCell (p := ⟨gt, j * 3 + 1, none⟩) rfl _
          have hfin : Fr (fun b => Hit ⟨xA, xn, xc, xL, xln, xlc, xk⟩ b ∨ b = gt) wo (wr.setCell ⟨gt, j * 3 + 1, none⟩ (.slice A' (xn + 40) c')) := (hfro.trans (hfq.mono fun b h => .inl h)).setCell (p := ⟨gt, j * 3 + 1, none⟩) (.inr rfl) _
          have hlen' : (hs1.set j ⟨xA, xn, xc, A', xn + 40, c', xk⟩).length = hb.length := by rw [List.length_set, HLEN.out]
          have hsame' : ∀ m : Nat, j + 1 ≤ m → (hs1.set j ⟨xA, xn, xc, A', xn + 40, c', xk⟩)[m]? = hb[m]? := fun m hm => by
            rw [List.getElem?_set_ne (by omega)]
            exact HSAME.out m (by omega)
          have hngt : ∀ g, s ≤ g → ¬ (g = gt) := fun g hg he => by omega
          have hdone' : ∀ (m : Nat) (h h' : Hl), m < j + 1 → hb[m]? = some h → (hs1.set j ⟨xA, xn, xc, A', xn + 40, c', xk⟩)[m]? = some h' → GrownM mksB 5 (wr.setCell ⟨gt, j * 3 + 1, none⟩ (.slice A' (xn + 40) c')) B s w.heap.size h h' := by
            intro m h h' hm h1 h2
            by_cases hmj : m = j
            · subst hmj
              rw [HJ.out] at h1
              cases h1
              rw [List.getElem?_set_self hj1] at h2
              cases h2
              refine ⟨rfl, rfl, rfl, rfl, rfl, hox.fr hset (fun g hc hA hg => (hll g ⟨hc, hA⟩).2.2 1 ((hTne g).2 (by rw [hg]; rfl))) hngt, hoq.fr hset (fun g hc hA hg => ?_) hngt, fun g hc hA => ?_⟩
              · rcases hloc with ⟨e1, e2⟩ | ⟨g', e1, hg'⟩
                · exact (hll g ⟨by show 0 < xc; omega, by rw [← e1]; exact hA⟩).2.2 1 ((hTne g).2 (by rw [hg]; rfl))
                · rw [e1] at hA
                  have hgg : g' = g := by
                    injection hA with h1
                    injection h1
                  omega
              · have hA : A' = some ⟨g, 0, none⟩ := hA
                have hc : 0 < c' := hc
                rcases hloc with ⟨e1, e2⟩ | ⟨g', e1, hg'⟩
                · exact .inl ⟨by show 0 < xc; omega, by rw [← e1]; exact hA⟩
                · rw [e1] at hA
                  have hgg : g' = g := by
                    injection hA with h1
                    injection h1
                  exact .inr (by omega)
            · rw [List.getElem?_set_ne (by omega)] at h2
              have hg := HDONE.out m h h' (by omega) h1 h2
              have hmm : h ∈ hb.take j := List.mem_of_getElem? (i := m) (by rw [List.getElem?_take, if_pos (by omega)]; exact h1)
              refine hg.fr hfin (fun g hg1 hg2 => ?_) (fun g hs hg2 => ?_) (fun g hs hg2 => ?_)
              · rcases hg2 with hx | hx
                · exact hnot h hmm g hg1 hx
                · exact (hlt h (List.mem_of_mem_take hmm) g hg1).2.2 1 ((hTne g).2 (by rw [hx]; rfl))
              · rcases hg2 with hx | hx
                · have := (hll g hx).1
                  omega
                · omega
              · rcases hg2 with hx | hx
                · have := (hll g hx).1
                  omega
                · omega
          have hfr' : Fr (fun b => Hits (hb.take (j + 1)) b ∨ (Value.slice (some ⟨gt, 0, none⟩) hb.length c0).ownBlock = some b) w (wr.setCell ⟨gt, j * 3 + 1, none⟩ (.slice A' (xn + 40) c')) := by
            rw [HT.out]
            refine (hfr.mono ?_).trans (hfin.mono ?_)
            · rintro b (⟨h, hm, hh⟩ | hh)
              · exact .inl ⟨h, List.mem_append_left _ hm, hh⟩
              · exact .inr hh
            · rintro b (hh | hh)
              · exact .inl ⟨_, List.mem_append_right _ (List.mem_singleton.2 rfl), hh⟩
              · exact .inr (by rw [hh]; rfl)
          have hbel' : Below B w (wr.setCell ⟨gt, j * 3 + 1, none⟩ (.slice A' (xn + 40) c')) := (hb2.trans hbq).setCell (p := ⟨gt, j * 3 + 1, none⟩) (by show B ≤ gt; have := (hvlt gt rfl).1; omega) _
          have H1 := Lib.hid hlen'
          have H2 := Lib.hid hsame'
          have H3 := Lib.hid hdone'
          clear hlen' hsame' hdone' hnot hown hlt hks hns hll hvlt hset hfin hTne hngt hk6
          go_wp2
          go_roundw
          case rel => exact ⟨j + 1, hs1.set j ⟨xA, xn, xc, A', xn + 40, c', xk⟩, by omega, by go_num, hk7, H1, H2, H3, hfr', hbel'⟩
          case measure => simp [intOf]; omega
    · obtain rfl : j = hb.length := by omega
      rw [List.take_length] at hfr
      go_wp2
      go_end0
      exact ⟨rfl, hs1, hkr, hfr, hbel, HLEN.out, fun m h h' hm hm' => HDONE.out m h h' (List.getElem?_eq_some_iff.1 hm).1 hm hm'⟩

set_option maxRecDepth 100000 in
set_option maxHeartbeats 1000000 in
theorem grow9Int (kb N B s : Nat) (T : Nat → Value) (H : Nat → List Hl) (w : World) (hk : Bkn 45 tHs w kb N T H)
    (hown : ∀ h ∈ H 2, OwnM mksI w B 3 s h.A h.n h.c h.k) (hlt : ∀ h ∈ H 2, ∀ g, Hit h g → OffLN kb T s g) (hts : ∀ j g, (T j).ownBlock = some g → g < s) (hsep : Sep (H 2)) (hks : ∀ h ∈ H 2, h.k < 1000000000) (hns : ∀ h ∈ H 2, h.n ≤ 1000000000) (hl : (H 2).length ≤ 1000000) (hBk : B ≤ kb) (hs : s ≤ w.heap.size) :
    Calls Tryz.prog 44 #[.pointer (some ⟨kb, 0, none⟩)] w fun e w' => e = .returned (.tuple #[]) ∧ ∃ hs', Bkn 45 tHs w' kb N T (upd H 2 hs') ∧ Fr (fun b => Hits (H 2) b ∨ (T 2).ownBlock = some b) w w' ∧ Below B w w' ∧ AllGrownM mksI 3 w' B s w.heap.size (H 2) hs' := by
  obtain ⟨i0, hi0, hz0, hz1, hz2⟩ := info_parts book9_info_int
  have hkbl := hk.lt
  obtain ⟨A0, c0, hv0, hl0, hl1⟩ := row_slice (hk.tab 2)
  have hvlt : ∀ g, (Value.slice A0 (H 2).length c0).ownBlock = some g → kb < g ∧ g < s := fun g hg => ⟨(hk.tlt 2 g (by rw [hv0]; exact hg)).1, hts 2 g (by rw [hv0]; exact hg)⟩
  have hupd := upd_same H 2
  obtain ⟨hb, hhb⟩ : ∃ hb, hb = H 2 := ⟨_, rfl⟩
  rw [← hhb] at hl0 hv0 hl hown hlt hsep hks hns hvlt hupd ⊢
  have HV := Lib.hid hv0
  have hk' : Bkn 45 tHs w kb N T (upd H 2 hb) := by rw [hupd]; exact hk
  clear hhb hupd
  rw [hv0]
  have hTne : ∀ g, (T 2).ownBlock = some g ↔ (Value.slice A0 hb.length c0).ownBlock = some g := fun g => by rw [hv0]
  clear hv0
  unfold maxLen at hl1
  go_enter Tryz.func44, Tryz.ntmps44
  go_wp2_with fail
  go_loopw [2] (fun i wr => ∃ (j : Nat) (hs1 : List Hl), j ≤ hb.length ∧ i = .int .i64 j ∧ Bkn 45 tHs wr kb N T (upd H 2 hs1) ∧ Hid (hs1.length = hb.length) ∧ Hid (∀ m : Nat, j ≤ m → hs1[m]? = hb[m]?) ∧ Hid (∀ (m : Nat) (h h' : Hl), m < j → hb[m]? = some h → hs1[m]? = some h' → GrownM mksI 3 wr B s w.heap.size h h') ∧
    Fr (fun b => Hits (hb.take j) b ∨ (Value.slice A0 hb.length c0).ownBlock = some b) w wr ∧ Below B w wr) (fun i _ => hb.length - (intOf i).toNat)
  case atStart => exact ⟨0, hb, Nat.zero_le _, rfl, hk', Lib.hid rfl, Lib.hid fun _ _ => rfl, Lib.hid fun m h h' hm => absurd hm (Nat.not_lt_zero _), Fr.refl _ _, Below.refl _ _⟩
  case round =>
    obtain ⟨j, hs1, hj, rfl, hkr, HLEN, HSAME, HDONE, hfr, hbel⟩ := hrel
    obtain ⟨wo, rfl⟩ : ∃ wo, wo = wr := ⟨_, rfl⟩
    have hcv : wo.cell? ⟨kb, 2, none⟩ = some (.slice A0 hb.length c0) := (hkr.cell 2).trans (congrArg some HV.out)
    have hkrl := hkr.lt
    by_cases hlt2 : j < hb.length
    · have hj1 : j < hs1.length := by rw [HLEN.out]; exact hlt2
      have htb := hkr.tab 2
      rw [upd_self, HV.out, ← HLEN.out] at htb
      obtain ⟨gt, ct, hv, hgt1, hgt2, _, _⟩ := row_form htb (by omega)
      injection hv with e1 e2 e3
      subst e1
      subst e3
      clear e2
      have hgtw := (hvlt gt rfl).2
      have t0 := row_cell htb j 0 hj1 (by omega)
      have t1 := row_cell htb j 1 hj1 (by omega)
      have t2 := row_cell htb j 2 hj1 (by omega)
      have hxe : hs1[j] = hb[j] := by
        have h := HSAME.out j (Nat.le_refl _)
        rw [List.getElem?_eq_getElem hj1, List.getElem?_eq_getElem hlt2] at h
        exact Option.some.inj h
      have hmem : hb[j] ∈ hb := List.getElem_mem _
      have ho := hown _ hmem
      have hkk := hks _ hmem
      have hnn := hns _ hmem
      have hll := hlt _ hmem
      have hnot : ∀ h ∈ hb.take j, ∀ g, Hit h g → ¬ Hit hb[j] g := sep_take hsep hlt2
      have htake := List.take_succ_eq_append_getElem hlt2
      have hjth : hb[j]? = some hb[j] := List.getElem?_eq_getElem hlt2
      rw [hxe] at t0 t1 t2
      have HXE := Lib.hid hxe
      clear hxe htb
      obtain ⟨x, hx⟩ : ∃ x, x = hb[j] := ⟨_, rfl⟩
      rw [← hx] at t0 t1 t2 ho hkk hnn hll hnot htake hjth HXE
      have HT := Lib.hid htake
      have HJ := Lib.hid hjth
      clear hx htake hmem hjth
      have ho1 := ho.fr hfr (fun g hc hA hh => by
        rcases hh with ⟨h, hm, hb'⟩ | hh
        · exact hnot h hm g hb' ⟨hc, hA⟩
        · exact (hll g ⟨hc, hA⟩).2.2 2 ((hTne g).2 hh)) (fun g hg hh => by
        rcases hh with ⟨h, hm, hb'⟩ | hh
        · have := (hlt h (List.mem_of_mem_take hm) g hb').1; omega
        · have := (hvlt g hh).2; omega)
      obtain ⟨xA, xn, xc, xL, xln, xlc, xk⟩ := x
      simp only [Hl.cells, List.getElem?_cons_zero, List.getElem?_cons_succ, Nat.add_zero] at t0 t1 t2 ho ho1 hkk hnn
      clear ho
      go_wp2_with fail
      have hkr2 : Bkn 45 tHs (wo.alloc (.cells #[.slice xA xn xc, .slice xL xln xlc, .int .i64 xk] 77)) kb N T (upd H 2 hs1) := hkr.below ((Below.refl _ wo).alloc (Nat.le_refl _) _)
      have ho2 : OwnM mksI (wo.alloc (.cells #[.slice xA xn xc, .slice xL xln xlc, .int .i64 xk] 77)) B 3 s xA xn xc xk := ho1.below ((Below.refl _ wo).alloc (Nat.le_refl _) _)
      have hx2 : Bx (wo.alloc (.cells #[.slice xA xn xc, .slice xL xln xlc, .int .i64 xk] 77)) wo.heap.size [.slice xA xn xc, .slice xL xln xlc, .int .i64 xk] := Bx.new wo _ _ _
      have hb2 : Below B w (wo.alloc (.cells #[.slice xA xn xc, .slice xL xln xlc, .int .i64 xk] 77)) := hbel.alloc (Nat.le_trans (by omega : B ≤ w.heap.size) hbel.size) _
      have hfro : Fr (fun b => Hit ⟨xA, xn, xc, xL, xln, xlc, xk⟩ b ∨ b = gt) wo (wo.alloc (.cells #[.slice xA xn xc, .slice xL xln xlc, .int .i64 xk] 77)) := (Fr.refl _ _).alloc _
      have hsz2 : wo.heap.size < (wo.alloc (.cells #[.slice xA xn xc, .slice xL xln xlc, .int .i64 xk] 77)).heap.size := by simp
      generalize wo.alloc (.cells #[.slice xA xn xc, .slice xL xln xlc, .int .i64 xk] 77) = w2 at *
      have hwsz : w.heap.size ≤ wo.heap.size := hbel.size
      go_loopw [4, 5] (fun v i wr => ∃ (q : Nat) (A' : Option Addr) (c' : Nat), q ≤ 40 ∧ i = .int .i64 q ∧ v = .slice A' (xn + q) c' ∧ OwnM mksI wr B 3 s A' (xn + q) c' xk ∧ OwnM mksI wr B 3 s xA xn xc xk ∧
        Fr (Hit ⟨xA, xn, xc, xL, xln, xlc, xk⟩) w2 wr ∧ Below B w2 wr ∧ Loc xA xc w2.heap.size A' c') (fun _ i _ => 40 - (intOf i).toNat)
      case atStart => exact ⟨0, xA, xc, by omega, rfl, rfl, ho2, ho2, Fr.refl _ _, Below.refl _ _, .inl ⟨rfl, rfl⟩⟩
      case round =>
        obtain ⟨q, A', c', hq, rfl, rfl, hoq, hox, hfq, hbq, hloc⟩ := hrel
        have hnl : ¬ Hit ⟨xA, xn, xc, xL, xln, xlc, xk⟩ wo.heap.size := fun hh => by have := (hll _ hh).1; omega
        have l2 : wr.cell? ⟨wo.heap.size, 2, none⟩ = some (.int .i64 xk) := (World.cell?_of_block (w := w2) (hfq.2 wo.heap.size hx2.1 hnl)).trans hx2.at2
        have hBwr : B ≤ wr.heap.size := by have := hbq.size; omega
        have hswr : s ≤ wr.heap.size := by have := hbq.size; omega
        by_cases hql : q < 40
        · go_wp2_with fail
          refine (mark9Int xk hkk _).mono ?_
          rintro e wm ⟨rfl, hmis0, hbm⟩
          have hmis := mksI.mono hmis0 hswr
          obtain ⟨ys, hoq1, hoq2⟩ := hoq.below hbm
          have hoxm := hox.below hbm
          have hBwm : B ≤ wm.heap.size := Nat.le_trans hBwr hbm.size
          clear hmis0 hox hoq
          go_wp2_with (at_builtin; go_must (refine wpList_app1x wm rfl _ _ 22 rfl 3 i0 _ 8 Tryz.underlying22 hi0 hz0 hz1 hz2 rfl B A' (xn + q) c' _ rfl hoq1 1 rfl rfl ?c3 ?c4 ?c5 ?_))
          case c3 => simp only [maxLen]; omega
          case c4 => omega
          case c5 => exact hBwm
          intro A2 c2 w3 ho3 hb3 hf3 hat3 hold3
          have hf4 : ∀ k, k < wm.heap.size → ((xn + q = 0 ∧ c' = 0) ∨ A' ≠ some ⟨k, 0, none⟩) → w3.heap[k]? = wm.heap[k]? := fun k hk hh => hf3 k hk (by
            rcases hh with ⟨h1, h2⟩ | hh
            · first | exact .inl ⟨⟨by omega, by omega⟩, h2⟩ | exact .inl ⟨h1, h2⟩
            · exact .inr hh)
          have hmk3 : ∀ v ∈ ys, mksI.is w3 s xk v := fun v hv => mksI.app (hoq2 v hv) hoq1 (by decide) hf4
          have hmk4 : mksI.is w3 s xk (.int .i64 (-(xk : Int))) := mksI.app hmis hoq1 (by decide) hf4
          have ho4 : OwnM mksI w3 B 3 s A2 (xn + (q + 1)) c2 xk := by
            refine ⟨ys ++ [(.int .i64 (-(xk : Int)))], ?_, fun v hv => ?_⟩
            · rw [← Nat.add_assoc]; exact ho3
            · rcases List.mem_append.1 hv with hv | hv
              · exact hmk3 v hv
              · rw [List.mem_singleton.1 hv]; exact hmk4
          have hox4 : OwnM mksI w3 B 3 s xA xn xc xk := by
            rcases hloc with ⟨rfl, rfl⟩ | ⟨g', rfl, hg'⟩
            · exact (show OwnM mksI w3 B 3 s A' (xn + q) c' xk from ⟨ys, hold3, hmk3⟩).less (by omega)
            · obtain ⟨zs, hz1', hz2'⟩ := hoxm
              refine ⟨zs, ?_, fun v hv => mksI.app (hz2' v hv) hoq1 (by decide) hf4⟩
              by_cases hc0 : xc = 0
              · have := hz1'.le
                exact ⟨hz1'.1, .inl ⟨by omega, hc0⟩⟩
              · refine hz1'.keep fun g hA _ _ hg => hf3 g hg (.inr ?_)
                intro he
                have hgg : g' = g := by
                  injection he with h1
                  injection h1
                have := (hll g ⟨by show 0 < xc; omega, hA⟩).1
                omega
          have hfqm : Fr (Hit ⟨xA, xn, xc, xL, xln, xlc, xk⟩) w2 wm := hfq.trans (Fr.of_below hbm)
          have hfq4 : Fr (Hit ⟨xA, xn, xc, xL, xln, xlc, xk⟩) w2 w3 := hfqm.later (s := w2.heap.size) ⟨hb3.size, fun b hb hnp => hf3 b hb (by
            by_cases hc0 : c' = 0
            · have := hoq1.le
              exact .inl ⟨by omega, hc0⟩
            · right
              intro he
              rcases hloc with ⟨h1, h2⟩ | ⟨g', h1, hg'⟩
              · exact hnp (.inl ⟨by show 0 < xc; omega, by rw [← h1]; exact he⟩)
              · rw [h1] at he
                cases he
                exact hnp (.inr hg'))⟩ (Nat.le_refl _)
          have hloc4 : Loc xA xc w2.heap.size A2 c2 := by
            rcases hat3 with ⟨rfl, rfl⟩ | h
            · exact hloc
            · exact .inr ⟨_, h, by have := hbq.size; have := hbm.size; omega⟩
          have hbq4 : Below B w2 w3 := (hbq.trans (hbm.mono hBwr)).trans hb3
          clear ho3 hf3 hf4 hat3 hold3 hmk3 hmk4 hoxm hoq1 hoq2 hfqm hbm hmis
          go_wp2
          go_roundw
          case rel => exact ⟨q + 1, A2, c2, by omega, by go_num, by first | rfl | (congr 1), ho4, hox4, hfq4, hbq4, hloc4⟩
          case measure => simp [intOf]; omega
        · obtain rfl : q = 40 := by omega
          have hk5 := hkr2.fr hfq (fun b hh => (hll b hh).2)
          have hc5 : wr.cell? ⟨kb, 2, none⟩ = some (.slice (some ⟨gt, 0, none⟩) hb.length c0) := (hk5.cell 2).trans (congrArg some HV.out)
          have hk6 := hk5.tab 2
          rw [upd_self, HV.out, ← HLEN.out] at hk6
          obtain ⟨u0, hcg⟩ : ∃ u0, wr.cell? ⟨gt, j * 3 + 1, none⟩ = some u0 := ⟨_, (row_cell hk6 j 1 hj1 (by omega)).trans (List.getElem?_eq_getElem (by show 1 < 3; omega))⟩
          have hfg : wr.frozen? ⟨gt, j * 3 + 1, none⟩ = false := hk6.frozenAt _
          have hk7 := hk5.long 2 (g := gt) (cap := c0) (by rw [upd_self, HLEN.out]; exact HV.out) j (by rw [upd_self]; exact hj1) A' (xn + 40) c'
          rw [upd_upd] at hk7
          simp only [upd_self, HXE.out] at hk7
          have hset : Fr (fun b => b = gt) wr (wr.setCell ⟨gt, j * 3 + 1, none⟩ (.slice A' (xn + 40) c')) := (Fr.refl (fun b => b = gt) wr).setCell (p := ⟨gt, j * 3 + 1, none⟩) rfl _
          have hfin : Fr (fun b => Hit ⟨xA, xn, xc, xL, xln, xlc, xk⟩ b ∨ b = gt) wo (wr.setCell ⟨gt, j * 3 + 1, none⟩ (.slice A' (xn + 40) c')) := (hfro.trans (hfq.mono fun b h => .inl h)).setCell (p := ⟨gt, j * 3 + 1, none⟩) (.inr rfl) _
          have hlen' : (hs1.set j ⟨xA, xn, xc, A', xn + 40, c', xk⟩).length = hb.length := by rw [List.length_set, HLEN.out]
          have hsame' : ∀ m : Nat, j + 1 ≤ m → (hs1.set j ⟨xA, xn, xc, A', xn + 40, c', xk⟩)[m]? = hb[m]? := fun m hm => by
            rw [List.getElem?_set_ne (by omega)]
            exact HSAME.out m (by omega)
          have hngt : ∀ g, s ≤ g → ¬ (g = gt) := fun g hg he => by omega
          have hdone' : ∀ (m : Nat) (h h' : Hl), m < j + 1 → hb[m]? = some h → (hs1.set j ⟨xA, xn, xc, A', xn + 40, c', xk⟩)[m]? = some h' → GrownM mksI 3 (wr.setCell ⟨gt, j * 3 + 1, none⟩ (.slice A' (xn + 40) c')) B s w.heap.size h h' := by
            intro m h h' hm h1 h2
            by_cases hmj : m = j
            · subst hmj
              rw [HJ.out] at h1
              cases h1
              rw [List.getElem?_set_self hj1] at h2
              cases h2
              refine ⟨rfl, rfl, rfl, rfl, rfl, hox.fr hset (fun g hc hA hg => (hll g ⟨hc, hA⟩).2.2 2 ((hTne g).2 (by rw [hg]; rfl))) hngt, hoq.fr hset (fun g hc hA hg => ?_) hngt, fun g hc hA => ?_⟩
              · rcases hloc with ⟨e1, e2⟩ | ⟨g', e1, hg'⟩
                · exact (hll g ⟨by show 0 < xc; omega, by rw [← e1]; exact hA⟩).2.2 2 ((hTne g).2 (by rw [hg]; rfl))
                · rw [e1] at hA
                  have hgg : g' = g := by
                    injection hA with h1
                    injection h1
                  omega
              · have hA : A' = some ⟨g, 0, none⟩ := hA
                have hc : 0 < c' := hc
                rcases hloc with ⟨e1, e2⟩ | ⟨g', e1, hg'⟩
                · exact .inl ⟨by show 0 < xc; omega, by rw [← e1]; exact hA⟩
                · rw [e1] at hA
                  have hgg : g' = g := by
                    injection hA with h1
                    injection h1
                  exact .inr (by omega)
            · rw [List.getElem?_set_ne (by omega)] at h2
              have hg := HDONE.out m h h' (by omega) h1 h2
              have hmm : h ∈ hb.take j := List.mem_of_getElem? (i := m) (by rw [List.getElem?_take, if_pos (by omega)]; exact h1)
              refine hg.fr hfin (fun g hg1 hg2 => ?_) (fun g hs hg2 => ?_) (fun g hs hg2 => ?_)
              · rcases hg2 with hx | hx
                · exact hnot h hmm g hg1 hx
                · exact (hlt h (List.mem_of_mem_take hmm) g hg1).2.2 2 ((hTne g).2 (by rw [hx]; rfl))
              · rcases hg2 with hx | hx
                · have := (hll g hx).1
                  omega
                · omega
              · rcases hg2 with hx | hx
                · have := (hll g hx).1
                  omega
                · omega
          have hfr' : Fr (fun b => Hits (hb.take (j + 1)) b ∨ (Value.slice (some ⟨gt, 0, none⟩) hb.length c0).ownBlock = some b) w (wr.setCell ⟨gt, j * 3 + 1, none⟩ (.slice A' (xn + 40) c')) := by
            rw [HT.out]
            refine (hfr.mono ?_).trans (hfin.mono ?_)
            · rintro b (⟨h, hm, hh⟩ | hh)
              · exact .inl ⟨h, List.mem_append_left _ hm, hh⟩
              · exact .inr hh
            · rintro b (hh | hh)
              · exact .inl ⟨_, List.mem_append_right _ (List.mem_singleton.2 rfl), hh⟩
              · exact .inr (by rw [hh]; rfl)
          have hbel' : Below B w (wr.setCell ⟨gt, j * 3 + 1, none⟩ (.slice A' (xn + 40) c')) := (hb2.trans hbq).setCell (p := ⟨gt, j * 3 + 1, none⟩) (by show B ≤ gt; have := (hvlt gt rfl).1; omega) _
          have H1 := Lib.hid hlen'
          have H2 := Lib.hid hsame'
          have H3 := Lib.hid hdone'
          clear hlen' hsame' hdone' hnot hown hlt hks hns hll hvlt hset hfin hTne hngt hk6
          go_wp2
          go_roundw
          case rel => exact ⟨j + 1, hs1.set j ⟨xA, xn, xc, A', xn + 40, c', xk⟩, by omega, by go_num, hk7, H1, H2, H3, hfr', hbel'⟩
          case measure => simp [intOf]; omega
    · obtain rfl : j = hb.length := by omega
      rw [List.take_length] at hfr
      go_wp2
      go_end0
      exact ⟨rfl, hs1, hkr, hfr, hbel, HLEN.out, fun m h h' hm hm' => HDONE.out m h h' (List.getElem?_eq_some_iff.1 hm).1 hm hm'⟩

set_option maxRecDepth 100000 in
set_option maxHeartbeats 1000000 in
theorem grow9IntList (kb N B s : Nat) (T : Nat → Value) (H : Nat → List Hl) (w : World) (hk : Bkn 45 tHs w kb N T H)
    (hown : ∀ h ∈ H 4, OwnM mksL w B 22 s h.A h.n h.c h.k) (hlt : ∀ h ∈ H 4, ∀ g, Hit h g → OffLN kb T s g) (hts : ∀ j g, (T j).ownBlock = some g → g < s) (hsep : Sep (H 4)) (hks : ∀ h ∈ H 4, h.k < 1000000000) (hns : ∀ h ∈ H 4, h.n ≤ 1000000000) (hl : (H 4).length ≤ 1000000) (hBk : B ≤ kb) (hs : s ≤ w.heap.size) :
    Calls Tryz.prog 46 #[.pointer (some ⟨kb, 0, none⟩)] w fun e w' => e = .returned (.tuple #[]) ∧ ∃ hs', Bkn 45 tHs w' kb N T (upd H 4 hs') ∧ Fr (fun b => Hits (H 4) b ∨ (T 4).ownBlock = some b) w w' ∧ Below B w w' ∧ AllGrownM mksL 22 w' B s w.heap.size (H 4) hs' := by
  obtain ⟨i0, hi0, hz0, hz1, hz2⟩ := info_parts book9_info_ints
  have hkbl := hk.lt
  obtain ⟨A0, c0, hv0, hl0, hl1⟩ := row_slice (hk.tab 4)
  have hvlt : ∀ g, (Value.slice A0 (H 4).length c0).ownBlock = some g → kb < g ∧ g < s := fun g hg => ⟨(hk.tlt 4 g (by rw [hv0]; exact hg)).1, hts 4 g (by rw [hv0]; exact hg)⟩
  have hupd := upd_same H 4
  obtain ⟨hb, hhb⟩ : ∃ hb, hb = H 4 := ⟨_, rfl⟩
  rw [← hhb] at hl0 hv0 hl hown hlt hsep hks hns hvlt hupd ⊢
  have HV := Lib.hid hv0
  have hk' : Bkn 45 tHs w kb N T (upd H 4 hb) := by rw [hupd]; exact hk
  clear hhb hupd
  rw [hv0]
  have hTne : ∀ g, (T 4).ownBlock = some g ↔ (Value.slice A0 hb.length c0).ownBlock = some g := fun g => by rw [hv0]
  clear hv0
  unfold maxLen at hl1
  go_enter Tryz.func46, Tryz.ntmps46
  go_wp2_with fail
  go_loopw [2] (fun i wr => ∃ (j : Nat) (hs1 : List Hl), j ≤ hb.length ∧ i = .int .i64 j ∧ Bkn 45 tHs wr kb N T (upd H 4 hs1) ∧ Hid (hs1.length = hb.length) ∧ Hid (∀ m : Nat, j ≤ m → hs1[m]? = hb[m]?) ∧ Hid (∀ (m : Nat) (h h' : Hl), m < j → hb[m]? = some h → hs1[m]? = some h' → GrownM mksL 22 wr B s w.heap.size h h') ∧
    Fr (fun b => Hits (hb.take j) b ∨ (Value.slice A0 hb.length c0).ownBlock = some b) w wr ∧ Below B w wr) (fun i _ => hb.length - (intOf i).toNat)
  case atStart => exact ⟨0, hb, Nat.zero_le _, rfl, hk', Lib.hid rfl, Lib.hid fun _ _ => rfl, Lib.hid fun m h h' hm => absurd hm (Nat.not_lt_zero _), Fr.refl _ _, Below.refl _ _⟩
  case round =>
    obtain ⟨j, hs1, hj, rfl, hkr, HLEN, HSAME, HDONE, hfr, hbel⟩ := hrel
    obtain ⟨wo, rfl⟩ : ∃ wo, wo = wr := ⟨_, rfl⟩
    have hcv : wo.cell? ⟨kb, 4, none⟩ = some (.slice A0 hb.length c0) := (hkr.cell 4).trans (congrArg some HV.out)
    have hkrl := hkr.lt
    by_cases hlt2 : j < hb.length
    · have hj1 : j < hs1.length := by rw [HLEN.out]; exact hlt2
      have htb := hkr.tab 4
      rw [upd_self, HV.out, ← HLEN.out] at htb
      obtain ⟨gt, ct, hv, hgt1, hgt2, _, _⟩ := row_form htb (by omega)
      injection hv with e1 e2 e3
      subst e1
      subst e3
      clear e2
      have hgtw := (hvlt gt rfl).2
      have t0 := row_cell htb j 0 hj1 (by omega)
      have t1 := row_cell htb j 1 hj1 (by omega)
      have t2 := row_cell htb j 2 hj1 (by omega)
      have hxe : hs1[j] = hb[j] := by
        have h := HSAME.out j (Nat.le_refl _)
        rw [List.getElem?_eq_getElem hj1, List.getElem?_eq_getElem hlt2] at h
        exact Option.some.inj h
      have hmem : hb[j] ∈ hb := List.getElem_mem _
      have ho := hown _ hmem
      have hkk := hks _ hmem
      have hnn := hns _ hmem
      have hll := hlt _ hmem
      have hnot : ∀ h ∈ hb.take j, ∀ g, Hit h g → ¬ Hit hb[j] g := sep_take hsep hlt2
      have htake := List.take_succ_eq_append_getElem hlt2
      have hjth : hb[j]? = some hb[j] := List.getElem?_eq_getElem hlt2
      rw [hxe] at t0 t1 t2
      have HXE := Lib.hid hxe
      clear hxe htb
      obtain ⟨x, hx⟩ : ∃ x, x = hb[j] := ⟨_, rfl⟩
      rw [← hx] at t0 t1 t2 ho hkk hnn hll hnot htake hjth HXE
      have HT := Lib.hid htake
      have HJ := Lib.hid hjth
      clear hx htake hmem hjth
      have ho1 := ho.fr hfr (fun g hc hA hh => by
        rcases hh with ⟨h, hm, hb'⟩ | hh
        · exact hnot h hm g hb' ⟨hc, hA⟩
        · exact (hll g ⟨hc, hA⟩).2.2 4 ((hTne g).2 hh)) (fun g hg hh => by
        rcases hh with ⟨h, hm, hb'⟩ | hh
        · have := (hlt h (List.mem_of_mem_take hm) g hb').1; omega
        · have := (hvlt g hh).2; omega)
      obtain ⟨xA, xn, xc, xL, xln, xlc, xk⟩ := x
      simp only [Hl.cells, List.getElem?_cons_zero, List.getElem?_cons_succ, Nat.add_zero] at t0 t1 t2 ho ho1 hkk hnn
      clear ho
      go_wp2_with fail
      have hkr2 : Bkn 45 tHs (wo.alloc (.cells #[.slice xA xn xc, .slice xL xln xlc, .int .i64 xk] 88)) kb N T (upd H 4 hs1) := hkr.below ((Below.refl _ wo).alloc (Nat.le_refl _) _)
      have ho2 : OwnM mksL (wo.alloc (.cells #[.slice xA xn xc, .slice xL xln xlc, .int .i64 xk] 88)) B 22 s xA xn xc xk := ho1.below ((Below.refl _ wo).alloc (Nat.le_refl _) _)
      have hx2 : Bx (wo.alloc (.cells #[.slice xA xn xc, .slice xL xln xlc, .int .i64 xk] 88)) wo.heap.size [.slice xA xn xc, .slice xL xln xlc, .int .i64 xk] := Bx.new wo _ _ _
      have hb2 : Below B w (wo.alloc (.cells #[.slice xA xn xc, .slice xL xln xlc, .int .i64 xk] 88)) := hbel.alloc (Nat.le_trans (by omega : B ≤ w.heap.size) hbel.size) _
      have hfro : Fr (fun b => Hit ⟨xA, xn, xc, xL, xln, xlc, xk⟩ b ∨ b = gt) wo (wo.alloc (.cells #[.slice xA xn xc, .slice xL xln xlc, .int .i64 xk] 88)) := (Fr.refl _ _).alloc _
      have hsz2 : wo.heap.size < (wo.alloc (.cells #[.slice xA xn xc, .slice xL xln xlc, .int .i64 xk] 88)).heap.size := by simp
      generalize wo.alloc (.cells #[.slice xA xn xc, .slice xL xln xlc, .int .i64 xk] 88) = w2 at *
      have hwsz : w.heap.size ≤ wo.heap.size := hbel.size
      go_loopw [4, 5] (fun v i wr => ∃ (q : Nat) (A' : Option Addr) (c' : Nat), q ≤ 40 ∧ i = .int .i64 q ∧ v = .slice A' (xn + q) c' ∧ OwnM mksL wr B 22 s A' (xn + q) c' xk ∧ OwnM mksL wr B 22 s xA xn xc xk ∧
        Fr (Hit ⟨xA, xn, xc, xL, xln, xlc, xk⟩) w2 wr ∧ Below B w2 wr ∧ Loc xA xc w2.heap.size A' c') (fun _ i _ => 40 - (intOf i).toNat)
      case atStart => exact ⟨0, xA, xc, by omega, rfl, rfl, ho2, ho2, Fr.refl _ _, Below.refl _ _, .inl ⟨rfl, rfl⟩⟩
      case round =>
        obtain ⟨q, A', c', hq, rfl, rfl, hoq, hox, hfq, hbq, hloc⟩ := hrel
        have hnl : ¬ Hit ⟨xA, xn, xc, xL, xln, xlc, xk⟩ wo.heap.size := fun hh => by have := (hll _ hh).1; omega
        have l2 : wr.cell? ⟨wo.heap.size, 2, none⟩ = some (.int .i64 xk) := (World.cell?_of_block (w := w2) (hfq.2 wo.heap.size hx2.1 hnl)).trans hx2.at2
        have hBwr : B ≤ wr.heap.size := by have := hbq.size; omega
        have hswr : s ≤ wr.heap.size := by have := hbq.size; omega
        by_cases hql : q < 40
        · go_wp2_with fail
          refine (mark9IntList xk hkk _).mono ?_
          rintro e wm ⟨m, rfl, hmis0, hbm⟩
          have hmis := mksL.mono hmis0 hswr
          obtain ⟨ys, hoq1, hoq2⟩ := hoq.below hbm
          have hoxm := hox.below hbm
          have hBwm : B ≤ wm.heap.size := Nat.le_trans hBwr hbm.size
          clear hmis0 hox hoq
          go_wp2_with (at_builtin; go_must (refine wpList_app1x wm rfl _ _ 23 rfl 22 i0 _ 24 Tryz.underlying23 hi0 hz0 hz1 hz2 rfl B A' (xn + q) c' _ rfl hoq1 1 rfl rfl ?c3 ?c4 ?c5 ?_))
          case c3 => simp only [maxLen]; omega
          case c4 => omega
          case c5 => exact hBwm
          intro A2 c2 w3 ho3 hb3 hf3 hat3 hold3
          have hf4 : ∀ k, k < wm.heap.size → ((xn + q = 0 ∧ c' = 0) ∨ A' ≠ some ⟨k, 0, none⟩) → w3.heap[k]? = wm.heap[k]? := fun k hk hh => hf3 k hk (by
            rcases hh with ⟨h1, h2⟩ | hh
            · first | exact .inl ⟨⟨by omega, by omega⟩, h2⟩ | exact .inl ⟨h1, h2⟩
            · exact .inr hh)
          have hmk3 : ∀ v ∈ ys, mksL.is w3 s xk v := fun v hv => mksL.app (hoq2 v hv) hoq1 (by decide) hf4
          have hmk4 : mksL.is w3 s xk (.slice (some ⟨m, 0, none⟩) 1 1) := mksL.app hmis hoq1 (by decide) hf4
          have ho4 : OwnM mksL w3 B 22 s A2 (xn + (q + 1)) c2 xk := by
            refine ⟨ys ++ [(.slice (some ⟨m, 0, none⟩) 1 1)], ?_, fun v hv => ?_⟩
            · rw [← Nat.add_assoc]; exact ho3
            · rcases List.mem_append.1 hv with hv | hv
              · exact hmk3 v hv
              · rw [List.mem_singleton.1 hv]; exact hmk4
          have hox4 : OwnM mksL w3 B 22 s xA xn xc xk := by
            rcases hloc with ⟨rfl, rfl⟩ | ⟨g', rfl, hg'⟩
            · exact (show OwnM mksL w3 B 22 s A' (xn + q) c' xk from ⟨ys, hold3, hmk3⟩).less (by omega)
            · obtain ⟨zs, hz1', hz2'⟩ := hoxm
              refine ⟨zs, ?_, fun v hv => mksL.app (hz2' v hv) hoq1 (by decide) hf4⟩
              by_cases hc0 : xc = 0
              · have := hz1'.le
                exact ⟨hz1'.1, .inl ⟨by omega, hc0⟩⟩
              · refine hz1'.keep fun g hA _ _ hg => hf3 g hg (.inr ?_)
                intro he
                have hgg : g' = g := by
                  injection he with h1
                  injection h1
                have := (hll g ⟨by show 0 < xc; omega, hA⟩).1
                omega
          have hfqm : Fr (Hit ⟨xA, xn, xc, xL, xln, xlc, xk⟩) w2 wm := hfq.trans (Fr.of_below hbm)
          have hfq4 : Fr (Hit ⟨xA, xn, xc, xL, xln, xlc, xk⟩) w2 w3 := hfqm.later (s := w2.heap.size) ⟨hb3.size, fun b hb hnp => hf3 b hb (by
            by_cases hc0 : c' = 0
            · have := hoq1.le
              exact .inl ⟨by omega, hc0⟩
            · right
              intro he
              rcases hloc with ⟨h1, h2⟩ | ⟨g', h1, hg'⟩
              · exact hnp (.inl ⟨by show 0 < xc; omega, by rw [← h1]; exact he⟩)
              · rw [h1] at he
                cases he
                exact hnp (.inr hg'))⟩ (Nat.le_refl _)
          have hloc4 : Loc xA xc w2.heap.size A2 c2 := by
            rcases hat3 with ⟨rfl, rfl⟩ | h
            · exact hloc
            · exact .inr ⟨_, h, by have := hbq.size; have := hbm.size; omega⟩
          have hbq4 : Below B w2 w3 := (hbq.trans (hbm.mono hBwr)).trans hb3
          clear ho3 hf3 hf4 hat3 hold3 hmk3 hmk4 hoxm hoq1 hoq2 hfqm hbm hmis
          go_wp2
          go_roundw
          case rel => exact ⟨q + 1, A2, c2, by omega, by go_num, by first | rfl | (congr 1), ho4, hox4, hfq4, hbq4, hloc4⟩
          case measure => simp [intOf]; omega
        · obtain rfl : q = 40 := by omega
          have hk5 := hkr2.fr hfq (fun b hh => (hll b hh).2)
          have hc5 : wr.cell? ⟨kb, 4, none⟩ = some (.slice (some ⟨gt, 0, none⟩) hb.length c0) := (hk5.cell 4).trans (congrArg some HV.out)
          have hk6 := hk5.tab 4
          rw [upd_self, HV.out, ← HLEN.out] at hk6
          obtain ⟨u0, hcg⟩ : ∃ u0, wr.cell? ⟨gt, j * 3 + 1, none⟩ = some u0 := ⟨_, (row_cell hk6 j 1 hj1 (by omega)).trans (List.getElem?_eq_getElem (by show 1 < 3; omega))⟩
          have hfg : wr.frozen? ⟨gt, j * 3 + 1, none⟩ = false := hk6.frozenAt _
          have hk7 := hk5.long 4 (g := gt) (cap := c0) (by rw [upd_self, HLEN.out]; exact HV.out) j (by rw [upd_self]; exact hj1) A' (xn + 40) c'
          rw [upd_upd] at hk7
          simp only [upd_self, HXE.out] at hk7
          have hset : Fr (fun b => b = gt) wr (wr.setCell ⟨gt, j * 3 + 1, none⟩ (.slice A' (xn + 40) c')) := (Fr.refl (fun b => b = gt) wr).setCell (p := ⟨gt, j * 3 + 1, none⟩) rfl _
          have hfin : Fr (fun b => Hit ⟨xA, xn, xc, xL, xln, xlc, xk⟩ b ∨ b = gt) wo (wr.setCell ⟨gt, j * 3 + 1, none⟩ (.slice A' (xn + 40) c')) := (hfro.trans (hfq.mono fun b h => .inl h)).setCell (p := ⟨gt, j * 3 + 1, none⟩) (.inr rfl) _
          have hlen' : (hs1.set j ⟨xA, xn, xc, A', xn + 40, c', xk⟩).length = hb.length := by rw [List.length_set, HLEN.out]
          have hsame' : ∀ m : Nat, j + 1 ≤ m → (hs1.set j ⟨xA, xn, xc, A', xn + 40, c', xk⟩)[m]? = hb[m]? := fun m hm => by
            rw [List.getElem?_set_ne (by omega)]
            exact HSAME.out m (by omega)
          have hngt : ∀ g, s ≤ g → ¬ (g = gt) := fun g hg he => by omega
          have hdone' : ∀ (m : Nat) (h h' : Hl), m < j + 1 → hb[m]? = some h → (hs1.set j ⟨xA, xn, xc, A', xn + 40, c', xk⟩)[m]? = some h' → GrownM mksL 22 (wr.setCell ⟨gt, j * 3 + 1, none⟩ (.slice A' (xn + 40) c')) B s w.heap.size h h' := by
            intro m h h' hm h1 h2
            by_cases hmj : m = j
            · subst hmj
              rw [HJ.out] at h1
              cases h1
              rw [List.getElem?_set_self hj1] at h2
              cases h2
              refine ⟨rfl, rfl, rfl, rfl, rfl, hox.fr hset (fun g hc hA hg => (hll g ⟨hc, hA⟩).2.2 4 ((hTne g).2 (by rw [hg]; rfl))) hngt, hoq.fr hset (fun g hc hA hg => ?_) hngt, fun g hc hA => ?_⟩
              · rcases hloc with ⟨e1, e2⟩ | ⟨g', e1, hg'⟩
                · exact (hll g ⟨by show 0 < xc; omega, by rw [← e1]; exact hA⟩).2.2 4 ((hTne g).2 (by rw [hg]; rfl))
                · rw [e1] at hA
                  have hgg : g' = g := by
                    injection hA with h1
                    injection h1
                  omega
              · have hA : A' = some ⟨g, 0, none⟩ := hA
                have hc : 0 < c' := hc
                rcases hloc with ⟨e1, e2⟩ | ⟨g', e1, hg'⟩
                · exact .inl ⟨by show 0 < xc; omega, by rw [← e1]; exact hA⟩
                · rw [e1] at hA
                  have hgg : g' = g := by
                    injection hA with h1
                    injection h1
                  exact .inr (by omega)
            · rw [List.getElem?_set_ne (by omega)] at h2
              have hg := HDONE.out m h h' (by omega) h1 h2
              have hmm : h ∈ hb.take j := List.mem_of_getElem? (i := m) (by rw [List.getElem?_take, if_pos (by omega)]; exact h1)
              refine hg.fr hfin (fun g hg1 hg2 => ?_) (fun g hs hg2 => ?_) (fun g hs hg2 => ?_)
              · rcases hg2 with hx | hx
                · exact hnot h hmm g hg1 hx
                · exact (hlt h (List.mem_of_mem_take hmm) g hg1).2.2 4 ((hTne g).2 (by rw [hx]; rfl))
              · rcases hg2 with hx | hx
                · have := (hll g hx).1
                  omega
                · omega
              · rcases hg2 with hx | hx
                · have := (hll g hx).1
                  omega
                · omega
          have hfr' : Fr (fun b => Hits (hb.take (j + 1)) b ∨ (Value.slice (some ⟨gt, 0, none⟩) hb.length c0).ownBlock = some b) w (wr.setCell ⟨gt, j * 3 + 1, none⟩ (.slice A' (xn + 40) c')) := by
            rw [HT.out]
            refine (hfr.mono ?_).trans (hfin.mono ?_)
            · rintro b (⟨h, hm, hh⟩ | hh)
              · exact .inl ⟨h, List.mem_append_left _ hm, hh⟩
              · exact .inr hh
            · rintro b (hh | hh)
              · exact .inl ⟨_, List.mem_append_right _ (List.mem_singleton.2 rfl), hh⟩
              · exact .inr (by rw [hh]; rfl)
          have hbel' : Below B w (wr.setCell ⟨gt, j * 3 + 1, none⟩ (.slice A' (xn + 40) c')) := (hb2.trans hbq).setCell (p := ⟨gt, j * 3 + 1, none⟩) (by show B ≤ gt; have := (hvlt gt rfl).1; omega) _
          have H1 := Lib.hid hlen'
          have H2 := Lib.hid hsame'
          have H3 := Lib.hid hdone'
          clear hlen' hsame' hdone' hnot hown hlt hks hns hll hvlt hset hfin hTne hngt hk6
          go_wp2
          go_roundw
          case rel => exact ⟨j + 1, hs1.set j ⟨xA, xn, xc, A', xn + 40, c', xk⟩, by omega, by go_num, hk7, H1, H2, H3, hfr', hbel'⟩
          case measure => simp [intOf]; omega
    · obtain rfl : j = hb.length := by omega
      rw [List.take_length] at hfr
      go_wp2
      go_end0
      exact ⟨rfl, hs1, hkr, hfr, hbel, HLEN.out, fun m h h' hm hm' => HDONE.out m h h' (List.getElem?_eq_some_iff.1 hm).1 hm hm'⟩

end Go.Proofs.YtdckoaljcklmhaaGreatDoor


namespace Go.Proofs.YtdckoaljcklmhaaGreatDoor
open Go.RowKit
set_option linter.unusedVariables false

set_option maxRecDepth 100000 in
set_option maxHeartbeats 2000000 in
theorem look9Byte (kb N B s : Nat) (T : Nat → Value) (H : Nat → List Hl) (w : World) (hk : Bkn 45 tHs w kb N T H)
    (hall : Looked mksB 5 w B s (H 1)) (hks : ∀ h ∈ H 1, h.k < 1000000000 ∧ h.n ≤ 1000000000) (hl : (H 1).length ≤ 1000000) :
    Calls Tryz.prog 52 #[.pointer (some ⟨kb, 0, none⟩)] w fun e w' => e = .returned (.bool true) ∧ Below w.heap.size w w' := by
  have hkbl := hk.lt
  obtain ⟨A0, c0, hv0, hl0, hl1⟩ := row_slice (hk.tab 1)
  obtain ⟨hb, hhb⟩ : ∃ hb, hb = H 1 := ⟨_, rfl⟩
  rw [← hhb] at hl0 hv0 hl hall hks
  have HB := Lib.hid hhb
  have HV := Lib.hid hv0
  clear hhb hv0
  unfold maxLen at hl1
  go_enter Tryz.func52, Tryz.ntmps52
  go_wp2_with fail
  go_loopw [3] (fun i wr => ∃ j : Nat, j ≤ hb.length ∧ i = .int .i64 j ∧ Below w.heap.size w wr) (fun i _ => hb.length - (intOf i).toNat)
  case atStart => exact ⟨0, Nat.zero_le _, rfl, Below.refl _ _⟩
  case round =>
    obtain ⟨j, hj, rfl, hbel⟩ := hrel
    obtain ⟨wo, rfl⟩ : ∃ wo, wo = wr := ⟨_, rfl⟩
    have hkr := hk.below hbel
    have hcv : wo.cell? ⟨kb, 1, none⟩ = some (.slice A0 hb.length c0) := (hkr.cell 1).trans (congrArg some HV.out)
    have hkrl := hkr.lt
    have htb := hkr.tab 1
    rw [HV.out, ← HB.out] at htb
    by_cases hlt2 : j < hb.length
    · obtain ⟨gt, ct, hv, hgt1, hgt2, _, _⟩ := row_form htb (by omega)
      cases hv
      have t0 := row_cell htb j 0 hlt2 (by omega)
      have t1 := row_cell htb j 1 hlt2 (by omega)
      have t2 := row_cell htb j 2 hlt2 (by omega)
      have hmem : hb[j] ∈ hb := List.getElem_mem _
      obtain ⟨p1, p2, p3⟩ := hall _ hmem
      obtain ⟨hkk, hnn⟩ := hks _ hmem
      clear hmem htb
      generalize hb[j] = x at t0 t1 t2 p1 hkk hnn p2 p3
      obtain ⟨xA, xn, xc, xL, xln, xlc, xk⟩ := x
      simp only [Hl.cells, List.getElem?_cons_zero, List.getElem?_cons_succ, Nat.add_zero] at t0 t1 t2 p1 hkk hnn p2 p3
      subst p1
      have p2 := (p2.below hbel).below ((Below.refl _ wo).alloc (Nat.le_refl _) (.cells #[.slice xA xn xc, .slice xL (xn + 40) xlc, .int .i64 xk] 80))
      have p3 := (p3.below hbel).below ((Below.refl _ wo).alloc (Nat.le_refl _) (.cells #[.slice xA xn xc, .slice xL (xn + 40) xlc, .int .i64 xk] 80))
      clear hall hks
      go_wp2_with fail
      have hx2 : Bx (wo.alloc (.cells #[.slice xA xn xc, .slice xL (xn + 40) xlc, .int .i64 xk] 80)) wo.heap.size [.slice xA xn xc, .slice xL (xn + 40) xlc, .int .i64 xk] := Bx.new wo _ _ _
      have hb2 : Below w.heap.size w (wo.alloc (.cells #[.slice xA xn xc, .slice xL (xn + 40) xlc, .int .i64 xk] 80)) := hbel.alloc hbel.size _
      generalize wo.alloc (.cells #[.slice xA xn xc, .slice xL (xn + 40) xlc, .int .i64 xk] 80) = w2 at *
      go_loopw [5] (fun i wr => ∃ q : Nat, q ≤ xn + 40 ∧ i = .int .i64 q ∧ Below w2.heap.size w2 wr) (fun i _ => xn + 40 - (intOf i).toNat)
      case atStart => exact ⟨0, Nat.zero_le _, rfl, Below.refl _ _⟩
      case round =>
        obtain ⟨q, hq, rfl, hbq⟩ := hrel
        have hx3 := hx2.below hbq
        have l0 := hx3.at0
        have l1 := hx3.at1
        have l2 := hx3.at2
        have lx := hx3.1
        have p4 := p2.below hbq
        have p5 := p3.below hbq
        by_cases hql : q < xn + 40
        · obtain ⟨bL, uL, rfl, hbL, hcL, hmL⟩ := p5.get hql
          by_cases hqn : q < xn
          · obtain ⟨bA, uA, rfl, hbA, hcA, hmA⟩ := p4.get hqn
            have hd1 : decide (q < xn) = true := by simpa using hqn
            have hd2 : decide ((q : Int) < (xn : Int)) = true := by simp; omega
            go_wp2_with fail
            refine wp_region_ord (S := fun w' => w'.cell? ⟨wo.heap.size, 0, none⟩ = some (.slice (some ⟨bA, 0, none⟩) xn xc) ∧ w'.cell? ⟨wo.heap.size, 1, none⟩ = some (.slice (some ⟨bL, 0, none⟩) (xn + 40) xlc) ∧ w'.cell? ⟨wo.heap.size, 2, none⟩ = some (.int .i64 xk) ∧ w'.cell? ⟨bL, q, none⟩ = some uL ∧ w'.cell? ⟨bA, q, none⟩ = some uA)
              [(0, true), (1, true), (2, true), (3, true), (4, true), (5, true), (6, true), (7, false), (8, true), (9, true), (10, true), (11, true), (12, true), (13, true), (14, true), (15, true), (16, true), (17, true), (18, true), (19, true), (20, true), (21, true), (22, true), (23, false), (24, true), (25, true), (26, true)] default (by kernel_rfl) (by kernel_rfl) (by kernel_rfl) ⟨l0, l1, l2, hcL, hcA⟩ ?_
            simp only [getOrd, nth]
            repeat (first | (refine ordS (by rfl) ?_; simp only [Act.put, List.setIfInBounds_toArray, List.set_cons_zero, List.set_cons_succ]) | (refine ordN (by rfl) ?_; simp only [Act.put, List.setIfInBounds_toArray, List.set_cons_zero, List.set_cons_succ]) | (refine ordQ (v := ?_) (by rfl) (fun _ hSw => ?_) ?_; rotate_left; (focus ((have hS1 := hSw.1); (have hS2 := hSw.2.1); (have hS3 := hSw.2.2.1); (have hS4 := hSw.2.2.2.1); (have hS5 := hSw.2.2.2.2); clear hSw; go_simp; (first | done | with_reducible rfl))); simp only [Act.put, List.setIfInBounds_toArray, List.set_cons_zero, List.set_cons_succ]))
            refine ordD (by rfl) ?_
            intro K hK
            go_simp
            refine (is9Byte xk s uL hkk _ (mksB.below hmL ((Below.refl _ wr).drew))).mono ?_
            rintro e wm ⟨rfl, hbm⟩
            have hbm : Below wr.heap.size wr wm := ((Below.refl _ wr).drew).trans hbm
            have m0 := (hbm.cell (p := ⟨wo.heap.size, 0, none⟩) lx).trans l0
            have m1 := (hbm.cell (p := ⟨wo.heap.size, 1, none⟩) lx).trans l1
            have m2 := (hbm.cell (p := ⟨wo.heap.size, 2, none⟩) lx).trans l2
            have m3 := (hbm.cell (p := ⟨bL, q, none⟩) hbL).trans hcL
            have m4 := (hbm.cell (p := ⟨bA, q, none⟩) hbA).trans hcA
            have hmA2 := mksB.below hmA hbm
            go_wp2_with fail
            refine hK _ _ ⟨m0, m1, m2, m3, m4⟩ ?_
            clear hK K
            try simp only [Act.put, List.setIfInBounds_toArray, List.set_cons_zero, List.set_cons_succ]
            repeat (first | (refine ordS (by rfl) ?_; simp only [Act.put, List.setIfInBounds_toArray, List.set_cons_zero, List.set_cons_succ]) | (refine ordN (by rfl) ?_; simp only [Act.put, List.setIfInBounds_toArray, List.set_cons_zero, List.set_cons_succ]) | (refine ordQ (v := ?_) (by rfl) (fun _ hSw => ?_) ?_; rotate_left; (focus ((have hS1 := hSw.1); (have hS2 := hSw.2.1); (have hS3 := hSw.2.2.1); (have hS4 := hSw.2.2.2.1); (have hS5 := hSw.2.2.2.2); clear hSw; go_simp; (first | done | with_reducible rfl))); simp only [Act.put, List.setIfInBounds_toArray, List.set_cons_zero, List.set_cons_succ]))
            refine ordD (by rfl) ?_
            intro K hK
            go_simp
            refine (is9Byte xk s uA hkk _ hmA2).mono ?_
            rintro e wn ⟨rfl, hbn⟩
            have hbn : Below wm.heap.size wm wn := hbn
            have lx1 := Nat.lt_of_lt_of_le lx hbm.size
            have lL1 := Nat.lt_of_lt_of_le hbL hbm.size
            have lA1 := Nat.lt_of_lt_of_le hbA hbm.size
            have n0 := (hbn.cell (p := ⟨wo.heap.size, 0, none⟩) lx1).trans m0
            have n1 := (hbn.cell (p := ⟨wo.heap.size, 1, none⟩) lx1).trans m1
            have n2 := (hbn.cell (p := ⟨wo.heap.size, 2, none⟩) lx1).trans m2
            have n3 := (hbn.cell (p := ⟨bL, q, none⟩) lL1).trans m3
            have n4 := (hbn.cell (p := ⟨bA, q, none⟩) lA1).trans m4
            have hB3 : Below w2.heap.size w2 wn := (hbq.trans (hbm.mono hbq.size)).trans (hbn.mono (Nat.le_trans hbq.size hbm.size))
            go_wp2_with fail
            refine hK _ _ ⟨n0, n1, n2, n3, n4⟩ ?_
            clear hK K
            try simp only [Act.put, List.setIfInBounds_toArray, List.set_cons_zero, List.set_cons_succ]
            repeat (first | (refine ordS (by rfl) ?_; simp only [Act.put, List.setIfInBounds_toArray, List.set_cons_zero, List.set_cons_succ]) | (refine ordN (by rfl) ?_; simp only [Act.put, List.setIfInBounds_toArray, List.set_cons_zero, List.set_cons_succ]) | (refine ordQ (v := ?_) (by rfl) (fun _ hSw => ?_) ?_; rotate_left; (focus ((have hS1 := hSw.1); (have hS2 := hSw.2.1); (have hS3 := hSw.2.2.1); (have hS4 := hSw.2.2.2.1); (have hS5 := hSw.2.2.2.2); clear hSw; go_simp; (first | done | with_reducible rfl))); simp only [Act.put, List.setIfInBounds_toArray, List.set_cons_zero, List.set_cons_succ]))
            refine ordE ?_
            clear m0 m1 m2 m3 m4 n0 n1 n2 n3 n4 hmA hmL hmA2 hbm hbn
            go_wp2
            go_roundw
            case rel => exact ⟨q + 1, by omega, by go_num, hB3⟩
            case measure => simp [intOf]; omega
          · have hd1 : decide (q < xn) = false := by simpa using hqn
            have hd2 : decide ((q : Int) < (xn : Int)) = false := by simp; omega
            go_wp2_with fail
            refine wp_region_ord (S := fun w' => w'.cell? ⟨wo.heap.size, 0, none⟩ = some (.slice xA xn xc) ∧ w'.cell? ⟨wo.heap.size, 1, none⟩ = some (.slice (some ⟨bL, 0, none⟩) (xn + 40) xlc) ∧ w'.cell? ⟨wo.heap.size, 2, none⟩ = some (.int .i64 xk) ∧ w'.cell? ⟨bL, q, none⟩ = some uL)
              [(0, true), (1, true), (2, true), (3, true), (4, true), (5, true), (6, true), (7, false), (8, true), (9, true), (10, true), (11, true), (12, true), (13, true), (14, true), (15, true), (16, true), (17, true), (18, true), (19, true), (20, true), (21, true), (22, true), (23, false), (24, true), (25, true), (26, true)] default (by kernel_rfl) (by kernel_rfl) (by kernel_rfl) ⟨l0, l1, l2, hcL⟩ ?_
            simp only [getOrd, nth]
            repeat (first | (refine ordS (by rfl) ?_; simp only [Act.put, List.setIfInBounds_toArray, List.set_cons_zero, List.set_cons_succ]) | (refine ordN (by rfl) ?_; simp only [Act.put, List.setIfInBounds_toArray, List.set_cons_zero, List.set_cons_succ]) | (refine ordQ (v := ?_) (by rfl) (fun _ hSw => ?_) ?_; rotate_left; (focus ((have hS1 := hSw.1); (have hS2 := hSw.2.1); (have hS3 := hSw.2.2.1); (have hS4 := hSw.2.2.2); clear hSw; go_simp; (first | done | with_reducible rfl))); simp only [Act.put, List.setIfInBounds_toArray, List.set_cons_zero, List.set_cons_succ]))
            refine ordD (by rfl) ?_
            intro K hK
            go_simp
            refine (is9Byte xk s uL hkk _ (mksB.below hmL ((Below.refl _ wr).drew))).mono ?_
            rintro e wm ⟨rfl, hbm⟩
            have hbm : Below wr.heap.size wr wm := ((Below.refl _ wr).drew).trans hbm
            have m0 := (hbm.cell (p := ⟨wo.heap.size, 0, none⟩) lx).trans l0
            have m1 := (hbm.cell (p := ⟨wo.heap.size, 1, none⟩) lx).trans l1
            have m2 := (hbm.cell (p := ⟨wo.heap.size, 2, none⟩) lx).trans l2
            have m3 := (hbm.cell (p := ⟨bL, q, none⟩) hbL).trans hcL
            have hB3 : Below w2.heap.size w2 wm := hbq.trans (hbm.mono hbq.size)
            go_wp2_with fail
            refine hK _ _ ⟨m0, m1, m2, m3⟩ ?_
            clear hK K
            try simp only [Act.put, List.setIfInBounds_toArray, List.set_cons_zero, List.set_cons_succ]
            repeat (first | (refine ordS (by rfl) ?_; simp only [Act.put, List.setIfInBounds_toArray, List.set_cons_zero, List.set_cons_succ]) | (refine ordN (by rfl) ?_; simp only [Act.put, List.setIfInBounds_toArray, List.set_cons_zero, List.set_cons_succ]) | (refine ordQ (v := ?_) (by rfl) (fun _ hSw => ?_) ?_; rotate_left; (focus ((have hS1 := hSw.1); (have hS2 := hSw.2.1); (have hS3 := hSw.2.2.1); (have hS4 := hSw.2.2.2); clear hSw; go_simp; (first | done | with_reducible rfl))); simp only [Act.put, List.setIfInBounds_toArray, List.set_cons_zero, List.set_cons_succ]))
            refine ordE ?_
            clear m0 m1 m2 m3 hmL hbm
            go_wp2
            go_roundw
            case rel => exact ⟨q + 1, by omega, by go_num, hB3⟩
            case measure => simp [intOf]; omega
        · obtain rfl : q = xn + 40 := by omega
          have hB3 : Below w.heap.size w wr := hb2.trans (hbq.mono hb2.size)
          go_wp2
          go_roundw
          case rel => exact ⟨j + 1, by omega, by go_num, hB3⟩
          case measure => simp [intOf]; omega
    · obtain rfl : j = hb.length := by omega
      go_wp2
      go_ret
      exact ⟨rfl, hbel⟩

set_option maxRecDepth 100000 in
set_option maxHeartbeats 2000000 in
theorem look9Int (kb N B s : Nat) (T : Nat → Value) (H : Nat → List Hl) (w : World) (hk : Bkn 45 tHs w kb N T H)
    (hall : Looked mksI 3 w B s (H 2)) (hks : ∀ h ∈ H 2, h.k < 1000000000 ∧ h.n ≤ 1000000000) (hl : (H 2).length ≤ 1000000) :
    Calls Tryz.prog 53 #[.pointer (some ⟨kb, 0, none⟩)] w fun e w' => e = .returned (.bool true) ∧ Below w.heap.size w w' := by
  have hkbl := hk.lt
  obtain ⟨A0, c0, hv0, hl0, hl1⟩ := row_slice (hk.tab 2)
  obtain ⟨hb, hhb⟩ : ∃ hb, hb = H 2 := ⟨_, rfl⟩
  rw [← hhb] at hl0 hv0 hl hall hks
  have HB := Lib.hid hhb
  have HV := Lib.hid hv0
  clear hhb hv0
  unfold maxLen at hl1
  go_enter Tryz.func53, Tryz.ntmps53
  go_wp2_with fail
  go_loopw [3] (fun i wr => ∃ j : Nat, j ≤ hb.length ∧ i = .int .i64 j ∧ Below w.heap.size w wr) (fun i _ => hb.length - (intOf i).toNat)
  case atStart => exact ⟨0, Nat.zero_le _, rfl, Below.refl _ _⟩
  case round =>
    obtain ⟨j, hj, rfl, hbel⟩ := hrel
    obtain ⟨wo, rfl⟩ : ∃ wo, wo = wr := ⟨_, rfl⟩
    have hkr := hk.below hbel
    have hcv : wo.cell? ⟨kb, 2, none⟩ = some (.slice A0 hb.length c0) := (hkr.cell 2).trans (congrArg some HV.out)
    have hkrl := hkr.lt
    have htb := hkr.tab 2
    rw [HV.out, ← HB.out] at htb
    by_cases hlt2 : j < hb.length
    · obtain ⟨gt, ct, hv, hgt1, hgt2, _, _⟩ := row_form htb (by omega)
      cases hv
      have t0 := row_cell htb j 0 hlt2 (by omega)
      have t1 := row_cell htb j 1 hlt2 (by omega)
      have t2 := row_cell htb j 2 hlt2 (by omega)
      have hmem : hb[j] ∈ hb := List.getElem_mem _
      obtain ⟨p1, p2, p3⟩ := hall _ hmem
      obtain ⟨hkk, hnn⟩ := hks _ hmem
      clear hmem htb
      generalize hb[j] = x at t0 t1 t2 p1 hkk hnn p2 p3
      obtain ⟨xA, xn, xc, xL, xln, xlc, xk⟩ := x
      simp only [Hl.cells, List.getElem?_cons_zero, List.getElem?_cons_succ, Nat.add_zero] at t0 t1 t2 p1 hkk hnn p2 p3
      subst p1
      have p2 := (p2.below hbel).below ((Below.refl _ wo).alloc (Nat.le_refl _) (.cells #[.slice xA xn xc, .slice xL (xn + 40) xlc, .int .i64 xk] 77))
      have p3 := (p3.below hbel).below ((Below.refl _ wo).alloc (Nat.le_refl _) (.cells #[.slice xA xn xc, .slice xL (xn + 40) xlc, .int .i64 xk] 77))
      clear hall hks
      go_wp2_with fail
      have hx2 : Bx (wo.alloc (.cells #[.slice xA xn xc, .slice xL (xn + 40) xlc, .int .i64 xk] 77)) wo.heap.size [.slice xA xn xc, .slice xL (xn + 40) xlc, .int .i64 xk] := Bx.new wo _ _ _
      have hb2 : Below w.heap.size w (wo.alloc (.cells #[.slice xA xn xc, .slice xL (xn + 40) xlc, .int .i64 xk] 77)) := hbel.alloc hbel.size _
      generalize wo.alloc (.cells #[.slice xA xn xc, .slice xL (xn + 40) xlc, .int .i64 xk] 77) = w2 at *
      go_loopw [5] (fun i wr => ∃ q : Nat, q ≤ xn + 40 ∧ i = .int .i64 q ∧ Below w2.heap.size w2 wr) (fun i _ => xn + 40 - (intOf i).toNat)
      case atStart => exact ⟨0, Nat.zero_le _, rfl, Below.refl _ _⟩
      case round =>
        obtain ⟨q, hq, rfl, hbq⟩ := hrel
        have hx3 := hx2.below hbq
        have l0 := hx3.at0
        have l1 := hx3.at1
        have l2 := hx3.at2
        have lx := hx3.1
        have p4 := p2.below hbq
        have p5 := p3.below hbq
        by_cases hql : q < xn + 40
        · obtain ⟨bL, uL, rfl, hbL, hcL, hmL⟩ := p5.get hql
          by_cases hqn : q < xn
          · obtain ⟨bA, uA, rfl, hbA, hcA, hmA⟩ := p4.get hqn
            have hd1 : decide (q < xn) = true := by simpa using hqn
            have hd2 : decide ((q : Int) < (xn : Int)) = true := by simp; omega
            go_wp2_with fail
            refine wp_region_ord (S := fun w' => w'.cell? ⟨wo.heap.size, 0, none⟩ = some (.slice (some ⟨bA, 0, none⟩) xn xc) ∧ w'.cell? ⟨wo.heap.size, 1, none⟩ = some (.slice (some ⟨bL, 0, none⟩) (xn + 40) xlc) ∧ w'.cell? ⟨wo.heap.size, 2, none⟩ = some (.int .i64 xk) ∧ w'.cell? ⟨bL, q, none⟩ = some uL ∧ w'.cell? ⟨bA, q, none⟩ = some uA)
              [(0, true), (1, true), (2, true), (3, true), (4, true), (5, true), (6, true), (7, false), (8, true), (9, true), (10, true), (11, true), (12, true), (13, true), (14, true), (15, true), (16, true), (17, true), (18, true), (19, true), (20, true), (21, true), (22, true), (23, false), (24, true), (25, true), (26, true)] default (by kernel_rfl) (by kernel_rfl) (by kernel_rfl) ⟨l0, l1, l2, hcL, hcA⟩ ?_
            simp only [getOrd, nth]
            repeat (first | (refine ordS (by rfl) ?_; simp only [Act.put, List.setIfInBounds_toArray, List.set_cons_zero, List.set_cons_succ]) | (refine ordN (by rfl) ?_; simp only [Act.put, List.setIfInBounds_toArray, List.set_cons_zero, List.set_cons_succ]) | (refine ordQ (v := ?_) (by rfl) (fun _ hSw => ?_) ?_; rotate_left; (focus ((have hS1 := hSw.1); (have hS2 := hSw.2.1); (have hS3 := hSw.2.2.1); (have hS4 := hSw.2.2.2.1); (have hS5 := hSw.2.2.2.2); clear hSw; go_simp; (first | done | with_reducible rfl))); simp only [Act.put, List.setIfInBounds_toArray, List.set_cons_zero, List.set_cons_succ]))
            refine ordD (by rfl) ?_
            intro K hK
            go_simp
            refine (is9Int xk s uL hkk _ (mksI.below hmL ((Below.refl _ wr).drew))).mono ?_
            rintro e wm ⟨rfl, hbm⟩
            have hbm : Below wr.heap.size wr wm := ((Below.refl _ wr).drew).trans hbm
            have m0 := (hbm.cell (p := ⟨wo.heap.size, 0, none⟩) lx).trans l0
            have m1 := (hbm.cell (p := ⟨wo.heap.size, 1, none⟩) lx).trans l1
            have m2 := (hbm.cell (p := ⟨wo.heap.size, 2, none⟩) lx).trans l2
            have m3 := (hbm.cell (p := ⟨bL, q, none⟩) hbL).trans hcL
            have m4 := (hbm.cell (p := ⟨bA, q, none⟩) hbA).trans hcA
            have hmA2 := mksI.below hmA hbm
            go_wp2_with fail
            refine hK _ _ ⟨m0, m1, m2, m3, m4⟩ ?_
            clear hK K
            try simp only [Act.put, List.setIfInBounds_toArray, List.set_cons_zero, List.set_cons_succ]
            repeat (first | (refine ordS (by rfl) ?_; simp only [Act.put, List.setIfInBounds_toArray, List.set_cons_zero, List.set_cons_succ]) | (refine ordN (by rfl) ?_; simp only [Act.put, List.setIfInBounds_toArray, List.set_cons_zero, List.set_cons_succ]) | (refine ordQ (v := ?_) (by rfl) (fun _ hSw => ?_) ?_; rotate_left; (focus ((have hS1 := hSw.1); (have hS2 := hSw.2.1); (have hS3 := hSw.2.2.1); (have hS4 := hSw.2.2.2.1); (have hS5 := hSw.2.2.2.2); clear hSw; go_simp; (first | done | with_reducible rfl))); simp only [Act.put, List.setIfInBounds_toArray, List.set_cons_zero, List.set_cons_succ]))
            refine ordD (by rfl) ?_
            intro K hK
            go_simp
            refine (is9Int xk s uA hkk _ hmA2).mono ?_
            rintro e wn ⟨rfl, hbn⟩
            have hbn : Below wm.heap.size wm wn := hbn
            have lx1 := Nat.lt_of_lt_of_le lx hbm.size
            have lL1 := Nat.lt_of_lt_of_le hbL hbm.size
            have lA1 := Nat.lt_of_lt_of_le hbA hbm.size
            have n0 := (hbn.cell (p := ⟨wo.heap.size, 0, none⟩) lx1).trans m0
            have n1 := (hbn.cell (p := ⟨wo.heap.size, 1, none⟩) lx1).trans m1
            have n2 := (hbn.cell (p := ⟨wo.heap.size, 2, none⟩) lx1).trans m2
            have n3 := (hbn.cell (p := ⟨bL, q, none⟩) lL1).trans m3
            have n4 := (hbn.cell (p := ⟨bA, q, none⟩) lA1).trans m4
            have hB3 : Below w2.heap.size w2 wn := (hbq.trans (hbm.mono hbq.size)).trans (hbn.mono (Nat.le_trans hbq.size hbm.size))
            go_wp2_with fail
            refine hK _ _ ⟨n0, n1, n2, n3, n4⟩ ?_
            clear hK K
            try simp only [Act.put, List.setIfInBounds_toArray, List.set_cons_zero, List.set_cons_succ]
            repeat (first | (refine ordS (by rfl) ?_; simp only [Act.put, List.setIfInBounds_toArray, List.set_cons_zero, List.set_cons_succ]) | (refine ordN (by rfl) ?_; simp only [Act.put, List.setIfInBounds_toArray, List.set_cons_zero, List.set_cons_succ]) | (refine ordQ (v := ?_) (by rfl) (fun _ hSw => ?_) ?_; rotate_left; (focus ((have hS1 := hSw.1); (have hS2 := hSw.2.1); (have hS3 := hSw.2.2.1); (have hS4 := hSw.2.2.2.1); (have hS5 := hSw.2.2.2.2); clear hSw; go_simp; (first | done | with_reducible rfl))); simp only [Act.put, List.setIfInBounds_toArray, List.set_cons_zero, List.set_cons_succ]))
            refine ordE ?_
            clear m0 m1 m2 m3 m4 n0 n1 n2 n3 n4 hmA hmL hmA2 hbm hbn
            go_wp2
            go_roundw
            case rel => exact ⟨q + 1, by omega, by go_num, hB3⟩
            case measure => simp [intOf]; omega
          · have hd1 : decide (q < xn) = false := by simpa using hqn
            have hd2 : decide ((q : Int) < (xn : Int)) = false := by simp; omega
            go_wp2_with fail
            refine wp_region_ord (S := fun w' => w'.cell? ⟨wo.heap.size, 0, none⟩ = some (.slice xA xn xc) ∧ w'.cell? ⟨wo.heap.size, 1, none⟩ = some (.slice (some ⟨bL, 0, none⟩) (xn + 40) xlc) ∧ w'.cell? ⟨wo.heap.size, 2, none⟩ = some (.int .i64 xk) ∧ w'.cell? ⟨bL, q, none⟩ = some uL)
              [(0, true), (1, true), (2, true), (3, true), (4, true), (5, true), (6, true), (7, false), (8, true), (9, true), (10, true), (11, true), (12, true), (13, true), (14, true), (15, true), (16, true), (17, true), (18, true), (19, true), (20, true), (21, true), (22, true), (23, false), (24, true), (25, true), (26, true)] default (by kernel_rfl) (by kernel_rfl) (by kernel_rfl) ⟨l0, l1, l2, hcL⟩ ?_
            simp only [getOrd, nth]
            repeat (first | (refine ordS (by rfl) ?_; simp only [Act.put, List.setIfInBounds_toArray, List.set_cons_zero, List.set_cons_succ]) | (refine ordN (by rfl) ?_; simp only [Act.put, List.setIfInBounds_toArray, List.set_cons_zero, List.set_cons_succ]) | (refine ordQ (v := ?_) (by rfl) (fun _ hSw => ?_) ?_; rotate_left; (focus ((have hS1 := hSw.1); (have hS2 := hSw.2.1); (have hS3 := hSw.2.2.1); (have hS4 := hSw.2.2.2); clear hSw; go_simp; (first | done | with_reducible rfl))); simp only [Act.put, List.setIfInBounds_toArray, List.set_cons_zero, List.set_cons_succ]))
            refine ordD (by rfl) ?_
            intro K hK
            go_simp
            refine (is9Int xk s uL hkk _ (mksI.below hmL ((Below.refl _ wr).drew))).mono ?_
            rintro e wm ⟨rfl, hbm⟩
            have hbm : Below wr.heap.size wr wm := ((Below.refl _ wr).drew).trans hbm
            have m0 := (hbm.cell (p := ⟨wo.heap.size, 0, none⟩) lx).trans l0
            have m1 := (hbm.cell (p := ⟨wo.heap.size, 1, none⟩) lx).trans l1
            have m2 := (hbm.cell (p := ⟨wo.heap.size, 2, none⟩) lx).trans l2
            have m3 := (hbm.cell (p := ⟨bL, q, none⟩) hbL).trans hcL
            have hB3 : Below w2.heap.size w2 wm := hbq.trans (hbm.mono hbq.size)
            go_wp2_with fail
            refine hK _ _ ⟨m0, m1, m2, m3⟩ ?_
            clear hK K
            try simp only [Act.put, List.setIfInBounds_toArray, List.set_cons_zero, List.set_cons_succ]
            repeat (first | (refine ordS (by rfl) ?_; simp only [Act.put, List.setIfInBounds_toArray, List.set_cons_zero, List.set_cons_succ]) | (refine ordN (by rfl) ?_; simp only [Act.put, List.setIfInBounds_toArray, List.set_cons_zero, List.set_cons_succ]) | (refine ordQ (v := ?_) (by rfl) (fun _ hSw => ?_) ?_; rotate_left; (focus ((have hS1 := hSw.1); (have hS2 := hSw.2.1); (have hS3 := hSw.2.2.1); (have hS4 := hSw.2.2.2); clear hSw; go_simp; (first | done | with_reducible rfl))); simp only [Act.put, List.setIfInBounds_toArray, List.set_cons_zero, List.set_cons_succ]))
            refine ordE ?_
            clear m0 m1 m2 m3 hmL hbm
            go_wp2
            go_roundw
            case rel => exact ⟨q + 1, by omega, by go_num, hB3⟩
            case measure => simp [intOf]; omega
        · obtain rfl : q = xn + 40 := by omega
          have hB3 : Below w.heap.size w wr := hb2.trans (hbq.mono hb2.size)
          go_wp2
          go_roundw
          case rel => exact ⟨j + 1, by omega, by go_num, hB3⟩
          case measure => simp [intOf]; omega
    · obtain rfl : j = hb.length := by omega
      go_wp2
      go_ret
      exact ⟨rfl, hbel⟩

set_option maxRecDepth 100000 in
set_option maxHeartbeats 2000000 in
theorem look9IntList (kb N B s : Nat) (T : Nat → Value) (H : Nat → List Hl) (w : World) (hk : Bkn 45 tHs w kb N T H)
    (hall : Looked mksL 22 w B s (H 4)) (hks : ∀ h ∈ H 4, h.k < 1000000000 ∧ h.n ≤ 1000000000) (hl : (H 4).length ≤ 1000000) :
    Calls Tryz.prog 55 #[.pointer (some ⟨kb, 0, none⟩)] w fun e w' => e = .returned (.bool true) ∧ Below w.heap.size w w' := by
  have hkbl := hk.lt
  obtain ⟨A0, c0, hv0, hl0, hl1⟩ := row_slice (hk.tab 4)
  obtain ⟨hb, hhb⟩ : ∃ hb, hb = H 4 := ⟨_, rfl⟩
  rw [← hhb] at hl0 hv0 hl hall hks
  have HB := Lib.hid hhb
  have HV := Lib.hid hv0
  clear hhb hv0
  unfold maxLen at hl1
  go_enter Tryz.func55, Tryz.ntmps55
  go_wp2_with fail
  go_loopw [3] (fun i wr => ∃ j : Nat, j ≤ hb.length ∧ i = .int .i64 j ∧ Below w.heap.size w wr) (fun i _ => hb.length - (intOf i).toNat)
  case atStart => exact ⟨0, Nat.zero_le _, rfl, Below.refl _ _⟩
  case round =>
    obtain ⟨j, hj, rfl, hbel⟩ := hrel
    obtain ⟨wo, rfl⟩ : ∃ wo, wo = wr := ⟨_, rfl⟩
    have hkr := hk.below hbel
    have hcv : wo.cell? ⟨kb, 4, none⟩ = some (.slice A0 hb.length c0) := (hkr.cell 4).trans (congrArg some HV.out)
    have hkrl := hkr.lt
    have htb := hkr.tab 4
    rw [HV.out, ← HB.out] at htb
    by_cases hlt2 : j < hb.length
    · obtain ⟨gt, ct, hv, hgt1, hgt2, _, _⟩ := row_form htb (by omega)
      cases hv
      have t0 := row_cell htb j 0 hlt2 (by omega)
      have t1 := row_cell htb j 1 hlt2 (by omega)
      have t2 := row_cell htb j 2 hlt2 (by omega)
      have hmem : hb[j] ∈ hb := List.getElem_mem _
      obtain ⟨p1, p2, p3⟩ := hall _ hmem
      obtain ⟨hkk, hnn⟩ := hks _ hmem
      clear hmem htb
      generalize hb[j] = x at t0 t1 t2 p1 hkk hnn p2 p3
      obtain ⟨xA, xn, xc, xL, xln, xlc, xk⟩ := x
      simp only [Hl.cells, List.getElem?_cons_zero, List.getElem?_cons_succ, Nat.add_zero] at t0 t1 t2 p1 hkk hnn p2 p3
      subst p1
      have p2 := (p2.below hbel).below ((Below.refl _ wo).alloc (Nat.le_refl _) (.cells #[.slice xA xn xc, .slice xL (xn + 40) xlc, .int .i64 xk] 88))
      have p3 := (p3.below hbel).below ((Below.refl _ wo).alloc (Nat.le_refl _) (.cells #[.slice xA xn xc, .slice xL (xn + 40) xlc, .int .i64 xk] 88))
      clear hall hks
      go_wp2_with fail
      have hx2 : Bx (wo.alloc (.cells #[.slice xA xn xc, .slice xL (xn + 40) xlc, .int .i64 xk] 88)) wo.heap.size [.slice xA xn xc, .slice xL (xn + 40) xlc, .int .i64 xk] := Bx.new wo _ _ _
      have hb2 : Below w.heap.size w (wo.alloc (.cells #[.slice xA xn xc, .slice xL (xn + 40) xlc, .int .i64 xk] 88)) := hbel.alloc hbel.size _
      generalize wo.alloc (.cells #[.slice xA xn xc, .slice xL (xn + 40) xlc, .int .i64 xk] 88) = w2 at *
      go_loopw [5] (fun i wr => ∃ q : Nat, q ≤ xn + 40 ∧ i = .int .i64 q ∧ Below w2.heap.size w2 wr) (fun i _ => xn + 40 - (intOf i).toNat)
      case atStart => exact ⟨0, Nat.zero_le _, rfl, Below.refl _ _⟩
      case round =>
        obtain ⟨q, hq, rfl, hbq⟩ := hrel
        have hx3 := hx2.below hbq
        have l0 := hx3.at0
        have l1 := hx3.at1
        have l2 := hx3.at2
        have lx := hx3.1
        have p4 := p2.below hbq
        have p5 := p3.below hbq
        by_cases hql : q < xn + 40
        · obtain ⟨bL, uL, rfl, hbL, hcL, hmL⟩ := p5.get hql
          by_cases hqn : q < xn
          · obtain ⟨bA, uA, rfl, hbA, hcA, hmA⟩ := p4.get hqn
            have hd1 : decide (q < xn) = true := by simpa using hqn
            have hd2 : decide ((q : Int) < (xn : Int)) = true := by simp; omega
            go_wp2_with fail
            refine wp_region_ord (S := fun w' => w'.cell? ⟨wo.heap.size, 0, none⟩ = some (.slice (some ⟨bA, 0, none⟩) xn xc) ∧ w'.cell? ⟨wo.heap.size, 1, none⟩ = some (.slice (some ⟨bL, 0, none⟩) (xn + 40) xlc) ∧ w'.cell? ⟨wo.heap.size, 2, none⟩ = some (.int .i64 xk) ∧ w'.cell? ⟨bL, q, none⟩ = some uL ∧ w'.cell? ⟨bA, q, none⟩ = some uA)
              [(0, true), (1, true), (2, true), (3, true), (4, true), (5, true), (6, true), (7, false), (8, true), (9, true), (10, true), (11, true), (12, true), (13, true), (14, true), (15, true), (16, true), (17, true), (18, true), (19, true), (20, true), (21, true), (22, true), (23, false), (24, true), (25, true), (26, true)] default (by kernel_rfl) (by kernel_rfl) (by kernel_rfl) ⟨l0, l1, l2, hcL, hcA⟩ ?_
            simp only [getOrd, nth]
            repeat (first | (refine ordS (by rfl) ?_; simp only [Act.put, List.setIfInBounds_toArray, List.set_cons_zero, List.set_cons_succ]) | (refine ordN (by rfl) ?_; simp only [Act.put, List.setIfInBounds_toArray, List.set_cons_zero, List.set_cons_succ]) | (refine ordQ (v := ?_) (by rfl) (fun _ hSw => ?_) ?_; rotate_left; (focus ((have hS1 := hSw.1); (have hS2 := hSw.2.1); (have hS3 := hSw.2.2.1); (have hS4 := hSw.2.2.2.1); (have hS5 := hSw.2.2.2.2); clear hSw; go_simp; (first | done | with_reducible rfl))); simp only [Act.put, List.setIfInBounds_toArray, List.set_cons_zero, List.set_cons_succ]))
            refine ordD (by rfl) ?_
            intro K hK
            go_simp
            refine (is9IntList xk s uL hkk _ (mksL.below hmL ((Below.refl _ wr).drew))).mono ?_
            rintro e wm ⟨rfl, hbm⟩
            have hbm : Below wr.heap.size wr wm := ((Below.refl _ wr).drew).trans hbm
            have m0 := (hbm.cell (p := ⟨wo.heap.size, 0, none⟩) lx).trans l0
            have m1 := (hbm.cell (p := ⟨wo.heap.size, 1, none⟩) lx).trans l1
            have m2 := (hbm.cell (p := ⟨wo.heap.size, 2, none⟩) lx).trans l2
            have m3 := (hbm.cell (p := ⟨bL, q, none⟩) hbL).trans hcL
            have m4 := (hbm.cell (p := ⟨bA, q, none⟩) hbA).trans hcA
            have hmA2 := mksL.below hmA hbm
            go_wp2_with fail
            refine hK _ _ ⟨m0, m1, m2, m3, m4⟩ ?_
            clear hK K
            try simp only [Act.put, List.setIfInBounds_toArray, List.set_cons_zero, List.set_cons_succ]
            repeat (first | (refine ordS (by rfl) ?_; simp only [Act.put, List.setIfInBounds_toArray, List.set_cons_zero, List.set_cons_succ]) | (refine ordN (by rfl) ?_; simp only [Act.put, List.setIfInBounds_toArray, List.set_cons_zero, List.set_cons_succ]) | (refine ordQ (v := ?_) (by rfl) (fun _ hSw => ?_) ?_; rotate_left; (focus ((have hS1 := hSw.1); (have hS2 := hSw.2.1); (have hS3 := hSw.2.2.1); (have hS4 := hSw.2.2.2.1); (have hS5 := hSw.2.2.2.2); clear hSw; go_simp; (first | done | with_reducible rfl))); simp only [Act.put, List.setIfInBounds_toArray, List.set_cons_zero, List.set_cons_succ]))
            refine ordD (by rfl) ?_
            intro K hK
            go_simp
            refine (is9IntList xk s uA hkk _ hmA2).mono ?_
            rintro e wn ⟨rfl, hbn⟩
            have hbn : Below wm.heap.size wm wn := hbn
            have lx1 := Nat.lt_of_lt_of_le lx hbm.size
            have lL1 := Nat.lt_of_lt_of_le hbL hbm.size
            have lA1 := Nat.lt_of_lt_of_le hbA hbm.size
            have n0 := (hbn.cell (p := ⟨wo.heap.size, 0, none⟩) lx1).trans m0
            have n1 := (hbn.cell (p := ⟨wo.heap.size, 1, none⟩) lx1).trans m1
            have n2 := (hbn.cell (p := ⟨wo.heap.size, 2, none⟩) lx1).trans m2
            have n3 := (hbn.cell (p := ⟨bL, q, none⟩) lL1).trans m3
            have n4 := (hbn.cell (p := ⟨bA, q, none⟩) lA1).trans m4
            have hB3 : Below w2.heap.size w2 wn := (hbq.trans (hbm.mono hbq.size)).trans (hbn.mono (Nat.le_trans hbq.size hbm.size))
            go_wp2_with fail
            refine hK _ _ ⟨n0, n1, n2, n3, n4⟩ ?_
            clear hK K
            try simp only [Act.put, List.setIfInBounds_toArray, List.set_cons_zero, List.set_cons_succ]
            repeat (first | (refine ordS (by rfl) ?_; simp only [Act.put, List.setIfInBounds_toArray, List.set_cons_zero, List.set_cons_succ]) | (refine ordN (by rfl) ?_; simp only [Act.put, List.setIfInBounds_toArray, List.set_cons_zero, List.set_cons_succ]) | (refine ordQ (v := ?_) (by rfl) (fun _ hSw => ?_) ?_; rotate_left; (focus ((have hS1 := hSw.1); (have hS2 := hSw.2.1); (have hS3 := hSw.2.2.1); (have hS4 := hSw.2.2.2.1); (have hS5 := hSw.2.2.2.2); clear hSw; go_simp; (first | done | with_reducible rfl))); simp only [Act.put, List.setIfInBounds_toArray, List.set_cons_zero, List.set_cons_succ]))
            refine ordE ?_
            clear m0 m1 m2 m3 m4 n0 n1 n2 n3 n4 hmA hmL hmA2 hbm hbn
            go_wp2
            go_roundw
            case rel => exact ⟨q + 1, by omega, by go_num, hB3⟩
            case measure => simp [intOf]; omega
          · have hd1 : decide (q < xn) = false := by simpa using hqn
            have hd2 : decide ((q : Int) < (xn : Int)) = false := by simp; omega
            go_wp2_with fail
            refine wp_region_ord (S := fun w' => w'.cell? ⟨wo.heap.size, 0, none⟩ = some (.slice xA xn xc) ∧ w'.cell? ⟨wo.heap.size, 1, none⟩ = some (.slice (some ⟨bL, 0, none⟩) (xn + 40) xlc) ∧ w'.cell? ⟨wo.heap.size, 2, none⟩ = some (.int .i64 xk) ∧ w'.cell? ⟨bL, q, none⟩ = some uL)
              [(0, true), (1, true), (2, true), (3, true), (4, true), (5, true), (6, true), (7, false), (8, true), (9, true), (10, true), (11, true), (12, true), (13, true), (14, true), (15, true), (16, true), (17, true), (18, true), (19, true), (20, true), (21, true), (22, true), (23, false), (24, true), (25, true), (26, true)] default (by kernel_rfl) (by kernel_rfl) (by kernel_rfl) ⟨l0, l1, l2, hcL⟩ ?_
            simp only [getOrd, nth]
            repeat (first | (refine ordS (by rfl) ?_; simp only [Act.put, List.setIfInBounds_toArray, List.set_cons_zero, List.set_cons_succ]) | (refine ordN (by rfl) ?_; simp only [Act.put, List.setIfInBounds_toArray, List.set_cons_zero, List.set_cons_succ]) | (refine ordQ (v := ?_) (by rfl) (fun _ hSw => ?_) ?_; rotate_left; (focus ((have hS1 := hSw.1); (have hS2 := hSw.2.1); (have hS3 := hSw.2.2.1); (have hS4 := hSw.2.2.2); clear hSw; go_simp; (first | done | with_reducible rfl))); simp only [Act.put, List.setIfInBounds_toArray, List.set_cons_zero, List.set_cons_succ]))
            refine ordD (by rfl) ?_
            intro K hK
            go_simp
            refine (is9IntList xk s uL hkk _ (mksL.below hmL ((Below.refl _ wr).drew))).mono ?_
            rintro e wm ⟨rfl, hbm⟩
            have hbm : Below wr.heap.size wr wm := ((Below.refl _ wr).drew).trans hbm
            have m0 := (hbm.cell (p := ⟨wo.heap.size, 0, none⟩) lx).trans l0
            have m1 := (hbm.cell (p := ⟨wo.heap.size, 1, none⟩) lx).trans l1
            have m2 := (hbm.cell (p := ⟨wo.heap.size, 2, none⟩) lx).trans l2
            have m3 := (hbm.cell (p := ⟨bL, q, none⟩) hbL).trans hcL
            have hB3 : Below w2.heap.size w2 wm := hbq.trans (hbm.mono hbq.size)
            go_wp2_with fail
            refine hK _ _ ⟨m0, m1, m2, m3⟩ ?_
            clear hK K
            try simp only [Act.put, List.setIfInBounds_toArray, List.set_cons_zero, List.set_cons_succ]
            repeat (first | (refine ordS (by rfl) ?_; simp only [Act.put, List.setIfInBounds_toArray, List.set_cons_zero, List.set_cons_succ]) | (refine ordN (by rfl) ?_; simp only [Act.put, List.setIfInBounds_toArray, List.set_cons_zero, List.set_cons_succ]) | (refine ordQ (v := ?_) (by rfl) (fun _ hSw => ?_) ?_; rotate_left; (focus ((have hS1 := hSw.1); (have hS2 := hSw.2.1); (have hS3 := hSw.2.2.1); (have hS4 := hSw.2.2.2); clear hSw; go_simp; (first | done | with_reducible rfl))); simp only [Act.put, List.setIfInBounds_toArray, List.set_cons_zero, List.set_cons_succ]))
            refine ordE ?_
            clear m0 m1 m2 m3 hmL hbm
            go_wp2
            go_roundw
            case rel => exact ⟨q + 1, by omega, by go_num, hB3⟩
            case measure => simp [intOf]; omega
        · obtain rfl : q = xn + 40 := by omega
          have hB3 : Below w.heap.size w wr := hb2.trans (hbq.mono hb2.size)
          go_wp2
          go_roundw
          case rel => exact ⟨j + 1, by omega, by go_num, hB3⟩
          case measure => simp [intOf]; omega
    · obtain rfl : j = hb.length := by omega
      go_wp2
      go_ret
      exact ⟨rfl, hbel⟩

end Go.Proofs.YtdckoaljcklmhaaGreatDoor


namespace Go.Proofs.YtdckoaljcklmhaaGreatDoor
open Go.RowKit
set_option linter.unusedVariables false

set_option maxRecDepth 100000 in
theorem fillNoneText (kb : Nat) (w : World) (hc : w.cell? ⟨kb, 3, none⟩ = some (.slice none 0 0)) : Calls Tryz.prog 36 #[.pointer (some ⟨kb, 0, none⟩)] w fun e w' => e = .returned (.tuple #[]) ∧ w = w' := by
  go_enter Tryz.func36, Tryz.ntmps36
  go_wp2_with fail
  go_loop [2] (fun i => i = .int .i64 0) (fun _ => 0)
  case atStart => rfl
  case round =>
    subst hrel
    go_wp2
    go_end0
    exact ⟨rfl, rfl⟩
set_option maxRecDepth 100000 in
theorem growNoneText (kb : Nat) (w : World) (hc : w.cell? ⟨kb, 3, none⟩ = some (.slice none 0 0)) : Calls Tryz.prog 45 #[.pointer (some ⟨kb, 0, none⟩)] w fun e w' => e = .returned (.tuple #[]) ∧ w = w' := by
  go_enter Tryz.func45, Tryz.ntmps45
  go_wp2_with fail
  go_loop [2] (fun i => i = .int .i64 0) (fun _ => 0)
  case atStart => rfl
  case round =>
    subst hrel
    go_wp2
    go_end0
    exact ⟨rfl, rfl⟩
set_option maxRecDepth 100000 in
theorem lookNoneText (kb : Nat) (w : World) (hc : w.cell? ⟨kb, 3, none⟩ = some (.slice none 0 0)) : Calls Tryz.prog 54 #[.pointer (some ⟨kb, 0, none⟩)] w fun e w' => e = .returned (.bool true) ∧ w = w' := by
  go_enter Tryz.func54, Tryz.ntmps54
  go_wp2_with fail
  go_loop [3] (fun i => i = .int .i64 0) (fun _ => 0)
  case atStart => rfl
  case round =>
    subst hrel
    go_wp2
    go_ret
    exact ⟨rfl, rfl⟩
set_option maxRecDepth 100000 in
theorem fillNoneByteList (kb : Nat) (w : World) (hc : w.cell? ⟨kb, 5, none⟩ = some (.slice none 0 0)) : Calls Tryz.prog 38 #[.pointer (some ⟨kb, 0, none⟩)] w fun e w' => e = .returned (.tuple #[]) ∧ w = w' := by
  go_enter Tryz.func38, Tryz.ntmps38
  go_wp2_with fail
  go_loop [2] (fun i => i = .int .i64 0) (fun _ => 0)
  case atStart => rfl
  case round =>
    subst hrel
    go_wp2
    go_end0
    exact ⟨rfl, rfl⟩
set_option maxRecDepth 100000 in
theorem growNoneByteList (kb : Nat) (w : World) (hc : w.cell? ⟨kb, 5, none⟩ = some (.slice none 0 0)) : Calls Tryz.prog 47 #[.pointer (some ⟨kb, 0, none⟩)] w fun e w' => e = .returned (.tuple #[]) ∧ w = w' := by
  go_enter Tryz.func47, Tryz.ntmps47
  go_wp2_with fail
  go_loop [2] (fun i => i = .int .i64 0) (fun _ => 0)
  case atStart => rfl
  case round =>
    subst hrel
    go_wp2
    go_end0
    exact ⟨rfl, rfl⟩
set_option maxRecDepth 100000 in
theorem lookNoneByteList (kb : Nat) (w : World) (hc : w.cell? ⟨kb, 5, none⟩ = some (.slice none 0 0)) : Calls Tryz.prog 56 #[.pointer (some ⟨kb, 0, none⟩)] w fun e w' => e = .returned (.bool true) ∧ w = w' := by
  go_enter Tryz.func56, Tryz.ntmps56
  go_wp2_with fail
  go_loop [3] (fun i => i = .int .i64 0) (fun _ => 0)
  case atStart => rfl
  case round =>
    subst hrel
    go_wp2
    go_ret
    exact ⟨rfl, rfl⟩
set_option maxRecDepth 100000 in
theorem fillNoneWhy (kb : Nat) (w : World) (hc : w.cell? ⟨kb, 6, none⟩ = some (.slice none 0 0)) : Calls Tryz.prog 39 #[.pointer (some ⟨kb, 0, none⟩)] w fun e w' => e = .returned (.tuple #[]) ∧ w = w' := by
  go_enter Tryz.func39, Tryz.ntmps39
  go_wp2_with fail
  go_loop [2] (fun i => i = .int .i64 0) (fun _ => 0)
  case atStart => rfl
  case round =>
    subst hrel
    go_wp2
    go_end0
    exact ⟨rfl, rfl⟩
set_option maxRecDepth 100000 in
theorem growNoneWhy (kb : Nat) (w : World) (hc : w.cell? ⟨kb, 6, none⟩ = some (.slice none 0 0)) : Calls Tryz.prog 48 #[.pointer (some ⟨kb, 0, none⟩)] w fun e w' => e = .returned (.tuple #[]) ∧ w = w' := by
  go_enter Tryz.func48, Tryz.ntmps48
  go_wp2_with fail
  go_loop [2] (fun i => i = .int .i64 0) (fun _ => 0)
  case atStart => rfl
  case round =>
    subst hrel
    go_wp2
    go_end0
    exact ⟨rfl, rfl⟩
set_option maxRecDepth 100000 in
theorem lookNoneWhy (kb : Nat) (w : World) (hc : w.cell? ⟨kb, 6, none⟩ = some (.slice none 0 0)) : Calls Tryz.prog 57 #[.pointer (some ⟨kb, 0, none⟩)] w fun e w' => e = .returned (.bool true) ∧ w = w' := by
  go_enter Tryz.func57, Tryz.ntmps57
  go_wp2_with fail
  go_loop [3] (fun i => i = .int .i64 0) (fun _ => 0)
  case atStart => rfl
  case round =>
    subst hrel
    go_wp2
    go_ret
    exact ⟨rfl, rfl⟩
set_option maxRecDepth 100000 in
theorem fillNoneFrame (kb : Nat) (w : World) (hc : w.cell? ⟨kb, 7, none⟩ = some (.slice none 0 0)) : Calls Tryz.prog 40 #[.pointer (some ⟨kb, 0, none⟩)] w fun e w' => e = .returned (.tuple #[]) ∧ w = w' := by
  go_enter Tryz.func40, Tryz.ntmps40
  go_wp2_with fail
  go_loop [2] (fun i => i = .int .i64 0) (fun _ => 0)
  case atStart => rfl
  case round =>
    subst hrel
    go_wp2
    go_end0
    exact ⟨rfl, rfl⟩
set_option maxRecDepth 100000 in
theorem growNoneFrame (kb : Nat) (w : World) (hc : w.cell? ⟨kb, 7, none⟩ = some (.slice none 0 0)) : Calls Tryz.prog 49 #[.pointer (some ⟨kb, 0, none⟩)] w fun e w' => e = .returned (.tuple #[]) ∧ w = w' := by
  go_enter Tryz.func49, Tryz.ntmps49
  go_wp2_with fail
  go_loop [2] (fun i => i = .int .i64 0) (fun _ => 0)
  case atStart => rfl
  case round =>
    subst hrel
    go_wp2
    go_end0
    exact ⟨rfl, rfl⟩
set_option maxRecDepth 100000 in
theorem lookNoneFrame (kb : Nat) (w : World) (hc : w.cell? ⟨kb, 7, none⟩ = some (.slice none 0 0)) : Calls Tryz.prog 58 #[.pointer (some ⟨kb, 0, none⟩)] w fun e w' => e = .returned (.bool true) ∧ w = w' := by
  go_enter Tryz.func58, Tryz.ntmps58
  go_wp2_with fail
  go_loop [3] (fun i => i = .int .i64 0) (fun _ => 0)
  case atStart => rfl
  case round =>
    subst hrel
    go_wp2
    go_ret
    exact ⟨rfl, rfl⟩
set_option maxRecDepth 100000 in
theorem fillNoneReply (kb : Nat) (w : World) (hc : w.cell? ⟨kb, 8, none⟩ = some (.slice none 0 0)) : Calls Tryz.prog 41 #[.pointer (some ⟨kb, 0, none⟩)] w fun e w' => e = .returned (.tuple #[]) ∧ w = w' := by
  go_enter Tryz.func41, Tryz.ntmps41
  go_wp2_with fail
  go_loop [2] (fun i => i = .int .i64 0) (fun _ => 0)
  case atStart => rfl
  case round =>
    subst hrel
    go_wp2
    go_end0
    exact ⟨rfl, rfl⟩
set_option maxRecDepth 100000 in
theorem growNoneReply (kb : Nat) (w : World) (hc : w.cell? ⟨kb, 8, none⟩ = some (.slice none 0 0)) : Calls Tryz.prog 50 #[.pointer (some ⟨kb, 0, none⟩)] w fun e w' => e = .returned (.tuple #[]) ∧ w = w' := by
  go_enter Tryz.func50, Tryz.ntmps50
  go_wp2_with fail
  go_loop [2] (fun i => i = .int .i64 0) (fun _ => 0)
  case atStart => rfl
  case round =>
    subst hrel
    go_wp2
    go_end0
    exact ⟨rfl, rfl⟩
set_option maxRecDepth 100000 in
theorem lookNoneReply (kb : Nat) (w : World) (hc : w.cell? ⟨kb, 8, none⟩ = some (.slice none 0 0)) : Calls Tryz.prog 59 #[.pointer (some ⟨kb, 0, none⟩)] w fun e w' => e = .returned (.bool true) ∧ w = w' := by
  go_enter Tryz.func59, Tryz.ntmps59
  go_wp2_with fail
  go_loop [3] (fun i => i = .int .i64 0) (fun _ => 0)
  case atStart => rfl
  case round =>
    subst hrel
    go_wp2
    go_ret
    exact ⟨rfl, rfl⟩
set_option maxRecDepth 100000 in
theorem fillNoneRecord (kb : Nat) (w : World) (hc : w.cell? ⟨kb, 9, none⟩ = some (.slice none 0 0)) : Calls Tryz.prog 42 #[.pointer (some ⟨kb, 0, none⟩)] w fun e w' => e = .returned (.tuple #[]) ∧ w = w' := by
  go_enter Tryz.func42, Tryz.ntmps42
  go_wp2_with fail
  go_loop [2] (fun i => i = .int .i64 0) (fun _ => 0)
  case atStart => rfl
  case round =>
    subst hrel
    go_wp2
    go_end0
    exact ⟨rfl, rfl⟩
set_option maxRecDepth 100000 in
theorem growNoneRecord (kb : Nat) (w : World) (hc : w.cell? ⟨kb, 9, none⟩ = some (.slice none 0 0)) : Calls Tryz.prog 51 #[.pointer (some ⟨kb, 0, none⟩)] w fun e w' => e = .returned (.tuple #[]) ∧ w = w' := by
  go_enter Tryz.func51, Tryz.ntmps51
  go_wp2_with fail
  go_loop [2] (fun i => i = .int .i64 0) (fun _ => 0)
  case atStart => rfl
  case round =>
    subst hrel
    go_wp2
    go_end0
    exact ⟨rfl, rfl⟩
set_option maxRecDepth 100000 in
theorem lookNoneRecord (kb : Nat) (w : World) (hc : w.cell? ⟨kb, 9, none⟩ = some (.slice none 0 0)) : Calls Tryz.prog 60 #[.pointer (some ⟨kb, 0, none⟩)] w fun e w' => e = .returned (.bool true) ∧ w = w' := by
  go_enter Tryz.func60, Tryz.ntmps60
  go_wp2_with fail
  go_loop [3] (fun i => i = .int .i64 0) (fun _ => 0)
  case atStart => rfl
  case round =>
    subst hrel
    go_wp2
    go_ret
    exact ⟨rfl, rfl⟩

/-- Lists of one kind share no block with those of another one. -/
def Cross (a b : List Hl) : Prop := ∀ h ∈ a, ∀ g, Hit h g → ¬ Hits b g
theorem Cross.of {a b : List Hl} (h : ∀ x ∈ a, ∀ y ∈ b, ∀ g, Hit x g → ¬ Hit y g) : Cross a b := fun x hx g hg ⟨y, hy, hg2⟩ => h x hx y hy g hg hg2
theorem Cross.symm {a b : List Hl} (h : Cross a b) : Cross b a := fun y hy g hg ⟨x, hx, hg2⟩ => h x hx g hg2 ⟨y, hy, hg⟩

set_option maxRecDepth 100000 in
set_option maxHeartbeats 4000000 in
theorem apart9 (kb N B : Nat) (T : Nat → Value) (H : Nat → List Hl) (w : World) (hk : Bkn 45 tHs w kb N T H)
    (hT : ∀ j, j = 3 ∨ 5 ≤ j → T j = .slice none 0 0)
    (o1 : ∀ h ∈ H 1, ∃ xs, Own w B 5 h.A h.n h.c xs) (o2 : ∀ h ∈ H 2, ∃ xs, Own w B 3 h.A h.n h.c xs) (o4 : ∀ h ∈ H 4, ∃ xs, Own w B 22 h.A h.n h.c xs)
    (hlt : ∀ j, ∀ h ∈ H j, ∀ g, Hit h g → OffLN kb T w.heap.size g) (hsep : ∀ j, Sep (H j)) (c12 : Cross (H 1) (H 2)) (c14 : Cross (H 1) (H 4)) (c24 : Cross (H 2) (H 4))
    (hks : ∀ j, ∀ h ∈ H j, h.k < 1000000000 ∧ h.n ≤ 1000000000) (hln : ∀ j, (H j).length ≤ 1000000) (hBk : B ≤ kb) :
    Calls Tryz.prog 17 #[.pointer (some ⟨kb, 0, none⟩)] w fun e w' => e = .returned (.bool true) ∧ Below B w w' := by
  have hBw : B ≤ w.heap.size := Nat.le_trans hBk (Nat.le_of_lt hk.lt)
  obtain ⟨s, hs⟩ : ∃ s, s = w.heap.size := ⟨_, rfl⟩
  have hts : ∀ j g, (T j).ownBlock = some g → g < s := fun j g hg => by rw [hs]; exact (hk.tlt j g hg).2
  rw [← hs] at hlt
  have hsw : s ≤ w.heap.size := Nat.le_of_eq hs
  clear hs
  have hoff : ∀ j b, Hits (H j) b → OffN kb T b := fun j b ⟨h, hm, hg⟩ => (hlt j h hm b hg).2
  have hss : ∀ j b, Hits (H j) b → b < s := fun j b ⟨h, hm, hg⟩ => (hlt j h hm b hg).1
  have h3 : T 3 = .slice none 0 0 := hT 3 (by omega)
  have h5 : T 5 = .slice none 0 0 := hT 5 (by omega)
  have h6 : T 6 = .slice none 0 0 := hT 6 (by omega)
  have h7 : T 7 = .slice none 0 0 := hT 7 (by omega)
  have h8 : T 8 = .slice none 0 0 := hT 8 (by omega)
  have h9 : T 9 = .slice none 0 0 := hT 9 (by omega)
  clear hT
  go_enter Tryz.func17, Tryz.ntmps17
  go_wp2_with fail
  refine (fill9Byte kb N B s T H w hk o1 (hlt 1) (hsep 1) (fun h hm => (hks 1 h hm).1) (fun h hm => (hks 1 h hm).2) (hln 1) hBk hsw).mono ?_
  rintro e w1 ⟨rfl, f1, b1, p1⟩
  have hk1 := hk.fr f1 (hoff 1)
  have z1 : s ≤ w1.heap.size := Nat.le_trans hsw f1.1
  have o21 : ∀ h ∈ H 2, ∃ xs, Own w1 B 3 h.A h.n h.c xs := fun h hm => by
    obtain ⟨xs, hx⟩ := o2 h hm
    exact ⟨xs, hx.fr f1 fun g hc hA hx => c12.symm h hm g ⟨hc, hA⟩ hx⟩
  clear o2
  have o41 : ∀ h ∈ H 4, ∃ xs, Own w1 B 22 h.A h.n h.c xs := fun h hm => by
    obtain ⟨xs, hx⟩ := o4 h hm
    exact ⟨xs, hx.fr f1 fun g hc hA hx => c14.symm h hm g ⟨hc, hA⟩ hx⟩
  clear o4
  clear o1 hk f1
  have B1 : Below B w w1 := b1
  go_wp2_with fail
  refine (fill9Int kb N B s T H w1 hk1 o21 (hlt 2) (hsep 2) (fun h hm => (hks 2 h hm).1) (fun h hm => (hks 2 h hm).2) (hln 2) hBk z1).mono ?_
  rintro e w2 ⟨rfl, f2, b2, p2⟩
  have hk2 := hk1.fr f2 (hoff 2)
  have z2 : s ≤ w2.heap.size := Nat.le_trans z1 f2.1
  have p12 : ∀ h ∈ H 1, OwnM mksB w2 B 5 s h.A h.n h.c h.k := fun h hm => (p1 h hm).fr f2 (fun g hc hA hx => c12 h hm g ⟨hc, hA⟩ hx) (fun g hg hx => by have := hss 2 g hx; omega)
  clear p1
  have o412 : ∀ h ∈ H 4, ∃ xs, Own w2 B 22 h.A h.n h.c xs := fun h hm => by
    obtain ⟨xs, hx⟩ := o41 h hm
    exact ⟨xs, hx.fr f2 fun g hc hA hx => c24.symm h hm g ⟨hc, hA⟩ hx⟩
  clear o41
  clear o21 hk1 f2
  have B2 := B1.trans b2
  clear B1
  go_wp2_with fail
  refine (fillNoneText kb w2 ((hk2.cell 3).trans (congrArg some h3))).mono ?_
  rintro e wm ⟨rfl, rfl⟩
  go_wp2_with fail
  refine (fill9IntList kb N B s T H w2 hk2 o412 (hlt 4) (hsep 4) (fun h hm => (hks 4 h hm).1) (fun h hm => (hks 4 h hm).2) (hln 4) hBk z2).mono ?_
  rintro e w3 ⟨rfl, f3, b3, p4⟩
  have hk3 := hk2.fr f3 (hoff 4)
  have z3 : s ≤ w3.heap.size := Nat.le_trans z2 f3.1
  have p123 : ∀ h ∈ H 1, OwnM mksB w3 B 5 s h.A h.n h.c h.k := fun h hm => (p12 h hm).fr f3 (fun g hc hA hx => c14 h hm g ⟨hc, hA⟩ hx) (fun g hg hx => by have := hss 4 g hx; omega)
  clear p12
  have p23 : ∀ h ∈ H 2, OwnM mksI w3 B 3 s h.A h.n h.c h.k := fun h hm => (p2 h hm).fr f3 (fun g hc hA hx => c24 h hm g ⟨hc, hA⟩ hx) (fun g hg hx => by have := hss 4 g hx; omega)
  clear p2
  clear o412 hk2 f3
  have B3 := B2.trans b3
  clear B2
  go_wp2_with fail
  refine (fillNoneByteList kb w3 ((hk3.cell 5).trans (congrArg some h5))).mono ?_
  rintro e wm ⟨rfl, rfl⟩
  go_wp2_with fail
  refine (fillNoneWhy kb w3 ((hk3.cell 6).trans (congrArg some h6))).mono ?_
  rintro e wm ⟨rfl, rfl⟩
  go_wp2_with fail
  refine (fillNoneFrame kb w3 ((hk3.cell 7).trans (congrArg some h7))).mono ?_
  rintro e wm ⟨rfl, rfl⟩
  go_wp2_with fail
  refine (fillNoneReply kb w3 ((hk3.cell 8).trans (congrArg some h8))).mono ?_
  rintro e wm ⟨rfl, rfl⟩
  go_wp2_with fail
  refine (fillNoneRecord kb w3 ((hk3.cell 9).trans (congrArg some h9))).mono ?_
  rintro e wm ⟨rfl, rfl⟩
  go_wp2_with fail
  refine (grow9Byte kb N B s T H w3 hk3 p123 (hlt 1) hts (hsep 1) (fun h hm => (hks 1 h hm).1) (fun h hm => (hks 1 h hm).2) (hln 1) hBk z3).mono ?_
  rintro e w4 ⟨rfl, l1, hk4, f4, b4, a1⟩
  have z4 : s ≤ w4.heap.size := Nat.le_trans z3 f4.1
  have f4' : Fr (fun b => Hits (H 1) b ∨ (T 1).ownBlock = some b) w3 w4 := f4
  have a1' : AllGrownM mksB 5 w4 B s w3.heap.size (H 1) l1 := a1
  clear p123 hk3 f4 a1
  have p234 : ∀ h ∈ H 2, OwnM mksI w4 B 3 s h.A h.n h.c h.k := fun h hm => (p23 h hm).fr f4' (fun g hc hA hx => by
    rcases hx with hx | hx
    · exact c12.symm h hm g ⟨hc, hA⟩ hx
    · exact (hlt 2 h hm g ⟨hc, hA⟩).2.2 1 hx) (fun g hg hx => by
    rcases hx with hx | hx
    · have := hss 1 g hx; omega
    · have := hts 1 g hx; omega)
  clear p23
  have p44 : ∀ h ∈ H 4, OwnM mksL w4 B 22 s h.A h.n h.c h.k := fun h hm => (p4 h hm).fr f4' (fun g hc hA hx => by
    rcases hx with hx | hx
    · exact c14.symm h hm g ⟨hc, hA⟩ hx
    · exact (hlt 4 h hm g ⟨hc, hA⟩).2.2 1 hx) (fun g hg hx => by
    rcases hx with hx | hx
    · have := hss 1 g hx; omega
    · have := hts 1 g hx; omega)
  clear p4
  have B4 := B3.trans b4
  clear B3 f4'
  go_wp2_with fail
  refine (grow9Int kb N B s T (upd H 1 l1) w4 hk4 p234 (hlt 2) hts (hsep 2) (fun h hm => (hks 2 h hm).1) (fun h hm => (hks 2 h hm).2) (hln 2) hBk z4).mono ?_
  rintro e w5 ⟨rfl, l2, hk5, f5, b5, a2⟩
  have z5 : s ≤ w5.heap.size := Nat.le_trans z4 f5.1
  have f5' : Fr (fun b => Hits (H 2) b ∨ (T 2).ownBlock = some b) w4 w5 := f5
  have a2' : AllGrownM mksI 3 w5 B s w4.heap.size (H 2) l2 := a2
  clear p234 hk4 f5 a2
  have a1'5 := a1'.fr f5' (fun h hm g hg hx => by
    rcases hx with hx | hx
    · exact c12 h hm g hg hx
    · exact (hlt 1 h hm g hg).2.2 2 hx) (fun g hg hx => by
    rcases hx with hx | hx
    · have := hss 2 g hx; omega
    · have := hts 2 g hx; omega) (fun g hg hx => by
    rcases hx with hx | hx
    · have := hss 2 g hx; omega
    · have := hts 2 g hx; omega)
  clear a1'
  have p445 : ∀ h ∈ H 4, OwnM mksL w5 B 22 s h.A h.n h.c h.k := fun h hm => (p44 h hm).fr f5' (fun g hc hA hx => by
    rcases hx with hx | hx
    · exact c24.symm h hm g ⟨hc, hA⟩ hx
    · exact (hlt 4 h hm g ⟨hc, hA⟩).2.2 2 hx) (fun g hg hx => by
    rcases hx with hx | hx
    · have := hss 2 g hx; omega
    · have := hts 2 g hx; omega)
  clear p44
  have B5 := B4.trans b5
  clear B4 f5'
  go_wp2_with fail
  refine (growNoneText kb w5 ((hk5.cell 3).trans (congrArg some h3))).mono ?_
  rintro e wm ⟨rfl, rfl⟩
  go_wp2_with fail
  refine (grow9IntList kb N B s T (upd (upd H 1 l1) 2 l2) w5 hk5 p445 (hlt 4) hts (hsep 4) (fun h hm => (hks 4 h hm).1) (fun h hm => (hks 4 h hm).2) (hln 4) hBk z5).mono ?_
  rintro e w6 ⟨rfl, l4, hk6, f6, b6, a4⟩
  have z6 : s ≤ w6.heap.size := Nat.le_trans z5 f6.1
  have f6' : Fr (fun b => Hits (H 4) b ∨ (T 4).ownBlock = some b) w5 w6 := f6
  have a4' : AllGrownM mksL 22 w6 B s w5.heap.size (H 4) l4 := a4
  clear p445 hk5 f6 a4
  have a1'56 := a1'5.fr f6' (fun h hm g hg hx => by
    rcases hx with hx | hx
    · exact c14 h hm g hg hx
    · exact (hlt 1 h hm g hg).2.2 4 hx) (fun g hg hx => by
    rcases hx with hx | hx
    · have := hss 4 g hx; omega
    · have := hts 4 g hx; omega) (fun g hg hx => by
    rcases hx with hx | hx
    · have := hss 4 g hx; omega
    · have := hts 4 g hx; omega)
  clear a1'5
  have a2'6 := a2'.fr f6' (fun h hm g hg hx => by
    rcases hx with hx | hx
    · exact c24 h hm g hg hx
    · exact (hlt 2 h hm g hg).2.2 4 hx) (fun g hg hx => by
    rcases hx with hx | hx
    · have := hss 4 g hx; omega
    · have := hts 4 g hx; omega) (fun g hg hx => by
    rcases hx with hx | hx
    · have := hss 4 g hx; omega
    · have := hts 4 g hx; omega)
  clear a2'
  have B6 := B5.trans b6
  clear B5 f6'
  go_wp2_with fail
  refine (growNoneByteList kb w6 ((hk6.cell 5).trans (congrArg some h5))).mono ?_
  rintro e wm ⟨rfl, rfl⟩
  go_wp2_with fail
  refine (growNoneWhy kb w6 ((hk6.cell 6).trans (congrArg some h6))).mono ?_
  rintro e wm ⟨rfl, rfl⟩
  go_wp2_with fail
  refine (growNoneFrame kb w6 ((hk6.cell 7).trans (congrArg some h7))).mono ?_
  rintro e wm ⟨rfl, rfl⟩
  go_wp2_with fail
  refine (growNoneReply kb w6 ((hk6.cell 8).trans (congrArg some h8))).mono ?_
  rintro e wm ⟨rfl, rfl⟩
  go_wp2_with fail
  refine (growNoneRecord kb w6 ((hk6.cell 9).trans (congrArg some h9))).mono ?_
  rintro e wm ⟨rfl, rfl⟩
  have L1 : Looked mksB 5 w6 B s l1 := a1'56.look
  have K1 : ∀ h ∈ l1, h.k < 1000000000 ∧ h.n ≤ 1000000000 := a1'56.same (fun k n => k < 1000000000 ∧ n ≤ 1000000000) (hks 1)
  have N1 : l1.length ≤ 1000000 := by rw [a1'56.1]; exact hln 1
  clear a1'56
  have L2 : Looked mksI 3 w6 B s l2 := a2'6.look
  have K2 : ∀ h ∈ l2, h.k < 1000000000 ∧ h.n ≤ 1000000000 := a2'6.same (fun k n => k < 1000000000 ∧ n ≤ 1000000000) (hks 2)
  have N2 : l2.length ≤ 1000000 := by rw [a2'6.1]; exact hln 2
  clear a2'6
  have L4 : Looked mksL 22 w6 B s l4 := a4'.look
  have K4 : ∀ h ∈ l4, h.k < 1000000000 ∧ h.n ≤ 1000000000 := a4'.same (fun k n => k < 1000000000 ∧ n ≤ 1000000000) (hks 4)
  have N4 : l4.length ≤ 1000000 := by rw [a4'.1]; exact hln 4
  clear a4'
  clear hlt hsep c12 c14 c24 hks hln hoff hss hts
  go_wp2_with fail
  refine (look9Byte kb N B s T (upd (upd (upd H 1 l1) 2 l2) 4 l4) w6 hk6 L1 K1 N1).mono ?_
  rintro e w7 ⟨rfl, b7⟩
  have hk7 := hk6.below b7
  have B7 := B6.trans (b7.mono (Nat.le_trans hBw B6.size))
  replace L2 := L2.below b7
  replace L4 := L4.below b7
  clear hk6 B6 b7
  go_wp2_with fail
  refine (look9Int kb N B s T (upd (upd (upd H 1 l1) 2 l2) 4 l4) w7 hk7 L2 K2 N2).mono ?_
  rintro e w8 ⟨rfl, b8⟩
  have hk8 := hk7.below b8
  have B8 := B7.trans (b8.mono (Nat.le_trans hBw B7.size))
  replace L4 := L4.below b8
  clear hk7 B7 b8
  go_wp2_with fail
  refine (lookNoneText kb w8 ((hk8.cell 3).trans (congrArg some h3))).mono ?_
  rintro e wm ⟨rfl, rfl⟩
  go_wp2_with fail
  refine (look9IntList kb N B s T (upd (upd (upd H 1 l1) 2 l2) 4 l4) w8 hk8 L4 K4 N4).mono ?_
  rintro e w9 ⟨rfl, b9⟩
  have hk9 := hk8.below b9
  have B9 := B8.trans (b9.mono (Nat.le_trans hBw B8.size))
  clear hk8 B8 b9
  go_wp2_with fail
  refine (lookNoneByteList kb w9 ((hk9.cell 5).trans (congrArg some h5))).mono ?_
  rintro e wm ⟨rfl, rfl⟩
  go_wp2_with fail
  refine (lookNoneWhy kb w9 ((hk9.cell 6).trans (congrArg some h6))).mono ?_
  rintro e wm ⟨rfl, rfl⟩
  go_wp2_with fail
  refine (lookNoneFrame kb w9 ((hk9.cell 7).trans (congrArg some h7))).mono ?_
  rintro e wm ⟨rfl, rfl⟩
  go_wp2_with fail
  refine (lookNoneReply kb w9 ((hk9.cell 8).trans (congrArg some h8))).mono ?_
  rintro e wm ⟨rfl, rfl⟩
  go_wp2_with fail
  refine (lookNoneRecord kb w9 ((hk9.cell 9).trans (congrArg some h9))).mono ?_
  rintro e wm ⟨rfl, rfl⟩
  go_wp2
  go_ret
  exact ⟨rfl, B9⟩
end Go.Proofs.YtdckoaljcklmhaaGreatDoor


namespace Go.Proofs.YtdckoaljcklmhaaGreatDoor
open Go.RowKit
set_option linter.unusedVariables false

/-- A list, as it is held, with its number. -/
def Ls.held (u : Ls) (k : Nat) : Hl := ⟨u.A, u.n, u.c, none, 0, 0, k⟩
/-- Lists, as they are held one behind the other, from number N + 1 on. -/
def told : Nat → List Ls → List Hl
  | _, [] => []
  | N, u :: r => u.held (N + 1) :: told (N + 1) r
theorem told_snoc (N : Nat) (l : List Ls) (u : Ls) : told N (l ++ [u]) = told N l ++ [u.held (N + l.length + 1)] := by
  induction l generalizing N with
  | nil => rfl
  | cons x l ih => rw [List.cons_append, told, told, ih, List.cons_append, List.length_cons, show N + 1 + l.length + 1 = N + (l.length + 1) + 1 by omega]
theorem told_len (N : Nat) (l : List Ls) : (told N l).length = l.length := by
  induction l generalizing N with
  | nil => rfl
  | cons x l ih => rw [told, List.length_cons, ih, List.length_cons]
theorem told_mem {N : Nat} {l : List Ls} {h : Hl} (hm : h ∈ told N l) : ∃ u ∈ l, ∃ k, k ≤ N + l.length ∧ h = u.held k := by
  induction l generalizing N with
  | nil => simp [told] at hm
  | cons x l ih =>
    rw [told, List.mem_cons] at hm
    rcases hm with rfl | hm
    · exact ⟨x, by simp, N + 1, by simp, rfl⟩
    · obtain ⟨u, hu, k, hk, e⟩ := ih hm
      exact ⟨u, by simp [hu], k, by rw [List.length_cons]; omega, e⟩
/-- The tables are those of T, but for those of ints and of lists. -/
def SameT (T T' : Nat → Value) : Prop := ∀ j, j ≠ 1 → j ≠ 2 → j ≠ 4 → T' j = T j
theorem SameT.refl (T : Nat → Value) : SameT T T := fun _ _ _ _ => rfl
theorem SameT.trans {T T' T'' : Nat → Value} (h : SameT T T') (h2 : SameT T' T'') : SameT T T'' := fun j a b c => (h2 j a b c).trans (h j a b c)
theorem SameT.upd (T : Nat → Value) {j : Nat} (v : Value) (hj : j = 1 ∨ j = 2 ∨ j = 4) : SameT T (upd T j v) := fun i a b c => upd_ne _ _ (by omega)
theorem SameT.none_ {T T' : Nat → Value} (h : SameT T T') (h0 : ∀ j, j = 3 ∨ 5 ≤ j → T j = .slice none 0 0) : ∀ j, j = 3 ∨ 5 ≤ j → T' j = .slice none 0 0 := fun j hj => (h j (by omega) (by omega) (by omega)).trans (h0 j hj)

/-- A book that was told these lists more: ints i, lists of lists l, bytes b. -/
def more (H : Nat → List Hl) (b i l : List Hl) : Nat → List Hl := upd (upd (upd H 1 (H 1 ++ b)) 2 (H 2 ++ i)) 4 (H 4 ++ l)
theorem more_nil (H : Nat → List Hl) : more H [] [] [] = H := by
  funext j
  unfold more
  by_cases h4 : j = 4
  · subst h4; rw [upd_self, List.append_nil]
  · rw [upd_ne _ _ h4]
    by_cases h2 : j = 2
    · subst h2; rw [upd_self, List.append_nil]
    · rw [upd_ne _ _ h2]
      by_cases h1 : j = 1
      · subst h1; rw [upd_self, List.append_nil]
      · rw [upd_ne _ _ h1]
theorem more_more (H : Nat → List Hl) (b i l b' i' l' : List Hl) : more (more H b i l) b' i' l' = more H (b ++ b') (i ++ i') (l ++ l') := by
  funext j
  have e1 : more H b i l 1 = H 1 ++ b := rfl
  have e2 : more H b i l 2 = H 2 ++ i := rfl
  have e4 : more H b i l 4 = H 4 ++ l := rfl
  by_cases h4 : j = 4
  · subst h4
    show more H b i l 4 ++ l' = H 4 ++ (l ++ l')
    rw [e4, List.append_assoc]
  · by_cases h2 : j = 2
    · subst h2
      show more H b i l 2 ++ i' = H 2 ++ (i ++ i')
      rw [e2, List.append_assoc]
    · by_cases h1 : j = 1
      · subst h1
        show more H b i l 1 ++ b' = H 1 ++ (b ++ b')
        rw [e1, List.append_assoc]
      · unfold more
        simp only [upd_ne _ _ h4, upd_ne _ _ h2, upd_ne _ _ h1]
theorem more_two (H : Nat → List Hl) (h : Hl) : upd H 2 (H 2 ++ [h]) = more H [] [h] [] := by
  funext j
  unfold more
  by_cases h4 : j = 4
  · subst h4; rw [upd_self, List.append_nil]; rfl
  · rw [upd_ne _ _ h4]
    by_cases h2 : j = 2
    · subst h2; rw [upd_self, upd_self]
    · rw [upd_ne _ _ h2, upd_ne _ _ h2]
      by_cases h1 : j = 1
      · subst h1; rw [upd_self, List.append_nil]
      · rw [upd_ne _ _ h1]
theorem more_four (H : Nat → List Hl) (h : Hl) : upd H 4 (H 4 ++ [h]) = more H [] [] [h] := by
  funext j
  unfold more
  by_cases h4 : j = 4
  · subst h4; rw [upd_self, upd_self]
  · rw [upd_ne _ _ h4, upd_ne _ _ h4]
    by_cases h2 : j = 2
    · subst h2; rw [upd_self, List.append_nil]
    · rw [upd_ne _ _ h2]
      by_cases h1 : j = 1
      · subst h1; rw [upd_self, List.append_nil]
      · rw [upd_ne _ _ h1]

abbrev Bkm (w : World) (kb N : Nat) (T : Nat → Value) (H : Nat → List Hl) : Prop := Bkn 45 tHs w kb N T H

/-- Each block is as it was, but for those of the book and its tables (told by their types). -/
def KeptT (w w' : World) : Prop := ∀ (X : Nat) (cur : Array Value) (t : TypeId), w.heap[X]? = some (.cells cur t (0, 0)) → t ≠ 45 → (∀ j, tHs j ≠ t) → w'.heap[X]? = w.heap[X]?
theorem KeptT.refl (w : World) : KeptT w w := fun _ _ _ _ _ _ => rfl
theorem KeptT.trans {w w' w'' : World} (h : KeptT w w') (h2 : KeptT w' w'') : KeptT w w'' := fun X cur t hx h1 h3 => (h2 X cur t ((h X cur t hx h1 h3).trans hx) h1 h3).trans (h X cur t hx h1 h3)
theorem KeptT.below {w w' : World} (h : Below w.heap.size w w') : KeptT w w' := fun X cur t hx _ _ => h.block X (Array.getElem?_eq_some_iff.1 hx).1
theorem Bkn.kept {w w' : World} {kb N : Nat} {T : Nat → Value} {H : Nat → List Hl} (hk : Bkm w kb N T H) {j : Nat} (hf : Fr (fun b => b = kb ∨ (T j).ownBlock = some b) w w') : KeptT w w' := by
  intro X cur t hx h1 h2
  refine hf.2 X (Array.getElem?_eq_some_iff.1 hx).1 ?_
  rintro (rfl | hb)
  · rw [hk.blk] at hx
    injection hx with hx
    injection hx with _ hx
    exact h1 hx.symm
  · rcases (hk.tab j).2 with ⟨hv, _⟩ | ⟨g, cap, cur', hv, _, hh, _⟩
    · rw [hv] at hb; cases hb
    · rw [hv] at hb
      have hg : g = X := by injection hb
      subst hg
      rw [hh] at hx
      injection hx with hx
      injection hx with _ hx
      exact h2 j hx

theorem toldInts (kb N : Nat) (T : Nat → Value) (H : Nat → List Hl) (u : Ls) (w : World) (hk : Bkm w kb N T H) (hN : N < 1000000) (hl : (H 2).length ≤ 1000000) :
    Calls Tryz.prog 13 #[.pointer (some ⟨kb, 0, none⟩), .slice u.A u.n u.c] w fun e w' => e = .returned (.tuple #[]) ∧ ∃ T', SameT T T' ∧ Bkm w' kb (N + 1) T' (more H [] [u.held (N + 1)] []) ∧ Below kb w w' ∧ KeptT w w' :=
  (told9Int kb N T H u.A u.n u.c w hk hN hl).mono fun e w' ⟨h1, v', h2, h3, h4⟩ => ⟨h1, _, SameT.upd T v' (.inr (.inl rfl)), by rw [← more_two]; exact h2, h3, hk.kept h4⟩

set_option maxRecDepth 100000 in
set_option maxHeartbeats 1000000 in
theorem toldIntLists (kb N : Nat) (T : Nat → Value) (H : Nat → List Hl) (A : Option Addr) (n c : Nat) (l : List Ls) (w : World) (hk : Bkm w kb N T H)
    (hat : RdR w 1 A n (l.map fun u => [u.v])) (hA : ∀ p q, 0 < n → A = some ⟨p, q, none⟩ → p < kb) (hn : n ≤ maxLen) (hN : N + n < 1000000) (hl2 : (H 2).length + n ≤ 1000000) (hl4 : (H 4).length ≤ 1000000) :
    Calls Tryz.prog 31 #[.pointer (some ⟨kb, 0, none⟩), .slice A n c] w fun e w' => e = .returned (.tuple #[]) ∧ ∃ T', SameT T T' ∧ Bkm w' kb (N + n + 1) T' (more H [] (told N l) [⟨A, n, c, none, 0, 0, N + n + 1⟩]) ∧ Below kb w w' ∧ KeptT w w' := by
  have hlen : l.length = n := by have := hat.1; simpa using this
  have HL := Lib.hid hlen
  clear hlen
  unfold maxLen at hn
  go_enter Tryz.func31, Tryz.ntmps31
  go_wp2_with fail
  go_loopw [4] (fun i wr => ∃ (j : Nat) (T' : Nat → Value), j ≤ n ∧ i = .int .i64 j ∧ SameT T T' ∧ Bkm wr kb (N + j) T' (more H [] (told N (l.take j)) []) ∧ Below kb w wr ∧ KeptT w wr) (fun i _ => n - (intOf i).toNat)
  case atStart => exact ⟨0, T, Nat.zero_le _, rfl, SameT.refl T, by rw [List.take_zero]; show Bkm w kb (N + 0) T (more H [] [] []); rw [more_nil]; exact hk, Below.refl _ _, KeptT.refl w⟩
  case round =>
    obtain ⟨j, T', hj, rfl, hsame, hkr, hbel, hkt⟩ := hrel
    by_cases hlt : j < n
    · obtain ⟨p, q, hA1, hc⟩ := hat.2 (by omega)
      have hp := hA p q (by omega) hA1
      subst hA1
      have hjl : j < l.length := by rw [HL.out]; exact hlt
      have h1 := hc j [l[j].v] (by simp [hjl]) 0 (by omega)
      rw [Nat.mul_one, Nat.add_zero] at h1
      have htake := List.take_succ_eq_append_getElem hjl
      have htl : (l.take j).length = j := by rw [List.length_take, HL.out]; omega
      have hs := told_snoc N (l.take j) l[j]
      rw [← htake, htl] at hs
      have HS := Lib.hid hs
      generalize l[j] = u at h1 HS
      have hcell : wr.cell? ⟨p, q + j, none⟩ = some (.slice u.A u.n u.c) := (World.cell?_of_block (hbel.block p hp)).trans h1
      have hl2' : (more H [] (told N (l.take j)) [] 2).length ≤ 1000000 := by
        show (H 2 ++ told N (l.take j)).length ≤ 1000000
        rw [List.length_append, told_len, htl]
        omega
      clear hc h1 htake htl hs
      go_wp2_with fail
      refine (toldInts kb (N + j) T' _ u wr hkr (by omega) hl2').mono ?_
      rintro e w2 ⟨rfl, T2, hs2, hk2, hb2, hkt2⟩
      simp only [more_more, List.append_nil] at hk2
      rw [← HS.out] at hk2
      have hkt3 := hkt.trans hkt2
      have hb3 := hbel.trans hb2
      have hs3 := hsame.trans hs2
      clear hkr hbel hb2 hs2 hsame
      go_wp2
      go_roundw
      case rel => exact ⟨j + 1, T2, by omega, by go_num, hs3, hk2, hb3, hkt3⟩
      case measure => simp [intOf]; omega
    · obtain rfl : j = n := by omega
      rw [List.take_of_length_le (by rw [HL.out]; exact Nat.le_refl _)] at hkr
      go_wp2_with fail
      refine (keep9IntList kb (N + j) T' _ A j c wr hkr (by omega) (by show (H 4 ++ []).length ≤ _; rw [List.append_nil]; exact hl4)).mono ?_
      rintro e w2 ⟨rfl, v', hk2, hb2, hf2⟩
      rw [more_four] at hk2
      simp only [more_more, List.append_nil, List.nil_append] at hk2
      have hkt3 := hkt.trans (hkr.kept hf2)
      have hb3 := hbel.trans hb2
      go_wp2
      go_end0
      exact ⟨rfl, _, hsame.trans (SameT.upd T' v' (.inr (.inr rfl))), hk2, hb3, hkt3⟩

theorem tHs_market : ∀ j, tHs j ≠ 25 := by
  intro j
  unfold tHs
  split <;> decide

set_option maxRecDepth 100000 in
set_option maxHeartbeats 1000000 in
theorem toldMarket (kb N : Nat) (T : Nat → Value) (H : Nat → List Hl) (x : Mk) (w : World) (hk : Bkm w kb N T H)
    (hat : RdR w 1 x.A x.n (x.b.map fun u => [u.v])) (hA : ∀ p q, 0 < x.n → x.A = some ⟨p, q, none⟩ → p < kb) (hn : x.n ≤ maxLen) (hN : N + x.n + 3 < 1000000) (hl2 : (H 2).length + x.n + 3 ≤ 1000000) (hl4 : (H 4).length + 3 ≤ 1000000) :
    Calls Tryz.prog 12 #[.pointer (some ⟨kb, 0, none⟩), x.v] w fun e w' => e = .returned (.tuple #[]) ∧ ∃ T', SameT T T' ∧ Bkm w' kb (N + x.n + 3) T' (more H [] (x.r.held (N + 1) :: (told (N + 1) x.b ++ [x.o.held (N + x.n + 3)])) [⟨x.A, x.n, x.c, none, 0, 0, N + x.n + 2⟩]) ∧ Below kb w w' ∧ KeptT w w' := by
  have hkb := hk.lt
  unfold Mk.v Ls.v
  go_enter Tryz.func12, Tryz.ntmps12
  go_wp2_with fail
  have hbox : (w.alloc (Obj.cells #[Value.slice x.r.A x.r.n x.r.c, Value.slice x.A x.n x.c, Value.slice x.o.A x.o.n x.o.c] 25)).heap[w.heap.size]? = some (Obj.cells #[Value.slice x.r.A x.r.n x.r.c, Value.slice x.A x.n x.c, Value.slice x.o.A x.o.n x.o.c] 25) := heap_alloc_new w _
  have hbB : Below w.heap.size w (w.alloc (Obj.cells #[Value.slice x.r.A x.r.n x.r.c, Value.slice x.A x.n x.c, Value.slice x.o.A x.o.n x.o.c] 25)) := (Below.refl _ w).alloc (Nat.le_refl _) _
  generalize w.alloc (Obj.cells #[Value.slice x.r.A x.r.n x.r.c, Value.slice x.A x.n x.c, Value.slice x.o.A x.o.n x.o.c] 25) = W at hbox hbB ⊢
  have hcells : ∀ w', KeptT W w' → w'.cell? ⟨w.heap.size, 1, none⟩ = some (.slice x.A x.n x.c) ∧ w'.cell? ⟨w.heap.size, 2, none⟩ = some (.slice x.o.A x.o.n x.o.c) := by
    intro w' h
    have h1 := (h _ _ _ hbox (by decide) tHs_market).trans hbox
    exact ⟨by rw [cell_of_row w' w.heap.size 1 _ _ _ h1]; rfl, by rw [cell_of_row w' w.heap.size 2 _ _ _ h1]; rfl⟩
  refine (toldInts kb N T H x.r W (hk.below hbB) (by omega) (by omega)).mono ?_
  rintro e w1 ⟨rfl, T1, s1, k1, b1, t1⟩
  obtain ⟨c1, _⟩ := hcells w1 t1
  have hB1 : Below kb w w1 := (hbB.mono (by omega)).trans b1
  have hat1 : RdR w1 1 x.A x.n (x.b.map fun u => [u.v]) := by
    by_cases h0 : 0 < x.n
    · exact hat.keep fun p q e => hB1.block p (hA p q h0 e)
    · exact ⟨hat.1, fun h => absurd h h0⟩
  go_wp2_with fail
  refine (toldIntLists kb (N + 1) T1 _ x.A x.n x.c x.b w1 k1 hat1 hA hn (by omega) (by show (H 2 ++ [_]).length + _ ≤ _; rw [List.length_append, List.length_singleton]; omega) (by show (H 4 ++ []).length ≤ _; rw [List.append_nil]; omega)).mono ?_
  rintro e w2 ⟨rfl, T2, s2, k2, b2, t2⟩
  have t12 := t1.trans t2
  obtain ⟨_, c2⟩ := hcells w2 t12
  have hB2 := hB1.trans b2
  simp only [more_more, List.append_nil, List.nil_append] at k2
  have hlen : x.b.length = x.n := by have := hat.1; simpa using this
  go_wp2_with fail
  refine (toldInts kb (N + 1 + x.n + 1) T2 _ x.o w2 k2 (by omega) (by show (H 2 ++ ([_] ++ told _ _)).length ≤ _; rw [List.length_append, List.length_append, List.length_singleton, told_len, hlen]; omega)).mono ?_
  rintro e w3 ⟨rfl, T3, s3, k3, b3, t3⟩
  simp only [more_more, List.append_nil] at k3
  have hfin : Bkm w3 kb (N + x.n + 3) T3 (more H [] (x.r.held (N + 1) :: (told (N + 1) x.b ++ [x.o.held (N + x.n + 3)])) [⟨x.A, x.n, x.c, none, 0, 0, N + x.n + 2⟩]) := by
    rw [show N + 1 + x.n + 1 + 1 = N + x.n + 3 by omega, show N + 1 + x.n + 1 = N + x.n + 2 by omega] at k3
    simpa using k3
  have hB3 := hB2.trans b3
  have hT3 : KeptT w w3 := (KeptT.below hbB).trans (t12.trans t3)
  have hS3 := (s1.trans s2).trans s3
  clear k3 hcells hbox
  go_wp2
  go_end0
  exact ⟨rfl, T3, hS3, hfin, hB3, hT3⟩
end Go.Proofs.YtdckoaljcklmhaaGreatDoor


namespace Go.Proofs.YtdckoaljcklmhaaGreatDoor
open Go.RowKit
set_option linter.unusedVariables false

theorem more_mem {b i l : List Hl} {j : Nat} {h : Hl} (hm : h ∈ more noLists b i l j) : (j = 1 ∧ h ∈ b) ∨ (j = 2 ∧ h ∈ i) ∨ (j = 4 ∧ h ∈ l) := by
  by_cases h4 : j = 4
  · subst h4; exact .inr (.inr ⟨rfl, by simpa [more, upd_self, noLists] using hm⟩)
  · by_cases h2 : j = 2
    · subst h2; exact .inr (.inl ⟨rfl, by simpa [more, upd, noLists] using hm⟩)
    · by_cases h1 : j = 1
      · subst h1; exact .inl ⟨rfl, by simpa [more, upd, noLists] using hm⟩
      · simp [more, upd, noLists, h1, h2, h4] at hm
theorem more_cases (b i l : List Hl) (j : Nat) (p : List Hl → Prop) (h0 : p []) (h1 : p b) (h2 : p i) (h4 : p l) : p (more noLists b i l j) := by
  by_cases e4 : j = 4
  · subst e4; simpa [more, upd_self, noLists] using h4
  · by_cases e2 : j = 2
    · subst e2; simpa [more, upd, noLists] using h2
    · by_cases e1 : j = 1
      · subst e1; simpa [more, upd, noLists] using h1
      · simpa [more, upd, noLists, e1, e2, e4] using h0
theorem Bkn.offLt {tB : TypeId} {tH : Nat → TypeId} {w : World} {kb N : Nat} {T : Nat → Value} {H : Nat → List Hl} (h : Bkn tB tH w kb N T H) {g : Nat} (hg : g < kb) : OffLN kb T w.heap.size g :=
  ⟨Nat.lt_trans hg h.lt, by omega, fun j hj => by have := (h.tlt j g hj).1; omega⟩
theorem cross_types {w : World} {B B' : Nat} {e e' : TypeId} {a b : List Hl} (ha : ∀ h ∈ a, ∃ xs, Own w B e h.A h.n h.c xs) (hb : ∀ h ∈ b, ∃ xs, Own w B' e' h.A h.n h.c xs) (hne : e' ≠ e) : Cross a b := by
  refine Cross.of fun x hx y hy g hg hg2 => ?_
  obtain ⟨xs, ox⟩ := ha x hx
  obtain ⟨ys, oy⟩ := hb y hy
  obtain ⟨g', cur, hA, _, hh, _⟩ := ox.2.resolve_left (by have := hg.1; omega)
  rw [hg.2] at hA
  cases hA
  rcases own_apart oy hh hne with h0 | h0
  · have := hg2.1; omega
  · exact h0 hg2.2
/-- A list's place. -/
def Hl.key (h : Hl) : Option Addr × Nat := (h.A, h.c)
def Ls.key (u : Ls) : Option Addr × Nat := (u.A, u.c)
theorem sep_of_apt {l : List Ls} {hs : List Hl} (hk : hs.map Hl.key = l.map Ls.key) (h : AptL l) : Sep hs := by
  have h2 : (l.map Ls.key).Pairwise fun a b => ∀ g, 0 < a.2 ∧ a.1 = some ⟨g, 0, none⟩ → ¬ (0 < b.2 ∧ b.1 = some ⟨g, 0, none⟩) := List.pairwise_map.2 h
  rw [← hk] at h2
  exact List.pairwise_map.1 h2
theorem told_key (N : Nat) (l : List Ls) : (told N l).map Hl.key = l.map Ls.key := by
  induction l generalizing N with
  | nil => rfl
  | cons u l ih => rw [told, List.map_cons, List.map_cons, ih]; rfl
set_option maxRecDepth 100000 in
/-- Apart, of lists that were there ahead of the book. -/
theorem apart_lists (kb N B : Nat) (T : Nat → Value) (b i l : List Hl) (w : World) (hk : Bkm w kb N T (more noLists b i l)) (hT : SameT noTabs T)
    (o1 : ∀ h ∈ b, ∃ xs, Own w B 5 h.A h.n h.c xs) (o2 : ∀ h ∈ i, ∃ xs, Own w B 3 h.A h.n h.c xs) (o4 : ∀ h ∈ l, ∃ xs, Own w B 22 h.A h.n h.c xs)
    (lt : ∀ h, h ∈ b ∨ h ∈ i ∨ h ∈ l → (∀ g, Hit h g → g < kb) ∧ h.k < 1000000000 ∧ h.n ≤ 1000000000) (s1 : Sep b) (s2 : Sep i) (s4 : Sep l) (hl : b.length ≤ 1000000 ∧ i.length ≤ 1000000 ∧ l.length ≤ 1000000) (hBk : B ≤ kb) :
    Calls Tryz.prog 17 #[.pointer (some ⟨kb, 0, none⟩)] w fun e w' => e = .returned (.bool true) ∧ Below B w w' := by
  have mm : ∀ j h, h ∈ more noLists b i l j → h ∈ b ∨ h ∈ i ∨ h ∈ l := fun j h hm => by
    rcases more_mem hm with ⟨_, h1⟩ | ⟨_, h1⟩ | ⟨_, h1⟩
    · exact .inl h1
    · exact .inr (.inl h1)
    · exact .inr (.inr h1)
  have e1 : more noLists b i l 1 = b := by simp [more, upd, noLists]
  have e2 : more noLists b i l 2 = i := by simp [more, upd, noLists]
  have e4 : more noLists b i l 4 = l := by simp [more, upd, noLists]
  refine apart9 kb N B T _ w hk (hT.none_ fun _ _ => rfl) (by rw [e1]; exact o1) (by rw [e2]; exact o2) (by rw [e4]; exact o4)
    (fun j h hm g hg => hk.offLt ((lt h (mm j h hm)).1 g hg)) (fun j => more_cases b i l j Sep List.Pairwise.nil s1 s2 s4)
    (by rw [e1, e2]; exact cross_types o1 o2 (by decide)) (by rw [e1, e4]; exact cross_types o1 o4 (by decide)) (by rw [e2, e4]; exact cross_types o2 o4 (by decide))
    (fun j h hm => (lt h (mm j h hm)).2) (fun j => more_cases b i l j (fun x => x.length ≤ 1000000) (by simp) hl.1 hl.2.1 hl.2.2) hBk
end Go.Proofs.YtdckoaljcklmhaaGreatDoor

