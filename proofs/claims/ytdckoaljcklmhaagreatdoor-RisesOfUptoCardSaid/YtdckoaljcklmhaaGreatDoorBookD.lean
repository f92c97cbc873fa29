/-
  Words for the Book of the statements: the lists that it holds, its tables, and what its calls touch. No program here.
-/
import Derived.Test.YtdckoaljcklmhaaGreatDoorKit
import Derived.OneCell
namespace Go.Proofs.YtdckoaljcklmhaaGreatDoor
open Go.RowKit
set_option linter.unusedVariables false

/-- A list that is held: its slice, the longer one, its number. -/
structure Hl where
  A : Option Addr
  n : Nat
  c : Nat
  L : Option Addr
  ln : Nat
  lc : Nat
  k : Nat

/-- Its three cells. -/
def Hl.cells (h : Hl) : List Value := [.slice h.A h.n h.c, .slice h.L h.ln h.lc, .int .i64 h.k]
def rowsOf (hs : List Hl) : List Value := hs.flatMap Hl.cells
/-- The block in which its memory lies, if it has any. -/
def Hit (h : Hl) (b : Nat) : Prop := 0 < h.c ∧ h.A = some ⟨b, 0, none⟩
def Hits (hs : List Hl) (b : Nat) : Prop := ∃ h ∈ hs, Hit h b
/-- No two share a block. -/
def Sep (hs : List Hl) : Prop := hs.Pairwise fun a b => ∀ g, Hit a g → ¬ Hit b g

theorem rowsOf_app (a b : List Hl) : rowsOf (a ++ b) = rowsOf a ++ rowsOf b := by simp [rowsOf]
theorem rowsOf_get (hs : List Hl) (j r : Nat) (hj : j < hs.length) (hr : r < 3) : (rowsOf hs)[j * 3 + r]? = hs[j].cells[r]? := by
  induction hs generalizing j with
  | nil => simp at hj
  | cons h t ih =>
    have he : rowsOf (h :: t) = h.cells ++ rowsOf t := rfl
    have hl : h.cells.length = 3 := rfl
    cases j with
    | zero => rw [he, List.getElem?_append_left (by rw [hl]; omega)]; simp
    | succ i =>
      rw [he, List.getElem?_append_right (by rw [hl]; omega), hl, show (i + 1) * 3 + r - 3 = i * 3 + r by omega, ih i (by simpa using hj)]
      rfl
/-- A store into one place of a table. -/
theorem rowsOf_set (hs : List Hl) (j : Nat) (hj : j < hs.length) (L : Option Addr) (ln lc : Nat) :
    (rowsOf hs).set (j * 3 + 1) (.slice L ln lc) = rowsOf (hs.set j { hs[j] with L := L, ln := ln, lc := lc }) := by
  induction hs generalizing j with
  | nil => simp at hj
  | cons h t ih =>
    have hl : h.cells.length = 3 := rfl
    have he : ∀ (a : Hl) (t : List Hl), rowsOf (a :: t) = a.cells ++ rowsOf t := fun _ _ => rfl
    cases j with
    | zero => rfl
    | succ i =>
      rw [List.set_cons_succ, he, he, List.set_append_right _ _ (by rw [hl]; omega), hl, show (i + 1) * 3 + 1 - 3 = i * 3 + 1 by omega, ih i (by simpa using hj)]
      rfl

theorem sep_take {hs : List Hl} (h : Sep hs) {j : Nat} (hj : j < hs.length) : ∀ a ∈ hs.take j, ∀ g, Hit a g → ¬ Hit hs[j] g := by
  intro a ha g hg
  have h2 : Sep (hs.take (j + 1)) := h.sublist (List.take_sublist _ _)
  rw [List.take_succ_eq_append_getElem hj] at h2
  exact (List.pairwise_append.1 h2).2.2 a ha _ (List.mem_singleton.2 rfl) g hg

/-- What lies in a block that was made just now. -/
theorem lit_cell (w : World) (cs : Array Value) (t : TypeId) (j : Nat) (u : Value) (h : cs.toList[j]? = some u) : (w.alloc (.cells cs t)).cell? ((⟨w.heap.size, 0, none⟩ : Addr).add j) = some u := by
  rw [Addr.add_lit, cell_of_row _ _ _ _ _ _ (heap_alloc_new w _), Nat.zero_add]
  simpa using h
theorem setCell_ne {w : World} {a : Addr} {u : Value} {b : Nat} (h : b ≠ a.block) : (w.setCell a u).heap[b]? = w.heap[b]? := Below.heap_setCell _ _ _ _ h

/-- What was there is as it was, but for the blocks of P. -/
def Fr (P : Nat → Prop) (w w' : World) : Prop := w.heap.size ≤ w'.heap.size ∧ ∀ b, b < w.heap.size → ¬ P b → w'.heap[b]? = w.heap[b]?

section
variable {P P' : Nat → Prop} {w w' w'' : World} {B : Nat} {e : TypeId} {A : Option Addr} {n c : Nat} {xs : List Value}

theorem Fr.refl (P : Nat → Prop) (w : World) : Fr P w w := ⟨Nat.le_refl _, fun _ _ _ => rfl⟩
theorem Fr.trans (h : Fr P w w') (k : Fr P w' w'') : Fr P w w'' := ⟨Nat.le_trans h.1 k.1, fun b hb hp => (k.2 b (Nat.lt_of_lt_of_le hb h.1) hp).trans (h.2 b hb hp)⟩
theorem Fr.mono (h : Fr P w w') (hp : ∀ b, P b → P' b) : Fr P' w w' := ⟨h.1, fun b hb hn => h.2 b hb fun hx => hn (hp b hx)⟩
theorem Fr.of_below (h : Below w.heap.size w w') : Fr P w w' := ⟨h.size, fun b hb _ => h.block b hb⟩
theorem Fr.alloc (h : Fr P w w') (o : Obj) : Fr P w (w'.alloc o) := h.trans ⟨by simp, fun b hb _ => Below.heap_alloc _ _ _ hb⟩
theorem Fr.drew (h : Fr P w w') : Fr P w w'.drew := h
theorem Fr.drewN (h : Fr P w w') (k : Nat) : Fr P w (w'.drewN k) := h
theorem Fr.setCell (h : Fr P w w') {p : Addr} (hp : P p.block) (u : Value) : Fr P w (w'.setCell p u) :=
  h.trans ⟨by simp [World.setCell], fun b hb hn => Below.heap_setCell _ _ _ _ (fun he => hn (by rw [he]; exact hp))⟩
theorem Fr.grown {row : Option Nat} (h : Fr P w w') (hg : w'.grownBy w'' row) (hr : ∀ k, row = some k → P k) : Fr P w w'' :=
  h.trans ⟨hg.size, fun b hb hn => hg.block b hb (fun he => hn (hr b he.symm))⟩
/-- Later blocks: what was made since may be touched. -/
theorem Fr.later {s : Nat} (h : Fr P w w') (k : Fr (fun b => P b ∨ s ≤ b) w' w'') (hs : w.heap.size ≤ s) : Fr P w w'' :=
  ⟨Nat.le_trans h.1 k.1, fun b hb hp => (k.2 b (Nat.lt_of_lt_of_le hb h.1) (by rintro (hx | hx); exact hp hx; omega)).trans (h.2 b hb hp)⟩

theorem Own.fr (h : Own w B e A n c xs) (hf : Fr P w w') (hn : ∀ g, 0 < c → A = some ⟨g, 0, none⟩ → ¬ P g) : Own w' B e A n c xs := by
  by_cases hc : c = 0
  · have := h.le
    exact ⟨h.1, .inl ⟨by omega, hc⟩⟩
  · exact h.keep fun g hA _ _ hlt => hf.2 g hlt (hn g (by omega) hA)
/-- Fewer of them. -/
theorem Own.less (h : Own w B e A n c xs) {m : Nat} (hm : m ≤ n) : Own w B e A m c (xs.take m) := by
  refine ⟨by rw [List.length_take, h.1]; omega, ?_⟩
  rcases h.2 with ⟨h1, h2⟩ | ⟨g, cur, hA, hB, hh, h1, h2, h3, h4⟩
  · exact .inl ⟨by omega, h2⟩
  · exact .inr ⟨g, cur, hA, hB, hh, by omega, h2, h3, by rw [← h4, List.take_take, Nat.min_eq_left hm]⟩
theorem ownsRow_fr {size : Nat} {v : Value} (h : w.ownsRow B e size v n xs) (hf : Fr P w w') (hn : ∀ g, v.ownBlock = some g → ¬ P g) : w'.ownsRow B e size v n xs := by
  refine ⟨h.1, ?_⟩
  rcases h.2 with h0 | ⟨g, cap, cur, hv, hB, hh, r⟩
  · exact .inl h0
  · subst hv
    exact .inr ⟨g, cap, cur, rfl, hB, by rw [hf.2 g (Array.getElem?_eq_some_iff.1 hh).1 (hn g rfl)]; exact hh, r⟩
end

/-- None of the book's own blocks. -/
def Off (kb : Nat) (vb vi : Value) (b : Nat) : Prop := b ≠ kb ∧ vb.ownBlock ≠ some b ∧ vi.ownBlock ≠ some b
/-- The same, and there ahead of block s. -/
def OffL (kb : Nat) (vb vi : Value) (s b : Nat) : Prop := b < s ∧ Off kb vb vi b
theorem OffL.mono {kb s s' b : Nat} {vb vi : Value} (h : OffL kb vb vi s b) (hs : s ≤ s') : OffL kb vb vi s' b := ⟨Nat.lt_of_lt_of_le h.1 hs, h.2⟩

/-- The book lies in block kb: how many lists it was told, its tables of bytes and of ints; nothing else is kept. -/
structure Bk (tB tHB tHI : TypeId) (w : World) (kb N : Nat) (vb vi : Value) (hb hi : List Hl) : Prop where
  blk : w.heap[kb]? = some (.cells #[.int .i64 N, vb, vi, .slice none 0 0, .slice none 0 0, .slice none 0 0, .slice none 0 0, .slice none 0 0, .slice none 0 0, .slice none 0 0] tB (0, 0))
  tb : w.ownsRow (kb + 1) tHB 3 vb hb.length (rowsOf hb)
  ti : w.ownsRow (kb + 1) tHI 3 vi hi.length (rowsOf hi)
  ne : ∀ g, vb.ownBlock = some g → vi.ownBlock ≠ some g

section
variable {tB tHB tHI : TypeId} {w w' : World} {kb N : Nat} {vb vi : Value} {hb hi : List Hl} {P : Nat → Prop}

theorem Bk.lt (h : Bk tB tHB tHI w kb N vb vi hb hi) : kb < w.heap.size := (Array.getElem?_eq_some_iff.1 h.blk).1
theorem Bk.fr (h : Bk tB tHB tHI w kb N vb vi hb hi) (hf : Fr P w w') (hp : ∀ b, P b → Off kb vb vi b) : Bk tB tHB tHI w' kb N vb vi hb hi where
  blk := by rw [hf.2 kb h.lt (fun hx => (hp _ hx).1 rfl)]; exact h.blk
  tb := ownsRow_fr h.tb hf fun g hg hx => (hp g hx).2.1 hg
  ti := ownsRow_fr h.ti hf fun g hg hx => (hp g hx).2.2 hg
  ne := h.ne
theorem Bk.below (h : Bk tB tHB tHI w kb N vb vi hb hi) (hf : Below w.heap.size w w') : Bk tB tHB tHI w' kb N vb vi hb hi :=
  h.fr (P := fun _ => False) (Fr.of_below hf) (fun _ hx => hx.elim)
theorem Bk.drew (h : Bk tB tHB tHI w kb N vb vi hb hi) : Bk tB tHB tHI w.drew kb N vb vi hb hi := ⟨h.blk, h.tb, h.ti, h.ne⟩
theorem Bk.cell (h : Bk tB tHB tHI w kb N vb vi hb hi) (j : Nat) : w.cell? ⟨kb, j, none⟩ = (#[.int .i64 N, vb, vi, .slice none 0 0, .slice none 0 0, .slice none 0 0, .slice none 0 0, .slice none 0 0, .slice none 0 0, .slice none 0 0] : Array Value)[j]? :=
  cell_of_row w kb j _ _ _ h.blk
theorem Bk.free (h : Bk tB tHB tHI w kb N vb vi hb hi) (j : Nat) : w.frozen? ⟨kb, j, none⟩ = false := by
  have := h.blk
  simp [World.frozen?, this]
theorem Bk.new (tB tHB tHI : TypeId) (w : World) : Bk tB tHB tHI (w.alloc (.cells #[.int .i64 0, .slice none 0 0, .slice none 0 0, .slice none 0 0, .slice none 0 0, .slice none 0 0, .slice none 0 0, .slice none 0 0, .slice none 0 0, .slice none 0 0] tB)) w.heap.size 0 (.slice none 0 0) (.slice none 0 0) [] [] where
  blk := heap_alloc_new w _
  tb := World.ownsRow_nil _ _ _ _
  ti := World.ownsRow_nil _ _ _ _
  ne := fun g hg => by cases hg

/-- A table's slice, where it has anything. -/
theorem row_form {t : TypeId} {B : Nat} {v : Value} {hs : List Hl} (h : w.ownsRow B t 3 v hs.length (rowsOf hs)) (hn : 0 < hs.length) :
    ∃ g cap, v = .slice (some ⟨g, 0, none⟩) hs.length cap ∧ B ≤ g ∧ g < w.heap.size ∧ hs.length ≤ cap ∧ cap ≤ maxLen := by
  rcases h.2 with ⟨_, h0⟩ | ⟨g, cap, cur, hv, hB, hh, h1, h2, _⟩
  · omega
  · exact ⟨g, cap, hv, hB, (Array.getElem?_eq_some_iff.1 hh).1, h1, h2⟩
theorem row_slice {t : TypeId} {B : Nat} {v : Value} {hs : List Hl} (h : w.ownsRow B t 3 v hs.length (rowsOf hs)) :
    ∃ A cap, v = .slice A hs.length cap ∧ hs.length ≤ cap ∧ cap ≤ maxLen := by
  rcases h.2 with ⟨hv, h0⟩ | ⟨g, cap, cur, hv, hB, hh, h1, h2, _⟩
  · exact ⟨none, 0, by rw [hv, h0], by omega, Nat.zero_le _⟩
  · exact ⟨_, cap, hv, h1, h2⟩
theorem own_slice {t : TypeId} {B s n : Nat} {v : Value} {xs : List Value} (h : w.ownsRow B t s v n xs) : ∃ A cap, v = .slice A n cap := by
  rcases h.2 with ⟨hv, h0⟩ | ⟨g, cap, cur, hv, _⟩
  · exact ⟨none, 0, by rw [hv, h0]⟩
  · exact ⟨_, cap, hv⟩
theorem row_cell {t : TypeId} {B g cap : Nat} {hs : List Hl} (h : w.ownsRow B t 3 (.slice (some ⟨g, 0, none⟩) hs.length cap) hs.length (rowsOf hs)) (j r : Nat) (hj : j < hs.length) (hr : r < 3) :
    w.cell? ⟨g, j * 3 + r, none⟩ = hs[j].cells[r]? := by
  rw [h.cellAt (j * 3 + r) (by omega), rowsOf_get hs j r hj hr]
end

/-- A list with 40 marks behind it: both slices hold marks, in memory of the list itself, or from block s on. -/
def Grown1 (e : TypeId) (mk : Nat → Value) (w : World) (B s : Nat) (h h' : Hl) : Prop :=
  h'.A = h.A ∧ h'.n = h.n ∧ h'.c = h.c ∧ h'.k = h.k ∧ h'.ln = h.n + 40 ∧ Own w B e h.A h.n h.c (List.replicate h.n (mk h.k)) ∧ Own w B e h'.L h'.ln h'.lc (List.replicate (h.n + 40) (mk h.k)) ∧
    ∀ g, 0 < h'.lc → h'.L = some ⟨g, 0, none⟩ → Hit h g ∨ s ≤ g
theorem Grown1.fr {e : TypeId} {mk : Nat → Value} {w w' : World} {B s : Nat} {h h' : Hl} {P : Nat → Prop} (H : Grown1 e mk w B s h h') (hf : Fr P w w') (h1 : ∀ g, Hit h g → ¬ P g) (h2 : ∀ g, s ≤ g → ¬ P g) : Grown1 e mk w' B s h h' := by
  obtain ⟨a1, a2, a3, a4, a5, a6, a7, a8⟩ := H
  refine ⟨a1, a2, a3, a4, a5, a6.fr hf fun g hc hA => h1 g ⟨hc, hA⟩, a7.fr hf fun g hc hA => ?_, a8⟩
  rcases a8 g hc hA with hh | hh
  · exact h1 g hh
  · exact h2 g hh
def AllGrown (e : TypeId) (mk : Nat → Value) (w : World) (B s : Nat) (hs hs' : List Hl) : Prop :=
  hs'.length = hs.length ∧ ∀ (j : Nat) (h h' : Hl), hs[j]? = some h → hs'[j]? = some h' → Grown1 e mk w B s h h'
theorem AllGrown.fr {e : TypeId} {mk : Nat → Value} {w w' : World} {B s : Nat} {hs hs' : List Hl} {P : Nat → Prop} (H : AllGrown e mk w B s hs hs') (hf : Fr P w w') (h1 : ∀ h ∈ hs, ∀ g, Hit h g → ¬ P g) (h2 : ∀ g, s ≤ g → ¬ P g) : AllGrown e mk w' B s hs hs' :=
  ⟨H.1, fun j h h' hj hj' => (H.2 j h h' hj hj').fr hf (h1 h (List.mem_of_getElem? hj)) h2⟩
/-- Where the longer slice lies. -/
def Loc (xA : Option Addr) (xc s : Nat) (A' : Option Addr) (c' : Nat) : Prop := (A' = xA ∧ c' = xc) ∨ ∃ g', A' = some ⟨g', 0, none⟩ ∧ s ≤ g'

section
variable {tB tHB tHI : TypeId} {w w' : World} {kb N : Nat} {vb vi : Value} {hb hi : List Hl} {P : Nat → Prop}
end
end Go.Proofs.YtdckoaljcklmhaaGreatDoor

