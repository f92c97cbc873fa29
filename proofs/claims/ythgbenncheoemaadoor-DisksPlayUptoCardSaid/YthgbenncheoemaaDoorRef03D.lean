/-
  Words for the document's own disk in memory (a list of lists), and for what a call leaves as it was, told by the blocks' types.
-/
import Derived.Test.YthgbenncheoemaaDoorDisksW
import Derived.Test.YthgbenncheoemaaDoorBookD
namespace Go.Proofs.YthgbenncheoemaaDoor
open Go.RowKit
set_option linter.unusedVariables false

/-- Blocks of other types are as they were. -/
def FrT (T : List TypeId) (w w' : World) : Prop := w.heap.size ≤ w'.heap.size ∧ ∀ (b : Nat) (cs : Array Value) (t : TypeId) (fr : Nat × Nat), w.heap[b]? = some (.cells cs t fr) → t ∉ T → w'.heap[b]? = w.heap[b]?

section
variable {T T' : List TypeId} {w w' w'' : World} {B : Nat} {e : TypeId} {A : Option Addr} {n c : Nat} {xs : List Value}
theorem FrT.refl (T : List TypeId) (w : World) : FrT T w w := ⟨Nat.le_refl _, fun _ _ _ _ _ _ => rfl⟩
theorem FrT.trans (h : FrT T w w') (k : FrT T w' w'') : FrT T w w'' := by
  refine ⟨Nat.le_trans h.1 k.1, fun b cs t fr hb ht => ?_⟩
  have h1 := h.2 b cs t fr hb ht
  rw [k.2 b cs t fr (h1.trans hb) ht, h1]
theorem FrT.mono (h : FrT T w w') (hT : ∀ t ∈ T, t ∈ T') : FrT T' w w' := ⟨h.1, fun b cs t fr hb ht => h.2 b cs t fr hb fun hx => ht (hT t hx)⟩
theorem FrT.of_below (h : Below w.heap.size w w') : FrT T w w' := ⟨h.size, fun b cs t fr hb _ => h.block b (Array.getElem?_eq_some_iff.1 hb).1⟩
theorem FrT.of_fr {P : Nat → Prop} (h : Fr P w w') (hp : ∀ b cs t fr, P b → w.heap[b]? = some (.cells cs t fr) → t ∈ T) : FrT T w w' :=
  ⟨h.1, fun b cs t fr hb ht => h.2 b (Array.getElem?_eq_some_iff.1 hb).1 fun hx => ht (hp b cs t fr hx hb)⟩
theorem FrT.drew (h : FrT T w w') : FrT T w w'.drew := h
theorem FrT.alloc (h : FrT T w w') (o : Obj) : FrT T w (w'.alloc o) := h.trans (FrT.of_below ((Below.refl _ w').alloc (Nat.le_refl _) o))
theorem FrT.setCell (h : FrT T w w') {a : Addr} {cs : Array Value} {t : TypeId} {fr : Nat × Nat} (hb : w'.heap[a.block]? = some (.cells cs t fr)) (ht : t ∈ T) (u : Value) : FrT T w (w'.setCell a u) := by
  refine h.trans (FrT.of_fr (P := fun b => b = a.block) (Fr.setCell (P := fun b => b = a.block) (p := a) (Fr.refl _ w') rfl u) ?_)
  rintro b cs' t' fr' rfl hb'
  rw [hb] at hb'
  cases hb'
  exact ht
theorem Own.frt (h : Own w B e A n c xs) (hf : FrT T w w') (he : e ∉ T) : Own w' B e A n c xs := by
  refine ⟨h.1, ?_⟩
  rcases h.2 with h0 | ⟨g, cur, hA, hg, hh, r⟩
  · exact .inl h0
  · exact .inr ⟨g, cur, hA, hg, by rw [hf.2 g cur e _ hh he]; exact hh, r⟩
theorem row_frt {size : Nat} {v : Value} (h : w.ownsRow B e size v n xs) (hf : FrT T w w') (he : e ∉ T) : w'.ownsRow B e size v n xs := by
  refine ⟨h.1, ?_⟩
  rcases h.2 with h0 | ⟨g, cap, cur, hv, hB, hh, r⟩
  · exact .inl h0
  · exact .inr ⟨g, cap, cur, hv, hB, by rw [hf.2 g cur e _ hh he]; exact hh, r⟩
theorem DkAt.frt {p g : Nat} {d : Dk} (h : DkAt w p g d) (hf : FrT T w w') (h1 : 67 ∉ T) (h2 : 62 ∉ T) : DkAt w' p g d :=
  h.keep (hf.2 p _ _ _ h.hp h1) (hf.2 g _ _ _ h.hg h2)
theorem Bk.frt {tB tHB tHI : TypeId} {kb N : Nat} {vb vi : Value} {hb hi : List Hl} (h : Bk tB tHB tHI w kb N vb vi hb hi) (hf : FrT T w w') (h1 : tB ∉ T) (h2 : tHB ∉ T) (h3 : tHI ∉ T) : Bk tB tHB tHI w' kb N vb vi hb hi :=
  ⟨by rw [hf.2 kb _ _ _ h.blk h1]; exact h.blk, row_frt h.tb hf h2, row_frt h.ti hf h3, h.ne⟩
/-- What a call does to a disk. -/
theorem Tch.frt {p g : Nat} {d : Dk} (h : DkAt w p g d) (k : Tch p g w w') : FrT [67, 62] w w' := by
  refine FrT.of_fr k.1 ?_
  rintro b cs t fr (rfl | rfl) hb
  · rw [h.hp] at hb; cases hb; simp
  · rw [h.hg] at hb; cases hb; simp
/-- What telling the book does. -/
theorem told_frt {tB tHB tHI : TypeId} {kb N : Nat} {vb vi : Value} {hb hi : List Hl} (h : Bk tB tHB tHI w kb N vb vi hb hi) (k : Fr (fun b => b = kb ∨ vb.ownBlock = some b) w w') : FrT [tB, tHB] w w' := by
  refine FrT.of_fr k ?_
  rintro b cs t fr (rfl | hv) hb
  · rw [h.blk] at hb; cases hb; simp
  · rcases h.tb.2 with ⟨hv0, _⟩ | ⟨g, cap, cur, hv0, _, hh, _⟩
    · rw [hv0] at hv; cases hv
    · rw [hv0] at hv
      have hg : g = b := by simpa [Value.ownBlock] using hv
      subst hg
      rw [hh] at hb; cases hb; simp
/-- None of the book's blocks: what is of another type. -/
theorem Bk.off {tB tHB tHI : TypeId} {kb N : Nat} {vb vi : Value} {hb hi : List Hl} (h : Bk tB tHB tHI w kb N vb vi hb hi) {b : Nat} {cs : Array Value} {t : TypeId} {fr : Nat × Nat} (hb' : w.heap[b]? = some (.cells cs t fr)) (h1 : t ≠ tB) (h2 : t ≠ tHB) (h3 : t ≠ tHI) : OffL kb vb vi w.heap.size b := by
  refine ⟨(Array.getElem?_eq_some_iff.1 hb').1, ?_, fun hv => ?_, fun hv => ?_⟩
  · rintro rfl
    rw [h.blk] at hb'; cases hb'; exact h1 rfl
  · rcases h.tb.2 with ⟨hv0, _⟩ | ⟨g, cap, cur, hv0, _, hh, _⟩
    · rw [hv0] at hv; cases hv
    · rw [hv0] at hv
      have hg : g = b := by simpa [Value.ownBlock] using hv
      subst hg
      rw [hh] at hb'; cases hb'; exact h2 rfl
  · rcases h.ti.2 with ⟨hv0, _⟩ | ⟨g, cap, cur, hv0, _, hh, _⟩
    · rw [hv0] at hv; cases hv
    · rw [hv0] at hv
      have hg : g = b := by simpa [Value.ownBlock] using hv
      subst hg
      rw [hh] at hb'; cases hb'; exact h3 rfl
end

/-- A list of 64 bytes that fills its block. -/
def sl64 (g : Nat) : Value := .slice (some ⟨g, 0, none⟩) 64 64
def Dk.rcells (d : Dk) (A : Option Addr) (c : Nat) : Array Value := #[.slice A d.ss.length c, .int .i64 d.left, .bool d.blown, .int .i64 d.writes]
/-- The document's disk lies in block q, its list in a row of its own, each sector in a block of its own. -/
structure RfAt (w : World) (B q : Nat) (d : Dk) (A : Option Addr) (c : Nat) (gs : List Nat) : Prop where
  hq : w.heap[q]? = some (.cells (d.rcells A c) 60 (0, 0))
  hB : B ≤ q
  own : Own w B 42 A d.ss.length c (gs.map sl64)
  row : ∀ (j g : Nat) (s : List UInt8), gs[j]? = some g → d.ss[j]? = some s → B ≤ g ∧ w.heap[g]? = some (.cells (cu8 s).toArray 5 (0, 0))
  len : ∀ s ∈ d.ss, s.length = 64
  top : d.ss.length ≤ 1024
  lo : -1 ≤ d.left
  hi : d.left ≤ 9223372036854775807

section
variable {T : List TypeId} {w w' : World} {B q : Nat} {d : Dk} {A : Option Addr} {c : Nat} {gs : List Nat}
theorem RfAt.ltq (h : RfAt w B q d A c gs) : q < w.heap.size := (Array.getElem?_eq_some_iff.1 h.hq).1
theorem RfAt.gl (h : RfAt w B q d A c gs) : gs.length = d.ss.length := by have := h.own.len; simpa using this
theorem RfAt.frt (h : RfAt w B q d A c gs) (hf : FrT T w w') (h1 : 60 ∉ T) (h2 : 42 ∉ T) (h3 : 5 ∉ T) : RfAt w' B q d A c gs :=
  ⟨by rw [hf.2 q _ _ _ h.hq h1]; exact h.hq, h.hB, h.own.frt hf h2, fun j g s hg hs => by obtain ⟨a, b⟩ := h.row j g s hg hs; exact ⟨a, by rw [hf.2 g _ _ _ b h3]; exact b⟩, h.len, h.top, h.lo, h.hi⟩
theorem RfAt.below (h : RfAt w B q d A c gs) (hb : Below w.heap.size w w') : RfAt w' B q d A c gs := h.frt (T := []) (FrT.of_below hb) (by simp) (by simp) (by simp)
theorem RfAt.alloc (h : RfAt w B q d A c gs) (o : Obj) : RfAt (w.alloc o) B q d A c gs := h.below ((Below.refl _ w).alloc (Nat.le_refl _) o)
theorem RfAt.drew (h : RfAt w B q d A c gs) : RfAt w.drew B q d A c gs := ⟨h.hq, h.hB, h.own, h.row, h.len, h.top, h.lo, h.hi⟩
theorem RfAt.mono {B' : Nat} (h : RfAt w B q d A c gs) (hb : B' ≤ B) : RfAt w B' q d A c gs := ⟨h.hq, Nat.le_trans hb h.hB, h.own.mono hb, fun j g s hg hs => ⟨Nat.le_trans hb (h.row j g s hg hs).1, (h.row j g s hg hs).2⟩, h.len, h.top, h.lo, h.hi⟩
theorem RfAt.c0 (h : RfAt w B q d A c gs) : w.cell? ⟨q, 0, none⟩ = some (.slice A d.ss.length c) := by rw [cell_of_row _ _ _ _ _ _ h.hq]; rfl
theorem RfAt.c1 (h : RfAt w B q d A c gs) : w.cell? ⟨q, 1, none⟩ = some (.int .i64 d.left) := by rw [cell_of_row _ _ _ _ _ _ h.hq]; rfl
theorem RfAt.c2 (h : RfAt w B q d A c gs) : w.cell? ⟨q, 2, none⟩ = some (.bool d.blown) := by rw [cell_of_row _ _ _ _ _ _ h.hq]; rfl
theorem RfAt.c3 (h : RfAt w B q d A c gs) : w.cell? ⟨q, 3, none⟩ = some (.int .i64 d.writes) := by rw [cell_of_row _ _ _ _ _ _ h.hq]; rfl
theorem RfAt.free (h : RfAt w B q d A c gs) (j : Nat) : w.frozen? ⟨q, j, none⟩ = false := by have := h.hq; simp [World.frozen?, this]
/-- A store into the disk's own block. -/
theorem RfAt.setq (h : RfAt w B q d A c gs) (j : Nat) (v : Value) (d' : Dk) (h1 : (d.rcells A c).setIfInBounds j v = d'.rcells A c) (h2 : d'.ss = d.ss) (h3 : -1 ≤ d'.left) (h4 : d'.left ≤ 9223372036854775807) :
    RfAt (w.setCell ⟨q, j, none⟩ v) B q d' A c gs ∧ FrT [60, 42] w (w.setCell ⟨q, j, none⟩ v) ∧ Below B w (w.setCell ⟨q, j, none⟩ v) := by
  have hf : FrT [60] w (w.setCell ⟨q, j, none⟩ v) := (FrT.refl _ w).setCell (a := ⟨q, j, none⟩) h.hq (by simp) v
  have k2 : 42 ∉ [60] := by decide
  have k3 : 5 ∉ [60] := by decide
  refine ⟨⟨?_, h.hB, by rw [h2]; exact h.own.frt hf k2, fun j' g s hg hs => ?_, by rw [h2]; exact h.len, by rw [h2]; exact h.top, h3, h4⟩, hf.mono (fun t ht => by simp at ht; simp [ht]), (Below.refl B w).setCell (p := ⟨q, j, none⟩) h.hB v⟩
  · rw [setCell_eq_setRow w q j _ _ _ v h.hq, h1]
    exact setRow_heap w q _ _ _ _ h.hq
  · rw [h2] at hs
    obtain ⟨a, b⟩ := h.row j' g s hg hs
    exact ⟨a, by rw [hf.2 g _ _ _ b k3]; exact b⟩
/-- One sector's cell in the list. -/
theorem RfAt.sec (h : RfAt w B q d A c gs) {n : Nat} (hn : n < d.ss.length) :
    ∃ (b g : Nat), A = some ⟨b, 0, none⟩ ∧ gs[n]? = some g ∧ w.cell? ⟨b, n, none⟩ = some (sl64 g) ∧ Rd w (some ⟨g, 0, none⟩) 64 (cu8 d.ss[n]) := by
  have hl := h.gl
  have hc : 0 < c := by have := h.own.le; omega
  obtain ⟨b, rfl, _, _⟩ := h.own.lt hc
  have hg : gs[n]? = some (gs[n]'(by omega)) := List.getElem?_eq_getElem (by omega)
  obtain ⟨_, hrow⟩ := h.row n _ _ hg (List.getElem?_eq_getElem hn)
  have h64 := h.len d.ss[n] (List.getElem_mem hn)
  refine ⟨b, _, rfl, hg, ?_, ?_⟩
  · rw [h.own.cell hn, List.getElem?_map, hg]; rfl
  · refine ⟨by rw [cu8_len, h64], fun _ => ⟨_, 0, rfl, fun j hj => ?_⟩⟩
    rw [cell_of_row _ _ _ _ _ _ hrow, Nat.zero_add]
    simp
/-- A sector more. -/
theorem RfAt.push (h : RfAt w B q d A c gs) (s : List UInt8) (hs : s.length = 64) (gN : Nat) (A2 : Option Addr) (c2 : Nat) (ht : d.ss.length + 1 ≤ 1024)
    (hq' : w'.heap[q]? = some (.cells (Dk.rcells { d with ss := d.ss ++ [s] } A2 c2) 60 (0, 0))) (hown : Own w' B 42 A2 (d.ss.length + 1) c2 ((gs ++ [gN]).map sl64))
    (hkeep : ∀ (g : Nat) (cs : Array Value), w.heap[g]? = some (.cells cs 5 (0, 0)) → w'.heap[g]? = w.heap[g]?) (hN : w'.heap[gN]? = some (.cells (cu8 s).toArray 5 (0, 0))) (hBN : B ≤ gN) : RfAt w' B q { d with ss := d.ss ++ [s] } A2 c2 (gs ++ [gN]) := by
  have hgl := h.gl
  refine ⟨hq', h.hB, ?_, fun j g t hg ht => ?_, fun t ht => ?_, by simpa using ht, h.lo, h.hi⟩
  · show Own w' B 42 A2 (d.ss ++ [s]).length c2 _
    rw [List.length_append]
    exact hown
  · rcases Nat.lt_or_ge j d.ss.length with hlt | hge
    · rw [List.getElem?_append_left (by omega)] at hg
      have ht' : d.ss[j]? = some t := by have h1 : (d.ss ++ [s])[j]? = some t := ht; rw [List.getElem?_append_left hlt] at h1; exact h1
      obtain ⟨a, b⟩ := h.row j g t hg ht'
      exact ⟨a, by rw [hkeep g _ b]; exact b⟩
    · rw [List.getElem?_append_right (by omega)] at hg
      have ht' : [s][j - d.ss.length]? = some t := by have h1 : (d.ss ++ [s])[j]? = some t := ht; rw [List.getElem?_append_right hge] at h1; exact h1
      have h0 : j - d.ss.length = 0 := by have := (List.getElem?_eq_some_iff.1 ht').1; simp at this; omega
      rw [h0] at ht'
      rw [hgl, h0] at hg
      obtain rfl : s = t := by simpa using ht'
      obtain rfl : gN = g := by simpa using hg
      exact ⟨hBN, hN⟩
  · have ht' : t ∈ d.ss ++ [s] := ht
    rcases List.mem_append.1 ht' with h1 | h1
    · exact h.len t h1
    · rw [List.mem_singleton.1 h1]; exact hs
/-- Another list in a sector's place. -/
theorem RfAt.place (h : RfAt w B q d A c gs) {b : Nat} (hA : A = some ⟨b, 0, none⟩) (n : Nat) (hn : n < d.ss.length) (s : List UInt8) (hs : s.length = 64) (gN : Nat) (hBN : B ≤ gN) (hN : w.heap[gN]? = some (.cells (cu8 s).toArray 5 (0, 0))) :
    RfAt (w.setCell ⟨b, n, none⟩ (sl64 gN)) B q { d with ss := d.ss.set n s } A c (gs.set n gN) ∧ FrT [60, 42] w (w.setCell ⟨b, n, none⟩ (sl64 gN)) ∧ Below B w (w.setCell ⟨b, n, none⟩ (sl64 gN)) := by
  subst hA
  have hc : 0 < c := by have := h.own.le; omega
  have hgl := h.gl
  obtain ⟨_, cur, hA, hBb, hh, _⟩ := h.own.2.resolve_left (by omega)
  cases hA
  have hf : FrT [42] w (w.setCell ⟨b, n, none⟩ (sl64 gN)) := (FrT.refl _ w).setCell (a := ⟨b, n, none⟩) hh (by simp) _
  have k1 : 60 ∉ [42] := by decide
  have k3 : 5 ∉ [42] := by decide
  refine ⟨⟨?_, h.hB, ?_, fun j g t hg ht => ?_, fun t ht => ?_, by simpa using h.top, h.lo, h.hi⟩, hf.mono (fun t ht => by simp at ht; simp [ht]), (Below.refl B w).setCell (p := ⟨b, n, none⟩) hBb _⟩
  · rw [hf.2 q _ _ _ h.hq k1, h.hq]
    simp [Dk.rcells]
  · have h1 := h.own.set hc n (sl64 gN)
    show Own _ B 42 _ (d.ss.set n s).length c _
    rw [List.length_set, List.map_set]
    exact h1
  · have ht' : (d.ss.set n s)[j]? = some t := ht
    by_cases hj : j = n
    · subst hj
      rw [List.getElem?_set_self (by omega)] at hg
      rw [List.getElem?_set_self hn] at ht'
      cases hg
      cases ht'
      exact ⟨hBN, by rw [hf.2 gN _ _ _ hN k3]; exact hN⟩
    · rw [List.getElem?_set_ne (by omega)] at hg ht'
      obtain ⟨a, b'⟩ := h.row j g t hg ht'
      exact ⟨a, by rw [hf.2 g _ _ _ b' k3]; exact b'⟩
  · have ht' : t ∈ d.ss.set n s := ht
    rcases List.mem_or_eq_of_mem_set ht' with h1 | h1
    · exact h.len t h1
    · rw [h1]; exact hs
end
end Go.Proofs.YthgbenncheoemaaDoor
