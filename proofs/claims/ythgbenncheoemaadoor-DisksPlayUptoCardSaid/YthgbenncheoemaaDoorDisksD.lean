/-
  Words for a disk in memory: its block, the block of its sectors, what calls do with it. Copies and stores of whole sectors, in these words.
-/
import Derived.Test.YthgbenncheoemaaDoorKit
import Derived.Test.YthgbenncheoemaaDoorNumsD
import Derived.Test.YthgbenncheoemaaDoorBookD
import Derived.Deep.MidRow
import Derived.Laws.CopyOwn
import Derived.OneCell
namespace Go.Proofs.YthgbenncheoemaaDoor
open Go.RowKit
set_option linter.unusedVariables false

/-- A disk: what stands in its sectors, what its fuse lets be (below 0: all), whether it is blown, how many writes were OK. -/
structure Dk where
  ss : List (List UInt8)
  left : Int
  blown : Bool
  writes : Nat

def Dk.cells (d : Dk) (g : Nat) : Array Value := #[.slice (some ⟨g, 0, none⟩) d.ss.length d.ss.length, .int .i64 d.left, .bool d.blown, .int .i64 d.writes]

/-- The disk lies in block p, its sectors in block g. -/
structure DkAt (w : World) (p g : Nat) (d : Dk) : Prop where
  hp : w.heap[p]? = some (.cells (d.cells g) 67 (0, 0))
  hg : w.heap[g]? = some (.cells (cu8 d.ss.flatten).toArray 62 (0, 0))
  ne : p ≠ g
  len : ∀ s ∈ d.ss, s.length = 64
  pos : 0 < d.ss.length
  top : d.ss.length ≤ 1024
  lo : -1 ≤ d.left
  hi : d.left ≤ 9223372036854775807

/-- Bytes with noughts behind them. -/
def pad (b : List UInt8) : List UInt8 := b ++ List.replicate (64 - b.length) 0
theorem pad_len {b : List UInt8} (h : b.length ≤ 64) : (pad b).length = 64 := by simp [pad]; omega
/-- What a new disk is. -/
def blankD (n : Nat) : Dk := ⟨List.replicate n (List.replicate 64 0), -1, false, 0⟩
/-- One write more is asked for. -/
def Dk.asked (d : Dk) : Dk := if d.left = 0 then { d with blown := true } else if 0 < d.left then { d with left := d.left - 1 } else d
/-- A write that may be. -/
def Dk.write (d : Dk) (n : Nat) (b : List UInt8) : Dk := if d.left = 0 then d.asked else { d.asked with ss := d.ss.set n (pad b), writes := d.writes + 1 }
/-- What it answers. -/
def Dk.says (d : Dk) : Int := if d.left = 0 then 8 else 0
/-- A copy. -/
def Dk.copy (d : Dk) : Dk := ⟨d.ss, -1, false, 0⟩

theorem asked_ss (d : Dk) : d.asked.ss = d.ss := by
  unfold Dk.asked
  split
  · rfl
  · split <;> rfl
theorem asked_writes (d : Dk) : d.asked.writes = d.writes := by
  unfold Dk.asked
  split
  · rfl
  · split <;> rfl
theorem asked_zero {d : Dk} (h : d.left = 0) : d.asked = { d with blown := true } := by rw [Dk.asked, if_pos h]
theorem asked_pos {d : Dk} (h : 0 < d.left) : d.asked = { d with left := d.left - 1 } := by rw [Dk.asked, if_neg (by omega), if_pos h]
theorem asked_neg {d : Dk} (h : d.left < 0) : d.asked = d := by rw [Dk.asked, if_neg (by omega), if_neg (by omega)]

theorem flat_len (ss : List (List UInt8)) (h : ∀ s ∈ ss, s.length = 64) : ss.flatten.length = ss.length * 64 := by
  induction ss with
  | nil => rfl
  | cons s r ih => rw [List.flatten_cons, List.length_append, ih (fun x hx => h x (by simp [hx])), h s (by simp), List.length_cons]; omega
theorem flat_cut (ss : List (List UInt8)) (h : ∀ s ∈ ss, s.length = 64) (n : Nat) (hn : n < ss.length) : (ss.flatten.drop (n * 64)).take 64 = ss[n] := by
  induction ss generalizing n with
  | nil => simp at hn
  | cons s r ih =>
    have hs := h s (by simp)
    cases n with
    | zero => rw [Nat.zero_mul, List.drop_zero, List.flatten_cons, List.take_append_of_le_length (by omega), List.take_of_length_le (by omega)]; rfl
    | succ m =>
      rw [List.flatten_cons, List.drop_append, List.drop_eq_nil_of_le (by omega), List.nil_append, hs, show (m + 1) * 64 - 64 = m * 64 by omega]
      exact ih (fun x hx => h x (by simp [hx])) m (by simpa using hn)
theorem flat_set (ss : List (List UInt8)) (h : ∀ s ∈ ss, s.length = 64) (n : Nat) (hn : n < ss.length) (b : List UInt8) (hb : b.length = 64) :
    ss.flatten.take (n * 64) ++ b ++ ss.flatten.drop (n * 64 + b.length) = (ss.set n b).flatten := by
  induction ss generalizing n with
  | nil => simp at hn
  | cons s r ih =>
    have hs := h s (by simp)
    cases n with
    | zero =>
      rw [Nat.zero_mul, List.take_zero, List.nil_append, List.set_cons_zero, List.flatten_cons, List.flatten_cons, Nat.zero_add, hb, List.drop_append, List.drop_eq_nil_of_le (by omega), List.nil_append, hs]
      simp
    | succ m =>
      rw [List.set_cons_succ, List.flatten_cons, List.flatten_cons, ← ih (fun x hx => h x (by simp [hx])) m (by simpa using hn), List.take_append, List.take_of_length_le (by omega), List.drop_append, List.drop_eq_nil_of_le (by omega), hs,
        show (m + 1) * 64 - 64 = m * 64 by omega, show (m + 1) * 64 + b.length - 64 = m * 64 + b.length by omega]
      simp

section
variable {w w' : World} {p g : Nat} {d : Dk} {P : Nat → Prop}

theorem DkAt.ltp (h : DkAt w p g d) : p < w.heap.size := (Array.getElem?_eq_some_iff.1 h.hp).1
theorem DkAt.ltg (h : DkAt w p g d) : g < w.heap.size := (Array.getElem?_eq_some_iff.1 h.hg).1
theorem DkAt.keep (h : DkAt w p g d) (h1 : w'.heap[p]? = w.heap[p]?) (h2 : w'.heap[g]? = w.heap[g]?) : DkAt w' p g d :=
  ⟨by rw [h1]; exact h.hp, by rw [h2]; exact h.hg, h.ne, h.len, h.pos, h.top, h.lo, h.hi⟩
theorem DkAt.fr (h : DkAt w p g d) (hf : Fr P w w') (h1 : ¬ P p) (h2 : ¬ P g) : DkAt w' p g d := h.keep (hf.2 p h.ltp h1) (hf.2 g h.ltg h2)
theorem DkAt.below (h : DkAt w p g d) (hb : Below w.heap.size w w') : DkAt w' p g d := h.keep (hb.block p h.ltp) (hb.block g h.ltg)
theorem DkAt.drew (h : DkAt w p g d) : DkAt w.drew p g d := h.keep rfl rfl
theorem DkAt.drewN (h : DkAt w p g d) (k : Nat) : DkAt (w.drewN k) p g d := h.keep rfl rfl
theorem DkAt.alloc (h : DkAt w p g d) (o : Obj) : DkAt (w.alloc o) p g d := h.keep (Below.heap_alloc _ _ _ h.ltp) (Below.heap_alloc _ _ _ h.ltg)

theorem DkAt.c0 (h : DkAt w p g d) : w.cell? ⟨p, 0, none⟩ = some (.slice (some ⟨g, 0, none⟩) d.ss.length d.ss.length) := by rw [cell_of_row _ _ _ _ _ _ h.hp]; rfl
theorem DkAt.c1 (h : DkAt w p g d) : w.cell? ⟨p, 1, none⟩ = some (.int .i64 d.left) := by rw [cell_of_row _ _ _ _ _ _ h.hp]; rfl
theorem DkAt.c2 (h : DkAt w p g d) : w.cell? ⟨p, 2, none⟩ = some (.bool d.blown) := by rw [cell_of_row _ _ _ _ _ _ h.hp]; rfl
theorem DkAt.c3 (h : DkAt w p g d) : w.cell? ⟨p, 3, none⟩ = some (.int .i64 d.writes) := by rw [cell_of_row _ _ _ _ _ _ h.hp]; rfl
theorem DkAt.free (h : DkAt w p g d) (j : Nat) : w.frozen? ⟨p, j, none⟩ = false := by have := h.hp; simp [World.frozen?, this]

/-- A store into the disk's own block. -/
theorem DkAt.setp (h : DkAt w p g d) (j : Nat) (v : Value) (d' : Dk) (h1 : (d.cells g).setIfInBounds j v = d'.cells g) (h2 : d'.ss = d.ss) (h3 : -1 ≤ d'.left) (h4 : d'.left ≤ 9223372036854775807) : DkAt (w.setCell ⟨p, j, none⟩ v) p g d' := by
  refine ⟨?_, ?_, h.ne, by rw [h2]; exact h.len, by rw [h2]; exact h.pos, by rw [h2]; exact h.top, h3, h4⟩
  · rw [setCell_eq_setRow w p j _ _ _ v h.hp, h1]
    exact setRow_heap w p _ _ _ _ h.hp
  · rw [setCell_ne (by show g ≠ p; exact Ne.symm h.ne), h2]
    exact h.hg
/-- A sector's cells. -/
theorem DkAt.range (h : DkAt w p g d) (n : Nat) (hn : n < d.ss.length) : w.rangeAt g (n * 64) (cu8 d.ss[n]) := by
  intro j v hv
  have hl := h.len d.ss[n] (List.getElem_mem hn)
  have hj : j < 64 := by have := (List.getElem?_eq_some_iff.1 hv).1; rw [cu8_len, hl] at this; exact this
  rw [cell_of_row _ _ _ _ _ _ h.hg, ← hv, ← flat_cut d.ss h.len n hn]
  simp [cu8, List.getElem?_drop, hj]
/-- A sector is written. -/
theorem DkAt.setg (h : DkAt w p g d) (n : Nat) (hn : n < d.ss.length) (b : List UInt8) (hb : b.length = 64) :
    DkAt (w.setRow g ((cu8 d.ss.flatten).take (n * 64) ++ cu8 b ++ (cu8 d.ss.flatten).drop (n * 64 + (cu8 b).length)).toArray) p g { d with ss := d.ss.set n b } := by
  refine ⟨?_, ?_, h.ne, ?_, by simpa using h.pos, by simpa using h.top, h.lo, h.hi⟩
  · rw [setRow_other _ _ _ _ h.ne]
    have h2 : ({ d with ss := d.ss.set n b } : Dk).cells g = d.cells g := by simp [Dk.cells]
    rw [h2]
    exact h.hp
  · rw [setRow_heap w g _ _ _ _ h.hg, cu8_len, cu8_take, cu8_drop, ← cu8_app, ← cu8_app, flat_set d.ss h.len n hn b hb]
  · intro s hs
    rcases List.mem_or_eq_of_mem_set hs with h1 | h1
    · exact h.len s h1
    · rw [h1]; exact hb
end

section
variable {P : Program}
/-- A value of as many cells as the variable has goes into a block that is known whole, from offset o on. -/
theorem run_storeAt_row (w : World) (g o : Nat) (ty : TypeId) (cs : List Value) (cur : List Value) (t : TypeId) (hg : w.heap[g]? = some (.cells cur.toArray t (0, 0)))
    (hl : o + cs.length ≤ cur.length) (hi : (P.info? ty).map (·.size) = some cs.length) (h1 : ∀ v ∈ cs, v.oneCell' = true) :
    (Instr.storeAt ty (.pointer (some ⟨g, o, none⟩)) (.agg cs.toArray)).run P w = .ok () (w.setRow g (cur.take o ++ cs ++ cur.drop (o + cs.length)).toArray) := by
  have hst := run_storeCells_at P g o t cs 0 cur.toArray w hg (by simpa using hl) h1
  cases hq : P.info? ty with
  | none => simp [hq] at hi
  | some i =>
    have hs : cs.length = i.size := by simp [hq] at hi; omega
    have hrun : (storeVar ty ⟨g, o, none⟩ (.agg cs.toArray)).run P w = .ok () (w.setRow g (cur.take o ++ cs ++ cur.drop (o + cs.length)).toArray) := by
      simp only [Nat.add_zero] at hst
      simp [storeVar, sizeOf, typeInfo, hq, Value.cells, hs, hst]
    simp only [Instr.storeAt, Instr.sureAddr, Sem.run_bind, Sem.run_pure, Result.andThen_ok, hrun]

/-- copy of elements of any size, into a block that is known whole. -/
theorem run_copy_rowK (w : World) (dT sT ty elem : TypeId) (K : Nat) (g o dLen dCap : Nat) (a : Addr) (sLen sCap : Nat) (cur : Array Value) (t : TypeId) (cs : List Value)
    (hu : P.underlying dT = some (.slice elem)) (hs : (P.info? elem).map (·.size) = some K)
    (hg : w.heap[g]? = some (.cells cur t (0, 0))) (hn : cs.length = Nat.min sLen dLen * K)
    (hsrc : ∀ j v, cs[j]? = some v → w.cell? (a.add j) = some v) (hfit : o + cs.length ≤ cur.size) (h1 : ∀ v ∈ cs, v.oneCell' = true) :
    (Builtin.copy_ #[dT, sT] ty #[.slice (some ⟨g, o, none⟩) dLen dCap, .slice (some a) sLen sCap]).run P w =
      .ok (goInt (Nat.min sLen dLen)) (w.setRow g (cur.toList.take o ++ cs ++ cur.toList.drop (o + cs.length)).toArray) := by
  have hl := run_loadCells_list (P := P) w a cs hsrc
  have hst := run_storeCells_at P g o t cs 0 cur w hg (by simpa using hfit) h1
  cases hq : P.info? elem with
  | none => simp [hq] at hs
  | some i =>
    have hi : i.size = K := by simpa [hq] using hs
    rw [hn] at hl
    simp [Builtin.copy_, run_underlying hu, Builtin.lenOf, Builtin.firstCells, sizeOf, typeInfo, hq, hi, hl, hst]
end
end Go.Proofs.YthgbenncheoemaaDoor
