/-
  Lists of ints, lists of these, and markets (reserves, bids, order), as they lie in memory; a market that came in.
-/
import Derived.Test.YtdckoaljcklmhaaGreatDoorGrD
import Derived.Test.YtdckoaljcklmhaaGreatDoorRecs
import Derived.Deep.Strs
import Derived.Lib.SmallJoins
namespace Go.Proofs.YtdckoaljcklmhaaGreatDoor
set_option linter.unusedVariables false

/-- May a bid be, for so many items? -/
def mayB (bid : List Int) (items : Int) : Bool := decide (1 ≤ items ∧ items ≤ 8 ∧ (bid.length : Int) = items ∧ ∀ z ∈ bid, 0 ≤ z ∧ z ≤ 1000000)
theorem mayB_iff (bid : List Int) (items : Int) : mayB bid items = true ↔ 1 ≤ items ∧ items ≤ 8 ∧ (bid.length : Int) = items ∧ ∀ z ∈ bid, 0 ≤ z ∧ z ≤ 1000000 := by simp [mayB]
theorem mayB_out {bid : List Int} {items : Int} (h : items < 1 ∨ 8 < items ∨ (bid.length : Int) ≠ items) : mayB bid items = false := by
  rw [Bool.eq_false_iff]
  intro hm
  have := (mayB_iff _ _).1 hm
  omega
theorem mayB_in {bid : List Int} {items : Int} (h1 : 1 ≤ items) (h2 : items ≤ 8) (h3 : (bid.length : Int) = items) (h4 : ∀ z ∈ bid, 0 ≤ z ∧ z ≤ 1000000) : mayB bid items = true := (mayB_iff _ _).2 ⟨h1, h2, h3, h4⟩
theorem mayB_bad {bid : List Int} {items : Int} {z : Int} (hz : z ∈ bid) (h : z < 0 ∨ 1000000 < z) : mayB bid items = false := by
  rw [Bool.eq_false_iff]
  intro hm
  have := ((mayB_iff _ _).1 hm).2.2.2 z hz
  omega

end Go.Proofs.YtdckoaljcklmhaaGreatDoor


namespace Go.Proofs.YtdckoaljcklmhaaGreatDoor
set_option linter.unusedVariables false

/-! ## One list, and so many -/
def putLs : List (List Int) → List UInt8
  | [] => []
  | l :: r => putL l ++ putLs r
/-! ## Markets -/
/-- May a bid be, or is there none? -/
def bidB (bid : List Int) (items : Int) : Bool := decide (bid = []) || mayB bid items
/-- How often a bidder stands in the order. -/
def times (o : List Int) (i : Int) : Nat := o.countP fun z => decide (z = i)
/-- May a market be? -/
def mayM (r : List Int) (b : List (List Int)) (o : List Int) : Bool :=
  mayB r r.length && decide (1 ≤ b.length ∧ b.length ≤ 8 ∧ o.length = b.length) && b.all (fun l => bidB l r.length) && (List.range b.length).all fun i => decide (times o i = 1)
theorem mayM_iff (r : List Int) (b : List (List Int)) (o : List Int) : mayM r b o = true ↔
    mayB r r.length = true ∧ (1 ≤ b.length ∧ b.length ≤ 8 ∧ o.length = b.length) ∧ (∀ l ∈ b, bidB l r.length = true) ∧ ∀ i, i < b.length → times o (i : Nat) = 1 := by
  simp only [mayM, Bool.and_eq_true, decide_eq_true_eq, List.all_eq_true, List.mem_range, and_assoc]
theorem bidB_len {l : List Int} {n : Int} (h : bidB l n = true) : l = [] ∨ (l.length : Int) = n := by
  simp only [bidB, Bool.or_eq_true, decide_eq_true_eq] at h
  rcases h with rfl | h
  · exact Or.inl rfl
  · exact Or.inr ((mayB_iff _ _).1 h).2.2.1

/-- The numbers below n in o: the sum of how often each stands there. -/
theorem times_sum (o : List Int) (n : Nat) : (o.countP fun z => decide (0 ≤ z ∧ z < (n : Int))) = ((List.range n).map fun i => times o (i : Nat)).sum := by
  induction n with
  | zero =>
    simp only [List.range_zero, List.map_nil, List.sum_nil]
    rw [List.countP_eq_zero]
    intro z _
    simp only [decide_eq_true_eq]
    omega
  | succ n ih =>
    rw [List.range_succ, List.map_append, List.sum_append, ← ih]
    simp only [List.map_cons, List.map_nil, List.sum_cons, List.sum_nil, Nat.add_zero, times]
    clear ih
    induction o with
    | nil => rfl
    | cons z o ih2 =>
      simp only [List.countP_cons, ih2]
      by_cases h1 : z = (n : Int)
      · have a1 : decide (0 ≤ z ∧ z < ((n + 1 : Nat) : Int)) = true := decide_eq_true (by omega)
        have a2 : decide (0 ≤ z ∧ z < (n : Int)) = false := decide_eq_false (by omega)
        have a3 : decide (z = (n : Int)) = true := decide_eq_true h1
        simp only [a1, a2, a3, if_true, Bool.false_eq_true, if_false]
        omega
      · have a3 : decide (z = (n : Int)) = false := decide_eq_false h1
        have a1 : decide (0 ≤ z ∧ z < ((n + 1 : Nat) : Int)) = decide (0 ≤ z ∧ z < (n : Int)) := decide_eq_decide.2 (by omega)
        simp only [a1, a3, Bool.false_eq_true, if_false]
        omega
theorem sum_ones {l : List Nat} (h : ∀ x ∈ l, x = 1) : l.sum = l.length := by
  induction l with
  | nil => rfl
  | cons x l ih =>
    have := h x (by simp)
    rw [List.sum_cons, ih (fun y hy => h y (by simp [hy])), List.length_cons]
    omega
theorem order_in {o : List Int} {n : Nat} (hl : o.length = n) (h : ∀ i, i < n → times o (i : Nat) = 1) : ∀ z ∈ o, 0 ≤ z ∧ z < n := by
  have h1 := times_sum o n
  rw [sum_ones (by intro x hx; simp only [List.mem_map, List.mem_range] at hx; obtain ⟨i, hi, rfl⟩ := hx; exact h i hi), List.length_map, List.length_range, ← hl, List.countP_eq_length] at h1
  intro z hz
  have := h1 z hz
  simp only [decide_eq_true_eq] at this
  rw [hl] at this
  exact this

/-- A market's bytes. -/
def putM (r : List Int) (b : List (List Int)) (o : List Int) : List UInt8 := putL r ++ (putB b.length 1 ++ (putLs b ++ putL o))
/-! ## What each one gains; without one -/
/-- What one gains by each item. -/
def gain (r : List Int) (l : List Int) : List Int := if l = [] then r.map fun _ => -1 else List.zipWith (· - ·) l r
def gains (r : List Int) (b : List (List Int)) : List (List Int) := b.map (gain r)
/-- The bids without one. -/
def less (b : List (List Int)) (i : Nat) : List (List Int) := b.set i []
end Go.Proofs.YtdckoaljcklmhaaGreatDoor


namespace Go.Proofs.YtdckoaljcklmhaaGreatDoor
open Go.ChangeShapes Go.WideShapes Go.ChangeAt Go.RowKit Go.Joins Go.Deep
set_option linter.unusedVariables false

/-- A list of ints in memory: where it lies, and which they are. -/
structure Ls where
  A : Option Addr
  n : Nat
  c : Nat
  zs : List Int
def Ls.v (x : Ls) : Value := .slice x.A x.n x.c
structure Ls.Ok (w : World) (x : Ls) : Prop where
  rd : Rd w x.A x.n (ci64 x.zs)
  cap : x.n ≤ x.c
  top : x.c ≤ maxLen
  fit : ∀ z ∈ x.zs, -9223372036854775808 ≤ z ∧ z ≤ 9223372036854775807
theorem Ls.Ok.below {w w' : World} {x : Ls} (h : x.Ok w) (hb : Below w.heap.size w w') : x.Ok w' := ⟨h.rd.below hb, h.cap, h.top, h.fit⟩
theorem Ls.Ok.len {w : World} {x : Ls} (h : x.Ok w) : x.zs.length = x.n := by have := h.rd.len; rw [ci64_len] at this; exact this

/-- The block in which a list's memory lies, if it has any. -/
def Blk (u : Ls) (g : Nat) : Prop := 0 < u.c ∧ u.A = some ⟨g, 0, none⟩
/-- No two lie in the same block. -/
def AptL (l : List Ls) : Prop := l.Pairwise fun a b => ∀ g, Blk a g → ¬ Blk b g
theorem Own.blk {w : World} {B : Nat} {e : TypeId} {A : Option Addr} {n c : Nat} {xs : List Value} (h : Own w B e A n c xs) {g : Nat} (hc : 0 < c) (hA : A = some ⟨g, 0, none⟩) : B ≤ g ∧ g < w.heap.size := by
  obtain ⟨g', hA', hB, hg⟩ := h.lt hc
  rw [hA] at hA'
  cases hA'
  exact ⟨hB, hg⟩
/-- Lists that were there, and one that was made since. -/
theorem aptL_snoc {l : List Ls} {u : Ls} {s : Nat} (h : AptL l) (h1 : ∀ x ∈ l, ∀ g, Blk x g → g < s) (h2 : ∀ g, Blk u g → s ≤ g) : AptL (l ++ [u]) := by
  refine List.pairwise_append.2 ⟨h, List.pairwise_singleton _ _, fun a ha b hb g hg hg2 => ?_⟩
  rw [List.mem_singleton.1 hb] at hg2
  have := h1 a ha g hg
  have := h2 g hg2
  omega

/-- A market in memory: its reserves, the list of its bids and these, its order. -/
structure Mk where
  r : Ls
  A : Option Addr
  n : Nat
  c : Nat
  b : List Ls
  o : Ls
def Mk.cells (x : Mk) : List Value := [x.r.v, .slice x.A x.n x.c, x.o.v]
def Mk.v (x : Mk) : Value := .agg #[x.r.v, .slice x.A x.n x.c, x.o.v]
def Mk.bids (x : Mk) : List (List Int) := x.b.map Ls.zs
structure Mk.Ok (w : World) (x : Mk) : Prop where
  r : x.r.Ok w
  o : x.o.Ok w
  b : RdR w 1 x.A x.n (x.b.map fun u => [u.v])
  bs : ∀ u ∈ x.b, u.Ok w
  cap : x.n ≤ x.c
  top : x.c ≤ maxLen
  at_ : 0 < x.n → ∃ p q, x.A = some ⟨p, q, none⟩ ∧ p < w.heap.size
theorem Mk.Ok.len {w : World} {x : Mk} (h : x.Ok w) : x.b.length = x.n := by have := h.b.1; simpa using this
theorem Mk.Ok.bids_len {w : World} {x : Mk} (h : x.Ok w) : x.bids.length = x.n := by rw [Mk.bids, List.length_map, h.len]
theorem Mk.Ok.below {w w' : World} {x : Mk} (h : x.Ok w) (hb : Below w.heap.size w w') : x.Ok w' := by
  refine ⟨h.r.below hb, h.o.below hb, ?_, fun u hu => (h.bs u hu).below hb, h.cap, h.top, ?_⟩
  · by_cases hn : 0 < x.n
    · obtain ⟨p, q, hA, hp⟩ := h.at_ hn
      exact h.b.keep fun p' q' e => by rw [hA] at e; cases e; exact hb.block _ hp
    · exact ⟨h.b.1, fun h0 => absurd h0 hn⟩
  · intro hn
    obtain ⟨p, q, hA, hp⟩ := h.at_ hn
    exact ⟨p, q, hA, Nat.lt_of_lt_of_le hp hb.size⟩
/-- One of its bids: where it is told. -/
theorem Mk.Ok.get {w : World} {x : Mk} (h : x.Ok w) {j : Nat} (hj : j < x.n) :
    ∃ (p q : Nat) (u : Ls), x.A = some ⟨p, q, none⟩ ∧ x.b[j]? = some u ∧ x.bids[j]? = some u.zs ∧ p < w.heap.size ∧ w.cell? ⟨p, q + j, none⟩ = some u.v ∧ u.Ok w := by
  obtain ⟨p, q, hA, hc⟩ := h.b.2 (by omega)
  have hl : j < x.b.length := by rw [h.len]; exact hj
  have h1 := hc j [x.b[j].v] (by simp [hl]) 0 (by omega)
  rw [Nat.mul_one, Nat.add_zero] at h1
  exact ⟨p, q, x.b[j], hA, List.getElem?_eq_getElem hl, by simp [Mk.bids, hl], World.block_lt_of_cell? w _ h1, h1, h.bs _ (List.getElem_mem hl)⟩

section
variable {H : Type} {enc : TypeId × Value → H} {P : Program} {w : World} {base : Nat} {held : Bool} {r : Reach} {b0 : Nat} {t e ti tl : TypeId} {f0 f1 f2 : Field} {v : Value} {d : DataW H} {ps : List MemPlace}

end
end Go.Proofs.YtdckoaljcklmhaaGreatDoor

