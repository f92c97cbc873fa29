/-
  What a function for the first of the best answers (a contract).
-/
import Derived.Test.YtecgakfblhiiaaaWeO
import Derived.Test.YtecgakfblhiiaaaFiD
import Derived.Test.YtecgakfblhiiaaaMarkO
namespace Go.Proofs.Ytecgakfblhiiaaa
open Go.RowKit
set_option linter.unusedVariables false

/-- Has an order each bidder, once? -/
def ordB (o : List Int) (n : Nat) : Bool := decide (o.length = n) && (List.range n).all fun i => decide (times o (i : Nat) = 1)
theorem ordB_iff {o : List Int} {n : Nat} : ordB o n = true ↔ o.length = n ∧ ∀ i, i < n → times o (i : Nat) = 1 := by
  simp [ordB]
/-- An order, as numbers of bidders. -/
def whoN (o : List Int) : List Nat := o.map Int.toNat
theorem whoN_len (o : List Int) : (whoN o).length = o.length := by rw [whoN, List.length_map]
theorem whoN_get {o : List Int} {j : Nat} (hj : j < o.length) : (whoN o)[j]'(by rw [whoN_len]; exact hj) = (o[j]).toNat := by simp [whoN]
theorem ord_in {o : List Int} {n : Nat} (h : ordB o n = true) : ∀ z ∈ o, 0 ≤ z ∧ z < n := by
  obtain ⟨h1, h2⟩ := ordB_iff.1 h
  exact order_in h1 h2
theorem ord_nodup {o : List Int} {n : Nat} (h : ordB o n = true) : (whoN o).Nodup := by
  obtain ⟨h1, h2⟩ := ordB_iff.1 h
  have h3 := ord_in h
  refine List.pairwise_iff_getElem.2 ?_
  intro i j hi hj hij e
  rw [whoN_len] at hi hj
  rw [whoN_get hi, whoN_get hj] at e
  have a1 := h3 _ (List.getElem_mem hi)
  have a2 := h3 _ (List.getElem_mem hj)
  have a3 : times o o[j] = 1 := by
    have := h2 o[j].toNat (by omega)
    rwa [show ((o[j].toNat : Nat) : Int) = o[j] by omega] at this
  exact once_ne j i hj hij a3 (by omega)
theorem ord_lt {o : List Int} {n : Nat} (h : ordB o n = true) : ∀ b ∈ whoN o, b < n := fun b hb => by
  obtain ⟨z, hz, rfl⟩ := List.mem_map.1 hb
  have := ord_in h z hz
  omega
theorem ord_all {o : List Int} {n : Nat} (h : ordB o n = true) {b : Nat} (hb : b < n) : b ∈ whoN o := by
  obtain ⟨h1, h2⟩ := ordB_iff.1 h
  have h3 := times_mem (h2 b hb)
  exact List.mem_map.2 ⟨_, h3, by simp⟩

def mayF (g : List (List Int)) (m : Int) (o : List Int) : Bool := mayW g m && ordB o g.length
theorem mayF_iff {g : List (List Int)} {m : Int} {o : List Int} : mayF g m o = true ↔ mayW g m = true ∧ ordB o g.length = true := by
  rw [mayF, Bool.and_eq_true]
def fErr (g : List (List Int)) (m : Int) (o : List Int) : Int := if mayF g m o = true then 0 else 1
/-- An item, or none, as a number. -/
def optI : Option Nat → Int
  | some k => k
  | none => -1
theorem optI_inj {a b : Option Nat} (h : optI a = optI b) : a = b := by
  cases a <;> cases b <;> simp only [optI] at h
  · rfl
  · omega
  · omega
  · rw [show _ = _ from Int.ofNat.inj h]
def firstV (g : List (List Int)) (m : Nat) (o : List Int) : Nat → Option Nat := firstF (gG g) m g.length (whoN o)
def firstE (g : List (List Int)) (m : Int) (o : List Int) : List Int := if mayF g m o = true then (List.range g.length).map fun b => optI (firstV g m.toNat o b) else []
theorem fi_ok {g : List (List Int)} {m : Nat} {o : List Int} (h : mayF g m o = true) : fErr g m o = 0 ∧ firstE g m o = (List.range g.length).map fun b => optI (firstV g m o b) := by
  simp [fErr, firstE, h]
theorem fi_bad {g : List (List Int)} {m : Int} {o : List Int} (h : mayF g m o = false) : fErr g m o = 1 ∧ firstE g m o = [] := by
  simp [fErr, firstE, h]
theorem firstE_len {g : List (List Int)} {m : Nat} {o : List Int} (h : mayF g m o = true) : (firstE g m o).length = g.length := by rw [(fi_ok h).2]; simp
theorem firstE_get {g : List (List Int)} {m : Nat} {o : List Int} (h : mayF g m o = true) {b : Nat} (hb : b < g.length) : (firstE g m o)[b]? = some (optI (firstV g m o b)) := by
  rw [(fi_ok h).2, List.getElem?_map, List.getElem?_range hb]; rfl
theorem first_is {g : List (List Int)} {m : Nat} {o : List Int} (h : mayF g m o = true) : FirstOf (gG g) m g.length (whoN o) (firstV g m o) := by
  obtain ⟨h1, h2⟩ := mayF_iff.1 h
  exact firstF_spec _ _ (ord_nodup h2) (ord_lt h2) fun b hb hn => absurd (ord_all h2 hb) hn
theorem first_lt {g : List (List Int)} {m : Nat} {o : List Int} (h : mayF g m o = true) {b k : Nat} (hb : b < g.length) (e : firstV g m o b = some k) : k < m := ((first_is h).mt.ok b hb k e).1
theorem optI_fit {g : List (List Int)} {m : Nat} {o : List Int} (h : mayF g m o = true) {b : Nat} (hb : b < g.length) : -1 ≤ optI (firstV g m o b) ∧ optI (firstV g m o b) < m := by
  cases e : firstV g m o b with
  | none => simp only [optI]; omega
  | some k => have := first_lt h hb e; simp only [optI]; omega

def FirstC (f : Nat) : Prop := ∀ (x : Gr) (m : Int) (y : Ls) (w : World), x.Ok w → -9223372036854775808 ≤ m → m ≤ 9223372036854775807 → y.Ok w →
  Calls Try.prog f #[x.v, .int .i64 m, y.v] w fun e w' => ∃ A n c, e = .returned (.tuple #[.slice A n c, .int .i64 (fErr x.g m y.zs)]) ∧ OwnI w' w.heap.size ⟨A, n, c, firstE x.g m y.zs⟩ ∧ Below w.heap.size w w'
end Go.Proofs.Ytecgakfblhiiaaa
