/-
  What functions for what one would have answer (contracts).
-/
import Derived.Test.YtdckoaljcklmhaaGreatDoorDeD
import Derived.Test.YtdckoaljcklmhaaGreatDoorMarkO
namespace Go.Proofs.YtdckoaljcklmhaaGreatDoor
open Go.RowKit
set_option linter.unusedVariables false

def dErr (b p : List Int) : Int := if mayD b p = true then 0 else 1
def itemsE (b p : List Int) : List Int := if mayD b p = true then itemsD b p else []
def gainE (b p : List Int) : Int := if mayD b p = true then gainD b p else 0
def noneE (b p : List Int) : Bool := mayD b p && decide (gainD b p = 0)
theorem de_ok {b p : List Int} (h : mayD b p = true) : dErr b p = 0 ∧ itemsE b p = itemsD b p ∧ gainE b p = gainD b p ∧ noneE b p = decide (gainD b p = 0) := by
  simp [dErr, itemsE, gainE, noneE, h]
theorem de_bad {b p : List Int} (h : mayD b p = false) : dErr b p = 1 ∧ itemsE b p = [] ∧ gainE b p = 0 ∧ noneE b p = false := by
  simp [dErr, itemsE, gainE, noneE, h]
theorem itemsD_len {b p : List Int} : (itemsD b p).length ≤ b.length := by rw [itemsD, List.length_map]; exact items_len
theorem gain_bound {b p : List Int} (h : mayD b p = true) : 0 ≤ gainD b p ∧ gainD b p ≤ 1000000 := by
  obtain ⟨_, _, h3, h4, h5⟩ := mayD_len h
  refine ⟨gain_nonneg, gain_le (by omega) fun k hk => ?_⟩
  have hb : b.getD k 0 ≤ 1000000 := by
    rw [List.getD_eq_getElem?_getD, List.getElem?_eq_getElem hk]; exact (h4 _ (List.getElem_mem hk)).2
  have hp : 0 ≤ p.getD k 0 := by
    rw [List.getD_eq_getElem?_getD]
    by_cases h6 : k < p.length
    · rw [List.getElem?_eq_getElem h6]; exact (h5 _ (List.getElem_mem h6)).1
    · rw [List.getElem?_eq_none (by omega)]; simp
  unfold gapD
  omega
def OfC (f : Nat) : Prop := ∀ (x y : Ls) (w : World), x.Ok w → y.Ok w →
  Calls Tryz.prog f #[x.v, y.v] w fun e w' => ∃ A n c, e = .returned (.tuple #[.slice A n c, .bool (noneE x.zs y.zs), .int .i64 (gainE x.zs y.zs), .int .i64 (dErr x.zs y.zs)]) ∧ OwnI w' w.heap.size ⟨A, n, c, itemsE x.zs y.zs⟩ ∧ Below w.heap.size w w'
/-- May a market, and prices, be? -/
def mayA (r : List Int) (b : List (List Int)) (o p : List Int) : Bool := mayM r b o && (decide (p.length = r.length) && mayPr p)
theorem mayA_iff {r : List Int} {b : List (List Int)} {o p : List Int} : mayA r b o p = true ↔ mayM r b o = true ∧ p.length = r.length ∧ mayPr p = true := by
  simp [mayA]
theorem mayA_each {r : List Int} {b : List (List Int)} {o p : List Int} (h : mayA r b o p = true) : ∀ l ∈ b, mayD l p = true := fun l hl => by
  obtain ⟨h1, h2, h3⟩ := mayA_iff.1 h
  have h4 := ((mayM_iff _ _ _).1 h1).2.2.1 l hl
  simp only [bidB, Bool.or_eq_true, decide_eq_true_eq] at h4
  exact mayD_iff.2 ⟨h3, by rw [h2]; exact h4⟩
def allErr (x : Mk) (p : List Int) : Int := if mayA x.r.zs (Ls.all x.b) x.o.zs p = true then 0 else 1
def allI (x : Mk) (p : List Int) : List (List Int) := if mayA x.r.zs (Ls.all x.b) x.o.zs p = true then (Ls.all x.b).map fun b => itemsD b p else []
def allN (x : Mk) (p : List Int) : List Bool := if mayA x.r.zs (Ls.all x.b) x.o.zs p = true then (Ls.all x.b).map fun b => decide (gainD b p = 0) else []
def AllDC (f : Nat) : Prop := ∀ (x : Mk) (y : Ls) (w : World), x.Ok w → y.Ok w →
  Calls Tryz.prog f #[x.v, y.v] w fun e w' => ∃ A n c A2 n2 c2 t, e = .returned (.tuple #[.slice A n c, .slice A2 n2 c2, .int .i64 (allErr x y.zs)]) ∧ Outs w' w.heap.size A n c t ∧ Ls.all t = allI x y.zs ∧
    Own w' w.heap.size 4 A2 n2 c2 ((allN x y.zs).map Value.bool) ∧ Below w.heap.size w w'
end Go.Proofs.YtdckoaljcklmhaaGreatDoor

