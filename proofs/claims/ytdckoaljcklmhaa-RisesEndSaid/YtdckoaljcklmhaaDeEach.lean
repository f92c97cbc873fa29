/-
  The mathematics of DemandsEach: the market with one bid less.
-/
import Derived.Test.YtdckoaljcklmhaaDeO
namespace Go.Proofs.Ytdckoaljcklmhaa
open Go.RowKit
set_option linter.unusedVariables false

theorem items_none (p : List Int) : itemsD [] p = [] := by simp [itemsD, itemsN]
theorem gain_none (p : List Int) : gainD [] p = 0 := by rfl
/-- The market with one bid less, at the prices that the market may be at. -/
theorem all_less {x y : Mk} {p : List Int} {k : Nat} (h : mayA x.r.zs (Ls.all x.b) x.o.zs p = true) (hk : k < x.n) (hq : y.parts = x.less k) :
    allErr y p = 0 ∧ allI y p = ((Ls.all x.b).set k []).map (fun b => itemsD b p) ∧ allN y p = ((Ls.all x.b).set k []).map (fun b => decide (gainD b p = 0)) := by
  obtain ⟨h1, h2, h3⟩ := mayA_iff.1 h
  have hh : x.has (k : Int) = true := by
    rw [Mk.has, Bool.and_eq_true]
    exact ⟨h1, decide_eq_true ⟨by omega, by omega⟩⟩
  rw [Mk.less, if_pos hh] at hq
  simp only [Mk.parts, Prod.mk.injEq, Int.toNat_natCast] at hq
  obtain ⟨q1, q2, q3⟩ := hq
  have hm : mayA y.r.zs (Ls.all y.b) y.o.zs p = true := by
    rw [q1, q2, q3]
    exact mayA_iff.2 ⟨mayM_less h1 k, h2, h3⟩
  rw [allErr, allI, allN, if_pos hm, if_pos hm, if_pos hm, q2]
  exact ⟨rfl, rfl, rfl⟩
theorem all_here {x : Mk} {p : List Int} (h : mayA x.r.zs (Ls.all x.b) x.o.zs p = true) :
    allErr x p = 0 ∧ allI x p = (Ls.all x.b).map (fun b => itemsD b p) ∧ allN x p = (Ls.all x.b).map (fun b => decide (gainD b p = 0)) := by
  rw [allErr, allI, allN, if_pos h, if_pos h, if_pos h]
  exact ⟨rfl, rfl, rfl⟩
/-- Bidder by bidder. -/
theorem set_here {l : List (List Int)} {k i : Nat} (hi : i < l.length) {α : Type} (F : List Int → α) :
    ((l.set k []).map F)[i]? = some (if i = k then F [] else F l[i]) := by
  rw [List.getElem?_map, List.getElem?_set]
  by_cases h : k = i
  · subst h
    rw [if_pos rfl, if_pos hi, if_pos rfl]; rfl
  · rw [if_neg h, if_neg (fun e => h e.symm), List.getElem?_eq_getElem hi]; rfl
end Go.Proofs.Ytdckoaljcklmhaa
