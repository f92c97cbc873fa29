/-
  What bytes are as a market, where they end too early, or are none: which answer that is.
-/
import Derived.Test.YtfhiedlglmgneaaMarkO
import Derived.Test.YtfhiedlglmgneaaBookD
namespace Go.Proofs.Ytfhiedlglmgneaa
open Go.RowKit
set_option linter.unusedVariables false

theorem getLs_none_step {k : Nat} {bs : List UInt8} (h : getLs k bs = none) : getLs (k + 1) bs = none := by rw [getLs_snoc, h]
theorem getLs_none_le {k m : Nat} {bs : List UInt8} (h : getLs k bs = none) (hm : k ≤ m) : getLs m bs = none := by
  induction m with
  | zero =>
    obtain rfl : k = 0 := by omega
    exact h
  | succ m ih =>
    by_cases he : k = m + 1
    · rw [← he]; exact h
    · exact getLs_none_step (ih (by omega))
theorem getLs_next {k : Nat} {bs q r : List UInt8} {ls : List (List Int)} {l : List Int} (h : getLs k bs = some (ls, q)) (h2 : getLp q = some (l, r)) : getLs (k + 1) bs = some (ls ++ [l], r) := by
  rw [getLs_snoc, h]
  simp only [h2]
theorem getLs_end {k : Nat} {bs q : List UInt8} {ls : List (List Int)} (h : getLs k bs = some (ls, q)) (h2 : getLp q = none) : getLs (k + 1) bs = none := by
  rw [getLs_snoc, h]
  simp only [h2]
theorem getLp_cases (q : List UInt8) : (getLp q = none ∧ q.length < 1 + 4 * getN (q.take 1)) ∨ (∃ l r, getLp q = some (l, r) ∧ l = getL (q.drop 1) (getN (q.take 1)) ∧ r = q.drop (1 + 4 * getN (q.take 1)) ∧ 1 + 4 * getN (q.take 1) ≤ q.length ∧ Small l) := by
  by_cases h : q.length < 1 + 4 * getN (q.take 1)
  · exact .inl ⟨getLp_none h, h⟩
  · exact .inr ⟨_, _, getLp_some h, rfl, rfl, by omega, getL_small _ _ (by have := getN_take1 q; omega)⟩
theorem small_fit {l : List Int} (h : Small l) : ∀ z ∈ l, -9223372036854775808 ≤ z ∧ z ≤ 9223372036854775807 := fun z hz => by have := h.2 z hz; omega

theorem readM_n1 {bs : List UInt8} (h : getLp bs = none) : readM bs = none := by rw [readM, h]
theorem readM_n2 {bs q : List UInt8} {r : List Int} (h : getLp bs = some (r, q)) (h2 : q.length < 1) : readM bs = none := by rw [readM, h]; simp only; rw [if_pos h2]
theorem readM_n3 {bs q : List UInt8} {r : List Int} (h : getLp bs = some (r, q)) (h3 : getLs (getN (q.take 1)) (q.drop 1) = none) : readM bs = none := by
  rw [readM, h]
  simp only
  by_cases h2 : q.length < 1
  · rw [if_pos h2]
  · rw [if_neg h2, h3]
theorem readM_n4 {bs q q2 : List UInt8} {r : List Int} {b : List (List Int)} (h : getLp bs = some (r, q)) (h3 : getLs (getN (q.take 1)) (q.drop 1) = some (b, q2)) (h4 : getLp q2 = none) : readM bs = none := by
  rw [readM, h]
  simp only
  by_cases h2 : q.length < 1
  · rw [if_pos h2]
  · rw [if_neg h2, h3]
    simp only
    rw [h4]
theorem readM_s {bs q q2 q3 : List UInt8} {r o : List Int} {b : List (List Int)} (h : getLp bs = some (r, q)) (h2 : ¬ q.length < 1) (h3 : getLs (getN (q.take 1)) (q.drop 1) = some (b, q2)) (h4 : getLp q2 = some (o, q3)) : readM bs = some ((r, b, o), q3) := by
  rw [readM, h]
  simp only
  rw [if_neg h2, h3]
  simp only
  rw [h4]
theorem getME_none {bs : List UInt8} (h : readM bs = none) : getME bs = 5 := by rw [getME, h]
theorem getME_bad {bs q : List UInt8} {r o : List Int} {b : List (List Int)} (h : readM bs = some ((r, b, o), q)) (h2 : ¬ (q = [] ∧ mayM r b o = true)) : getME bs = 4 := by rw [getME, h]; exact if_neg h2
theorem getME_good {bs q : List UInt8} {r o : List Int} {b : List (List Int)} (h : readM bs = some ((r, b, o), q)) (h2 : q = [] ∧ mayM r b o = true) : getME bs = 0 := by rw [getME, h]; exact if_pos h2
theorem getM_bad {bs : List UInt8} (h : getME bs ≠ 0) : getM bs = ([], [], []) := by rw [getM, if_neg h]
theorem nil_parts : Mk.nil.parts = ([], [], []) := rfl
end Go.Proofs.Ytfhiedlglmgneaa
