/-
  Others' lists made empty, or what they have alone (mathematics for PathsOthers).
-/
import Derived.Test.YtojpdmhccodckaaPaF
namespace Go.Proofs.Ytojpdmhccodckaa
set_option linter.unusedVariables false

def othersG (g : List (List Int)) (q zs : List Int) (j : Nat) : List (List Int) := (List.range g.length).map fun i => if i < j ∧ (i : Int) ∉ q then (if zs.getD i (-1) = -1 then [] else [zs.getD i (-1)]) else g.getD i []
theorem othersG_len (g : List (List Int)) (q zs : List Int) (j : Nat) : (othersG g q zs j).length = g.length := by simp [othersG]
theorem othersG_get? {g : List (List Int)} {q zs : List Int} {j i : Nat} (hi : i < g.length) : (othersG g q zs j)[i]? = some (if i < j ∧ (i : Int) ∉ q then (if zs.getD i (-1) = -1 then [] else [zs.getD i (-1)]) else g.getD i []) := by
  rw [othersG, List.getElem?_map, List.getElem?_range hi]; rfl
theorem othersG_get {g : List (List Int)} {q zs : List Int} {j i : Nat} (hi : i < g.length) : (othersG g q zs j).getD i [] = if i < j ∧ (i : Int) ∉ q then (if zs.getD i (-1) = -1 then [] else [zs.getD i (-1)]) else g.getD i [] := by
  rw [List.getD_eq_getElem?_getD, othersG_get? hi]; rfl
theorem othersG_zero (g : List (List Int)) (q zs : List Int) : othersG g q zs 0 = g := by
  refine List.ext_getElem? fun i => ?_
  by_cases hi : i < g.length
  · rw [othersG_get? hi, if_neg (by omega), List.getD_eq_getElem?_getD, List.getElem?_eq_getElem hi]; rfl
  · rw [List.getElem?_eq_none (by rw [othersG_len]; omega), List.getElem?_eq_none (by omega)]
theorem othersG_in {g : List (List Int)} {q zs : List Int} {j : Nat} (hq : (j : Int) ∈ q) : othersG g q zs (j + 1) = othersG g q zs j := by
  refine List.ext_getElem? fun i => ?_
  by_cases hi : i < g.length
  · rw [othersG_get? hi, othersG_get? hi]
    congr 1
    by_cases he : i = j
    · subst he; rw [if_neg (fun h => h.2 hq), if_neg (fun h => h.2 hq)]
    · by_cases h2 : i < j ∧ (i : Int) ∉ q
      · rw [if_pos h2, if_pos ⟨by omega, h2.2⟩]
      · rw [if_neg h2, if_neg (fun h => h2 ⟨by omega, h.2⟩)]
  · rw [List.getElem?_eq_none (by rw [othersG_len]; omega), List.getElem?_eq_none (by rw [othersG_len]; omega)]
theorem othersG_out {g : List (List Int)} {q zs : List Int} {j : Nat} (hj : j < g.length) (hq : (j : Int) ∉ q) : othersG g q zs (j + 1) = (othersG g q zs j).set j (if zs.getD j (-1) = -1 then [] else [zs.getD j (-1)]) := by
  refine List.ext_getElem? fun i => ?_
  rw [List.getElem?_set]
  by_cases hi : i < g.length
  · rw [othersG_get? hi]
    by_cases he : j = i
    · subst he
      rw [if_pos (show j < j + 1 ∧ (j : Int) ∉ q from ⟨by omega, hq⟩)]
      have hjl : j < (othersG g q zs j).length := by rw [othersG_len]; exact hj
      simp [hjl]
    · rw [if_neg he, othersG_get? hi]
      congr 1
      by_cases h2 : i < j ∧ (i : Int) ∉ q
      · rw [if_pos h2, if_pos ⟨by omega, h2.2⟩]
      · rw [if_neg h2, if_neg (fun h => h2 ⟨by omega, h.2⟩)]
  · rw [if_neg (by omega), List.getElem?_eq_none (by rw [othersG_len]; omega), List.getElem?_eq_none (by rw [othersG_len]; omega)]
section
variable {g : List (List Int)} {m : Nat} {has : List Int} {from_ : Int}
theorem others_may (h : mayP g m has from_ = true) (j : Nat) : mayP (othersG g (whoP g m has from_) has j) m has from_ = true := by
  have f := may_fits h
  obtain ⟨q1, q2, q3, q4⟩ := checkG_iff.1 (may_check h)
  obtain ⟨_, h2, h3⟩ := mayP_iff.1 h
  refine mayP_iff.2 ⟨fits_fit (checkG_iff.2 ⟨q1, q2, by rw [othersG_len]; exact q3, fun l hl => ?_⟩) ⟨by rw [othersG_len]; exact f.len, fun i hi hn => ?_, f.one, f.rng⟩, by rw [othersG_len]; exact h2, h3⟩
  · obtain ⟨i, hi, rfl⟩ := List.mem_map.1 hl
    have hi := List.mem_range.1 hi
    show Rises m (if i < j ∧ (i : Int) ∉ whoP g m has from_ then (if has.getD i (-1) = -1 then [] else [has.getD i (-1)]) else g.getD i [])
    split
    · split
      · exact rises_nil _
      · rename_i hn
        have := f.rng i (by rw [f.len]; exact hi) hn
        exact ⟨fun y hy => by rw [List.mem_singleton.1 hy]; exact this, List.pairwise_singleton _ _⟩
    · exact q4 _ (getD_mem hi)
  · rw [othersG_get (by rw [← f.len]; exact hi)]
    split
    · exact List.mem_singleton.2 rfl
    · exact f.item i hi hn
theorem others_is (h : mayP g m has from_ = true) (j : Nat) : moreP (othersG g (whoP g m has from_) has j) m has from_ = moreP g m has from_ ∧ foundP (othersG g (whoP g m has from_) has j) m has from_ = foundP g m has from_ := by
  refine others_more (others_same h fun b hb => ?_)
  rw [othersG_get (mem_upto_nat.1 hb).1, if_neg (fun h => h.2 hb)]
end
end Go.Proofs.Ytojpdmhccodckaa
