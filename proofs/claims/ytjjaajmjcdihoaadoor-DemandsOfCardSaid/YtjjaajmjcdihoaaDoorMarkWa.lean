/-
  Walks of package markets: bidsMayBe, eachOnce, Check.
-/
import Derived.Test.YtjjaajmjcdihoaaDoorMarkO
import Derived.ChangeKeysEq
import Derived.Laws.StructEq
import Derived.Test.YtjjaajmjcdihoaaDoorVecW
namespace Go.Proofs.YtjjaajmjcdihoaaDoor
open Go.RowKit
set_option linter.unusedVariables false

section
variable {P : Program} (w : World)
theorem items_ints (d : Nat) {e : TypeId} {k : IntKind} (he : P.underlying e = some (.int k)) (hc : P.cellsOf e = 1) (xs ys : List Int) (is : List Nat) (ha : ∀ i ∈ is, i < xs.length) (hb : ∀ i ∈ is, i < ys.length) :
    (Op.eqItems (d + 1) e (P.cellsOf e) (xs.map (Value.int k)).toArray (ys.map (Value.int k)).toArray is).run P w = .ok (decide (∀ i ∈ is, xs[i]? = ys[i]?)) w := by
  have hpk : P.plainKey e = true := by unfold Program.plainKey; rw [he]
  induction is with
  | nil => simp [Op.eqItems]
  | cons i is ih =>
    have ha' := ha i (by simp)
    have hb' := hb i (by simp)
    have h1 : (xs.map (Value.int k)).toArray[i * P.cellsOf e]? = some (.int k xs[i]) := by simp [hc, ha']
    have h2 : (ys.map (Value.int k)).toArray[i * P.cellsOf e]? = some (.int k ys[i]) := by simp [hc, hb']
    rw [Op.eqItems]
    simp only [Sem.run_bind, run_part_plain w hpk h1, run_part_plain w hpk h2, Result.andThen_ok, run_equalIn_int w d e k k xs[i] ys[i] he]
    have ih' := ih (fun j hj => ha j (by simp [hj])) (fun j hj => hb j (by simp [hj]))
    by_cases hab : xs[i] = ys[i]
    · simp only [hab, beq_self_eq_true, Bool.not_true, Bool.false_eq_true, if_false]
      rw [ih']
      congr 1
      simp [List.getElem?_eq_getElem ha', List.getElem?_eq_getElem hb', hab]
    · have h3 : (xs[i] == ys[i]) = false := by rw [beq_eq_false_iff_ne]; exact hab
      simp only [h3, Bool.not_false, if_true, Sem.run_pure]
      congr 1
      simp [List.getElem?_eq_getElem ha', List.getElem?_eq_getElem hb', hab]
theorem equal_ints {t e : TypeId} {n : Nat} {k : IntKind} {i : TypeInfo} (ht : P.underlying t = some (.array n e)) (he : P.underlying e = some (.int k)) (hi : P.info? e = some i) (hc : P.cellsOf e = 1) (xs ys : List Int) (ha : xs.length = n) (hb : ys.length = n) :
    (Op.equalIn 10000 t (.agg (xs.map (Value.int k)).toArray) (.agg (ys.map (Value.int k)).toArray)).run P w = .ok (decide (xs = ys)) w := by
  rw [show 10000 = 9998 + 1 + 1 from rfl, run_equalIn_array w (9998 + 1) _ _ ht hi]
  rw [items_ints w 9998 he hc xs ys _ (by simp [ha]) (by simp [hb])]
  congr 1
  rw [decide_eq_decide]
  constructor
  · intro h
    apply List.ext_getElem?
    intro j
    by_cases hj : j < n
    · exact h j (by simpa using hj)
    · rw [List.getElem?_eq_none (by omega), List.getElem?_eq_none (by omega)]
  · rintro rfl _ _; rfl
end
/-- How often each of eight stands there. -/
def cnts (o : List Int) : List Int := (List.range 8).map fun i => (times o (i : Nat) : Int)
/-- The first of eight, once. -/
def onesN (n : Nat) : List Int := (List.range 8).map fun i => if i < n then 1 else 0
theorem cnts_len (o : List Int) : (cnts o).length = 8 := by simp [cnts]
theorem onesN_len (n : Nat) : (onesN n).length = 8 := by simp [onesN]
theorem cnts_nil : cnts [] = List.replicate 8 0 := by decide
theorem onesN_zero : onesN 0 = List.replicate 8 0 := by decide
theorem onesN_step (j : Nat) (hj : j < 8) : (onesN j).set j 1 = onesN (j + 1) := by
  apply List.ext_getElem?
  intro i
  simp only [onesN, List.getElem?_set, List.length_map, List.length_range, List.getElem?_map]
  by_cases hi : i < 8
  · rw [List.getElem?_range hi]
    by_cases h : j = i
    · subst h; simp [hj]
    · simp only [if_neg h, Option.map_some, Option.some.injEq]
      by_cases h2 : i < j
      · rw [if_pos h2, if_pos (by omega)]
      · rw [if_neg h2, if_neg (by omega)]
  · have h3 : (List.range 8)[i]? = none := List.getElem?_eq_none (by simpa using hi)
    rw [h3, if_neg (by omega)]
    rfl
theorem cnts_get (o : List Int) (i : Nat) (hi : i < 8) : (cnts o)[i]? = some (times o (i : Nat) : Int) := by
  simp [cnts, List.getElem?_range hi]
theorem times_snoc (o : List Int) (m : Nat) (hm : m < o.length) (i : Int) : times (o.take (m + 1)) i = times (o.take m) i + if o[m] = i then 1 else 0 := by
  unfold times
  rw [List.take_succ_eq_append_getElem hm, List.countP_append, List.countP_cons, List.countP_nil]
  by_cases h : o[m] = i <;> simp [h]
theorem cnts_step (o : List Int) (m : Nat) (hm : m < o.length) (z : Nat) (hz : o[m] = (z : Int)) (h8 : z < 8) : (cnts (o.take m)).set z ((times (o.take m) (z : Nat) : Int) + 1) = cnts (o.take (m + 1)) := by
  apply List.ext_getElem?
  intro i
  rw [List.getElem?_set, cnts_len]
  by_cases hi : i < 8
  · rw [cnts_get _ i hi, cnts_get _ i hi, times_snoc o m hm, hz]
    by_cases h : z = i
    · subst h; simp [h8]
    · have h2 : ¬ (z : Int) = (i : Int) := by omega
      simp [h, h2]
  · rw [List.getElem?_eq_none (l := cnts (o.take m)) (by rw [cnts_len]; omega), List.getElem?_eq_none (l := cnts (o.take (m + 1))) (by rw [cnts_len]; omega), if_neg (by omega)]
theorem times_len (o : List Int) (i : Int) : times o i ≤ o.length := List.countP_le_length
theorem times_zero {o : List Int} {i : Int} (h : i ∉ o) : times o i = 0 := by
  rw [times, List.countP_eq_zero]
  intro z hz
  simp only [decide_eq_true_eq]
  rintro rfl
  exact h hz
/-- Each of so many stands in it once, and nobody else. -/
def eachB (o : List Int) (n : Nat) : Bool := decide ((∀ z ∈ o, 0 ≤ z ∧ z < n) ∧ ∀ i, i < n → times o (i : Nat) = 1)
theorem eachB_cnts {o : List Int} {n : Nat} (hn : n ≤ 8) (h : ∀ z ∈ o, 0 ≤ z ∧ z < n) : decide (cnts o = onesN n) = eachB o n := by
  unfold eachB
  rw [decide_eq_decide]
  constructor
  · intro he
    refine ⟨h, fun i hi => ?_⟩
    have h1 : (cnts o)[i]? = (onesN n)[i]? := by rw [he]
    rw [cnts_get o i (by omega)] at h1
    simp only [onesN, List.getElem?_map, List.getElem?_range (show i < 8 by omega), Option.map_some, if_pos hi, Option.some.injEq] at h1
    omega
  · intro ⟨_, he⟩
    apply List.ext_getElem?
    intro i
    by_cases hi : i < 8
    · rw [cnts_get o i hi]
      simp only [onesN, List.getElem?_map, List.getElem?_range hi, Option.map_some, Option.some.injEq]
      by_cases h2 : i < n
      · rw [he i h2, if_pos h2]; rfl
      · rw [if_neg h2, times_zero (fun hm => by have := h _ hm; omega)]; rfl
    · rw [List.getElem?_eq_none (by rw [cnts_len]; omega), List.getElem?_eq_none (by rw [onesN_len]; omega)]
theorem eachB_out {o : List Int} {n : Nat} {z : Int} (hz : z ∈ o) (h : ¬ (0 ≤ z ∧ z < n)) : eachB o n = false := by
  unfold eachB
  rw [decide_eq_false_iff_not]
  intro h1
  exact h (h1.1 z hz)

/-- A market may be, part by part. -/
theorem mayM_each (r : List Int) (b : List (List Int)) (o : List Int) : mayM r b o = (mayB r r.length && (decide (1 ≤ b.length) && (decide (b.length ≤ 8) && ((b.all fun l => bidB l r.length) && eachB o b.length)))) := by
  rw [Bool.eq_iff_iff, mayM_iff]
  simp only [Bool.and_eq_true, decide_eq_true_eq, List.all_eq_true, eachB]
  constructor
  · rintro ⟨h1, ⟨h2, h3, h4⟩, h5, h6⟩
    exact ⟨h1, h2, h3, h5, order_in h4 h6, h6⟩
  · rintro ⟨h1, h2, h3, h5, h7, h6⟩
    refine ⟨h1, ⟨h2, h3, ?_⟩, h5, h6⟩
    have hs := times_sum o b.length
    rw [sum_ones (by intro x hx; simp only [List.mem_map, List.mem_range] at hx; obtain ⟨i, hi, rfl⟩ := hx; exact h6 i hi), List.length_map, List.length_range, List.countP_eq_length.2 (fun z hz => by simp only [decide_eq_true_eq]; exact h7 z hz)] at hs
    exact hs
theorem setCell_ne' {w : World} {g b j : Nat} {v : Value} (h : g ≠ b) : (w.setCell ⟨b, j, none⟩ v).heap[g]? = w.heap[g]? := Below.heap_setCell _ _ _ _ h
end Go.Proofs.YtjjaajmjcdihoaaDoor

namespace Go.Proofs.YtjjaajmjcdihoaaDoor
open Go.RowKit
set_option linter.unusedVariables false
end Go.Proofs.YtjjaajmjcdihoaaDoor
