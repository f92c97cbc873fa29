/-
  What layer 4 (bids) says, as plain functions of lists and numbers.
-/
import Derived.Test.YtdckoaljcklmhaaNumsD
namespace Go.Proofs.Ytdckoaljcklmhaa
set_option linter.unusedVariables false

/-- May a bid be, for so many items? -/
def mayB (bid : List Int) (items : Int) : Bool := decide (1 ≤ items ∧ items ≤ 8 ∧ (bid.length : Int) = items ∧ ∀ z ∈ bid, 0 ≤ z ∧ z ≤ 1000000)
theorem mayB_iff (bid : List Int) (items : Int) : mayB bid items = true ↔ 1 ≤ items ∧ items ≤ 8 ∧ (bid.length : Int) = items ∧ ∀ z ∈ bid, 0 ≤ z ∧ z ≤ 1000000 := by simp [mayB]
theorem mayB_out {bid : List Int} {items : Int} (h : items < 1 ∨ 8 < items ∨ (bid.length : Int) ≠ items) : mayB bid items = false := by
  rw [Bool.eq_false_iff]
  intro hm
  have := (mayB_iff _ _).1 hm
  omega
theorem mayB_in {bid : List Int} {items : Int} (h1 : 1 ≤ items) (h2 : items ≤ 8) (h3 : (bid.length : Int) = items) (h4 : ∀ z ∈ bid, 0 ≤ z ∧ z ≤ 1000000) : mayB bid items = true := (mayB_iff _ _).2 ⟨h1, h2, h3, h4⟩
theorem mayB_bad {bid : List Int} {items : Int} {z : Int} (hz : z ∈ bid) (h : z < 0 ∨ 1000000 < z) : mayB bid items = false := by
  rw [Bool.eq_false_iff]
  intro hm
  have := ((mayB_iff _ _).1 hm).2.2.2 z hz
  omega

/-- What error bytes are, for so many items; 0: none. -/
def getVE (bs : List UInt8) (items : Int) : Int :=
  if items < 1 ∨ 8 < items then 1 else if bs.length < 1 + 4 * getN (bs.take 1) then 5 else if bs.length = 1 + 4 * getN (bs.take 1) ∧ mayB (getL (bs.drop 1) (getN (bs.take 1))) items = true then 0 else 4
/-- The bid that they are. -/
def getV (bs : List UInt8) (items : Int) : List Int := if getVE bs items = 0 then getL (bs.drop 1) (getN (bs.take 1)) else []

theorem getVE_arg {bs : List UInt8} {items : Int} (h : items < 1 ∨ 8 < items) : getVE bs items = 1 := by rw [getVE, if_pos h]
theorem getVE_short {bs : List UInt8} {items : Int} (h : ¬ (items < 1 ∨ 8 < items)) (h2 : bs.length < 1 + 4 * getN (bs.take 1)) : getVE bs items = 5 := by rw [getVE, if_neg h, if_pos h2]
theorem getVE_ok {bs : List UInt8} {items : Int} (h : ¬ (items < 1 ∨ 8 < items)) (h2 : bs.length = 1 + 4 * getN (bs.take 1)) (h3 : mayB (getL (bs.drop 1) (getN (bs.take 1))) items = true) : getVE bs items = 0 := by
  rw [getVE, if_neg h, if_neg (by omega), if_pos ⟨h2, h3⟩]
theorem getVE_form {bs : List UInt8} {items : Int} (h : ¬ (items < 1 ∨ 8 < items)) (h2 : ¬ bs.length < 1 + 4 * getN (bs.take 1)) (h3 : ¬ (bs.length = 1 + 4 * getN (bs.take 1) ∧ mayB (getL (bs.drop 1) (getN (bs.take 1))) items = true)) : getVE bs items = 4 := by
  rw [getVE, if_neg h, if_neg h2, if_neg h3]
theorem getV_none {bs : List UInt8} {items : Int} (h : getVE bs items ≠ 0) : getV bs items = [] := by rw [getV, if_neg h]
theorem getVE_zero {bs : List UInt8} {items : Int} (h : getVE bs items = 0) :
    (1 ≤ items ∧ items ≤ 8) ∧ bs.length = 1 + 4 * getN (bs.take 1) ∧ mayB (getL (bs.drop 1) (getN (bs.take 1))) items = true ∧ getV bs items = getL (bs.drop 1) (getN (bs.take 1)) := by
  by_cases h1 : items < 1 ∨ 8 < items
  · rw [getVE_arg h1] at h; omega
  · by_cases h2 : bs.length < 1 + 4 * getN (bs.take 1)
    · rw [getVE_short h1 h2] at h; omega
    · by_cases h3 : bs.length = 1 + 4 * getN (bs.take 1) ∧ mayB (getL (bs.drop 1) (getN (bs.take 1))) items = true
      · exact ⟨by omega, h3.1, h3.2, by rw [getV, if_pos h]⟩
      · rw [getVE_form h1 h2 h3] at h; omega

/-- What is put, if there are 255 at most. -/
theorem putL_small (zs : List Int) (h : zs.length ≤ 255) : putL zs = UInt8.ofNat zs.length :: listB zs := by
  unfold putL
  rw [Nat.min_eq_left h, List.take_of_length_le h, putB_cons, putB_zero]
  rfl
theorem putL_first (zs : List Int) (h : zs.length ≤ 255) (r : List UInt8) : getN ((putL zs ++ r).take 1) = zs.length := by
  rw [putL_small zs h]
  simp [getN]
  omega
theorem putL_rest (zs : List Int) (h : zs.length ≤ 255) (r : List UInt8) : getL ((putL zs ++ r).drop 1) zs.length = zs.map fun z => z % 4294967296 := by
  rw [putL_small zs h]
  simp only [List.cons_append, List.drop_succ_cons, List.drop_zero]
  exact getL_listB zs r
theorem mod_may {bid : List Int} (h : ∀ z ∈ bid, 0 ≤ z ∧ z ≤ 1000000) : (bid.map fun z => z % 4294967296) = bid := by
  induction bid with
  | nil => rfl
  | cons z r ih =>
    have hz := h z (by simp)
    rw [List.map_cons, ih (fun x hx => h x (by simp [hx])), show z % 4294967296 = z by omega]

/-- What a bid says of an item above its reserve. -/
def worth (a b : List Int) (i : Int) : Int := if 0 ≤ i ∧ i < a.length ∧ i < b.length then max (-1) (a.getD i.toNat 0 - b.getD i.toNat 0) else -1
theorem worth_out {a b : List Int} {i : Int} (h : ¬ (0 ≤ i ∧ i < a.length ∧ i < b.length)) : worth a b i = -1 := by rw [worth, if_neg h]
theorem worth_in {a b : List Int} (i : Nat) (h1 : i < a.length) (h2 : i < b.length) : worth a b i = max (-1) (a[i] - b[i]) := by
  rw [worth, if_pos ⟨by omega, by omega, by omega⟩]
  simp [List.getD, h1, h2]
end Go.Proofs.Ytdckoaljcklmhaa
