/-
  Each part of so many, by bits: the laws' own.
-/
import Derived.Test.YtdckoaljcklmhaaGreatDoorMaO
import Derived.Test.YtdckoaljcklmhaaGreatDoorGrL
namespace Go.Proofs.YtdckoaljcklmhaaGreatDoor
open Go.RowKit
set_option linter.unusedVariables false

/-- One bit. -/
theorem bits_and1_i64 (a : Nat) (ha : a < 1000000) : bits .and .i64 (a : Int) 1 = ((a % 2 : Nat) : Int) := by
  have h1 : (BitVec.ofInt 64 (a : Int)).toNat = a := by
    rw [BitVec.ofInt_natCast, BitVec.toNat_ofNat]; exact Nat.mod_eq_of_lt (by omega)
  have h2 : (BitVec.ofInt 64 (1 : Int)).toNat = 1 := by decide
  show IntKind.i64.wrap ((BitVec.ofInt 64 (a : Int) &&& BitVec.ofInt 64 (1 : Int)).toNat : Int) = _
  rw [BitVec.toNat_and, h1, h2, Nat.and_one_is_mod, IntKind.wrap_i64]
  omega
theorem bit_nat (p j : Nat) : (((p / 2 ^ j % 2 : Nat) : Int) == 1) = p.testBit j := by
  rw [Nat.testBit_eq_decide_div_mod_eq, Bool.eq_iff_iff, beq_iff_eq, decide_eq_true_eq]
  omega
theorem bit_i64 (p j : Nat) (hp : p < 1000000) : (bits .and .i64 ((p : Int) / 2 ^ j) 1 == 1) = p.testBit j := by
  have h1 : (p : Int) / 2 ^ j = ((p / 2 ^ j : Nat) : Int) := by simp
  have h2 := Nat.div_le_self p (2 ^ j)
  rw [h1, bits_and1_i64 _ (by omega)]
  exact bit_nat p j
/-- Whatever of the first L: there is a number with these bits. -/
theorem bits_all (f : Nat → Bool) : ∀ L, ∃ p, p < 2 ^ L ∧ ∀ i, i < L → p.testBit i = f i
  | 0 => ⟨0, by simp, fun i hi => absurd hi (by omega)⟩
  | L + 1 => by
    obtain ⟨p, hp, h⟩ := bits_all f L
    cases hf : f L with
    | false =>
      refine ⟨p, by rw [Nat.pow_succ]; omega, fun i hi => ?_⟩
      by_cases he : i = L
      · rw [he, hf]; exact Nat.testBit_lt_two_pow hp
      · exact h i (by omega)
    | true =>
      refine ⟨2 ^ L + p, by rw [Nat.pow_succ]; omega, fun i hi => ?_⟩
      by_cases he : i = L
      · rw [he, hf, Nat.testBit_two_pow_add_eq, Nat.testBit_lt_two_pow hp]; rfl
      · rw [Nat.testBit_two_pow_add_gt (by omega)]; exact h i (by omega)
/-- The parts of so many, by bits. -/
def partL (L p : Nat) : List Int := upto L fun i => p.testBit i
theorem part_of {L : Nat} {s : List Int} (hs : Rises L s) : ∃ p, p < 2 ^ L ∧ partL L p = s := by
  obtain ⟨p, hp, h⟩ := bits_all (fun i => decide ((i : Int) ∈ s)) L
  exact ⟨p, hp, (upto_congr h).trans (upto_of_rises hs)⟩

end Go.Proofs.YtdckoaljcklmhaaGreatDoor

