/-
  Walks of package nums: fresh, behind, Put, number, Get.
-/
import Derived.Test.YtdckoaljcklmhaaProg
import Derived.Test.YtdckoaljcklmhaaKit
import Derived.Test.YtdckoaljcklmhaaNumsD
import Derived.BigQuiet
import Derived.Deep.QuietTactic
import Derived.Deep.DeepMust
namespace Go.Proofs.Ytdckoaljcklmhaa
open Go.RowKit
set_option linter.unusedVariables false

theorem info_u8 : (Try.prog.info? 5).map (fun i => (i.zero, i.size, i.bytes)) = some (some (.int .u8 0), 1, 1) := by kernel_rfl
theorem info_int : (Try.prog.info? 3).map (fun i => (i.zero, i.size, i.bytes)) = some (some (.int .i64 0), 1, 8) := by kernel_rfl

/-- One round of number. -/
theorem num_step (bs : List UInt8) (j : Nat) (hl : j < bs.length) (hj : j < 8) :
    bits BinOp.or IntKind.u64 (getN (List.take j bs) : Int) (IntKind.u64.wrap (IntKind.u64.wrap (bs[j].toNat : Int) * 2 ^ (8 * j))) = (getN (List.take (j + 1) bs) : Int) := by
  have hb := bs[j].toNat_lt
  have hp : (2 : Nat) ^ (8 * j) ≤ 2 ^ 56 := Nat.pow_le_pow_right (by omega) (by omega)
  have hg : getN (bs.take j) < 2 ^ (8 * j) := by
    have h := getN_lt (bs.take j)
    rw [List.length_take, Nat.min_eq_left (by omega)] at h
    exact h
  have hm : bs[j].toNat * 2 ^ (8 * j) < 18446744073709551616 := Nat.lt_of_le_of_lt (Nat.mul_le_mul (show bs[j].toNat ≤ 255 by omega) hp) (by decide)
  have e1 : IntKind.u64.wrap (IntKind.u64.wrap (bs[j].toNat : Int) * 2 ^ (8 * j)) = ((bs[j].toNat * 2 ^ (8 * j) : Nat) : Int) := by
    have e2 : IntKind.u64.wrap (bs[j].toNat : Int) = (bs[j].toNat : Int) := by rw [IntKind.wrap_u64]; omega
    have e3 : ((bs[j].toNat : Int) * 2 ^ (8 * j)) = ((bs[j].toNat * 2 ^ (8 * j) : Nat) : Int) := by simp
    rw [e2, e3, IntKind.wrap_u64]
    omega
  rw [e1, bits_or_u64_nat _ _ (by omega) hm]
  rw [show bs[j].toNat * 2 ^ (8 * j) = bs[j].toNat <<< (8 * j) from (Nat.shiftLeft_eq _ _).symm, Nat.or_comm, ← Nat.shiftLeft_add_eq_or_of_lt hg, Nat.shiftLeft_eq, List.take_succ_eq_append_getElem hl, getN_snoc, List.length_take, Nat.min_eq_left (by omega)]
  congr 1
  omega

end Go.Proofs.Ytdckoaljcklmhaa
