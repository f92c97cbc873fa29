/-
  Walks of package sums: step, On, Of; of the document's answers; of undo.
-/
import Derived.Test.YtooklofaiahpgaaProg
import Derived.Test.YtooklofaiahpgaaKit
import Derived.Test.YtooklofaiahpgaaSumsD
import Derived.BigQuiet
import Derived.Deep.QuietTactic
import Derived.Deep.DeepMust
import Derived.OneCell
namespace Go.Proofs.Ytooklofaiahpgaa
open Go.RowKit
set_option linter.unusedVariables false

theorem wrap_u32_nat (n : Nat) : IntKind.u32.wrap (n : Int) = ((n % 4294967296 : Nat) : Int) := by
  simp [IntKind.wrap, IntKind.bits, IntKind.signed]
theorem bits_xor_u32_nat (a b : Nat) (ha : a < 4294967296) (hb : b < 4294967296) : bits .xor .u32 (a : Int) (b : Int) = ((a ^^^ b : Nat) : Int) := by
  have hx : a ^^^ b < 2 ^ 32 := Nat.xor_lt_two_pow (by omega) (by omega)
  have h1 : (BitVec.ofInt 32 (a : Int)).toNat = a := by
    rw [BitVec.ofInt_natCast, BitVec.toNat_ofNat]; exact Nat.mod_eq_of_lt (by omega)
  have h2 : (BitVec.ofInt 32 (b : Int)).toNat = b := by
    rw [BitVec.ofInt_natCast, BitVec.toNat_ofNat]; exact Nat.mod_eq_of_lt (by omega)
  show IntKind.u32.wrap ((BitVec.ofInt 32 (a : Int) ^^^ BitVec.ofInt 32 (b : Int)).toNat : Int) = _
  rw [BitVec.toNat_xor, h1, h2, wrap_u32_nat, Nat.mod_eq_of_lt hx]
theorem bits_and_u32_nat (a b : Nat) (ha : a < 4294967296) (hb : b < 4294967296) : bits .and .u32 (a : Int) (b : Int) = ((a &&& b : Nat) : Int) := by
  have hx : a &&& b < 2 ^ 32 := Nat.and_lt_two_pow _ (by omega)
  have h1 : (BitVec.ofInt 32 (a : Int)).toNat = a := by
    rw [BitVec.ofInt_natCast, BitVec.toNat_ofNat]; exact Nat.mod_eq_of_lt (by omega)
  have h2 : (BitVec.ofInt 32 (b : Int)).toNat = b := by
    rw [BitVec.ofInt_natCast, BitVec.toNat_ofNat]; exact Nat.mod_eq_of_lt (by omega)
  show IntKind.u32.wrap ((BitVec.ofInt 32 (a : Int) &&& BitVec.ofInt 32 (b : Int)).toNat : Int) = _
  rw [BitVec.toNat_and, h1, h2, wrap_u32_nat, Nat.mod_eq_of_lt hx]
theorem bits_xor_u8_nat (a b : Nat) (ha : a < 256) (hb : b < 256) : bits .xor .u8 (a : Int) (b : Int) = ((a ^^^ b : Nat) : Int) := by
  have hx : a ^^^ b < 2 ^ 8 := Nat.xor_lt_two_pow (by omega) (by omega)
  have h1 : (BitVec.ofInt 8 (a : Int)).toNat = a := by
    rw [BitVec.ofInt_natCast, BitVec.toNat_ofNat]; exact Nat.mod_eq_of_lt (by omega)
  have h2 : (BitVec.ofInt 8 (b : Int)).toNat = b := by
    rw [BitVec.ofInt_natCast, BitVec.toNat_ofNat]; exact Nat.mod_eq_of_lt (by omega)
  show IntKind.u8.wrap ((BitVec.ofInt 8 (a : Int) ^^^ BitVec.ofInt 8 (b : Int)).toNat : Int) = _
  rw [BitVec.toNat_xor, h1, h2]
  have e : IntKind.u8.wrap ((a ^^^ b : Nat) : Int) = (((a ^^^ b) % 256 : Nat) : Int) := by simp [IntKind.wrap, IntKind.bits, IntKind.signed]
  rw [e, Nat.mod_eq_of_lt hx]

/-- A step, in the walk's words. -/
theorem step_num (s : Nat) (hs : s < 4294967296) (b : UInt8) :
    IntKind.u32.wrap (bits .xor .u32 (s : Int) (b.toNat : Int) * 16777619) = (stp s b.toNat : Int) := by
  rw [bits_xor_u32_nat s _ hs (byte_lt32 b)]
  have e : ((s ^^^ b.toNat : Nat) : Int) * 16777619 = (((s ^^^ b.toNat) * 16777619 : Nat) : Int) := by simp
  rw [e, wrap_u32_nat]
  rfl

set_option maxHeartbeats 400000 in
theorem step_any (g s : Nat) (hs : s < 4294967296) (b : UInt8) (w : World) (hg : w.heap[g]? = some (.cells #[.int .u32 s] 35 (0, 0))) :
    Calls Try.prog 16 #[.pointer (some ⟨g, 0, none⟩), .int .u8 b.toNat] w fun e w' => e = .returned (.tuple #[]) ∧ w.setCell ⟨g, 0, none⟩ (.int .u32 (stp s b.toNat)) = w' := by
  have hcell := cell_of_one hg
  have hfree := free_of_one hg
  have hb := b.toNat_lt
  have HN := Lib.hid (step_num s hs b)
  clear hg
  go_enter Try.func16, Try.ntmps16
  go_wp2
  go_end0
  exact ⟨rfl, by rw [← HN.out]; first | done | (congr 2 <;> simp)⟩

set_option maxHeartbeats 400000 in
theorem on_any (s : Nat) (hs : s < 4294967296) (A : Option Addr) (n c : Nat) (bs : List UInt8) (w : World) (hr : Rd w A n (cu8 bs)) (hn : n ≤ 1000000000) :
    Calls Try.prog 11 #[.int .u32 s, .slice A n c] w fun e w' => e = .returned (.int .u32 (sumF s bs)) ∧ Below w.heap.size w w' := by
  have hl : bs.length = n := by have h := hr.len; rw [cu8_len] at h; exact h
  have HL := Lib.hid hl
  clear hl
  have hmf : ∀ (fn : Fn) (first cap : Array Value) (w : World), (Instr.makeFunc fn first cap).run Try.prog w = .ok (.func fn first cap) w := fun _ _ _ _ => rfl
  go_enter Try.func11, Try.ntmps11
  go_wp2_with fail
  go_loopw [12] (fun i wr => ∃ j : Nat, j ≤ n ∧ i = .int .i64 j ∧ wr.heap[w.heap.size]? = some (.cells #[.int .u32 (sumF s (bs.take j))] 35 (0, 0)) ∧ Below w.heap.size w wr) (fun i _ => n - (intOf i).toNat)
  case atStart => exact ⟨0, Nat.zero_le _, rfl, heap_alloc_new w _, (Below.refl _ w).alloc (Nat.le_refl _) _⟩
  case round =>
    obtain ⟨j, hj, rfl, hh, hbel⟩ := hrel
    by_cases hlt : j < n
    · have hjl : j < bs.length := by rw [HL.out]; exact hlt
      obtain ⟨b0, o0, rfl, hb0, u0, hu0, hcell⟩ := hr.get hlt
      rw [cu8_get bs j hjl] at hu0
      obtain rfl : bV bs[j] = u0 := by injection hu0
      have hcell' : wr.cell? ⟨b0, o0 + j, none⟩ = some (.int .u8 bs[j].toNat) := by rw [hbel.cell (p := ⟨b0, o0 + j, none⟩) hb0, hcell]; rfl
      have hT := Lib.hid (sumF_take s bs j hjl)
      have hS := sumF_lt s hs (bs.take j)
      clear hcell hu0
      go_wp2_with fail
      refine (step_any w.heap.size _ hS bs[j] _ hh).mono ?_
      rintro e w1 ⟨rfl, rfl⟩
      go_wp2
      go_roundw
      case rel => exact ⟨j + 1, by omega, by go_num, by rw [hT.out]; exact one_setCell hh, hbel.setCell (Nat.le_refl _) _⟩
      case measure => simp [intOf]; omega
    · obtain rfl : j = n := by omega
      have e1 : bs.take j = bs := List.take_of_length_le (by rw [HL.out]; exact Nat.le_refl _)
      rw [e1] at hh
      have hcell := cell_of_one hh
      clear e1 hh
      go_wp2
      go_ret
      exact ⟨rfl, hbel⟩

set_option maxHeartbeats 400000 in
theorem of_any (A : Option Addr) (n c : Nat) (bs : List UInt8) (w : World) (hr : Rd w A n (cu8 bs)) (hn : n ≤ 1000000000) :
    Calls Try.prog 9 #[.slice A n c] w fun e w' => e = .returned (.int .u32 (sumF 2166136261 bs)) ∧ Below w.heap.size w w' := by
  go_enter Try.func9, Try.ntmps9
  go_wp2_with fail
  refine (on_any 2166136261 (by omega) A n c bs w hr hn).mono ?_
  rintro e w1 ⟨rfl, hb⟩
  go_wp2
  go_ret
  exact ⟨rfl, hb⟩

/-- A step by the document's words, in the walk's words. -/
theorem ref_num (s : Nat) (hs : s < 4294967296) (b : UInt8) :
    (IntKind.u64.wrap (IntKind.u64.wrap ((s : Int) - (s : Int) % 256 + IntKind.u64.wrap (bits BinOp.xor IntKind.u8 ((s : Int) % 256) (b.toNat : Int))) * 16777619)).tmod 4294967296 % 4294967296 = (stp s b.toNat : Int) := by
  have hb : b.toNat < 256 := b.toNat_lt
  have hx : s ^^^ b.toNat < 4294967296 := xor_lt32 hs (byte_lt32 b)
  have hm : s % 256 < 256 := Nat.mod_lt _ (by omega)
  have e1 : (s : Int) % 256 = ((s % 256 : Nat) : Int) := by omega
  have hx2 : s % 256 ^^^ b.toNat < 256 := Nat.xor_lt_two_pow (n := 8) hm hb
  have e2 : IntKind.u64.wrap ((s % 256 ^^^ b.toNat : Nat) : Int) = ((s % 256 ^^^ b.toNat : Nat) : Int) := by rw [IntKind.wrap_u64]; omega
  have e3 := step_ref s b.toNat hb
  have e4 : (s : Int) - ((s % 256 : Nat) : Int) + ((s % 256 ^^^ b.toNat : Nat) : Int) = ((s ^^^ b.toNat : Nat) : Int) := by
    rw [← e3]; omega
  rw [e1, bits_xor_u8_nat _ _ hm hb, e2, e4]
  have e5 : IntKind.u64.wrap ((s ^^^ b.toNat : Nat) : Int) = ((s ^^^ b.toNat : Nat) : Int) := by rw [IntKind.wrap_u64]; omega
  have e6 : ((s ^^^ b.toNat : Nat) : Int) * 16777619 = (((s ^^^ b.toNat) * 16777619 : Nat) : Int) := by simp
  have e7 : IntKind.u64.wrap (((s ^^^ b.toNat) * 16777619 : Nat) : Int) = (((s ^^^ b.toNat) * 16777619 : Nat) : Int) := by rw [IntKind.wrap_u64]; omega
  rw [e5, e6, e7, Int.tmod_eq_emod_of_nonneg (Int.natCast_nonneg _), Int.emod_emod]
  unfold stp
  exact (Int.natCast_emod _ _).symm

set_option maxHeartbeats 400000 in
theorem refstep_any (s : Nat) (hs : s < 4294967296) (b : UInt8) (w : World) :
    Calls Try.prog 17 #[.int .u32 s, .int .u8 b.toNat] w fun e w' => e = .returned (.int .u32 (stp s b.toNat)) ∧ w = w' := by
  have HN := Lib.hid (ref_num s hs b)
  have hb : b.toNat < 256 := b.toNat_lt
  go_enter Try.func17, Try.ntmps17
  go_wp2
  go_ret
  exact ⟨ret_int HN.out, rfl⟩

set_option maxHeartbeats 400000 in
theorem refon_any (s : Nat) (hs : s < 4294967296) (A : Option Addr) (n c : Nat) (bs : List UInt8) (w : World) (hr : Rd w A n (cu8 bs)) (hn : n ≤ 1000000000) :
    Calls Try.prog 12 #[.int .u32 s, .slice A n c] w fun e w' => e = .returned (.int .u32 (sumF s bs)) ∧ w = w' := by
  have hl : bs.length = n := by have h := hr.len; rw [cu8_len] at h; exact h
  have HL := Lib.hid hl
  clear hl
  go_enter Try.func12, Try.ntmps12
  go_wp2_with fail
  go_loop [0, 5] (fun v i => ∃ j : Nat, j ≤ n ∧ i = .int .i64 j ∧ v = .int .u32 (sumF s (bs.take j))) (fun _ i => n - (intOf i).toNat)
  case atStart => exact ⟨0, Nat.zero_le _, rfl, rfl⟩
  case round =>
    obtain ⟨j, hj, rfl, rfl⟩ := hrel
    by_cases hlt : j < n
    · have hjl : j < bs.length := by rw [HL.out]; exact hlt
      obtain ⟨b0, o0, rfl, hb0, u0, hu0, hcell⟩ := hr.get hlt
      rw [cu8_get bs j hjl] at hu0
      obtain rfl : bV bs[j] = u0 := by injection hu0
      have hcell' : w.cell? ⟨b0, o0 + j, none⟩ = some (.int .u8 bs[j].toNat) := hcell
      have hT := Lib.hid (sumF_take s bs j hjl)
      have hS := sumF_lt s hs (bs.take j)
      clear hcell hu0
      go_wp2_with fail
      refine (refstep_any _ hS bs[j] _).mono ?_
      rintro e w1 ⟨rfl, rfl⟩
      go_wp2
      go_round
      case rel => exact ⟨j + 1, by omega, by go_num, by rw [hT.out]⟩
      case measure => simp [intOf]; omega
    · obtain rfl : j = n := by omega
      have e1 := Lib.hid (show bs.take j = bs from List.take_of_length_le (by rw [HL.out]; exact Nat.le_refl _))
      go_wp2
      go_ret
      exact ⟨ret_int (by rw [e1.out]), rfl⟩

set_option maxHeartbeats 400000 in
theorem refof_any (A : Option Addr) (n c : Nat) (bs : List UInt8) (w : World) (hr : Rd w A n (cu8 bs)) (hn : n ≤ 1000000000) :
    Calls Try.prog 10 #[.slice A n c] w fun e w' => e = .returned (.int .u32 (sumF 2166136261 bs)) ∧ w = w' := by
  go_enter Try.func10, Try.ntmps10
  go_wp2_with fail
  refine (refon_any 2166136261 (by omega) A n c bs w hr hn).mono ?_
  rintro e w1 ⟨rfl, rfl⟩
  go_wp2
  go_ret
  exact ⟨rfl, rfl⟩

/-- A round of undo. -/
def undoF (n : Nat) : Nat := (n * ((4294967298 - (16777619 * n) % 4294967296) % 4294967296)) % 4294967296
def undoN : Nat → Nat
  | 0 => 16777619
  | k + 1 => undoF (undoN k)
theorem undo_num (n : Nat) : (n : Int) * ((2 - 16777619 * (n : Int)) % 4294967296) % 4294967296 = (undoF n : Int) := by
  have h1 : (16777619 * n) % 4294967296 < 4294967296 := Nat.mod_lt _ (by omega)
  have e2 : (2 - 16777619 * (n : Int)) % 4294967296 = (((4294967298 - (16777619 * n) % 4294967296) % 4294967296 : Nat) : Int) := by omega
  rw [e2]
  unfold undoF
  generalize (4294967298 - (16777619 * n) % 4294967296) % 4294967296 = r
  rw [← Int.natCast_mul]
  exact (Int.natCast_emod _ _).symm
theorem undoN_5 : undoN 5 = 899433627 := by decide +kernel

set_option maxHeartbeats 400000 in
theorem undo_any (w : World) : Calls Try.prog 15 #[] w fun e w' => e = .returned (.int .u32 899433627) ∧ w = w' := by
  go_enter Try.func15, Try.ntmps15
  go_wp2
  go_loop [1, 2] (fun v i => ∃ j : Nat, j ≤ 5 ∧ i = .int .i64 j ∧ v = .int .u32 (undoN j)) (fun _ i => 5 - (intOf i).toNat)
  case atStart => exact ⟨0, Nat.zero_le _, rfl, rfl⟩
  case round =>
    obtain ⟨j, hj, rfl, rfl⟩ := hrel
    by_cases hlt : j < 5
    · have HN := Lib.hid (undo_num (undoN j))
      have HE := Lib.hid (show undoN (j + 1) = undoF (undoN j) from rfl)
      generalize undoN j = v at HN HE ⊢
      go_wp2
      go_round
      case rel => exact ⟨j + 1, by omega, by go_num, by rw [HE.out, ← HN.out]⟩
      case measure => simp [intOf]; omega
    · obtain rfl : j = 5 := by omega
      have e1 := Lib.hid undoN_5
      go_wp2
      go_ret
      exact ⟨ret_int (by rw [e1.out]; rfl), rfl⟩
end Go.Proofs.Ytooklofaiahpgaa
