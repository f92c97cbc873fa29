/-
  Walks of package nums: fresh, behind, Put, number, Get.
-/
import Derived.Test.YtfhiedlglmgneaaGreatDoorProg
import Derived.Test.YtfhiedlglmgneaaGreatDoorKit
import Derived.Test.YtfhiedlglmgneaaGreatDoorNumsD
import Derived.BigQuiet
import Derived.Deep.QuietTactic
import Derived.Deep.DeepMust
namespace Go.Proofs.YtfhiedlglmgneaaGreatDoor
open Go.RowKit
set_option linter.unusedVariables false

theorem info_u8 : (Tryz.prog.info? 5).map (fun i => (i.zero, i.size, i.bytes)) = some (some (.int .u8 0), 1, 1) := by kernel_rfl
theorem info_int : (Tryz.prog.info? 3).map (fun i => (i.zero, i.size, i.bytes)) = some (some (.int .i64 0), 1, 8) := by kernel_rfl

set_option maxRecDepth 100000 in
set_option maxHeartbeats 400000 in
theorem fresh_any (A : Option Addr) (n c : Nat) (bs : List UInt8) (w : World) (hr : Rd w A n (cu8 bs)) (hn : n ≤ 1000000000) :
    Calls Tryz.prog 70 #[.slice A n c] w fun e w' => ∃ A' c', e = .returned (.slice A' n c') ∧ Own w' w.heap.size 5 A' n c' (cu8 bs) ∧ Below w.heap.size w w' := by
  obtain ⟨i0, hi0, hz0, hz1, hz2⟩ := info_parts info_u8
  go_enter Tryz.func70, Tryz.ntmps70
  go_wp2_with (at_builtin; go_must (refine wpList_app _ rfl (.tmp 4) (.tmp 5) 33 rfl 5 i0 _ 1 Tryz.underlying33 hi0 hz0 hz1 hz2 rfl w.heap.size A 0 0 [] rfl (Own.none_ _ _ _ _) A n c _ rfl hr (cu8_one _) ?c3 ?c4 ?c5 ?_))
  case c3 => simp only [maxLen]; omega
  case c4 => omega
  case c5 => exact Nat.le_refl _
  intro A2 c2 w1 hown1 hbel1 hfr1 hat1
  go_wp2
  go_ret
  exact ⟨A2, c2, rfl, hown1, hbel1⟩

set_option maxRecDepth 100000 in
set_option maxHeartbeats 400000 in
theorem behind_any (B : Nat) (A : Option Addr) (n c : Nat) (bs : List UInt8) (N : Nat) (hN : N < 18446744073709551616) (k : Int) (hk : k ≤ 8) (hk0 : -9223372036854775808 ≤ k) (w : World)
    (ho : Own w B 5 A n c (cu8 bs)) (hB : B ≤ w.heap.size) (hn : n ≤ 1000000000) :
    Calls Tryz.prog 69 #[.slice A n c, .int .u64 N, .int .i64 k] w fun e w' =>
      ∃ A' c', e = .returned (.slice A' (n + k.toNat) c') ∧ Own w' B 5 A' (n + k.toNat) c' (cu8 (bs ++ putB N k.toNat)) ∧ Below B w w' := by
  obtain ⟨i0, hi0, hz0, hz1, hz2⟩ := info_parts info_u8
  go_enter Tryz.func69, Tryz.ntmps69
  go_wp2_with fail
  go_loopw [0, 9] (fun v i wr => ∃ (j : Nat) (A' : Option Addr) (c' : Nat), j ≤ k.toNat ∧ i = .int .i64 j ∧ v = .slice A' (n + j) c' ∧ Own wr B 5 A' (n + j) c' (cu8 (bs ++ putB N j)) ∧ Below B w wr) (fun _ i _ => k.toNat - (intOf i).toNat)
  case atStart => exact ⟨0, A, c, Nat.zero_le _, rfl, rfl, by simpa [putB_zero] using ho, Below.refl _ _⟩
  case round =>
    obtain ⟨j, A', c', hj, rfl, rfl, hown, hbel⟩ := hrel
    by_cases hlt : (j : Int) < k
    · go_wp2_with (at_builtin; go_must (refine wpList_app1 wr rfl (.tmp 12) (.tmp 18) 33 rfl 5 i0 _ 1 Tryz.underlying33 hi0 hz0 hz1 hz2 rfl B A' (n + j) c' _ rfl hown 1 rfl rfl ?c3 ?c4 ?c5 ?_))
      case c3 => simp only [maxLen]; omega
      case c4 => omega
      case c5 => exact Nat.le_trans hB hbel.size
      intro A2 c2 w1 hown1 hbel1 hfr1 hat1
      have hown2 : Own w1 B 5 A2 (n + (j + 1)) c2 (cu8 (bs ++ putB N (j + 1))) := by
        rw [putB_succ, ← List.append_assoc, cu8_app]
        simp only [cu8, List.map_cons, List.map_nil, bV_put] at hown1 ⊢
        exact hown1
      clear hown1 hfr1 hat1
      go_wp2
      go_roundw
      case rel => exact ⟨j + 1, A2, c2, by omega, by go_num, rfl, hown2, hbel.trans hbel1⟩
      case measure => simp [intOf]; omega
    · obtain rfl : j = k.toNat := by omega
      go_wp2
      go_ret
      exact ⟨A', c', rfl, hown, hbel⟩

set_option maxRecDepth 100000 in
set_option maxHeartbeats 400000 in
theorem put_any (A : Option Addr) (n c : Nat) (bs : List UInt8) (N : Nat) (hN : N < 18446744073709551616) (k : Int) (hk : k ≤ 9223372036854775807) (hk0 : -9223372036854775808 ≤ k) (w : World)
    (hr : Rd w A n (cu8 bs)) (hn : n ≤ 1000000000) :
    Calls Tryz.prog 29 #[.slice A n c, .int .u64 N, .int .i64 k] w fun e w' =>
      ∃ A' c', e = .returned (.slice A' (n + (min k 8).toNat) c') ∧ Own w' w.heap.size 5 A' (n + (min k 8).toNat) c' (cu8 (bs ++ putB N (min k 8).toNat)) ∧ Below w.heap.size w w' := by
  by_cases h8 : k ≤ 8
  · rw [Int.min_eq_left h8]
    go_enter Tryz.func29, Tryz.ntmps29
    go_wp2_with fail
    refine (fresh_any A n c bs _ hr hn).mono ?_
    rintro e w1 ⟨A1, c1, rfl, hown1, hbel1⟩
    go_wp2_with fail
    refine (behind_any w.heap.size A1 n c1 bs N hN k h8 hk0 _ hown1 hbel1.size hn).mono ?_
    rintro e w2 ⟨A2, c2, rfl, hown2, hbel2⟩
    go_wp2
    go_ret
    exact ⟨A2, c2, rfl, hown2, hbel1.trans hbel2⟩
  · rw [Int.min_eq_right (by omega)]
    have h8' : 8 < k := by omega
    go_enter Tryz.func29, Tryz.ntmps29
    go_wp2_with fail
    refine (fresh_any A n c bs _ hr hn).mono ?_
    rintro e w1 ⟨A1, c1, rfl, hown1, hbel1⟩
    go_wp2_with fail
    refine (behind_any w.heap.size A1 n c1 bs N hN 8 (by omega) (by omega) _ hown1 hbel1.size hn).mono ?_
    rintro e w2 ⟨A2, c2, rfl, hown2, hbel2⟩
    go_wp2
    go_ret
    exact ⟨A2, c2, rfl, hown2, hbel1.trans hbel2⟩

/-- One round of number. -/
theorem num_step (bs : List UInt8) (j : Nat) (hl : j < bs.length) (hj : j < 8) :
    bits BinOp.or IntKind.u64 (getN (List.take j bs) : Int) (IntKind.u64.wrap (IntKind.u64.wrap (bs[j].toNat : Int) * 2 ^ (8 * j))) = (getN (List.take (j + 1) bs) : Int) := by
  have hb := bs[j].toNat_lt
  have hp : (2 : Nat) ^ (8 * j) ≤ 2 ^ 56 := Nat.pow_le_pow_right (by omega) (by omega)
  have hg : getN (bs.take j) < 2 ^ (8 * j) := by
    have h := getN_lt (bs.take j)
    rw [List.length_take, Nat.min_eq_left (by omega)] at h
    exact h
  have hm : bs[j].toNat * 2 ^ (8 * j) < 18446744073709551616 := Nat.lt_of_le_of_lt (Nat.mul_le_mul (show bs[j].toNat ≤ 255 by omega) hp) (by decide)
  have e1 : IntKind.u64.wrap (IntKind.u64.wrap (bs[j].toNat : Int) * 2 ^ (8 * j)) = ((bs[j].toNat * 2 ^ (8 * j) : Nat) : Int) := by
    have e2 : IntKind.u64.wrap (bs[j].toNat : Int) = (bs[j].toNat : Int) := by rw [IntKind.wrap_u64]; omega
    have e3 : ((bs[j].toNat : Int) * 2 ^ (8 * j)) = ((bs[j].toNat * 2 ^ (8 * j) : Nat) : Int) := by simp
    rw [e2, e3, IntKind.wrap_u64]
    omega
  rw [e1, bits_or_u64_nat _ _ (by omega) hm]
  rw [show bs[j].toNat * 2 ^ (8 * j) = bs[j].toNat <<< (8 * j) from (Nat.shiftLeft_eq _ _).symm, Nat.or_comm, ← Nat.shiftLeft_add_eq_or_of_lt hg, Nat.shiftLeft_eq, List.take_succ_eq_append_getElem hl, getN_snoc, List.length_take, Nat.min_eq_left (by omega)]
  congr 1
  omega

end Go.Proofs.YtfhiedlglmgneaaGreatDoor
