/-
  Walks of the document's answers of layer 1 (salesroomref01): Get, GetList, GetBytes.
-/
import Derived.Test.YtoogldllcgbmdaaDoorNumsW3
namespace Go.Proofs.YtoogldllcgbmdaaDoor
open Go.RowKit
set_option linter.unusedVariables false

theorem refget_arg (A : Option Addr) (n c : Nat) (k : Int) (w : World) (hk : k < 1 ∨ 8 < k) :
    Calls Tryd.prog 17 #[.slice A n c, .int .i64 k] w fun e w' => e = .returned (.tuple #[.int .u64 0, .int .i64 1]) ∧ w = w' := by
  rcases hk with hk | hk
  · go_enter Tryd.func17, Tryd.ntmps17
    go_wp2
    go_ret2
    exact ⟨rfl, rfl⟩
  · have h1 : ¬ k < 1 := by omega
    go_enter Tryd.func17, Tryd.ntmps17
    go_wp2
    go_ret2
    exact ⟨rfl, rfl⟩

theorem refget_short (A : Option Addr) (n c : Nat) (k : Nat) (w : World) (h1 : 1 ≤ k) (h8 : k ≤ 8) (hn : n < k) :
    Calls Tryd.prog 17 #[.slice A n c, .int .i64 k] w fun e w' => e = .returned (.tuple #[.int .u64 0, .int .i64 5]) ∧ w = w' := by
  have h1' : ¬ (k : Int) < 1 := by omega
  have h8' : ¬ 8 < (k : Int) := by omega
  go_enter Tryd.func17, Tryd.ntmps17
  go_wp2
  go_ret2
  exact ⟨rfl, rfl⟩

theorem getN_down (bs : List UInt8) (j : Nat) (hj : j < bs.length) : getN (bs.drop j) = getN (bs.drop (j + 1)) * 256 + bs[j].toNat := by
  rw [List.drop_eq_getElem_cons hj, getN]
  omega
theorem getN_small (bs : List UInt8) (j k : Nat) (hk : k ≤ 8) (hj : 1 ≤ j) : getN ((bs.take k).drop j) < 72057594037927936 := by
  have h := getN_lt ((bs.take k).drop j)
  rw [List.length_drop, List.length_take] at h
  have hp : (2 : Nat) ^ (8 * (min k bs.length - j)) ≤ 2 ^ 56 := Nat.pow_le_pow_right (by omega) (by omega)
  omega

set_option maxRecDepth 100000 in
set_option maxHeartbeats 400000 in
theorem refget_ok (A : Option Addr) (n c : Nat) (bs : List UInt8) (k : Nat) (w : World) (hr : Rd w A n (cu8 bs)) (hc : n ≤ c) (hc2 : c ≤ maxLen) (h1 : 1 ≤ k) (h8 : k ≤ 8) (hn : k ≤ n) :
    Calls Tryd.prog 17 #[.slice A n c, .int .i64 k] w fun e w' => e = .returned (.tuple #[.int .u64 (getN (bs.take k)), .int .i64 0]) ∧ w = w' := by
  have hl : bs.length = n := by have h := hr.len; rw [cu8_len] at h; exact h
  have hlt : (bs.take k).length = k := by rw [List.length_take]; omega
  have HL := Lib.hid hl
  have HK := Lib.hid hlt
  clear hl hlt
  unfold maxLen at hc2
  have h1' : ¬ (k : Int) < 1 := by omega
  have h8' : ¬ 8 < (k : Int) := by omega
  go_enter Tryd.func17, Tryd.ntmps17
  go_wp2_with fail
  go_loop [6, 7] (fun v i => ∃ j : Nat, j ≤ k ∧ i = .int .i64 ((j : Int) - 1) ∧ v = .int .u64 (getN ((bs.take k).drop j))) (fun _ i => (intOf i + 1).toNat)
  case atStart => exact ⟨k, Nat.le_refl _, rfl, by rw [List.drop_of_length_le (by rw [HK.out]; exact Nat.le_refl _)]; rfl⟩
  case round =>
    obtain ⟨j, hj, rfl, rfl⟩ := hrel
    rcases j with _ | q
    · have e1 : ((0 : Nat) : Int) - 1 = -1 := by omega
      simp only [e1, List.drop_zero]
      clear e1
      go_wp2
      go_ret2
      exact ⟨rfl, rfl⟩
    · have hql : q < bs.length := by rw [HL.out]; omega
      have hqt : q < (bs.take k).length := by rw [HK.out]; omega
      obtain ⟨b0, o0, rfl, hb0, u0, hu0, hcell⟩ := hr.get (k := q) (by omega)
      rw [cu8_get bs q hql] at hu0
      obtain rfl : bV bs[q] = u0 := by injection hu0
      have hcell' : w.cell? ⟨b0, o0 + q, none⟩ = some (.int .u8 bs[q].toNat) := hcell
      clear hcell hu0
      have e1 : ((q + 1 : Nat) : Int) - 1 = (q : Int) := by omega
      simp only [e1]
      clear e1
      have hb := bs[q].toNat_lt
      have hs := getN_small bs (q + 1) k h8 (by omega)
      have hd := Lib.hid (show getN ((bs.take k).drop q) = getN ((bs.take k).drop (q + 1)) * 256 + bs[q].toNat by rw [getN_down _ q hqt, List.getElem_take])
      generalize getN ((bs.take k).drop (q + 1)) = v at hs hd ⊢
      have s1 : IntKind.u64.wrap ((v : Int) * 256) = (v : Int) * 256 := by rw [IntKind.wrap_u64]; omega
      have s2 : IntKind.u64.wrap ((v : Int) * 256 + (bs[q].toNat : Int)) = (v : Int) * 256 + (bs[q].toNat : Int) := by rw [IntKind.wrap_u64]; omega
      have s3 : IntKind.u64.wrap (bs[q].toNat : Int) = (bs[q].toNat : Int) := by rw [IntKind.wrap_u64]; omega
      go_wp2
      go_round
      case rel => exact ⟨q, by omega, rfl, by rw [hd.out]; first | rfl | simp⟩
      case measure => (simp [intOf]; try omega)
end Go.Proofs.YtoogldllcgbmdaaDoor
