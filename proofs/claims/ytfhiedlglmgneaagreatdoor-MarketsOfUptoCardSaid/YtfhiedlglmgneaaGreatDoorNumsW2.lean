/-
  Walks of package nums: Get, PutList, GetList, PutBytes, GetBytes; and of SameBytes of the statements.
-/
import Derived.Test.YtfhiedlglmgneaaGreatDoorNumsW
namespace Go.Proofs.YtfhiedlglmgneaaGreatDoor
open Go.RowKit
set_option linter.unusedVariables false

theorem wrap_u64_nat (z : Int) : IntKind.u64.wrap z = ((z % 18446744073709551616).toNat : Int) := by rw [IntKind.wrap_u64]; omega
theorem toNat_lt64 (z : Int) : (z % 18446744073709551616).toNat < 18446744073709551616 := by omega

set_option maxRecDepth 100000 in
set_option maxHeartbeats 400000 in
theorem putlist_any (A : Option Addr) (n c : Nat) (bs : List UInt8) (A2 : Option Addr) (m c2 : Nat) (zs : List Int) (w : World) (hr : Rd w A n (cu8 bs)) (hn : n ≤ 900000000)
    (hr2 : Rd w A2 m (ci64 zs)) (hm : m ≤ c2) (hc2 : c2 ≤ maxLen) :
    Calls Tryz.prog 28 #[.slice A n c, .slice A2 m c2] w fun e w' =>
      ∃ A' c', e = .returned (.slice A' (n + 1 + 4 * min m 255) c') ∧ Own w' w.heap.size 5 A' (n + 1 + 4 * min m 255) c' (cu8 (bs ++ putL zs)) ∧ Below w.heap.size w w' := by
  unfold maxLen at hc2
  obtain ⟨m', hm', hr2', hmm⟩ : ∃ m', min m 255 = m' ∧ Rd w A2 m' (ci64 (zs.take 255)) ∧ ((m ≤ 255 ∧ m' = m) ∨ (255 < m ∧ m' = 255)) := by
    by_cases h : m ≤ 255
    · refine ⟨m, by omega, ?_, .inl ⟨h, rfl⟩⟩
      have h2 := hr2.len
      rw [ci64_len] at h2
      rw [List.take_of_length_le (by omega)]
      exact hr2
    · refine ⟨255, by omega, ?_, .inr ⟨by omega, rfl⟩⟩
      rw [← ci64_take]
      exact hr2.take (by omega)
  rw [hm']
  have hl : zs.length = m := by have h2 := hr2.len; rw [ci64_len] at h2; exact h2
  have HP : Hid (putL zs = putB m' 1 ++ listB (zs.take 255)) := by unfold Hid putL; rw [hl, hm']
  have hlt' : (zs.take 255).length = m' := by rw [List.length_take, hl]; omega
  generalize zs.take 255 = ys at HP hr2' hlt'
  have HL := Lib.hid hlt'
  clear hlt' hl hm' hr2
  obtain ⟨ML, hML⟩ : ∃ ML, ML = m' := ⟨_, rfl⟩
  rw [← hML] at HP
  have HL2 : Hid (ys.length = ML) := by rw [hML]; exact HL
  have HM := Lib.hid hML
  clear hML
  rcases hmm with ⟨h, rfl⟩ | ⟨h, rfl⟩
  all_goals
    go_enter Tryz.func28, Tryz.ntmps28
    go_wp2_with fail
    refine (fresh_any A n c bs _ hr (by omega)).mono ?_
    rintro e w1 ⟨A1, c1, rfl, hown1, hbel1⟩
    have hr3 := hr2'.below hbel1
    go_wp2_with fail
    refine (behind_any w.heap.size A1 n c1 bs _ (by first | omega | decide) 1 (by omega) (by omega) _ hown1 hbel1.size (by omega)).mono ?_
    rintro e w2 ⟨A3, c3, rfl, hown2, hbel2⟩
    have hbel12 := hbel1.trans hbel2
    have hr4 := hr2'.below hbel12
    have hown3 : Own w2 w.heap.size 5 A3 (n + 1) c3 (cu8 (bs ++ putB ML 1)) := by rw [HM.out]; exact hown2
    clear hr3 hown1 hbel1 hown2 hbel2
    go_wp2_with fail
    go_loopw [6, 22] (fun v i wr => ∃ (j : Nat) (A' : Option Addr) (c' : Nat), j ≤ ys.length ∧ i = .int .i64 j ∧ v = .slice A' (n + 1 + 4 * j) c' ∧ Own wr w.heap.size 5 A' (n + 1 + 4 * j) c' (cu8 (bs ++ (putB ML 1 ++ listB (ys.take j)))) ∧ Below w.heap.size w wr) (fun _ i _ => ys.length - (intOf i).toNat)
    case atStart => exact ⟨0, A3, c3, Nat.zero_le _, rfl, rfl, by simpa [listB] using hown3, hbel12⟩
    case round =>
      obtain ⟨j, A', c', hj, rfl, rfl, hown, hbel⟩ := hrel
      by_cases hlt : j < ys.length
      · obtain ⟨b, o, hA, hb, u, hu, hc⟩ := (hr2'.below hbel).get (k := j) (by rw [← HL.out]; exact hlt)
        subst hA
        rw [ci64_get _ _ hlt] at hu
        cases hu
        unfold iV at hc
        have hjm := hlt
        rw [HL.out] at hjm
        go_wp2_with fail
        rw [wrap_u64_nat]
        refine (behind_any w.heap.size A' _ c' _ _ (toNat_lt64 _) 4 (by omega) (by omega) _ hown hbel.size (by omega)).mono ?_
        rintro e w4 ⟨A4, c4, rfl, hown4, hbel4⟩
        have hown5 : Own w4 w.heap.size 5 A4 (n + 1 + 4 * (j + 1)) c4 (cu8 (bs ++ (putB ML 1 ++ listB (ys.take (j + 1))))) := by
          rw [List.take_succ_eq_append_getElem hlt, listB_snoc]
          simpa [intB, Nat.mul_add, Nat.add_assoc] using hown4
        have hbel5 := hbel.trans hbel4
        clear hown4 hbel4 hown
        go_wp2
        go_roundw
        case rel => exact ⟨j + 1, A4, c4, by omega, by go_num, rfl, hown5, hbel5⟩
        case measure => simp [intOf]; omega
      · obtain rfl : j = ys.length := by omega
        have hjm := Nat.not_lt.2 (Nat.le_of_eq HL.out.symm)
        have hown5 : Own wr w.heap.size 5 A' (n + 1 + 4 * ys.length) c' (cu8 (bs ++ putL zs)) := by rw [HP.out]; simpa using hown
        have HL3 := HL
        go_wp2
        go_ret
        exact ⟨A', c', ret_len (by rw [HL.out]), by rw [← HL.out]; exact hown5, hbel⟩
end Go.Proofs.YtfhiedlglmgneaaGreatDoor
