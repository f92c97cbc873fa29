/-
  Walks of the document's answers of layer 1 (salesroomref01): Put, PutList, PutBytes.
-/
import Derived.Test.YtfhiedlglmgneaaGreatDoorRef01
namespace Go.Proofs.YtfhiedlglmgneaaGreatDoor
open Go.RowKit
set_option linter.unusedVariables false

set_option maxRecDepth 100000 in
set_option maxHeartbeats 400000 in
theorem refput_at (A : Option Addr) (n c : Nat) (bs : List UInt8) (N : Nat) (hN : N < 18446744073709551616) (k : Int) (hk : k ≤ 9223372036854775807) (hk0 : -9223372036854775808 ≤ k) (w : World)
    (hr : Rd w A n (cu8 bs)) (hn : n ≤ 1000000000) (mm : Nat) (hmm : (min k 8).toNat = mm) :
    Calls Tryz.prog 31 #[.slice A n c, .int .u64 N, .int .i64 k] w fun e w' =>
      ∃ A' c', e = .returned (.slice A' (n + mm) c') ∧ Own w' w.heap.size 5 A' (n + mm) c' (cu8 (bs ++ putB N mm)) ∧ Below w.heap.size w w' := by
  obtain ⟨i0, hi0, hz0, hz1, hz2⟩ := info_parts info_u8
  have hm1 : (mm : Int) ≤ k ∨ mm = 0 := by omega
  have hm2 : mm ≤ 8 := by omega
  have hm3 : k ≤ (mm : Int) ∨ mm = 8 := by omega
  clear hmm
  go_enter Tryz.func31, Tryz.ntmps31
  go_wp2_with (at_builtin; go_must (refine wpList_app _ rfl _ _ 33 rfl 5 i0 _ 1 Tryz.underlying33 hi0 hz0 hz1 hz2 rfl w.heap.size none 0 0 [] rfl (Own.none_ _ _ _ _) A n c _ rfl hr (cu8_one _) ?c3 ?c4 ?c5 ?_))
  case c3 => simp only [maxLen]; omega
  case c4 => omega
  case c5 => exact Nat.le_refl _
  intro A1 c1 w1 ho1 hb1 _ _
  have ho2 : Own w1 w.heap.size 5 A1 n c1 (cu8 bs) := by
    try rw [Nat.zero_add] at ho1
    try rw [List.nil_append] at ho1
    exact ho1
  clear ho1
  go_wp2_with fail
  go_loopw [7, 8] (fun v i wr => ∃ (j : Nat) (A' : Option Addr) (c' : Nat), j ≤ mm ∧ i = .int .i64 j ∧ v = .slice A' (n + j) c' ∧ Own wr w.heap.size 5 A' (n + j) c' (cu8 (bs ++ putB N j)) ∧ Below w.heap.size w wr) (fun _ i _ => mm - (intOf i).toNat)
  case atStart => exact ⟨0, A1, c1, Nat.zero_le _, rfl, by simp, by simpa [putB_zero] using ho2, hb1⟩
  case round =>
    obtain ⟨j, A', c', hj, rfl, rfl, hown, hbel⟩ := hrel
    by_cases hlt : j < mm
    · have d1 : (j : Int) < k := by omega
      have d2 : (j : Int) < 8 := by omega
      go_wp2_with (at_builtin; go_must (refine wpList_app1 wr rfl _ _ 33 rfl 5 i0 _ 1 Tryz.underlying33 hi0 hz0 hz1 hz2 rfl w.heap.size A' (n + j) c' _ rfl hown 1 rfl rfl ?c3 ?c4 ?c5 ?_))
      case c3 => simp only [maxLen]; omega
      case c4 => omega
      case c5 => exact hbel.size
      intro A2 c2 w2 hown1 hbel1 hfr1 hat1
      have hown2 : Own w2 w.heap.size 5 A2 (n + (j + 1)) c2 (cu8 (bs ++ putB N (j + 1))) := by
        rw [putB_succ, ← List.append_assoc, cu8_app]
        simp only [cu8, List.map_cons, List.map_nil, bV_put] at hown1 ⊢
        exact hown1
      clear hown1 hfr1 hat1
      go_wp2
      go_roundw
      case rel => exact ⟨j + 1, A2, c2, by omega, by go_num, rfl, hown2, hbel.trans hbel1⟩
      case measure => simp [intOf]; omega
    · obtain rfl : j = mm := by omega
      by_cases hjk : (j : Int) < k
      · obtain rfl : j = 8 := by omega
        go_wp2
        go_ret
        exact ⟨A', c', rfl, hown, hbel⟩
      · go_wp2
        go_ret
        exact ⟨A', c', rfl, hown, hbel⟩

set_option maxRecDepth 100000 in
set_option maxHeartbeats 400000 in
theorem refputlist_any (A : Option Addr) (n c : Nat) (bs : List UInt8) (A2 : Option Addr) (m c2 : Nat) (zs : List Int) (w : World) (hr : Rd w A n (cu8 bs)) (hn : n ≤ 900000000)
    (hr2 : Rd w A2 m (ci64 zs)) (hm : m ≤ c2) (hc2 : c2 ≤ maxLen) :
    Calls Tryz.prog 30 #[.slice A n c, .slice A2 m c2] w fun e w' =>
      ∃ A' c', e = .returned (.slice A' (n + 1 + 4 * min m 255) c') ∧ Own w' w.heap.size 5 A' (n + 1 + 4 * min m 255) c' (cu8 (bs ++ putL zs)) ∧ Below w.heap.size w w' := by
  unfold maxLen at hc2
  obtain ⟨m', hm', hr2', hmm⟩ : ∃ m', min m 255 = m' ∧ Rd w A2 m' (ci64 (zs.take 255)) ∧ ((m ≤ 255 ∧ m' = m) ∨ (255 < m ∧ m' = 255)) := by
    by_cases h : m ≤ 255
    · refine ⟨m, by omega, ?_, .inl ⟨h, rfl⟩⟩
      have h2 := hr2.len
      rw [ci64_len] at h2
      rw [List.take_of_length_le (by omega)]
      exact hr2
    · refine ⟨255, by omega, ?_, .inr ⟨by omega, rfl⟩⟩
      rw [← ci64_take]
      exact hr2.take (by omega)
  rw [hm']
  have hl : zs.length = m := by have h2 := hr2.len; rw [ci64_len] at h2; exact h2
  have HP : Hid (putL zs = putB m' 1 ++ listB (zs.take 255)) := by unfold Hid putL; rw [hl, hm']
  have hlt' : (zs.take 255).length = m' := by rw [List.length_take, hl]; omega
  generalize zs.take 255 = ys at HP hr2' hlt'
  have HL := Lib.hid hlt'
  clear hlt' hl hm' hr2
  obtain ⟨ML, hML⟩ : ∃ ML, ML = m' := ⟨_, rfl⟩
  rw [← hML] at HP
  have HL2 : Hid (ys.length = ML) := by rw [hML]; exact HL
  have HM := Lib.hid hML
  clear hML
  rcases hmm with ⟨h, rfl⟩ | ⟨h, rfl⟩
  all_goals
    go_enter Tryz.func30, Tryz.ntmps30
    go_wp2_with fail
    refine (refput_at A n c bs _ (by first | omega | decide) 1 (by omega) (by omega) _ hr (by omega) 1 (by omega)).mono ?_
    rintro e w2 ⟨A3, c3, rfl, hown2, hbel2⟩
    have hown3 : Own w2 w.heap.size 5 A3 (n + 1) c3 (cu8 (bs ++ putB ML 1)) := by rw [HM.out]; exact hown2
    clear hown2
    go_wp2_with fail
    go_loopw [5, 6] (fun v i wr => ∃ (j : Nat) (A' : Option Addr) (c' : Nat), j ≤ ys.length ∧ i = .int .i64 j ∧ v = .slice A' (n + 1 + 4 * j) c' ∧ Own wr w.heap.size 5 A' (n + 1 + 4 * j) c' (cu8 (bs ++ (putB ML 1 ++ listB (ys.take j)))) ∧ Below w.heap.size w wr) (fun _ i _ => ys.length - (intOf i).toNat)
    case atStart => exact ⟨0, A3, c3, Nat.zero_le _, rfl, rfl, by simpa [listB] using hown3, hbel2⟩
    case round =>
      obtain ⟨j, A', c', hj, rfl, rfl, hown, hbel⟩ := hrel
      by_cases hlt : j < ys.length
      · obtain ⟨b, o, hA, hb, u, hu, hc⟩ := (hr2'.below hbel).get (k := j) (by rw [← HL.out]; exact hlt)
        subst hA
        rw [ci64_get _ _ hlt] at hu
        cases hu
        unfold iV at hc
        have hjm := hlt
        rw [HL.out] at hjm
        go_wp2_with fail
        rw [wrap_u64_nat]
        refine (refput_at A' _ c' _ _ (toNat_lt64 _) 4 (by omega) (by omega) _ hown.rd (by omega) 4 (by omega)).mono ?_
        rintro e w4 ⟨A4, c4, rfl, hown4, hbel4⟩
        have hown4' := hown4.mono hbel.size
        have hown5 : Own w4 w.heap.size 5 A4 (n + 1 + 4 * (j + 1)) c4 (cu8 (bs ++ (putB ML 1 ++ listB (ys.take (j + 1))))) := by
          rw [List.take_succ_eq_append_getElem hlt, listB_snoc]
          simpa [intB, Nat.mul_add, Nat.add_assoc] using hown4'
        have hbel5 := hbel.trans (hbel4.mono hbel.size)
        clear hown4 hown4' hbel4 hown
        go_wp2
        go_roundw
        case rel => exact ⟨j + 1, A4, c4, by omega, by go_num, rfl, hown5, hbel5⟩
        case measure => simp [intOf]; omega
      · obtain rfl : j = ys.length := by omega
        have hjm := Nat.not_lt.2 (Nat.le_of_eq HL.out.symm)
        have hown5 : Own wr w.heap.size 5 A' (n + 1 + 4 * ys.length) c' (cu8 (bs ++ putL zs)) := by rw [HP.out]; simpa using hown
        have HL3 := HL
        go_wp2
        go_ret
        exact ⟨A', c', ret_len (by rw [HL.out]), by rw [← HL.out]; exact hown5, hbel⟩

end Go.Proofs.YtfhiedlglmgneaaGreatDoor
