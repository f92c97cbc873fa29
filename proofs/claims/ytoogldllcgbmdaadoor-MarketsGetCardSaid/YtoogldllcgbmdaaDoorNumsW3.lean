/-
  Walks of package nums: PutBytes, GetBytes, GetList; and of SameBytes of the statements.
-/
import Derived.Test.YtoogldllcgbmdaaDoorNumsW2
import Derived.Test.YtoogldllcgbmdaaDoorSame
namespace Go.Proofs.YtoogldllcgbmdaaDoor
open Go.RowKit
set_option linter.unusedVariables false
set_option maxRecDepth 100000 in
set_option maxHeartbeats 400000 in
theorem getlist_none (A : Option Addr) (c : Nat) (w : World) :
    Calls Tryd.prog 52 #[.slice A 0 c] w fun e w' => e = .returned (.tuple #[.slice none 0 0, .int .i64 0, .int .i64 5]) ∧ w = w' := by
  go_enter Tryd.func52, Tryd.ntmps52
  go_wp2_with fail
  refine (get_short A 0 c 1 w (by omega) (by omega) (by omega)).mono ?_
  rintro e w1 ⟨rfl, rfl⟩
  go_wp2
  go_ret3
  exact ⟨rfl, rfl⟩

set_option maxRecDepth 100000 in
set_option maxHeartbeats 400000 in
theorem getlist_short (A : Option Addr) (n c : Nat) (bs : List UInt8) (w : World) (hr : Rd w A n (cu8 bs)) (hc : n ≤ c) (hc2 : c ≤ maxLen) (hn : 1 ≤ n) (hs : n < 1 + 4 * getN (bs.take 1)) :
    Calls Tryd.prog 52 #[.slice A n c] w fun e w' => e = .returned (.tuple #[.slice none 0 0, .int .i64 0, .int .i64 5]) ∧ w = w' := by
  have hg2 := getN_take1 bs
  go_enter Tryd.func52, Tryd.ntmps52
  go_wp2_with fail
  refine (get_ok A n c bs 1 w hr hc hc2 (by omega) (by omega) hn).mono ?_
  rintro e w1 ⟨rfl, rfl⟩
  go_wp2
  go_ret3
  exact ⟨rfl, rfl⟩

set_option maxRecDepth 100000 in
set_option maxHeartbeats 400000 in
theorem getlist_ok (A : Option Addr) (n c : Nat) (bs : List UInt8) (w : World) (hr : Rd w A n (cu8 bs)) (hc : n ≤ c) (hc2 : c ≤ maxLen) (hn : 1 ≤ n) (k : Nat) (hk : k = getN (bs.take 1)) (hs : 1 + 4 * k ≤ n) :
    Calls Tryd.prog 52 #[.slice A n c] w fun e w' =>
      ∃ A' c', e = .returned (.tuple #[.slice A' k c', .int .i64 (1 + 4 * k : Nat), .int .i64 0]) ∧ Own w' w.heap.size 3 A' k c' (ci64 (getL (bs.drop 1) k)) ∧ Below w.heap.size w w' := by
  obtain ⟨i0, hi0, hz0, hz1, hz2⟩ := info_parts info_int
  have hg2 : k < 256 := by rw [hk]; exact getN_take1 bs
  obtain ⟨b, o, rfl, _, _⟩ := hr.get (k := 0) (by omega)
  have HK := Lib.hid hk
  clear hk
  have hkn : decide ((n : Int) < 1 + 4 * (k : Int)) = false := by simp; omega
  unfold maxLen at hc2
  go_enter Tryd.func52, Tryd.ntmps52
  go_wp2_with fail
  refine (get_ok _ n c bs 1 w hr hc hc2 (by omega) (by omega) hn).mono ?_
  rintro e w1 ⟨rfl, rfl⟩
  rw [← HK.out]
  go_wp2_with (at_make; go_must (refine wpList_mk _ rfl (.tmp 25) (.tmp 25) 24 rfl w.heap.size 3 i0 _ Tryd.underlying24 hi0 hz0 hz1 rfl .u64 .u64 _ _ k rfl rfl rfl rfl ?c2 ?c3 ?c4 ?_))
  case c2 => rw [hz2]; omega
  case c3 => simp only [maxLen]; omega
  case c4 => exact Nat.le_refl _
  intro w1 hown1 hbel1
  go_wp2_with fail
  go_loopw [29] (fun i wr => ∃ j : Nat, j ≤ k ∧ i = .int .i64 j ∧ Own wr w.heap.size 3 (some ⟨w.heap.size, 0, none⟩) k k (ci64 (getL (bs.drop 1) j ++ List.replicate (k - j) 0)) ∧ Below w.heap.size w wr) (fun i _ => k - (intOf i).toNat)
  case atStart => exact ⟨0, Nat.zero_le _, rfl, by simpa [getL, ci64, iV] using hown1, hbel1⟩
  case round =>
    obtain ⟨j, hj, rfl, hown, hbel⟩ := hrel
    by_cases hlt : j < k
    · have hr4 := (hr.below hbel).cut_at (lo := 1 + 4 * j) (hi := 1 + 4 * j + 4) (by omega) (by omega)
      rw [show 1 + 4 * j + 4 - (1 + 4 * j) = 4 by omega, cu8_drop, cu8_take] at hr4
      have hcell := hown.cell hlt
      rw [ci64_get _ _ (by rw [List.length_append, getL_len, List.length_replicate]; omega)] at hcell
      have hfree := hown.free (by omega) j
      have hcap : 1 + 4 * j + 4 ≤ c := by omega
      go_wp2_with fail
      refine (number_any _ 4 4 _ _ hr4 (by omega)).mono ?_
      rintro e w2 ⟨rfl, rfl⟩
      have hown3 : Own (wr.setCell ⟨w.heap.size, j, none⟩ (.int .i64 (getN (List.take 4 (List.drop (1 + 4 * j) bs))))) w.heap.size 3 (some ⟨w.heap.size, 0, none⟩) k k (ci64 (getL (bs.drop 1) (j + 1) ++ List.replicate (k - (j + 1)) 0)) := by
        have h := hown.set (by omega) j (.int .i64 (getN (List.take 4 (List.drop (1 + 4 * j) bs))))
        rw [getL_snoc, List.drop_drop]
        have hj2 := getL_len (bs.drop 1) j
        rw [show k - j = (k - (j + 1)) + 1 by omega, List.replicate_succ] at h
        have h3 := ci64_set (getL (bs.drop 1) j) (List.replicate (k - (j + 1)) 0) 0 (getN (List.take 4 (List.drop (1 + 4 * j) bs)))
        rw [hj2] at h3
        rw [h3] at h
        rw [List.append_assoc]
        exact h
      have hbel3 : Below w.heap.size w (wr.setCell ⟨w.heap.size, j, none⟩ (.int .i64 (getN (List.take 4 (List.drop (1 + 4 * j) bs))))) := hbel.setCell (Nat.le_refl _) _
      have hg4 := getN_take4 (List.drop (1 + 4 * j) bs)
      go_wp2
      go_roundw
      case rel => exact ⟨j + 1, by omega, by go_num, hown3, hbel3⟩
      case measure => simp [intOf]; omega
    · obtain rfl : j = k := by omega
      have hown3 : Own wr w.heap.size 3 (some ⟨w.heap.size, 0, none⟩) j j (ci64 (getL (bs.drop 1) j)) := by simpa using hown
      clear hown
      go_wp2
      go_ret3
      exact ⟨_, _, rfl, hown3, hbel⟩

/-- Get, of 1 to 8 bytes, where there are fewer. -/
theorem getlist_fail (A : Option Addr) (n c : Nat) (bs : List UInt8) (w : World) (hr : Rd w A n (cu8 bs)) (hc : n ≤ c) (hc2 : c ≤ maxLen) (hs : n < 1 + 4 * getN (bs.take 1)) :
    Calls Tryd.prog 52 #[.slice A n c] w fun e w' => e = .returned (.tuple #[.slice none 0 0, .int .i64 0, .int .i64 5]) ∧ w = w' := by
  rcases Nat.eq_zero_or_pos n with h | h
  · subst h
    exact getlist_none A c w
  · exact getlist_short A n c bs w hr hc hc2 h hs
end Go.Proofs.YtoogldllcgbmdaaDoor
