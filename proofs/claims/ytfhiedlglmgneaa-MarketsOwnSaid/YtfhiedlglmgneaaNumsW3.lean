/-
  Walks of package nums: PutBytes, GetBytes, GetList; and of SameBytes of the statements.
-/
import Derived.Test.YtfhiedlglmgneaaNumsW2
import Derived.Test.YtfhiedlglmgneaaSame
namespace Go.Proofs.Ytfhiedlglmgneaa
open Go.RowKit
set_option linter.unusedVariables false
set_option maxRecDepth 100000 in
set_option maxHeartbeats 400000 in
theorem getlist_none (A : Option Addr) (c : Nat) (w : World) :
    Calls Try.prog 32 #[.slice A 0 c] w fun e w' => e = .returned (.tuple #[.slice none 0 0, .int .i64 0, .int .i64 5]) ∧ w = w' := by
  go_enter Try.func32, Try.ntmps32
  go_wp2_with fail
  refine (get_short A 0 c 1 w (by omega) (by omega) (by omega)).mono ?_
  rintro e w1 ⟨rfl, rfl⟩
  go_wp2
  go_ret3
  exact ⟨rfl, rfl⟩

set_option maxRecDepth 100000 in
set_option maxHeartbeats 400000 in
theorem getlist_short (A : Option Addr) (n c : Nat) (bs : List UInt8) (w : World) (hr : Rd w A n (cu8 bs)) (hc : n ≤ c) (hc2 : c ≤ maxLen) (hn : 1 ≤ n) (hs : n < 1 + 4 * getN (bs.take 1)) :
    Calls Try.prog 32 #[.slice A n c] w fun e w' => e = .returned (.tuple #[.slice none 0 0, .int .i64 0, .int .i64 5]) ∧ w = w' := by
  have hg2 := getN_take1 bs
  go_enter Try.func32, Try.ntmps32
  go_wp2_with fail
  refine (get_ok A n c bs 1 w hr hc hc2 (by omega) (by omega) hn).mono ?_
  rintro e w1 ⟨rfl, rfl⟩
  go_wp2
  go_ret3
  exact ⟨rfl, rfl⟩

set_option maxRecDepth 100000 in
set_option maxHeartbeats 400000 in
theorem getlist_ok (A : Option Addr) (n c : Nat) (bs : List UInt8) (w : World) (hr : Rd w A n (cu8 bs)) (hc : n ≤ c) (hc2 : c ≤ maxLen) (hn : 1 ≤ n) (k : Nat) (hk : k = getN (bs.take 1)) (hs : 1 + 4 * k ≤ n) :
    Calls Try.prog 32 #[.slice A n c] w fun e w' =>
      ∃ A' c', e = .returned (.tuple #[.slice A' k c', .int .i64 (1 + 4 * k : Nat), .int .i64 0]) ∧ Own w' w.heap.size 3 A' k c' (ci64 (getL (bs.drop 1) k)) ∧ Below w.heap.size w w' := by
  obtain ⟨i0, hi0, hz0, hz1, hz2⟩ := info_parts info_int
  have hg2 : k < 256 := by rw [hk]; exact getN_take1 bs
  obtain ⟨b, o, rfl, _, _⟩ := hr.get (k := 0) (by omega)
  have HK := Lib.hid hk
  clear hk
  have hkn : decide ((n : Int) < 1 + 4 * (k : Int)) = false := by simp; omega
  unfold maxLen at hc2
  go_enter Try.func32, Try.ntmps32
  go_wp2_with fail
  refine (get_ok _ n c bs 1 w hr hc hc2 (by omega) (by omega) hn).mono ?_
  rintro e w1 ⟨rfl, rfl⟩
  rw [← HK.out]
  go_wp2_with (at_make; go_must (refine wpList_mk _ rfl (.tmp 25) (.tmp 25) 22 rfl w.heap.size 3 i0 _ Try.underlying22 hi0 hz0 hz1 rfl .u64 .u64 _ _ k rfl rfl rfl rfl ?c2 ?c3 ?c4 ?_))
  case c2 => rw [hz2]; omega
  case c3 => simp only [maxLen]; omega
  case c4 => exact Nat.le_refl _
  intro w1 hown1 hbel1
  go_wp2_with fail
  go_loopw [29] (fun i wr => ∃ j : Nat, j ≤ k ∧ i = .int .i64 j ∧ Own wr w.heap.size 3 (some ⟨w.heap.size, 0, none⟩) k k (ci64 (getL (bs.drop 1) j ++ List.replicate (k - j) 0)) ∧ Below w.heap.size w wr) (fun i _ => k - (intOf i).toNat)
  case atStart => exact ⟨0, Nat.zero_le _, rfl, by simpa [getL, ci64, iV] using hown1, hbel1⟩
  case round =>
    obtain ⟨j, hj, rfl, hown, hbel⟩ := hrel
    by_cases hlt : j < k
    · have hr4 := (hr.below hbel).cut_at (lo := 1 + 4 * j) (hi := 1 + 4 * j + 4) (by omega) (by omega)
      rw [show 1 + 4 * j + 4 - (1 + 4 * j) = 4 by omega, cu8_drop, cu8_take] at hr4
      have hcell := hown.cell hlt
      rw [ci64_get _ _ (by rw [List.length_append, getL_len, List.length_replicate]; omega)] at hcell
      have hfree := hown.free (by omega) j
      have hcap : 1 + 4 * j + 4 ≤ c := by omega
      go_wp2_with fail
      refine (number_any _ 4 4 _ _ hr4 (by omega)).mono ?_
      rintro e w2 ⟨rfl, rfl⟩
      have hown3 : Own (wr.setCell ⟨w.heap.size, j, none⟩ (.int .i64 (getN (List.take 4 (List.drop (1 + 4 * j) bs))))) w.heap.size 3 (some ⟨w.heap.size, 0, none⟩) k k (ci64 (getL (bs.drop 1) (j + 1) ++ List.replicate (k - (j + 1)) 0)) := by
        have h := hown.set (by omega) j (.int .i64 (getN (List.take 4 (List.drop (1 + 4 * j) bs))))
        rw [getL_snoc, List.drop_drop]
        have hj2 := getL_len (bs.drop 1) j
        rw [show k - j = (k - (j + 1)) + 1 by omega, List.replicate_succ] at h
        have h3 := ci64_set (getL (bs.drop 1) j) (List.replicate (k - (j + 1)) 0) 0 (getN (List.take 4 (List.drop (1 + 4 * j) bs)))
        rw [hj2] at h3
        rw [h3] at h
        rw [List.append_assoc]
        exact h
      have hbel3 : Below w.heap.size w (wr.setCell ⟨w.heap.size, j, none⟩ (.int .i64 (getN (List.take 4 (List.drop (1 + 4 * j) bs))))) := hbel.setCell (Nat.le_refl _) _
      have hg4 := getN_take4 (List.drop (1 + 4 * j) bs)
      go_wp2
      go_roundw
      case rel => exact ⟨j + 1, by omega, by go_num, hown3, hbel3⟩
      case measure => simp [intOf]; omega
    · obtain rfl : j = k := by omega
      have hown3 : Own wr w.heap.size 3 (some ⟨w.heap.size, 0, none⟩) j j (ci64 (getL (bs.drop 1) j)) := by simpa using hown
      clear hown
      go_wp2
      go_ret3
      exact ⟨_, _, rfl, hown3, hbel⟩

/-- Put behind nothing. -/
theorem put_nil (N : Nat) (hN : N < 18446744073709551616) (m : Nat) (hm : m ≤ 8) (w : World) :
    Calls Try.prog 25 #[.slice none 0 0, .int .u64 N, .int .i64 m] w fun e w' =>
      ∃ A' c', e = .returned (.slice A' m c') ∧ Own w' w.heap.size 5 A' m c' (cu8 (putB N m)) ∧ Below w.heap.size w w' := by
  refine (put_any none 0 0 [] N hN m (by omega) (by omega) w (Rd.nil _ _) (by omega)).mono ?_
  rintro e w' ⟨A', c', rfl, ho, hb⟩
  have hmm : 0 + (min (m : Int) 8).toNat = m := by omega
  rw [List.nil_append] at ho
  have hm2 : (min (m : Int) 8).toNat = m := by omega
  rw [hm2, Nat.zero_add] at ho
  exact ⟨A', c', by rw [hmm], ho, hb⟩

/-- Get, of 1 to 8 bytes, where there are fewer. -/
theorem getlist_fail (A : Option Addr) (n c : Nat) (bs : List UInt8) (w : World) (hr : Rd w A n (cu8 bs)) (hc : n ≤ c) (hc2 : c ≤ maxLen) (hs : n < 1 + 4 * getN (bs.take 1)) :
    Calls Try.prog 32 #[.slice A n c] w fun e w' => e = .returned (.tuple #[.slice none 0 0, .int .i64 0, .int .i64 5]) ∧ w = w' := by
  rcases Nat.eq_zero_or_pos n with h | h
  · subst h
    exact getlist_none A c w
  · exact getlist_short A n c bs w hr hc hc2 h hs
/-- PutList and PutBytes behind nothing. -/
theorem putlist_nil (A2 : Option Addr) (m c2 : Nat) (zs : List Int) (w : World) (hr2 : Rd w A2 m (ci64 zs)) (hm : m ≤ c2) (hc2 : c2 ≤ maxLen) (hm2 : m ≤ 255) :
    Calls Try.prog 24 #[.slice none 0 0, .slice A2 m c2] w fun e w' =>
      ∃ A' c', e = .returned (.slice A' (1 + 4 * m) c') ∧ Own w' w.heap.size 5 A' (1 + 4 * m) c' (cu8 (putL zs)) ∧ Below w.heap.size w w' := by
  refine (putlist_any none 0 0 [] A2 m c2 zs w (Rd.nil _ _) (by omega) hr2 hm hc2).mono ?_
  rintro e w' ⟨A', c', rfl, ho, hb⟩
  rw [Nat.min_eq_left hm2, Nat.zero_add, List.nil_append] at ho
  exact ⟨A', c', by rw [Nat.min_eq_left hm2, Nat.zero_add], ho, hb⟩
theorem putlist_le (A : Option Addr) (n c : Nat) (bs : List UInt8) (A2 : Option Addr) (m c2 : Nat) (zs : List Int) (w : World) (hr : Rd w A n (cu8 bs)) (hn : n ≤ 900000000)
    (hr2 : Rd w A2 m (ci64 zs)) (hm : m ≤ c2) (hc2 : c2 ≤ maxLen) (hm2 : m ≤ 255) :
    Calls Try.prog 24 #[.slice A n c, .slice A2 m c2] w fun e w' =>
      ∃ A' c', e = .returned (.slice A' (n + 1 + 4 * m) c') ∧ Own w' w.heap.size 5 A' (n + 1 + 4 * m) c' (cu8 (bs ++ putL zs)) ∧ Below w.heap.size w w' := by
  refine (putlist_any A n c bs A2 m c2 zs w hr hn hr2 hm hc2).mono ?_
  rw [Nat.min_eq_left hm2]
  exact fun _ _ h => h

/-- Put, where it is known how many bytes. -/
theorem put_at (A : Option Addr) (n c : Nat) (bs : List UInt8) (N : Nat) (hN : N < 18446744073709551616) (k : Int) (hk : k ≤ 9223372036854775807) (hk0 : -9223372036854775808 ≤ k) (w : World)
    (hr : Rd w A n (cu8 bs)) (hn : n ≤ 1000000000) (mm : Nat) (hmm : (min k 8).toNat = mm) :
    Calls Try.prog 25 #[.slice A n c, .int .u64 N, .int .i64 k] w fun e w' =>
      ∃ A' c', e = .returned (.slice A' (n + mm) c') ∧ Own w' w.heap.size 5 A' (n + mm) c' (cu8 (bs ++ putB N mm)) ∧ Below w.heap.size w w' := by
  subst hmm
  exact put_any A n c bs N hN k hk hk0 w hr hn
end Go.Proofs.Ytfhiedlglmgneaa
