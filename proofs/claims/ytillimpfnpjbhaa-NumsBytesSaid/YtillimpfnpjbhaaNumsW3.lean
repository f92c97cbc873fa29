/-
  Walks of package nums: PutBytes, GetBytes, GetList; and of SameBytes of the statements.
-/
import Derived.Test.YtillimpfnpjbhaaNumsW2
namespace Go.Proofs.Ytillimpfnpjbhaa
open Go.RowKit
set_option linter.unusedVariables false

set_option maxRecDepth 100000 in
set_option maxHeartbeats 400000 in
theorem putbytes_any (A : Option Addr) (n c : Nat) (bs : List UInt8) (A2 : Option Addr) (m c2 : Nat) (l : List UInt8) (w : World) (hr : Rd w A n (cu8 bs)) (hn : n ≤ 900000000)
    (hr2 : Rd w A2 m (cu8 l)) (hm : m ≤ c2) (hc2 : c2 ≤ maxLen) :
    Calls Try.prog 13 #[.slice A n c, .slice A2 m c2] w fun e w' =>
      ∃ A' c', e = .returned (.slice A' (n + 2 + min m 65535) c') ∧ Own w' w.heap.size 5 A' (n + 2 + min m 65535) c' (cu8 (bs ++ putS l)) ∧ Below w.heap.size w w' := by
  unfold maxLen at hc2
  obtain ⟨i0, hi0, hz0, hz1, hz2⟩ := info_parts info_u8
  have hl : l.length = m := by have h2 := hr2.len; rw [cu8_len] at h2; exact h2
  obtain ⟨q, hq⟩ : ∃ q : Nat, q = 65535 := ⟨_, rfl⟩
  by_cases h : m ≤ 65535
  · have HS : Hid (putS l = putB m 2 ++ l) := by unfold Hid putS; rw [hl, Nat.min_eq_left h, List.take_of_length_le (by omega)]
    rw [Nat.min_eq_left h]
    clear hl hq
    go_enter Try.func13, Try.ntmps13
    go_wp2_with fail
    refine (fresh_any A n c bs _ hr (by omega)).mono ?_
    rintro e w1 ⟨A1, c1, rfl, hown1, hbel1⟩
    go_wp2_with fail
    refine (behind_any w.heap.size A1 n c1 bs _ (by omega) 2 (by omega) (by omega) _ hown1 hbel1.size (by omega)).mono ?_
    rintro e w2 ⟨A3, c3, rfl, hown2, hbel2⟩
    have hbel12 := hbel1.trans hbel2
    clear hown1 hbel1 hbel2
    go_wp2_with (at_builtin; go_must (refine wpList_app _ rfl (.tmp 16) (.tmp 17) 22 rfl 5 i0 _ 1 Try.underlying22 hi0 hz0 hz1 hz2 rfl w.heap.size A3 _ c3 _ rfl hown2 A2 m c2 _ rfl (hr2.below hbel12) (cu8_one _) ?c3 ?c4 ?c5 ?_))
    case c3 => simp only [maxLen]; omega
    case c4 => omega
    case c5 => exact hbel12.size
    intro A4 c4 w4 hown4 hbel4 hfr4 hat4
    have hown5 : Own w4 w.heap.size 5 A4 (n + 2 + m) c4 (cu8 (bs ++ putS l)) := by rw [HS.out]; simpa [cu8_app] using hown4
    have hbel5 := hbel12.trans hbel4
    clear hown4 hbel4 hfr4 hat4
    go_wp2
    go_ret
    exact ⟨A4, c4, rfl, hown5, hbel5⟩
  · have HS : Hid (putS l = putB q 2 ++ l.take q) := by unfold Hid putS; rw [hl, Nat.min_eq_right (by omega), hq]
    rw [Nat.min_eq_right (by omega)]
    have hr3 := hr2.take (hi := q) (by omega)
    rw [cu8_take] at hr3
    have h' : 65535 < m := by omega
    clear hl
    have hcq : 65535 ≤ c2 := by omega
    subst hq
    go_enter Try.func13, Try.ntmps13
    go_wp2_with fail
    refine (fresh_any A n c bs _ hr (by omega)).mono ?_
    rintro e w1 ⟨A1, c1, rfl, hown1, hbel1⟩
    go_wp2_with fail
    refine (behind_any w.heap.size A1 n c1 bs 65535 (by decide) 2 (by omega) (by omega) _ hown1 hbel1.size (by omega)).mono ?_
    rintro e w2 ⟨A3, c3, rfl, hown2, hbel2⟩
    have hbel12 := hbel1.trans hbel2
    clear hown1 hbel1 hbel2
    go_wp2_with (at_builtin; go_must (refine wpList_app _ rfl (.tmp 16) (.tmp 17) 22 rfl 5 i0 _ 1 Try.underlying22 hi0 hz0 hz1 hz2 rfl w.heap.size A3 _ c3 _ rfl hown2 A2 65535 c2 _ rfl (hr3.below hbel12) (cu8_one _) ?c3 ?c4 ?c5 ?_))
    case c3 => simp only [maxLen]; omega
    case c4 =>
      rw [Nat.mul_one]
      exact Nat.le_trans (Nat.add_le_add_right (Nat.add_le_add_right hn _) _) (by decide)
    case c5 => exact hbel12.size
    intro A4 c4 w4 hown4 hbel4 hfr4 hat4
    have hown5 : Own w4 w.heap.size 5 A4 (n + 2 + 65535) c4 (cu8 (bs ++ putS l)) := by rw [HS.out]; simpa [cu8_app] using hown4
    have hbel5 := hbel12.trans hbel4
    clear hown4 hbel4 hfr4 hat4
    go_wp2
    go_ret
    exact ⟨A4, c4, ret_len rfl, hown5, hbel5⟩

set_option maxRecDepth 100000 in
set_option maxHeartbeats 400000 in
theorem getbytes_none (A : Option Addr) (n c : Nat) (w : World) (hn : n < 2) :
    Calls Try.prog 14 #[.slice A n c] w fun e w' => e = .returned (.tuple #[.slice none 0 0, .int .i64 0, .int .i64 5]) ∧ w = w' := by
  go_enter Try.func14, Try.ntmps14
  go_wp2_with fail
  refine (get_short A n c 2 w (by omega) (by omega) hn).mono ?_
  rintro e w1 ⟨rfl, rfl⟩
  go_wp2
  go_ret3
  exact ⟨rfl, rfl⟩

set_option maxRecDepth 100000 in
set_option maxHeartbeats 400000 in
theorem getbytes_short (A : Option Addr) (n c : Nat) (bs : List UInt8) (w : World) (hr : Rd w A n (cu8 bs)) (hc : n ≤ c) (hc2 : c ≤ maxLen) (hn : 2 ≤ n) (hs : n < 2 + getN (bs.take 2)) :
    Calls Try.prog 14 #[.slice A n c] w fun e w' => e = .returned (.tuple #[.slice none 0 0, .int .i64 0, .int .i64 5]) ∧ w = w' := by
  have hg2 := getN_take2 bs
  go_enter Try.func14, Try.ntmps14
  go_wp2_with fail
  refine (get_ok A n c bs 2 w hr hc hc2 (by omega) (by omega) hn).mono ?_
  rintro e w1 ⟨rfl, rfl⟩
  go_wp2
  go_ret3
  exact ⟨rfl, rfl⟩

set_option maxRecDepth 100000 in
set_option maxHeartbeats 400000 in
theorem getbytes_ok (A : Option Addr) (n c : Nat) (bs : List UInt8) (w : World) (hr : Rd w A n (cu8 bs)) (hc : n ≤ c) (hc2 : c ≤ maxLen) (hn : 2 ≤ n) (k : Nat) (hk : k = getN (bs.take 2)) (hs : 2 + k ≤ n) :
    Calls Try.prog 14 #[.slice A n c] w fun e w' =>
      ∃ A' c', e = .returned (.tuple #[.slice A' k c', .int .i64 (2 + k : Nat), .int .i64 0]) ∧ Own w' w.heap.size 5 A' k c' (cu8 ((bs.drop 2).take k)) ∧ Below w.heap.size w w' := by
  have hg2 : k < 65536 := by rw [hk]; exact getN_take2 bs
  obtain ⟨b, o, rfl, _, _⟩ := hr.get (k := 0) (by omega)
  have hr2 := hr.cut_at (lo := 2) (hi := 2 + k) (by omega) hs
  rw [show 2 + k - 2 = k by omega, cu8_drop, cu8_take] at hr2
  have HK := Lib.hid hk
  clear hk
  have hkc : 2 + k ≤ c := by omega
  have hkn : ¬ ((n : Int) < 2 + (k : Int)) := by omega
  unfold maxLen at hc2
  by_cases hk0 : k = 0
  · subst hk0
    have hr3 : Rd w (some ⟨b, o, none⟩) 0 (cu8 ((bs.drop 2).take 0)) := by simpa [cu8] using Rd.nil w _
    go_enter Try.func14, Try.ntmps14
    go_wp2_with fail
    refine (get_ok _ n c bs 2 w hr hc hc2 (by omega) (by omega) hn).mono ?_
    rintro e w1 ⟨rfl, rfl⟩
    rw [← HK.out]
    go_wp2_with fail
    refine (fresh_any _ 0 _ _ _ hr3 (by omega)).mono ?_
    rintro e w1 ⟨A1, c1, rfl, hown1, hbel1⟩
    go_wp2
    go_ret3
    exact ⟨A1, c1, rfl, hown1, hbel1⟩
  · go_enter Try.func14, Try.ntmps14
    go_wp2_with fail
    refine (get_ok _ n c bs 2 w hr hc hc2 (by omega) (by omega) hn).mono ?_
    rintro e w1 ⟨rfl, rfl⟩
    rw [← HK.out]
    go_wp2_with fail
    refine (fresh_any _ k _ _ _ hr2 (by omega)).mono ?_
    rintro e w1 ⟨A1, c1, rfl, hown1, hbel1⟩
    go_wp2
    go_ret3
    exact ⟨A1, c1, rfl, hown1, hbel1⟩

set_option maxRecDepth 100000 in
set_option maxHeartbeats 400000 in
theorem getlist_none (A : Option Addr) (c : Nat) (w : World) :
    Calls Try.prog 12 #[.slice A 0 c] w fun e w' => e = .returned (.tuple #[.slice none 0 0, .int .i64 0, .int .i64 5]) ∧ w = w' := by
  go_enter Try.func12, Try.ntmps12
  go_wp2_with fail
  refine (get_short A 0 c 1 w (by omega) (by omega) (by omega)).mono ?_
  rintro e w1 ⟨rfl, rfl⟩
  go_wp2
  go_ret3
  exact ⟨rfl, rfl⟩

set_option maxRecDepth 100000 in
set_option maxHeartbeats 400000 in
theorem getlist_short (A : Option Addr) (n c : Nat) (bs : List UInt8) (w : World) (hr : Rd w A n (cu8 bs)) (hc : n ≤ c) (hc2 : c ≤ maxLen) (hn : 1 ≤ n) (hs : n < 1 + 4 * getN (bs.take 1)) :
    Calls Try.prog 12 #[.slice A n c] w fun e w' => e = .returned (.tuple #[.slice none 0 0, .int .i64 0, .int .i64 5]) ∧ w = w' := by
  have hg2 := getN_take1 bs
  go_enter Try.func12, Try.ntmps12
  go_wp2_with fail
  refine (get_ok A n c bs 1 w hr hc hc2 (by omega) (by omega) hn).mono ?_
  rintro e w1 ⟨rfl, rfl⟩
  go_wp2
  go_ret3
  exact ⟨rfl, rfl⟩

set_option maxRecDepth 100000 in
set_option maxHeartbeats 400000 in
theorem getlist_ok (A : Option Addr) (n c : Nat) (bs : List UInt8) (w : World) (hr : Rd w A n (cu8 bs)) (hc : n ≤ c) (hc2 : c ≤ maxLen) (hn : 1 ≤ n) (k : Nat) (hk : k = getN (bs.take 1)) (hs : 1 + 4 * k ≤ n) :
    Calls Try.prog 12 #[.slice A n c] w fun e w' =>
      ∃ A' c', e = .returned (.tuple #[.slice A' k c', .int .i64 (1 + 4 * k : Nat), .int .i64 0]) ∧ Own w' w.heap.size 3 A' k c' (ci64 (getL (bs.drop 1) k)) ∧ Below w.heap.size w w' := by
  obtain ⟨i0, hi0, hz0, hz1, hz2⟩ := info_parts info_int
  have hg2 : k < 256 := by rw [hk]; exact getN_take1 bs
  obtain ⟨b, o, rfl, _, _⟩ := hr.get (k := 0) (by omega)
  have HK := Lib.hid hk
  clear hk
  have hkn : decide ((n : Int) < 1 + 4 * (k : Int)) = false := by simp; omega
  unfold maxLen at hc2
  go_enter Try.func12, Try.ntmps12
  go_wp2_with fail
  refine (get_ok _ n c bs 1 w hr hc hc2 (by omega) (by omega) hn).mono ?_
  rintro e w1 ⟨rfl, rfl⟩
  rw [← HK.out]
  go_wp2_with (at_make; go_must (refine wpList_mk _ rfl (.tmp 25) (.tmp 25) 27 rfl w.heap.size 3 i0 _ Try.underlying27 hi0 hz0 hz1 rfl .u64 .u64 _ _ k rfl rfl rfl rfl ?c2 ?c3 ?c4 ?_))
  case c2 => rw [hz2]; omega
  case c3 => simp only [maxLen]; omega
  case c4 => exact Nat.le_refl _
  intro w1 hown1 hbel1
  go_wp2_with fail
  go_loopw [29] (fun i wr => ∃ j : Nat, j ≤ k ∧ i = .int .i64 j ∧ Own wr w.heap.size 3 (some ⟨w.heap.size, 0, none⟩) k k (ci64 (getL (bs.drop 1) j ++ List.replicate (k - j) 0)) ∧ Below w.heap.size w wr) (fun i _ => k - (intOf i).toNat)
  case atStart => exact ⟨0, Nat.zero_le _, rfl, by simpa [getL, ci64, iV] using hown1, hbel1⟩
  case round =>
    obtain ⟨j, hj, rfl, hown, hbel⟩ := hrel
    by_cases hlt : j < k
    · have hr4 := (hr.below hbel).cut_at (lo := 1 + 4 * j) (hi := 1 + 4 * j + 4) (by omega) (by omega)
      rw [show 1 + 4 * j + 4 - (1 + 4 * j) = 4 by omega, cu8_drop, cu8_take] at hr4
      have hcell := hown.cell hlt
      rw [ci64_get _ _ (by rw [List.length_append, getL_len, List.length_replicate]; omega)] at hcell
      have hfree := hown.free (by omega) j
      have hcap : 1 + 4 * j + 4 ≤ c := by omega
      go_wp2_with fail
      refine (number_any _ 4 4 _ _ hr4 (by omega)).mono ?_
      rintro e w2 ⟨rfl, rfl⟩
      have hown3 : Own (wr.setCell ⟨w.heap.size, j, none⟩ (.int .i64 (getN (List.take 4 (List.drop (1 + 4 * j) bs))))) w.heap.size 3 (some ⟨w.heap.size, 0, none⟩) k k (ci64 (getL (bs.drop 1) (j + 1) ++ List.replicate (k - (j + 1)) 0)) := by
        have h := hown.set (by omega) j (.int .i64 (getN (List.take 4 (List.drop (1 + 4 * j) bs))))
        rw [getL_snoc, List.drop_drop]
        have hj2 := getL_len (bs.drop 1) j
        rw [show k - j = (k - (j + 1)) + 1 by omega, List.replicate_succ] at h
        have h3 := ci64_set (getL (bs.drop 1) j) (List.replicate (k - (j + 1)) 0) 0 (getN (List.take 4 (List.drop (1 + 4 * j) bs)))
        rw [hj2] at h3
        rw [h3] at h
        rw [List.append_assoc]
        exact h
      have hbel3 : Below w.heap.size w (wr.setCell ⟨w.heap.size, j, none⟩ (.int .i64 (getN (List.take 4 (List.drop (1 + 4 * j) bs))))) := hbel.setCell (Nat.le_refl _) _
      have hg4 := getN_take4 (List.drop (1 + 4 * j) bs)
      go_wp2
      go_roundw
      case rel => exact ⟨j + 1, by omega, by go_num, hown3, hbel3⟩
      case measure => simp [intOf]; omega
    · obtain rfl : j = k := by omega
      have hown3 : Own wr w.heap.size 3 (some ⟨w.heap.size, 0, none⟩) j j (ci64 (getL (bs.drop 1) j)) := by simpa using hown
      clear hown
      go_wp2
      go_ret3
      exact ⟨_, _, rfl, hown3, hbel⟩

set_option maxRecDepth 100000 in
set_option maxHeartbeats 400000 in
theorem samebytes_ne (A : Option Addr) (n c : Nat) (A2 : Option Addr) (m c2 : Nat) (w : World) (hne : n ≠ m) :
    Calls Try.prog 10 #[.slice A n c, .slice A2 m c2] w fun e w' => e = .returned (.bool false) ∧ ∃ q, w' = w.drewN q := by
  have h1 : ((n : Int) != (m : Int)) = true := by rw [bne_iff_ne]; omega
  go_enter Try.func10, Try.ntmps10
  go_wp2
  go_ret
  exact ⟨rfl, 0, rfl⟩

set_option maxRecDepth 100000 in
set_option maxHeartbeats 400000 in
theorem samebytes_any (A : Option Addr) (n c : Nat) (xs : List UInt8) (A2 : Option Addr) (c2 : Nat) (ys : List UInt8) (w : World) (hr : Rd w A n (cu8 xs)) (hr2 : Rd w A2 n (cu8 ys)) (hn : n ≤ maxLen) :
    Calls Try.prog 10 #[.slice A n c, .slice A2 n c2] w fun e w' => e = .returned (.bool (xs == ys)) ∧ ∃ q, w' = w.drewN q := by
  unfold maxLen at hn
  have hx : xs.length = n := by have h := hr.len; rw [cu8_len] at h; exact h
  have hy : ys.length = n := by have h := hr2.len; rw [cu8_len] at h; exact h
  have HX := Lib.hid hx
  have HY := Lib.hid hy
  clear hx hy
  go_enter Try.func10, Try.ntmps10
  go_wp2
  go_loopw [5] (fun i wr => ∃ j : Nat, j ≤ n ∧ i = .int .i64 j ∧ xs.take j = ys.take j ∧ ∃ q, wr = w.drewN q) (fun i _ => n - (intOf i).toNat)
  case atStart => exact ⟨0, Nat.zero_le _, rfl, rfl, 0, rfl⟩
  case round =>
    obtain ⟨j, hj, rfl, ht, q, rfl⟩ := hrel
    have HT := Lib.hid ht
    clear ht
    by_cases hlt : j < n
    · obtain ⟨b, o, rfl, hb, u, hu, hc⟩ := hr.get hlt
      obtain ⟨b2, o2, rfl, hb2, u2, hu2, hc2⟩ := hr2.get hlt
      have hlx : j < xs.length := by rw [HX.out]; exact hlt
      have hly : j < ys.length := by rw [HY.out]; exact hlt
      rw [cu8_get _ _ hlx] at hu
      rw [cu8_get _ _ hly] at hu2
      cases hu
      cases hu2
      unfold bV at hc hc2
      by_cases hxy : xs[j] = ys[j]
      · have hne : ((xs[j].toNat : Int) != (ys[j].toNat : Int)) = false := by rw [hxy]; simp
        have HXY := Lib.hid hxy
        clear hxy
        go_wp2
        go_quiet (fail)
        go_wp2
        go_roundw
        case rel => exact ⟨j + 1, by omega, by go_num, by rw [List.take_succ_eq_append_getElem hlx, List.take_succ_eq_append_getElem hly, HT.out, HXY.out], _, rfl⟩
        case measure => simp [intOf]; omega
      · have hne : ((xs[j].toNat : Int) != (ys[j].toNat : Int)) = true := by
          rw [bne_iff_ne]
          intro h
          exact hxy (UInt8.toNat_inj.1 (by omega))
        have hfin : (xs == ys) = false := by
          rw [beq_eq_false_iff_ne]
          intro h
          subst h
          exact hxy rfl
        have HF := Lib.hid hfin
        clear hxy hfin
        go_wp2
        go_quiet (fail)
        go_wp2
        go_ret
        exact ⟨ret_bool HF.out.symm, q + nq, by rw [World.drewN_drewN]⟩
    · obtain rfl : j = n := by omega
      have hfin : (xs == ys) = true := by
        rw [beq_iff_eq]
        have h := HT.out
        rw [List.take_of_length_le (by rw [HX.out]; omega), List.take_of_length_le (by rw [HY.out]; omega)] at h
        exact h
      have HF := Lib.hid hfin
      clear hfin
      go_wp2
      go_ret
      exact ⟨ret_bool HF.out.symm, _, rfl⟩

/-- SameBytes of two that are the same. -/
theorem samebytes_eq (A : Option Addr) (n c : Nat) (xs : List UInt8) (A2 : Option Addr) (c2 : Nat) (w : World) (hr : Rd w A n (cu8 xs)) (hr2 : Rd w A2 n (cu8 xs)) (hn : n ≤ maxLen) :
    Calls Try.prog 10 #[.slice A n c, .slice A2 n c2] w fun e w' => e = .returned (.bool true) ∧ ∃ q, w' = w.drewN q :=
  (samebytes_any A n c xs A2 c2 xs w hr hr2 hn).mono fun e w' ⟨he, hw⟩ => ⟨by rw [he]; simp, hw⟩

/-- Put behind nothing. -/
theorem put_nil (N : Nat) (hN : N < 18446744073709551616) (m : Nat) (hm : m ≤ 8) (w : World) :
    Calls Try.prog 8 #[.slice none 0 0, .int .u64 N, .int .i64 m] w fun e w' =>
      ∃ A' c', e = .returned (.slice A' m c') ∧ Own w' w.heap.size 5 A' m c' (cu8 (putB N m)) ∧ Below w.heap.size w w' := by
  refine (put_any none 0 0 [] N hN m (by omega) (by omega) w (Rd.nil _ _) (by omega)).mono ?_
  rintro e w' ⟨A', c', rfl, ho, hb⟩
  have hmm : 0 + (min (m : Int) 8).toNat = m := by omega
  rw [List.nil_append] at ho
  have hm2 : (min (m : Int) 8).toNat = m := by omega
  rw [hm2, Nat.zero_add] at ho
  exact ⟨A', c', by rw [hmm], ho, hb⟩

/-- Get, of 1 to 8 bytes, where there are fewer. -/
theorem getlist_fail (A : Option Addr) (n c : Nat) (bs : List UInt8) (w : World) (hr : Rd w A n (cu8 bs)) (hc : n ≤ c) (hc2 : c ≤ maxLen) (hs : n < 1 + 4 * getN (bs.take 1)) :
    Calls Try.prog 12 #[.slice A n c] w fun e w' => e = .returned (.tuple #[.slice none 0 0, .int .i64 0, .int .i64 5]) ∧ w = w' := by
  rcases Nat.eq_zero_or_pos n with h | h
  · subst h
    exact getlist_none A c w
  · exact getlist_short A n c bs w hr hc hc2 h hs
theorem getbytes_fail (A : Option Addr) (n c : Nat) (bs : List UInt8) (w : World) (hr : Rd w A n (cu8 bs)) (hc : n ≤ c) (hc2 : c ≤ maxLen) (hs : n < 2 + getN (bs.take 2)) :
    Calls Try.prog 14 #[.slice A n c] w fun e w' => e = .returned (.tuple #[.slice none 0 0, .int .i64 0, .int .i64 5]) ∧ w = w' := by
  rcases Nat.lt_or_ge n 2 with h | h
  · exact getbytes_none A n c w h
  · exact getbytes_short A n c bs w hr hc hc2 h hs

/-- PutList and PutBytes behind nothing. -/
theorem putlist_nil (A2 : Option Addr) (m c2 : Nat) (zs : List Int) (w : World) (hr2 : Rd w A2 m (ci64 zs)) (hm : m ≤ c2) (hc2 : c2 ≤ maxLen) (hm2 : m ≤ 255) :
    Calls Try.prog 9 #[.slice none 0 0, .slice A2 m c2] w fun e w' =>
      ∃ A' c', e = .returned (.slice A' (1 + 4 * m) c') ∧ Own w' w.heap.size 5 A' (1 + 4 * m) c' (cu8 (putL zs)) ∧ Below w.heap.size w w' := by
  refine (putlist_any none 0 0 [] A2 m c2 zs w (Rd.nil _ _) (by omega) hr2 hm hc2).mono ?_
  rintro e w' ⟨A', c', rfl, ho, hb⟩
  rw [Nat.min_eq_left hm2, Nat.zero_add, List.nil_append] at ho
  exact ⟨A', c', by rw [Nat.min_eq_left hm2, Nat.zero_add], ho, hb⟩
theorem putbytes_nil (A2 : Option Addr) (m c2 : Nat) (l : List UInt8) (w : World) (hr2 : Rd w A2 m (cu8 l)) (hm : m ≤ c2) (hc2 : c2 ≤ maxLen) (hm2 : m ≤ 65535) :
    Calls Try.prog 13 #[.slice none 0 0, .slice A2 m c2] w fun e w' =>
      ∃ A' c', e = .returned (.slice A' (2 + m) c') ∧ Own w' w.heap.size 5 A' (2 + m) c' (cu8 (putS l)) ∧ Below w.heap.size w w' := by
  refine (putbytes_any none 0 0 [] A2 m c2 l w (Rd.nil _ _) (by omega) hr2 hm hc2).mono ?_
  rintro e w' ⟨A', c', rfl, ho, hb⟩
  rw [Nat.min_eq_left hm2, Nat.zero_add, List.nil_append] at ho
  exact ⟨A', c', by rw [Nat.min_eq_left hm2, Nat.zero_add], ho, hb⟩

/-- SameBytes of two that are the same: nothing that was there has turned. -/
theorem samebytes_eqB (A : Option Addr) (n c : Nat) (xs : List UInt8) (A2 : Option Addr) (c2 : Nat) (w : World) (hr : Rd w A n (cu8 xs)) (hr2 : Rd w A2 n (cu8 xs)) (hn : n ≤ maxLen) :
    Calls Try.prog 10 #[.slice A n c, .slice A2 n c2] w fun e w' => e = .returned (.bool true) ∧ Below w.heap.size w w' :=
  (samebytes_eq A n c xs A2 c2 w hr hr2 hn).mono fun e w' ⟨he, q, hw⟩ => ⟨he, by rw [hw]; exact belowN (Below.refl _ _) q⟩

/-- PutBytes of no more than 65535; PutList of no more than 255. -/
theorem putbytes_le (A : Option Addr) (n c : Nat) (bs : List UInt8) (A2 : Option Addr) (m c2 : Nat) (l : List UInt8) (w : World) (hr : Rd w A n (cu8 bs)) (hn : n ≤ 900000000)
    (hr2 : Rd w A2 m (cu8 l)) (hm : m ≤ c2) (hc2 : c2 ≤ maxLen) (hm2 : m ≤ 65535) :
    Calls Try.prog 13 #[.slice A n c, .slice A2 m c2] w fun e w' =>
      ∃ A' c', e = .returned (.slice A' (n + 2 + m) c') ∧ Own w' w.heap.size 5 A' (n + 2 + m) c' (cu8 (bs ++ putS l)) ∧ Below w.heap.size w w' := by
  refine (putbytes_any A n c bs A2 m c2 l w hr hn hr2 hm hc2).mono ?_
  rw [Nat.min_eq_left hm2]
  exact fun _ _ h => h
theorem putlist_le (A : Option Addr) (n c : Nat) (bs : List UInt8) (A2 : Option Addr) (m c2 : Nat) (zs : List Int) (w : World) (hr : Rd w A n (cu8 bs)) (hn : n ≤ 900000000)
    (hr2 : Rd w A2 m (ci64 zs)) (hm : m ≤ c2) (hc2 : c2 ≤ maxLen) (hm2 : m ≤ 255) :
    Calls Try.prog 9 #[.slice A n c, .slice A2 m c2] w fun e w' =>
      ∃ A' c', e = .returned (.slice A' (n + 1 + 4 * m) c') ∧ Own w' w.heap.size 5 A' (n + 1 + 4 * m) c' (cu8 (bs ++ putL zs)) ∧ Below w.heap.size w w' := by
  refine (putlist_any A n c bs A2 m c2 zs w hr hn hr2 hm hc2).mono ?_
  rw [Nat.min_eq_left hm2]
  exact fun _ _ h => h

/-- Put, where it is known how many bytes. -/
theorem put_at (A : Option Addr) (n c : Nat) (bs : List UInt8) (N : Nat) (hN : N < 18446744073709551616) (k : Int) (hk : k ≤ 9223372036854775807) (hk0 : -9223372036854775808 ≤ k) (w : World)
    (hr : Rd w A n (cu8 bs)) (hn : n ≤ 1000000000) (mm : Nat) (hmm : (min k 8).toNat = mm) :
    Calls Try.prog 8 #[.slice A n c, .int .u64 N, .int .i64 k] w fun e w' =>
      ∃ A' c', e = .returned (.slice A' (n + mm) c') ∧ Own w' w.heap.size 5 A' (n + mm) c' (cu8 (bs ++ putB N mm)) ∧ Below w.heap.size w w' := by
  subst hmm
  exact put_any A n c bs N hN k hk hk0 w hr hn
end Go.Proofs.Ytillimpfnpjbhaa
