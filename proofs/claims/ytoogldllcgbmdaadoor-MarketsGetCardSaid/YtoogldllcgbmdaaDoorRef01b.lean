/-
  Walks of the document's answers of layer 1 (salesroomref01): GetBytes, GetList.
-/
import Derived.Test.YtoogldllcgbmdaaDoorRef01
namespace Go.Proofs.YtoogldllcgbmdaaDoor
open Go.RowKit
set_option linter.unusedVariables false
theorem take1_get (bs : List UInt8) (h : 0 < bs.length) : getN (bs.take 1) = bs[0].toNat := by
  cases bs with
  | nil => simp at h
  | cons b r => simp [getN]

set_option maxRecDepth 100000 in
set_option maxHeartbeats 400000 in
theorem refgetlist_fail (A : Option Addr) (n c : Nat) (bs : List UInt8) (w : World) (hr : Rd w A n (cu8 bs)) (hc : n ≤ c) (hc2 : c ≤ maxLen) (hs : n < 1 + 4 * getN (bs.take 1)) :
    Calls Tryd.prog 16 #[.slice A n c] w fun e w' => e = .returned (.tuple #[.slice none 0 0, .int .i64 0, .int .i64 5]) ∧ w = w' := by
  unfold maxLen at hc2
  rcases Nat.eq_zero_or_pos n with h | h
  · subst h
    go_enter Tryd.func16, Tryd.ntmps16
    go_wp2
    go_ret3
    exact ⟨rfl, rfl⟩
  · have hl : bs.length = n := by have h := hr.len; rw [cu8_len] at h; exact h
    have hl0 : 0 < bs.length := by omega
    obtain ⟨b0, o0, rfl, hb0, u0, hu0, hcell⟩ := hr.get (k := 0) h
    rw [cu8_get bs 0 hl0] at hu0
    obtain rfl : bV bs[0] = u0 := by injection hu0
    have hcell' : w.cell? ⟨b0, o0, none⟩ = some (.int .u8 bs[0].toNat) := hcell
    rw [take1_get bs hl0] at hs
    have hb := bs[0].toNat_lt
    clear hu0 hcell
    generalize bs[0].toNat = g at hcell' hs hb
    have h1 : decide ((n : Int) < 1) = false := by simp; omega
    have h2 : decide ((n : Int) < 1 + 4 * (g : Int)) = true := by simp; omega
    clear hl hl0
    go_enter Tryd.func16, Tryd.ntmps16
    go_wp2
    go_ret3
    exact ⟨rfl, rfl⟩

set_option maxRecDepth 100000 in
set_option maxHeartbeats 800000 in
theorem refgetlist_ok (A : Option Addr) (n c : Nat) (bs : List UInt8) (w : World) (hr : Rd w A n (cu8 bs)) (hc : n ≤ c) (hc2 : c ≤ maxLen) (hn : 1 ≤ n) (k : Nat) (hk : k = getN (bs.take 1)) (hs : 1 + 4 * k ≤ n) :
    Calls Tryd.prog 16 #[.slice A n c] w fun e w' =>
      ∃ A' c', e = .returned (.tuple #[.slice A' k c', .int .i64 (1 + 4 * k : Nat), .int .i64 0]) ∧ Own w' w.heap.size 3 A' k c' (ci64 (getL (bs.drop 1) k)) ∧ Below w.heap.size w w' := by
  obtain ⟨i0, hi0, hz0, hz1, hz2⟩ := info_parts info_int
  have hcm := hc2
  unfold maxLen at hc2
  have hl : bs.length = n := by have h := hr.len; rw [cu8_len] at h; exact h
  have hl0 : 0 < bs.length := by omega
  have hg2 : k < 256 := by rw [hk]; exact getN_take1 bs
  obtain ⟨b0, o0, rfl, hb0, u0, hu0, hcell⟩ := hr.get (k := 0) hn
  rw [cu8_get bs 0 hl0] at hu0
  obtain rfl : bV bs[0] = u0 := by injection hu0
  rw [take1_get bs hl0] at hk
  have hcell' : w.cell? ⟨b0, o0, none⟩ = some (.int .u8 k) := by rw [hk]; exact hcell
  have HL := Lib.hid hl
  clear hu0 hcell hk hl hl0
  obtain ⟨tl, htl⟩ : ∃ tl, bs.drop 1 = tl := ⟨_, rfl⟩
  rw [htl]
  have HT := Lib.hid htl
  clear htl
  have h1 : decide ((n : Int) < 1) = false := by simp; omega
  have h2 : decide ((n : Int) < 1 + 4 * (k : Int)) = false := by simp; omega
  go_enter Tryd.func16, Tryd.ntmps16
  go_wp2_with fail
  go_loopw [5, 6] (fun v i wr => ∃ (j : Nat) (A' : Option Addr) (c' : Nat), j ≤ k ∧ i = .int .i64 j ∧ v = .slice A' j c' ∧ Own wr w.heap.size 3 A' j c' (ci64 (getL tl j)) ∧ Below w.heap.size w wr) (fun _ i _ => k - (intOf i).toNat)
  case atStart => exact ⟨0, none, 0, Nat.zero_le _, rfl, rfl, Own.none_ _ _ _ _, Below.refl _ _⟩
  case round =>
    obtain ⟨j, A', c', hj, rfl, rfl, hown, hbel⟩ := hrel
    have hcr : wr.cell? ⟨b0, o0, none⟩ = some (.int .u8 k) := by rw [hbel.cell (p := ⟨b0, o0, none⟩) hb0]; exact hcell'
    by_cases hlt : j < k
    · have hr4 := (hr.below hbel).cut_at (lo := 1 + 4 * j) (hi := n) (by omega) (by omega)
      rw [cu8_drop, cu8_take, List.take_of_length_le (by rw [List.length_drop, HL.out]; exact Nat.le_refl _)] at hr4
      have hcap : ¬ (c = 1 + 4 * j) := by omega
      have hg4 := getN_take4 (bs.drop (1 + 4 * j))
      have hsn := Lib.hid (show getL tl (j + 1) = getL tl j ++ [(getN ((bs.drop (1 + 4 * j)).take 4) : Int)] by rw [getL_snoc, ← HT.out, List.drop_drop])
      go_wp2_with fail
      refine (refget_ok _ (n - (1 + 4 * j)) (c - (1 + 4 * j)) _ 4 _ hr4 (by omega) (by omega) (by omega) (by omega) (by omega)).mono ?_
      rintro e w2 ⟨rfl, rfl⟩
      generalize getN ((bs.drop (1 + 4 * j)).take 4) = g at hg4 hsn ⊢
      go_wp2_with (at_builtin; go_must (refine wpList_app1 wr rfl _ _ 24 rfl 3 i0 _ 8 Tryd.underlying24 hi0 hz0 hz1 hz2 rfl w.heap.size A' j c' _ rfl hown 1 rfl rfl ?c3 ?c4 ?c5 ?_))
      case c3 => simp only [maxLen]; omega
      case c4 => omega
      case c5 => exact hbel.size
      intro A2 c2 w2 hown2 hbel2 hfr2 hat2
      have hown3 : Own w2 w.heap.size 3 A2 (j + 1) c2 (ci64 (getL tl (j + 1))) := by
        rw [hsn.out, ci64_app]
        exact hown2
      clear hown2 hfr2 hat2
      go_wp2
      go_roundw
      case rel => exact ⟨j + 1, A2, c2, by omega, by go_num, rfl, hown3, hbel.trans hbel2⟩
      case measure => simp [intOf]; omega
    · obtain rfl : j = k := by omega
      go_wp2
      go_quiet (fail)
      go_wp2
      go_ret3
      exact ⟨A', c', by first | rfl | simp, hown.drewN _, belowN hbel _⟩
end Go.Proofs.YtoogldllcgbmdaaDoor
