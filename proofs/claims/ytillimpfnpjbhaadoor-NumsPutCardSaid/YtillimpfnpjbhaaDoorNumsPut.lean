/-
  Proved: salesroomlaw01.NumsPut answers true, for any bytes, any list, any number and count of bytes, in whatever memory (the listed package-level variables read as the program's text lays them; none of them is used). No other conditions.
-/
import Derived.Test.YtillimpfnpjbhaaDoorRows
import Derived.Test.YtillimpfnpjbhaaDoorRef01p
import Derived.Test.YtillimpfnpjbhaaDoorTwinI
import Derived.Test.YtillimpfnpjbhaaDoorBookE
import Derived.Test.YtillimpfnpjbhaaDoorLift
import Derived.Test.YtillimpfnpjbhaaDoorBookT
import Derived.Test.YtillimpfnpjbhaaDoorCards
import Derived.Test.YtillimpfnpjbhaaDoorTie
import Derived.LaidMore
import Derived.Stop.Joined
import Derived.SevenTiedAt
import Derived.Lib.SmallJoins
namespace Go.Proofs.YtillimpfnpjbhaaDoor.numsPut
open Go.ChangeShapes Go.WideShapes Go.ChangeAt Go.RowKit
set_option linter.unusedVariables false

set_option maxRecDepth 100000 in
set_option maxHeartbeats 1000000 in
theorem walk_long (A : Option Addr) (n c : Nat) (A' : Option Addr) (m c' : Nat) (N : Nat) (z : Int) (w : World) (hc2 : c ≤ maxLen) (hc : n ≤ c) (hc2' : c' ≤ maxLen) (hc' : m ≤ c') (hn : 70000 < n ∨ 1000 < m) :
    Calls Tryd.prog 3 #[.slice A n c, .slice A' m c', .agg #[.int .u64 N, .int .i64 z]] w fun e w' => e = .returned (.bool true) ∧ Below w.heap.size w w' := by
  unfold maxLen at hc2 hc2'
  by_cases hn1 : 70000 < n
  · have h1 : decide (70000 < n) = true := by simpa using hn1
    go_enter Tryd.func3, Tryd.ntmps3
    go_wp2
    go_ret
    exact ⟨rfl, (Below.refl _ w).alloc (Nat.le_refl _) _⟩
  · have h1 : decide (70000 < n) = false := by simpa using hn1
    have h2 : decide (1000 < m) = true := by simp; omega
    go_enter Tryd.func3, Tryd.ntmps3
    go_wp2
    go_ret
    exact ⟨rfl, (Below.refl _ w).alloc (Nat.le_refl _) _⟩

set_option maxRecDepth 100000 in
set_option maxHeartbeats 4000000 in
theorem walk (A : Option Addr) (n c : Nat) (bs : List UInt8) (A' : Option Addr) (m c' : Nat) (zs : List Int) (N : Nat) (hN : N < 18446744073709551616) (z : Int) (hz1 : -9223372036854775808 ≤ z) (hz2 : z ≤ 9223372036854775807) (w : World)
    (hr : Rd w A n (cu8 bs)) (hc2 : c ≤ maxLen) (hc : n ≤ c) (hr' : Rd w A' m (ci64 zs)) (hc2' : c' ≤ maxLen) (hc' : m ≤ c') :
    Calls Tryd.prog 3 #[.slice A n c, .slice A' m c', .agg #[.int .u64 N, .int .i64 z]] w fun e w' => e = .returned (.bool true) ∧ Below w.heap.size w w' := by
  by_cases hn : 70000 < n ∨ 1000 < m
  · exact walk_long A n c A' m c' N z w hc2 hc hc2' hc' hn
  · have hn1 : n ≤ 70000 := by omega
    have hm1 : m ≤ 1000 := by omega
    clear hn
    have hl : bs.length = n := by have h := hr.len; rw [cu8_len] at h; exact h
    have hl' : zs.length = m := by have h := hr'.len; rw [ci64_len] at h; exact h
    have HL := Lib.hid hl
    have HL' := Lib.hid hl'
    clear hl hl'
    have hcm := hc2
    have hcm' := hc2'
    unfold maxLen at hc2 hc2'
    obtain ⟨mm, hmm⟩ : ∃ mm, (min z 8).toNat = mm := ⟨_, rfl⟩
    have hm8 : mm ≤ 8 := by omega
    have HM := Lib.hid hmm
    clear hmm
    have hmin : min n 65535 ≤ 70000 := Nat.le_trans (Nat.min_le_left _ _) hn1
    have hmax : n + 2 + min n 65535 ≤ maxLen := Nat.le_trans (Nat.add_le_add (Nat.add_le_add_right hn1 2) hmin) (by decide)
    have h1 : decide (70000 < n) = false := by simp; omega
    have h2 : decide (1000 < m) = false := by simp; omega
    go_enter Tryd.func3, Tryd.ntmps3
    go_wp2_with fail
    have hB0 : Below w.heap.size w (w.alloc (.cells #[.int .u64 N, .int .i64 z] 26)) := (Below.refl _ w).alloc (Nat.le_refl _) _
    have f_b_0 := hr.alloc (.cells #[.int .u64 N, .int .i64 z] 26)
    have f_l_0 := hr'.alloc (.cells #[.int .u64 N, .int .i64 z] 26)
    have f_bx_0 := Bx.new w #[.int .u64 N, .int .i64 z] 26 (0, 0)
    generalize w.alloc (.cells #[.int .u64 N, .int .i64 z] 26) = w0 at *
    go_wp2_with fail
    refine (twinbytes_any A n c bs w0 f_b_0 (by omega)).mono ?_
    rintro e w1 ⟨A1, c1, rfl, ho1, hb1⟩
    have f_b_1 := f_b_0.below hb1
    have f_l_1 := f_l_0.below hb1
    have f_bx_1 := f_bx_0.below hb1
    have hB1 := hB0.trans (hb1.mono hB0.size)
    have sz1 := hb1.size
    clear f_b_0 f_l_0 f_bx_0 hb1
    have rg1 := Lib.hid ho1.range
    have kt := ho1.le
    have ktm := ho1.cap
    have f_t_1 := ho1
    clear ho1
    go_wp2_with fail
    refine (twinints_any A' m c' zs w1 f_l_1 (by omega)).mono ?_
    rintro e w2 ⟨A2, c2, rfl, ho2, hb2⟩
    have f_b_2 := f_b_1.below hb2
    have f_l_2 := f_l_1.below hb2
    have f_bx_2 := f_bx_1.below hb2
    have f_t_2 := f_t_1.below hb2
    have hB2 := hB1.trans (hb2.mono hB1.size)
    have sz2 := hb2.size
    clear f_b_1 f_l_1 f_bx_1 f_t_1 hb2
    have rg2 := Lib.hid ho2.range
    have ku := ho2.le
    have kum := ho2.cap
    have f_u_2 := ho2
    clear ho2
    go_wp2_with fail
    refine (twinbytes_any A n c bs w2 f_b_2 (by omega)).mono ?_
    rintro e w3 ⟨A3, c3, rfl, ho3, hb3⟩
    have f_b_3 := f_b_2.below hb3
    have f_l_3 := f_l_2.below hb3
    have f_bx_3 := f_bx_2.below hb3
    have f_t_3 := f_t_2.below hb3
    have f_u_3 := f_u_2.below hb3
    have hB3 := hB2.trans (hb3.mono hB2.size)
    have sz3 := hb3.size
    clear f_b_2 f_l_2 f_bx_2 f_t_2 f_u_2 hb3
    have rg3 := Lib.hid ho3.range
    have kv := ho3.le
    have kvm := ho3.cap
    have f_v_3 := ho3
    clear ho3
    have bx0 := f_bx_3.at0
    have bx1 := f_bx_3.at1
    go_wp2_with fail
    refine (put_at A1 n c1 bs N hN z hz2 hz1 w3 (own_twin HL.out f_t_3).rd (by omega) mm HM.out).mono ?_
    rintro e w4 ⟨A4, c4, rfl, ho4, hb4⟩
    have f_b_4 := f_b_3.below hb4
    have f_l_4 := f_l_3.below hb4
    have f_bx_4 := f_bx_3.below hb4
    have f_t_4 := f_t_3.below hb4
    have f_u_4 := f_u_3.below hb4
    have f_v_4 := f_v_3.below hb4
    have hB4 := hB3.trans (hb4.mono hB3.size)
    have sz4 := hb4.size
    clear f_b_3 f_l_3 f_bx_3 f_t_3 f_u_3 f_v_3 hb4
    clear bx0 bx1
    have rg4 := Lib.hid ho4.range
    have f_x_4 := ho4
    clear ho4
    go_wp2_with fail
    refine (putlist_any A1 n c1 bs A2 m c2 zs w4 (own_twin HL.out f_t_4).rd (by omega) (own_twinI HL'.out f_u_4).rd (by omega) kum).mono ?_
    rintro e w5 ⟨A5, c5, rfl, ho5, hb5⟩
    have f_b_5 := f_b_4.below hb5
    have f_l_5 := f_l_4.below hb5
    have f_bx_5 := f_bx_4.below hb5
    have f_t_5 := f_t_4.below hb5
    have f_u_5 := f_u_4.below hb5
    have f_v_5 := f_v_4.below hb5
    have f_x_5 := f_x_4.below hb5
    have hB5 := hB4.trans (hb5.mono hB4.size)
    have sz5 := hb5.size
    clear f_b_4 f_l_4 f_bx_4 f_t_4 f_u_4 f_v_4 f_x_4 hb5
    have rg5 := Lib.hid ho5.range
    have f_y_5 := ho5
    clear ho5
    go_wp2_with fail
    refine (putbytes_any A1 n c1 bs A3 n c3 bs w5 (own_twin HL.out f_t_5).rd (by omega) (own_twin HL.out f_v_5).rd (by omega) kvm).mono ?_
    rintro e w6 ⟨A6, c6, rfl, ho6, hb6⟩
    have f_b_6 := f_b_5.below hb6
    have f_l_6 := f_l_5.below hb6
    have f_bx_6 := f_bx_5.below hb6
    have f_t_6 := f_t_5.below hb6
    have f_u_6 := f_u_5.below hb6
    have f_v_6 := f_v_5.below hb6
    have f_x_6 := f_x_5.below hb6
    have f_y_6 := f_y_5.below hb6
    have hB6 := hB5.trans (hb6.mono hB5.size)
    have sz6 := hb6.size
    clear f_b_5 f_l_5 f_bx_5 f_t_5 f_u_5 f_v_5 f_x_5 f_y_5 hb6
    have rg6 := Lib.hid ho6.range
    have f_w_6 := ho6
    clear ho6
    have bx0 := f_bx_6.at0
    have bx1 := f_bx_6.at1
    go_wp2_with fail
    refine (refput_at A n c bs N hN z hz2 hz1 w6 f_b_6 (by omega) mm HM.out).mono ?_
    rintro e w7 ⟨A7, c7, rfl, ho7, hb7⟩
    have f_b_7 := f_b_6.below hb7
    have f_l_7 := f_l_6.below hb7
    have f_bx_7 := f_bx_6.below hb7
    have f_t_7 := f_t_6.below hb7
    have f_u_7 := f_u_6.below hb7
    have f_v_7 := f_v_6.below hb7
    have f_x_7 := f_x_6.below hb7
    have f_y_7 := f_y_6.below hb7
    have f_w_7 := f_w_6.below hb7
    have hB7 := hB6.trans (hb7.mono hB6.size)
    have sz7 := hb7.size
    clear f_b_6 f_l_6 f_bx_6 f_t_6 f_u_6 f_v_6 f_x_6 f_y_6 f_w_6 hb7
    clear bx0 bx1
    have f_a_7 := ho7
    clear ho7
    go_wp2_with fail
    refine (samebytes_eqB A4 (n + mm) c4 _ A7 c7 w7 f_x_7.rd f_a_7.rd (by simp only [maxLen]; omega)).mono ?_
    rintro e w8 ⟨rfl, hb8⟩
    have f_b_8 := f_b_7.below hb8
    have f_l_8 := f_l_7.below hb8
    have f_bx_8 := f_bx_7.below hb8
    have f_t_8 := f_t_7.below hb8
    have f_u_8 := f_u_7.below hb8
    have f_v_8 := f_v_7.below hb8
    have f_x_8 := f_x_7.below hb8
    have f_y_8 := f_y_7.below hb8
    have f_w_8 := f_w_7.below hb8
    have f_a_8 := f_a_7.below hb8
    have hB8 := hB7.trans (hb8.mono hB7.size)
    have sz8 := hb8.size
    clear f_b_7 f_l_7 f_bx_7 f_t_7 f_u_7 f_v_7 f_x_7 f_y_7 f_w_7 f_a_7 hb8
    clear f_a_8
    go_wp2_with fail
    refine (refputlist_any A n c bs A' m c' zs w8 f_b_8 (by omega) f_l_8 hc' hcm').mono ?_
    rintro e w9 ⟨A8, c8, rfl, ho8, hb9⟩
    have f_b_9 := f_b_8.below hb9
    have f_l_9 := f_l_8.below hb9
    have f_bx_9 := f_bx_8.below hb9
    have f_t_9 := f_t_8.below hb9
    have f_u_9 := f_u_8.below hb9
    have f_v_9 := f_v_8.below hb9
    have f_x_9 := f_x_8.below hb9
    have f_y_9 := f_y_8.below hb9
    have f_w_9 := f_w_8.below hb9
    have hB9 := hB8.trans (hb9.mono hB8.size)
    have sz9 := hb9.size
    clear f_b_8 f_l_8 f_bx_8 f_t_8 f_u_8 f_v_8 f_x_8 f_y_8 f_w_8 hb9
    have f_d_9 := ho8
    clear ho8
    go_wp2_with fail
    refine (samebytes_eqB A5 (n + 1 + 4 * min m 255) c5 _ A8 c8 w9 f_y_9.rd f_d_9.rd (by simp only [maxLen]; omega)).mono ?_
    rintro e w10 ⟨rfl, hb10⟩
    have f_b_10 := f_b_9.below hb10
    have f_l_10 := f_l_9.below hb10
    have f_bx_10 := f_bx_9.below hb10
    have f_t_10 := f_t_9.below hb10
    have f_u_10 := f_u_9.below hb10
    have f_v_10 := f_v_9.below hb10
    have f_x_10 := f_x_9.below hb10
    have f_y_10 := f_y_9.below hb10
    have f_w_10 := f_w_9.below hb10
    have f_d_10 := f_d_9.below hb10
    have hB10 := hB9.trans (hb10.mono hB9.size)
    have sz10 := hb10.size
    clear f_b_9 f_l_9 f_bx_9 f_t_9 f_u_9 f_v_9 f_x_9 f_y_9 f_w_9 f_d_9 hb10
    clear f_d_10
    go_wp2_with fail
    refine (refputbytes_any A n c bs A n c bs w10 f_b_10 (by omega) f_b_10 hc hcm).mono ?_
    rintro e w11 ⟨A9, c9, rfl, ho9, hb11⟩
    have f_b_11 := f_b_10.below hb11
    have f_l_11 := f_l_10.below hb11
    have f_bx_11 := f_bx_10.below hb11
    have f_t_11 := f_t_10.below hb11
    have f_u_11 := f_u_10.below hb11
    have f_v_11 := f_v_10.below hb11
    have f_x_11 := f_x_10.below hb11
    have f_y_11 := f_y_10.below hb11
    have f_w_11 := f_w_10.below hb11
    have hB11 := hB10.trans (hb11.mono hB10.size)
    have sz11 := hb11.size
    clear f_b_10 f_l_10 f_bx_10 f_t_10 f_u_10 f_v_10 f_x_10 f_y_10 f_w_10 hb11
    have f_g_11 := ho9
    clear ho9
    go_wp2_with fail
    refine (samebytes_eqB A6 (n + 2 + min n 65535) c6 _ A9 c9 w11 f_w_11.rd f_g_11.rd hmax).mono ?_
    rintro e w12 ⟨rfl, hb12⟩
    have f_b_12 := f_b_11.below hb12
    have f_l_12 := f_l_11.below hb12
    have f_bx_12 := f_bx_11.below hb12
    have f_t_12 := f_t_11.below hb12
    have f_u_12 := f_u_11.below hb12
    have f_v_12 := f_v_11.below hb12
    have f_x_12 := f_x_11.below hb12
    have f_y_12 := f_y_11.below hb12
    have f_w_12 := f_w_11.below hb12
    have f_g_12 := f_g_11.below hb12
    have hB12 := hB11.trans (hb12.mono hB11.size)
    have sz12 := hb12.size
    clear f_b_11 f_l_11 f_bx_11 f_t_11 f_u_11 f_v_11 f_x_11 f_y_11 f_w_11 f_g_11 hb12
    clear f_g_12
    go_wp2_with fail
    refine (leftbytes_any A1 n c1 bs A c w12 _ f_t_12 f_b_12 (by omega)).mono ?_
    rintro e w13 ⟨rfl, hb13⟩
    have f_b_13 := f_b_12.below hb13
    have f_l_13 := f_l_12.below hb13
    have f_bx_13 := f_bx_12.below hb13
    have f_t_13 := f_t_12.below hb13
    have f_u_13 := f_u_12.below hb13
    have f_v_13 := f_v_12.below hb13
    have f_x_13 := f_x_12.below hb13
    have f_y_13 := f_y_12.below hb13
    have f_w_13 := f_w_12.below hb13
    have hB13 := hB12.trans (hb13.mono hB12.size)
    have sz13 := hb13.size
    clear f_b_12 f_l_12 f_bx_12 f_t_12 f_u_12 f_v_12 f_x_12 f_y_12 f_w_12 hb13
    go_wp2_with fail
    refine (leftbytes_any A3 n c3 bs A c w13 _ f_v_13 f_b_13 (by omega)).mono ?_
    rintro e w14 ⟨rfl, hb14⟩
    have f_b_14 := f_b_13.below hb14
    have f_l_14 := f_l_13.below hb14
    have f_bx_14 := f_bx_13.below hb14
    have f_t_14 := f_t_13.below hb14
    have f_u_14 := f_u_13.below hb14
    have f_v_14 := f_v_13.below hb14
    have f_x_14 := f_x_13.below hb14
    have f_y_14 := f_y_13.below hb14
    have f_w_14 := f_w_13.below hb14
    have hB14 := hB13.trans (hb14.mono hB13.size)
    have sz14 := hb14.size
    clear f_b_13 f_l_13 f_bx_13 f_t_13 f_u_13 f_v_13 f_x_13 f_y_13 f_w_13 hb14
    go_wp2_with fail
    refine (leftints_any A2 m c2 zs A' c' w14 _ f_u_14 f_l_14 (by omega)).mono ?_
    rintro e w15 ⟨rfl, hb15⟩
    have f_b_15 := f_b_14.below hb15
    have f_l_15 := f_l_14.below hb15
    have f_bx_15 := f_bx_14.below hb15
    have f_t_15 := f_t_14.below hb15
    have f_u_15 := f_u_14.below hb15
    have f_v_15 := f_v_14.below hb15
    have f_x_15 := f_x_14.below hb15
    have f_y_15 := f_y_14.below hb15
    have f_w_15 := f_w_14.below hb15
    have hB15 := hB14.trans (hb15.mono hB14.size)
    have sz15 := hb15.size
    clear f_b_14 f_l_14 f_bx_14 f_t_14 f_u_14 f_v_14 f_x_14 f_y_14 f_w_14 hb15
    have pt := own_twin HL.out f_t_15
    have pv := own_twin HL.out f_v_15
    have pu := own_twinI HL'.out f_u_15
    have px := f_x_15
    have py := f_y_15
    have pw := f_w_15
    clear f_b_15 f_l_15 f_bx_15 f_t_15 f_u_15 f_v_15 f_x_15 f_y_15 f_w_15
    go_wp2_with fail
    have hBk := hB15.alloc hB15.size (.cells #[.int .i64 0, .slice none 0 0, .slice none 0 0, .slice none 0 0, .slice none 0 0, .slice none 0 0, .slice none 0 0, .slice none 0 0, .slice none 0 0, .slice none 0 0] 44)
    refine (toldByte_any w15.heap.size 0 _ _ [] [] A1 n c1 _ (Bk.new _ _ _ w15) (by omega) (by simp)).mono ?_
    rintro e v1 ⟨rfl, q1, hk1, hc1⟩
    go_wp2_with fail
    refine (toldByte_any w15.heap.size (0 + 1) _ _ _ _ A3 n c3 _ hk1 (by omega) (by simp)).mono ?_
    rintro e v2 ⟨rfl, q2, hk2, hc2⟩
    have hc2 := hc1.trans hc2
    go_wp2_with fail
    refine (toldInt_any w15.heap.size (0 + 1 + 1) _ _ _ _ A2 m c2 _ hk2 (by omega) (by simp)).mono ?_
    rintro e v3 ⟨rfl, q3, hk3, hc3⟩
    have hc3 := hc2.trans hc3
    go_wp2_with fail
    refine (toldByte_any w15.heap.size (0 + 1 + 1 + 1) _ _ _ _ A4 (n + mm) c4 _ hk3 (by omega) (by simp)).mono ?_
    rintro e v4 ⟨rfl, q4, hk4, hc4⟩
    have hc4 := hc3.trans hc4
    go_wp2_with fail
    refine (toldByte_any w15.heap.size (0 + 1 + 1 + 1 + 1) _ _ _ _ A5 (n + 1 + 4 * min m 255) c5 _ hk4 (by omega) (by simp)).mono ?_
    rintro e v5 ⟨rfl, q5, hk5, hc5⟩
    have hc5 := hc4.trans hc5
    go_wp2_with fail
    refine (toldByte_any w15.heap.size (0 + 1 + 1 + 1 + 1 + 1) _ _ _ _ A6 (n + 2 + min n 65535) c6 _ hk5 (by omega) (by simp)).mono ?_
    rintro e v6 ⟨rfl, q6, hk6, hc6⟩
    have hc6 := hc5.trans hc6
    have pt := pt.book hc6
    have pv := pv.book hc6
    have pu := pu.book hc6
    have px := px.book hc6
    have py := py.book hc6
    have pw := pw.book hc6
    have hw0 : w.heap.size ≤ w15.heap.size := hB15.size
    have sz0 := hB0.size
    go_wp2_with fail
    have hsep : Sep [⟨A1, n, c1, none, 0, 0, 0 + 1⟩, ⟨A3, n, c3, none, 0, 0, 0 + 1 + 1⟩, ⟨A4, (n + mm), c4, none, 0, 0, 0 + 1 + 1 + 1 + 1⟩, ⟨A5, (n + 1 + 4 * min m 255), c5, none, 0, 0, 0 + 1 + 1 + 1 + 1 + 1⟩, ⟨A6, (n + 2 + min n 65535), c6, none, 0, 0, 0 + 1 + 1 + 1 + 1 + 1 + 1⟩, ⟨A2, m, c2, none, 0, 0, 0 + 1 + 1 + 1⟩] := sep_ranges [(⟨A1, n, c1, none, 0, 0, 0 + 1⟩, w0.heap.size, w1.heap.size), (⟨A3, n, c3, none, 0, 0, 0 + 1 + 1⟩, w2.heap.size, w3.heap.size), (⟨A4, (n + mm), c4, none, 0, 0, 0 + 1 + 1 + 1 + 1⟩, w3.heap.size, w4.heap.size), (⟨A5, (n + 1 + 4 * min m 255), c5, none, 0, 0, 0 + 1 + 1 + 1 + 1 + 1⟩, w4.heap.size, w5.heap.size), (⟨A6, (n + 2 + min n 65535), c6, none, 0, 0, 0 + 1 + 1 + 1 + 1 + 1 + 1⟩, w5.heap.size, w6.heap.size), (⟨A2, m, c2, none, 0, 0, 0 + 1 + 1 + 1⟩, w1.heap.size, w2.heap.size)] (by
      intro r hm g hg
      simp only [List.mem_cons, List.not_mem_nil, or_false] at hm
      rcases hm with rfl | rfl | rfl | rfl | rfl | rfl
      · exact rg1.out g hg.1 hg.2
      · exact rg3.out g hg.1 hg.2
      · exact rg4.out g hg.1 hg.2
      · exact rg5.out g hg.1 hg.2
      · exact rg6.out g hg.1 hg.2
      · exact rg2.out g hg.1 hg.2
      ) (by
      simp only [List.pairwise_cons, List.mem_cons, List.not_mem_nil, or_false, forall_eq_or_imp, forall_eq, List.Pairwise.nil, and_true, false_implies, implies_true]
      omega)
    refine (apart_any w15.heap.size _ w.heap.size _ _ _ _ v6 hk6 ?_ ?_ ?_ hsep ?_ ?_ (by simp) (by simp) hw0).mono ?_
    · intro h hm
      simp only [List.nil_append, List.cons_append, List.mem_cons, List.not_mem_nil, or_false] at hm
      rcases hm with rfl | rfl | rfl | rfl | rfl
      · exact ⟨_, pt.mono (by omega)⟩
      · exact ⟨_, pv.mono (by omega)⟩
      · exact ⟨_, px.mono (by omega)⟩
      · exact ⟨_, py.mono (by omega)⟩
      · exact ⟨_, pw.mono (by omega)⟩
    · intro h hm
      simp only [List.nil_append, List.mem_cons, List.not_mem_nil, or_false] at hm
      subst hm
      exact ⟨_, pu.mono (by omega)⟩
    · intro h hm g hg
      simp only [List.nil_append, List.cons_append, List.mem_cons, List.not_mem_nil, or_false] at hm
      rcases hm with rfl | rfl | rfl | rfl | rfl | rfl
      · have := rg1.out g hg.1 hg.2
        omega
      · have := rg3.out g hg.1 hg.2
        omega
      · have := rg4.out g hg.1 hg.2
        omega
      · have := rg5.out g hg.1 hg.2
        omega
      · have := rg6.out g hg.1 hg.2
        omega
      · have := rg2.out g hg.1 hg.2
        omega
    · intro h hm
      simp only [List.nil_append, List.cons_append, List.mem_cons, List.not_mem_nil, or_false] at hm
      rcases hm with rfl | rfl | rfl | rfl | rfl | rfl
      · show _ < 1000
        simp
      · show _ < 1000
        simp
      · show _ < 1000
        simp
      · show _ < 1000
        simp
      · show _ < 1000
        simp
      · show _ < 1000
        simp
    · intro h hm
      simp only [List.nil_append, List.cons_append, List.mem_cons, List.not_mem_nil, or_false] at hm
      rcases hm with rfl | rfl | rfl | rfl | rfl | rfl
      · show n ≤ 1000000000
        omega
      · show n ≤ 1000000000
        omega
      · show (n + mm) ≤ 1000000000
        omega
      · show (n + 1 + 4 * min m 255) ≤ 1000000000
        omega
      · show (n + 2 + min n 65535) ≤ 1000000000
        omega
      · show m ≤ 1000000000
        omega
    · rintro e v9 ⟨rfl, hlast⟩
      go_wp2
      go_ret
      exact ⟨rfl, (hBk.trans (hc6.mono hw0)).trans hlast⟩

theorem own : ownKnob Tryd.prog.godebug = none := by kernel_rfl
theorem laidOut : laidOutB Tryd.prog = true := by kernel_rfl

/-- The door's own heap meets the condition. -/
theorem door_met (os : Os) (args : Array Value) : laidMetH Tryd.prog Rows.numsPutRow.laid ((World.doorLaid Tryd.prog 400 os).forCall (fun _ _ => 0) ⟨#[], args, []⟩).memory :=
  laidMetH_of_parts3 (fuel := 8) (laidMet_of_run' 8 (by kernel_rfl) (by kernel_rfl)) (by kernel_rfl) (by kernel_rfl)

set_option maxRecDepth 100000 in
theorem lifted (os : Os) (started : os.Started) (H : Type) (enc : TypeId × Value → H) :
    ReturnsInHanded {} Tryd.checked os 3 .any (fun w args => (Rows.numsPutSpec.pre enc Tryd.prog Tryd.f3 [] false w args ∧ laidMetH Tryd.prog Rows.numsPutRow.laid w) ∧ sizedMet enc Tryd.prog Tryd.f3 (OpenSpec.ofChange Rows.numsPutSpec) false w args)
      (Rows.numsPutSpec.post enc Tryd.prog Tryd.f3 false true false false) := by
  refine returnsInHanded_of_change_and (C := Tryd.checked) (X := fun w _ => laidMetH Tryd.prog Rows.numsPutRow.laid w) (fun _ _ _ hh h => h.of_heap hh) own started (by kernel_rfl) Tryd.func3
    (ChangeSpec.witness_shaped (enc := enc) (C := Tryd.checked) (os := os) (X := fun w _ => laidMetH Tryd.prog Rows.numsPutRow.laid w) false (World.doorLaid Tryd.prog 400 os) #[.slice none 0 0, .slice none 0 0, .agg #[.int .u64 0, .int .i64 0]] 8 rfl (World.shaped_of_RefB (by kernel_rfl) (by kernel_rfl)) (by kernel_rfl) (by kernel_rfl) (by kernel_rfl) (door_met os _)) ?_
  intro W base args ds gs before hval0 hW _ _ hL _
  have hval : ∀ (j : Nat) t v, Tryd.f3.params[j]? = some t → args[j]? = some v → Value.okWide Tryd.prog W .any base t v := hval0
  have hW' := hW
  obtain ⟨p, q, hA0, hV, rfl, hfz, hnd⟩ := hW
  have hA : DataW.TrodAll enc Tryd.prog W 0 (fun _ => true) true Tryd.f3.params.toList args.toList ds p := hA0
  rw [Tryd.params3] at hA hval
  obtain ⟨v0, vs0, d0, ds0, p0, q0, hargs, rfl, rfl, h0, r0⟩ := trodAll_cons hA
  obtain ⟨v1, vs1, d1, ds1, p1, q1, rfl, rfl, rfl, h1, r1⟩ := trodAll_cons r0
  obtain ⟨v2, vs2, d2, ds2, p2, q2, rfl, rfl, rfl, h2, r2⟩ := trodAll_cons r1
  obtain ⟨rfl, rfl, rfl⟩ := trodAll_nil r2
  obtain rfl : args = #[v0, v1, v2] := by cases args; simp_all
  obtain ⟨A0, n0, c0, l0, rfl, a0, b0, e0⟩ := arg_u8s Tryd.underlying22 Tryd.underlying5 (by kernel_rfl) (hval 0 22 v0 rfl rfl) h0
  obtain ⟨A1, n1, c1, l1, rfl, a1, b1, e1, _⟩ := arg_i64s Tryd.underlying23 Tryd.underlying3 (by kernel_rfl) (hval 1 23 v1 rfl rfl) h1
  obtain ⟨x0, x1, y0, y1, fu, rfl, _, _, g0, g1⟩ := Joins.open_agg2 Tryd.underlying26 (by kernel_rfl) (by kernel_rfl) (hval 2 26 v2 rfl rfl) h2
  obtain ⟨N0, rfl, w0⟩ := open_kc Tryd.underlying24 g0
  obtain ⟨N, rfl, hN⟩ := fit_u64 w0
  obtain ⟨z, rfl, w1⟩ := open_kc Tryd.underlying3 g1
  have hz := bounds_i64 w1
  have hwalk : Calls Tryd.prog 3 #[.slice A0 n0 c0, .slice A1 n1 c1, .agg #[.int .u64 N, .int .i64 z]] W fun e w' => e = .returned (.bool true) ∧ Below W.heap.size W w' :=
    walk A0 n0 c0 l0 A1 n1 c1 l1 N hN z hz.1 hz.2 W a0 e0 b0 a1 e1 b1
  refine hwalk.mono fun e W' ⟨he, hg⟩ => ?_
  subst he
  exact ⟨_, rfl, law_post laidOut (by kernel_rfl) hW' rfl rfl (by kernel_rfl) Tryd.underlying4 hg⟩

theorem over : Rows.numsPutRow.holds Tryd.pinned (OpenSpec.ofChange Rows.numsPutSpec) :=
  OpenClaim.holds_of_wide 3 Tryd.f3 rfl rfl rfl rfl rfl rfl rfl ⟨rfl, rfl, rfl, rfl, rfl⟩ rfl rfl rfl rfl rfl (by kernel_rfl) Tryd.func3 (by kernel_rfl)
    (of_decide_eq_true (by kernel_rfl)) (by unfold Func.isWrapper; first | (rw [if_pos (by decide +kernel)]; kernel_rfl) | (rw [if_neg (by decide +kernel)]; exact ⟨rfl, rfl⟩))
    (fun os started H enc _ => lifted os started H enc)

theorem proved : Rows.NumsPutCardSaid :=
  Claim7.holds_tied_plain_at .later [] [.data, .data, .data] true Rows.numsPutCard.stood.harness false
    over (fun _ h => by cases h) (by kernel_rfl) (fun _ h => by cases h) numsPut_row_tie rfl ⟨rfl, rfl⟩ (by kernel_rfl) rfl
    (fun f fn hf hfn => by
      obtain rfl : f = 3 := Option.some.inj ((show Tryd.prog.funcNamed Rows.numsPutRow.func = some 3 by kernel_rfl).symm.trans hf) |>.symm
      obtain rfl : fn = Tryd.f3 := (Option.some.inj (Tryd.func3.symm.trans hfn)).symm
      exact ⟨by kernel_rfl, fun j t ht => by
        rw [Tryd.params3] at ht
        have hm : t ∈ [22, 23, 26] := by simpa using Array.mem_of_getElem? ht
        have hall : ([22, 23, 26].all fun u => !Tryd.prog.wantsStandIn u) = true := by kernel_rfl
        exact (show Tryd.prog.wantsStandIn t = false by simpa using List.all_eq_true.1 hall t hm)⟩)
    (by kernel_rfl)
end Go.Proofs.YtillimpfnpjbhaaDoor.numsPut
