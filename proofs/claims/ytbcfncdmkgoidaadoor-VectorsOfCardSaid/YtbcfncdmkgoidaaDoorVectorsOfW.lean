/-
  The walk of VectorsOf: it answers true, for any bid, any bytes and any number of items.
-/
import Derived.Test.YtbcfncdmkgoidaaDoorVecW
import Derived.Test.YtbcfncdmkgoidaaDoorRef04
import Derived.Test.YtbcfncdmkgoidaaDoorTwinI
import Derived.Test.YtbcfncdmkgoidaaDoorBookE
import Derived.Test.YtbcfncdmkgoidaaDoorBookFI
import Derived.Test.YtbcfncdmkgoidaaDoorBookT
namespace Go.Proofs.YtbcfncdmkgoidaaDoor.vectorsOf
open Go.RowKit
set_option linter.unusedVariables false

theorem getL_room (bs : List UInt8) (z : Int) : (getV bs z).length ≤ 255 := by
  by_cases h : getVE bs z = 0
  · rw [(getVE_zero h).2.2.2, getL_len]
    have := getN_take1 bs
    omega
  · rw [getV_none h]
    simp

set_option maxRecDepth 100000 in
set_option maxHeartbeats 1000000 in
theorem walk_out (A : Option Addr) (n c : Nat) (A' : Option Addr) (m c' : Nat) (z : Int) (w : World) (hc2 : c ≤ maxLen) (hc : n ≤ c) (hc2' : c' ≤ maxLen) (hc' : m ≤ c') (hn : 600 < n ∨ 3000 < m) :
    Calls Tryd.prog 3 #[.slice A n c, .slice A' m c', .int .i64 z] w fun e w' => e = .returned (.bool true) ∧ Below w.heap.size w w' := by
  unfold maxLen at hc2 hc2'
  by_cases hn1 : 600 < n
  · have h1 : decide (600 < n) = true := by simpa using hn1
    go_enter Tryd.func3, Tryd.ntmps3
    go_wp2
    go_ret
    exact ⟨rfl, Below.refl _ _⟩
  · have h1 : decide (600 < n) = false := by simpa using hn1
    have h2 : decide (3000 < m) = true := by simp; omega
    go_enter Tryd.func3, Tryd.ntmps3
    go_wp2
    go_ret
    exact ⟨rfl, Below.refl _ _⟩

set_option maxRecDepth 100000 in
set_option maxHeartbeats 2000000 in
theorem walk_in (A : Option Addr) (n c : Nat) (zs : List Int) (A' : Option Addr) (m c' : Nat) (bs : List UInt8) (z : Int) (w : World) (hr : Rd w A n (ci64 zs)) (hc2 : c ≤ maxLen) (hc : n ≤ c) (hr' : Rd w A' m (cu8 bs)) (hc2' : c' ≤ maxLen) (hc' : m ≤ c') (hn : n ≤ 600) (hm : m ≤ 3000) :
    Calls Tryd.prog 3 #[.slice A n c, .slice A' m c', .int .i64 z] w fun e w' => e = .returned (.bool true) ∧ Below w.heap.size w w' := by
  have hl : zs.length = n := by have h := hr.len; rw [ci64_len] at h; exact h
  have hl' : bs.length = m := by have h := hr'.len; rw [cu8_len] at h; exact h
  have HL := Lib.hid hl
  have HL' := Lib.hid hl'
  clear hl hl'
  have hcm := hc2
  have hcm' := hc2'
  unfold maxLen at hc2 hc2'
  have h1 : decide (600 < n) = false := by simp; omega
  have h2 : decide (3000 < m) = false := by simp; omega
  obtain ⟨P, hP⟩ : ∃ P, putL zs = P := ⟨_, rfl⟩
  obtain ⟨X, hX⟩ : ∃ X, 1 + 4 * min n 255 = X := ⟨_, rfl⟩
  obtain ⟨E1, hE1⟩ : ∃ E, getVE bs z = E := ⟨_, rfl⟩
  obtain ⟨l1, hL1⟩ : ∃ l, getV bs z = l := ⟨_, rfl⟩
  obtain ⟨N1, hN1⟩ : ∃ N, l1.length = N := ⟨_, rfl⟩
  obtain ⟨E2, hE2⟩ : ∃ E, getVE P z = E := ⟨_, rfl⟩
  obtain ⟨l2, hL2⟩ : ∃ l, getV P z = l := ⟨_, rfl⟩
  obtain ⟨N2, hN2⟩ : ∃ N, l2.length = N := ⟨_, rfl⟩
  obtain ⟨β1, hM1⟩ : ∃ β, mayB zs z = β := ⟨_, rfl⟩
  obtain ⟨β2, hM2⟩ : ∃ β, mayB zs (n : Int) = β := ⟨_, rfl⟩
  have hX2 : X ≤ 1021 := by omega
  have hN1b : N1 ≤ 255 := by rw [← hN1, ← hL1]; exact getL_room _ _
  have hN2b : N2 ≤ 255 := by rw [← hN2, ← hL2]; exact getL_room _ _
  have HP := Lib.hid hP
  have HX := Lib.hid hX
  have HE1 := Lib.hid hE1
  have HL1 := Lib.hid hL1
  have HN1 := Lib.hid hN1
  have HE2 := Lib.hid hE2
  have HL2 := Lib.hid hL2
  have HN2 := Lib.hid hN2
  have HM1 := Lib.hid hM1
  have HM2 := Lib.hid hM2
  clear hP hX hE1 hL1 hN1 hE2 hL2 hN2 hM1 hM2
  go_enter Tryd.func3, Tryd.ntmps3
  have hB0 : Below w.heap.size w w := Below.refl _ _
  obtain ⟨w0, hw0⟩ : ∃ w0, w0 = w := ⟨_, rfl⟩
  rw [← hw0] at hr hr'
  have hB0 : Below w.heap.size w w0 := by rw [hw0]; exact Below.refl _ _
  have sz0 : w.heap.size ≤ w0.heap.size := hB0.size
  have f_l_0 := hr
  have f_b_0 := hr'
  go_wp2_with fail
  rw [← hw0]
  refine (twinints_any A n c zs w0 f_l_0 (by omega)).mono ?_
  rintro e w1 ⟨A1, c1, rfl, ho1, hb1⟩
  have f_l_1 := f_l_0.below hb1
  have f_b_1 := f_b_0.below hb1
  have hB1 := hB0.trans (hb1.mono hB0.size)
  have sz1 := hb1.size
  clear f_l_0 f_b_0 hb1
  have rg1 := Lib.hid ho1.range
  have kt := ho1.le
  have ktm := ho1.cap
  have f_t_1 := ho1
  clear ho1
  go_wp2_with fail
  refine (twinbytes_any A' m c' bs w1 f_b_1 (by omega)).mono ?_
  rintro e w2 ⟨A2, c2, rfl, ho2, hb2⟩
  have f_l_2 := f_l_1.below hb2
  have f_b_2 := f_b_1.below hb2
  have f_t_2 := f_t_1.below hb2
  have hB2 := hB1.trans (hb2.mono hB1.size)
  have sz2 := hb2.size
  clear f_l_1 f_b_1 f_t_1 hb2
  have rg2 := Lib.hid ho2.range
  have ku := ho2.le
  have kum := ho2.cap
  have f_u_2 := ho2
  clear ho2
  go_wp2_with fail
  refine (put_of A1 n c1 zs w2 (own_twinI HL.out f_t_2).rd (by omega) ktm P HP.out X HX.out).mono ?_
  rintro e w3 ⟨A3, c3, rfl, ho3, hb3⟩
  have f_l_3 := f_l_2.below hb3
  have f_b_3 := f_b_2.below hb3
  have f_t_3 := f_t_2.below hb3
  have f_u_3 := f_u_2.below hb3
  have hB3 := hB2.trans (hb3.mono hB2.size)
  have sz3 := hb3.size
  clear f_l_2 f_b_2 f_t_2 f_u_2 hb3
  have rg3 := Lib.hid ho3.range
  have kx := ho3.le
  have kxm := ho3.cap
  have f_x_3 := ho3
  clear ho3
  go_wp2_with fail
  refine (get_of A2 m c2 bs z w3 (own_twin HL'.out f_u_3).rd (by omega) kum E1 HE1.out l1 HL1.out N1 HN1.out).mono ?_
  rintro e w4 ⟨A4, c4, rfl, ho4, hb4⟩
  have f_l_4 := f_l_3.below hb4
  have f_b_4 := f_b_3.below hb4
  have f_t_4 := f_t_3.below hb4
  have f_u_4 := f_u_3.below hb4
  have f_x_4 := f_x_3.below hb4
  have hB4 := hB3.trans (hb4.mono hB3.size)
  have sz4 := hb4.size
  clear f_l_3 f_b_3 f_t_3 f_u_3 f_x_3 hb4
  have rg4 := Lib.hid ho4.range
  have f_p_4 := ho4
  clear ho4
  go_wp2_with fail
  refine (rget_of A' m c' bs z w4 f_b_4 hc' hcm' E1 HE1.out l1 HL1.out N1 HN1.out).mono ?_
  rintro e w5 ⟨A5, c5, rfl, ho5, hb5⟩
  have f_l_5 := f_l_4.below hb5
  have f_b_5 := f_b_4.below hb5
  have f_t_5 := f_t_4.below hb5
  have f_u_5 := f_u_4.below hb5
  have f_x_5 := f_x_4.below hb5
  have f_p_5 := f_p_4.below hb5
  have hB5 := hB4.trans (hb5.mono hB4.size)
  have sz5 := hb5.size
  clear f_l_4 f_b_4 f_t_4 f_u_4 f_x_4 f_p_4 hb5
  have f_q_5 := ho5
  clear ho5
  go_wp2_with fail
  refine (get_of A3 X c3 P z w5 f_x_5.rd kx kxm E2 HE2.out l2 HL2.out N2 HN2.out).mono ?_
  rintro e w6 ⟨A6, c6, rfl, ho6, hb6⟩
  have f_l_6 := f_l_5.below hb6
  have f_b_6 := f_b_5.below hb6
  have f_t_6 := f_t_5.below hb6
  have f_u_6 := f_u_5.below hb6
  have f_x_6 := f_x_5.below hb6
  have f_p_6 := f_p_5.below hb6
  have f_q_6 := f_q_5.below hb6
  have hB6 := hB5.trans (hb6.mono hB5.size)
  have sz6 := hb6.size
  clear f_l_5 f_b_5 f_t_5 f_u_5 f_x_5 f_p_5 f_q_5 hb6
  have rg6 := Lib.hid ho6.range
  have f_r_6 := ho6
  clear ho6
  go_wp2_with fail
  refine (rput_of A n c zs w6 f_l_6 hc hcm P HP.out X HX.out).mono ?_
  rintro e w7 ⟨A7, c7, rfl, ho7, hb7⟩
  have f_l_7 := f_l_6.below hb7
  have f_b_7 := f_b_6.below hb7
  have f_t_7 := f_t_6.below hb7
  have f_u_7 := f_u_6.below hb7
  have f_x_7 := f_x_6.below hb7
  have f_p_7 := f_p_6.below hb7
  have f_q_7 := f_q_6.below hb7
  have f_r_7 := f_r_6.below hb7
  have hB7 := hB6.trans (hb7.mono hB6.size)
  have sz7 := hb7.size
  clear f_l_6 f_b_6 f_t_6 f_u_6 f_x_6 f_p_6 f_q_6 f_r_6 hb7
  have k7 := ho7.le
  have k7m := ho7.cap
  have f_y_7 := ho7
  clear ho7
  go_wp2_with fail
  refine (rget_of A7 X c7 P z w7 f_y_7.rd k7 k7m E2 HE2.out l2 HL2.out N2 HN2.out).mono ?_
  rintro e w8 ⟨A8, c8, rfl, ho8, hb8⟩
  have f_l_8 := f_l_7.below hb8
  have f_b_8 := f_b_7.below hb8
  have f_t_8 := f_t_7.below hb8
  have f_u_8 := f_u_7.below hb8
  have f_x_8 := f_x_7.below hb8
  have f_p_8 := f_p_7.below hb8
  have f_q_8 := f_q_7.below hb8
  have f_r_8 := f_r_7.below hb8
  have f_y_8 := f_y_7.below hb8
  have hB8 := hB7.trans (hb8.mono hB7.size)
  have sz8 := hb8.size
  clear f_l_7 f_b_7 f_t_7 f_u_7 f_x_7 f_p_7 f_q_7 f_r_7 f_y_7 hb8
  have f_s_8 := ho8
  clear ho8
  clear f_y_8
  go_wp2_with fail
  refine (check_of A1 n c1 zs z w8 (own_twinI HL.out f_t_8).rd β1 HM1.out).mono ?_
  rintro e w9 ⟨rfl, hb9⟩
  have f_l_9 := f_l_8.below hb9
  have f_b_9 := f_b_8.below hb9
  have f_t_9 := f_t_8.below hb9
  have f_u_9 := f_u_8.below hb9
  have f_x_9 := f_x_8.below hb9
  have f_p_9 := f_p_8.below hb9
  have f_q_9 := f_q_8.below hb9
  have f_r_9 := f_r_8.below hb9
  have f_s_9 := f_s_8.below hb9
  have hB9 := hB8.trans (hb9.mono hB8.size)
  have sz9 := hb9.size
  clear f_l_8 f_b_8 f_t_8 f_u_8 f_x_8 f_p_8 f_q_8 f_r_8 f_s_8 hb9
  go_wp2_with fail
  refine (rcheck_of A n c zs z w9 f_l_9 β1 HM1.out).mono ?_
  rintro e w10 ⟨rfl, hb10⟩
  have f_l_10 := f_l_9.below hb10
  have f_b_10 := f_b_9.below hb10
  have f_t_10 := f_t_9.below hb10
  have f_u_10 := f_u_9.below hb10
  have f_x_10 := f_x_9.below hb10
  have f_p_10 := f_p_9.below hb10
  have f_q_10 := f_q_9.below hb10
  have f_r_10 := f_r_9.below hb10
  have f_s_10 := f_s_9.below hb10
  have hB10 := hB9.trans (hb10.mono hB9.size)
  have sz10 := hb10.size
  clear f_l_9 f_b_9 f_t_9 f_u_9 f_x_9 f_p_9 f_q_9 f_r_9 f_s_9 hb10
  go_wp2_with fail
  refine (check_of A1 n c1 zs n w10 (own_twinI HL.out f_t_10).rd β2 HM2.out).mono ?_
  rintro e w11 ⟨rfl, hb11⟩
  have f_l_11 := f_l_10.below hb11
  have f_b_11 := f_b_10.below hb11
  have f_t_11 := f_t_10.below hb11
  have f_u_11 := f_u_10.below hb11
  have f_x_11 := f_x_10.below hb11
  have f_p_11 := f_p_10.below hb11
  have f_q_11 := f_q_10.below hb11
  have f_r_11 := f_r_10.below hb11
  have f_s_11 := f_s_10.below hb11
  have hB11 := hB10.trans (hb11.mono hB10.size)
  have sz11 := hb11.size
  clear f_l_10 f_b_10 f_t_10 f_u_10 f_x_10 f_p_10 f_q_10 f_r_10 f_s_10 hb11
  go_wp2_with fail
  refine (rcheck_of A n c zs n w11 f_l_11 β2 HM2.out).mono ?_
  rintro e w12 ⟨rfl, hb12⟩
  have f_l_12 := f_l_11.below hb12
  have f_b_12 := f_b_11.below hb12
  have f_t_12 := f_t_11.below hb12
  have f_u_12 := f_u_11.below hb12
  have f_x_12 := f_x_11.below hb12
  have f_p_12 := f_p_11.below hb12
  have f_q_12 := f_q_11.below hb12
  have f_r_12 := f_r_11.below hb12
  have f_s_12 := f_s_11.below hb12
  have hB12 := hB11.trans (hb12.mono hB11.size)
  have sz12 := hb12.size
  clear f_l_11 f_b_11 f_t_11 f_u_11 f_x_11 f_p_11 f_q_11 f_r_11 f_s_11 hb12
  go_wp2_with fail
  refine (rput_of A n c zs w12 f_l_12 hc hcm P HP.out X HX.out).mono ?_
  rintro e w13 ⟨A9, c9, rfl, ho9, hb13⟩
  have f_l_13 := f_l_12.below hb13
  have f_b_13 := f_b_12.below hb13
  have f_t_13 := f_t_12.below hb13
  have f_u_13 := f_u_12.below hb13
  have f_x_13 := f_x_12.below hb13
  have f_p_13 := f_p_12.below hb13
  have f_q_13 := f_q_12.below hb13
  have f_r_13 := f_r_12.below hb13
  have f_s_13 := f_s_12.below hb13
  have hB13 := hB12.trans (hb13.mono hB12.size)
  have sz13 := hb13.size
  clear f_l_12 f_b_12 f_t_12 f_u_12 f_x_12 f_p_12 f_q_12 f_r_12 f_s_12 hb13
  have f_y_13 := ho9
  clear ho9
  go_wp2_with fail
  refine (samebytes_eqB A3 X c3 P A9 c9 w13 f_x_13.rd f_y_13.rd (by simp only [maxLen]; omega)).mono ?_
  rintro e w14 ⟨rfl, hb14⟩
  have f_l_14 := f_l_13.below hb14
  have f_b_14 := f_b_13.below hb14
  have f_t_14 := f_t_13.below hb14
  have f_u_14 := f_u_13.below hb14
  have f_x_14 := f_x_13.below hb14
  have f_p_14 := f_p_13.below hb14
  have f_q_14 := f_q_13.below hb14
  have f_r_14 := f_r_13.below hb14
  have f_s_14 := f_s_13.below hb14
  have f_y_14 := f_y_13.below hb14
  have hB14 := hB13.trans (hb14.mono hB13.size)
  have sz14 := hb14.size
  clear f_l_13 f_b_13 f_t_13 f_u_13 f_x_13 f_p_13 f_q_13 f_r_13 f_s_13 f_y_13 hb14
  clear f_y_14
  go_wp2_with fail
  refine (sameints_eq A4 N1 c4 l1 A5 c5 w14 f_p_14.rd f_q_14.rd (by have := f_p_14.le; have := f_p_14.cap; omega)).mono ?_
  rintro e w15 ⟨rfl, hb15⟩
  have f_l_15 := f_l_14.below hb15
  have f_b_15 := f_b_14.below hb15
  have f_t_15 := f_t_14.below hb15
  have f_u_15 := f_u_14.below hb15
  have f_x_15 := f_x_14.below hb15
  have f_p_15 := f_p_14.below hb15
  have f_q_15 := f_q_14.below hb15
  have f_r_15 := f_r_14.below hb15
  have f_s_15 := f_s_14.below hb15
  have hB15 := hB14.trans (hb15.mono hB14.size)
  have sz15 := hb15.size
  clear f_l_14 f_b_14 f_t_14 f_u_14 f_x_14 f_p_14 f_q_14 f_r_14 f_s_14 hb15
  clear f_q_15
  go_wp2_with fail
  refine (sameints_eq A6 N2 c6 l2 A8 c8 w15 f_r_15.rd f_s_15.rd (by have := f_r_15.le; have := f_r_15.cap; omega)).mono ?_
  rintro e w16 ⟨rfl, hb16⟩
  have f_l_16 := f_l_15.below hb16
  have f_b_16 := f_b_15.below hb16
  have f_t_16 := f_t_15.below hb16
  have f_u_16 := f_u_15.below hb16
  have f_x_16 := f_x_15.below hb16
  have f_p_16 := f_p_15.below hb16
  have f_r_16 := f_r_15.below hb16
  have f_s_16 := f_s_15.below hb16
  have hB16 := hB15.trans (hb16.mono hB15.size)
  have sz16 := hb16.size
  clear f_l_15 f_b_15 f_t_15 f_u_15 f_x_15 f_p_15 f_r_15 f_s_15 hb16
  clear f_s_16
  go_wp2_with fail
  refine (leftints_any A1 n c1 zs A c w16 _ f_t_16 f_l_16 (by omega)).mono ?_
  rintro e w17 ⟨rfl, hb17⟩
  have f_l_17 := f_l_16.below hb17
  have f_b_17 := f_b_16.below hb17
  have f_t_17 := f_t_16.below hb17
  have f_u_17 := f_u_16.below hb17
  have f_x_17 := f_x_16.below hb17
  have f_p_17 := f_p_16.below hb17
  have f_r_17 := f_r_16.below hb17
  have hB17 := hB16.trans (hb17.mono hB16.size)
  have sz17 := hb17.size
  clear f_l_16 f_b_16 f_t_16 f_u_16 f_x_16 f_p_16 f_r_16 hb17
  go_wp2_with fail
  refine (leftbytes_any A2 m c2 bs A' c' w17 _ f_u_17 f_b_17 (by omega)).mono ?_
  rintro e w18 ⟨rfl, hb18⟩
  have f_l_18 := f_l_17.below hb18
  have f_b_18 := f_b_17.below hb18
  have f_t_18 := f_t_17.below hb18
  have f_u_18 := f_u_17.below hb18
  have f_x_18 := f_x_17.below hb18
  have f_p_18 := f_p_17.below hb18
  have f_r_18 := f_r_17.below hb18
  have hB18 := hB17.trans (hb18.mono hB17.size)
  have sz18 := hb18.size
  clear f_l_17 f_b_17 f_t_17 f_u_17 f_x_17 f_p_17 f_r_17 hb18
  have pt := own_twinI HL.out f_t_18
  have pu := own_twin HL'.out f_u_18
  have px := f_x_18
  have pp := f_p_18
  have pr := f_r_18
  clear f_l_18 f_b_18 f_t_18 f_u_18 f_x_18 f_p_18 f_r_18
  go_wp2_with fail
  have hBk := hB18.alloc hB18.size (.cells #[.int .i64 0, .slice none 0 0, .slice none 0 0, .slice none 0 0, .slice none 0 0, .slice none 0 0, .slice none 0 0, .slice none 0 0, .slice none 0 0, .slice none 0 0] 43)
  refine (toldInt_any w18.heap.size 0 _ _ [] [] A1 n c1 _ (Bk.new _ _ _ w18) (by omega) (by simp)).mono ?_
  rintro e v1 ⟨rfl, q1, hk1, hc1⟩
  go_wp2_with fail
  refine (toldByte_any w18.heap.size (0 + 1) _ _ _ _ A2 m c2 _ hk1 (by omega) (by simp)).mono ?_
  rintro e v2 ⟨rfl, q2, hk2, hc2⟩
  have hc2 := hc1.trans hc2
  go_wp2_with fail
  refine (toldByte_any w18.heap.size (0 + 1 + 1) _ _ _ _ A3 X c3 _ hk2 (by omega) (by simp)).mono ?_
  rintro e v3 ⟨rfl, q3, hk3, hc3⟩
  have hc3 := hc2.trans hc3
  go_wp2_with fail
  refine (toldInt_any w18.heap.size (0 + 1 + 1 + 1) _ _ _ _ A4 N1 c4 _ hk3 (by omega) (by simp)).mono ?_
  rintro e v4 ⟨rfl, q4, hk4, hc4⟩
  have hc4 := hc3.trans hc4
  go_wp2_with fail
  refine (toldInt_any w18.heap.size (0 + 1 + 1 + 1 + 1) _ _ _ _ A6 N2 c6 _ hk4 (by omega) (by simp)).mono ?_
  rintro e v5 ⟨rfl, q5, hk5, hc5⟩
  have hc5 := hc4.trans hc5
  have pt := pt.book hc5
  have pu := pu.book hc5
  have px := px.book hc5
  have pp := pp.book hc5
  have pr := pr.book hc5
  have hw0' : w.heap.size ≤ w18.heap.size := hB18.size
  go_wp2_with fail
  have hsep : Sep [⟨A2, m, c2, none, 0, 0, 0 + 1 + 1⟩, ⟨A3, X, c3, none, 0, 0, 0 + 1 + 1 + 1⟩, ⟨A1, n, c1, none, 0, 0, 0 + 1⟩, ⟨A4, N1, c4, none, 0, 0, 0 + 1 + 1 + 1 + 1⟩, ⟨A6, N2, c6, none, 0, 0, 0 + 1 + 1 + 1 + 1 + 1⟩] := sep_ranges [(⟨A2, m, c2, none, 0, 0, 0 + 1 + 1⟩, w1.heap.size, w2.heap.size), (⟨A3, X, c3, none, 0, 0, 0 + 1 + 1 + 1⟩, w2.heap.size, w3.heap.size), (⟨A1, n, c1, none, 0, 0, 0 + 1⟩, w0.heap.size, w1.heap.size), (⟨A4, N1, c4, none, 0, 0, 0 + 1 + 1 + 1 + 1⟩, w3.heap.size, w4.heap.size), (⟨A6, N2, c6, none, 0, 0, 0 + 1 + 1 + 1 + 1 + 1⟩, w5.heap.size, w6.heap.size)] (by
    intro r hm g hg
    simp only [List.mem_cons, List.not_mem_nil, or_false] at hm
    rcases hm with rfl | rfl | rfl | rfl | rfl
    · exact rg2.out g hg.1 hg.2
    · exact rg3.out g hg.1 hg.2
    · exact rg1.out g hg.1 hg.2
    · exact rg4.out g hg.1 hg.2
    · exact rg6.out g hg.1 hg.2
    ) (by
    simp only [List.pairwise_cons, List.mem_cons, List.not_mem_nil, or_false, forall_eq_or_imp, forall_eq, List.Pairwise.nil, and_true, false_implies, implies_true]
    omega)
  refine (apart_any w18.heap.size _ w.heap.size _ _ _ _ v5 hk5 ?_ ?_ ?_ hsep ?_ ?_ (by simp) (by simp) hw0').mono ?_
  · intro h hm
    simp only [List.nil_append, List.cons_append, List.mem_cons, List.not_mem_nil, or_false] at hm
    rcases hm with rfl | rfl
    · exact ⟨_, pu.mono (by omega)⟩
    · exact ⟨_, px.mono (by omega)⟩
  · intro h hm
    simp only [List.nil_append, List.cons_append, List.mem_cons, List.not_mem_nil, or_false] at hm
    rcases hm with rfl | rfl | rfl
    · exact ⟨_, pt.mono (by omega)⟩
    · exact ⟨_, pp.mono (by omega)⟩
    · exact ⟨_, pr.mono (by omega)⟩
  · intro h hm g hg
    simp only [List.nil_append, List.cons_append, List.mem_cons, List.not_mem_nil, or_false] at hm
    rcases hm with rfl | rfl | rfl | rfl | rfl
    · have := rg2.out g hg.1 hg.2
      omega
    · have := rg3.out g hg.1 hg.2
      omega
    · have := rg1.out g hg.1 hg.2
      omega
    · have := rg4.out g hg.1 hg.2
      omega
    · have := rg6.out g hg.1 hg.2
      omega
  · intro h hm
    simp only [List.nil_append, List.cons_append, List.mem_cons, List.not_mem_nil, or_false] at hm
    rcases hm with rfl | rfl | rfl | rfl | rfl
    · show _ < 1000
      simp
    · show _ < 1000
      simp
    · show _ < 1000
      simp
    · show _ < 1000
      simp
    · show _ < 1000
      simp
  · intro h hm
    simp only [List.nil_append, List.cons_append, List.mem_cons, List.not_mem_nil, or_false] at hm
    rcases hm with rfl | rfl | rfl | rfl | rfl
    · show m ≤ 1000000000
      omega
    · show X ≤ 1000000000
      omega
    · show n ≤ 1000000000
      omega
    · show N1 ≤ 1000000000
      omega
    · show N2 ≤ 1000000000
      omega
  · rintro e v9 ⟨rfl, hlast⟩
    go_wp2
    go_ret
    exact ⟨rfl, (hBk.trans (hc5.mono hw0')).trans hlast⟩

theorem walk (A : Option Addr) (n c : Nat) (zs : List Int) (A' : Option Addr) (m c' : Nat) (bs : List UInt8) (z : Int) (w : World) (hr : Rd w A n (ci64 zs)) (hc2 : c ≤ maxLen) (hc : n ≤ c) (hr' : Rd w A' m (cu8 bs)) (hc2' : c' ≤ maxLen) (hc' : m ≤ c') :
    Calls Tryd.prog 3 #[.slice A n c, .slice A' m c', .int .i64 z] w fun e w' => e = .returned (.bool true) ∧ Below w.heap.size w w' := by
  by_cases hn : n ≤ 600 ∧ m ≤ 3000
  · exact walk_in A n c zs A' m c' bs z w hr hc2 hc hr' hc2' hc' hn.1 hn.2
  · exact walk_out A n c A' m c' z w hc2 hc hc2' hc' (by omega)
end Go.Proofs.YtbcfncdmkgoidaaDoor.vectorsOf
