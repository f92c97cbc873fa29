/-
  Proved: salesroomlaw01.NumsAgain answers true, for all bytes and every count, in whatever memory. No conditions.
-/
import Derived.Test.YtillimpfnpjbhaaRows
import Derived.Test.YtillimpfnpjbhaaAlive1
import Derived.Test.YtillimpfnpjbhaaLift
import Derived.Test.YtillimpfnpjbhaaReg
namespace Go.Proofs.Ytillimpfnpjbhaa.numsAgain
open Go.ChangeShapes Go.WideShapes Go.ChangeAt Go.RowKit
set_option linter.unusedVariables false

set_option maxRecDepth 100000 in
set_option maxHeartbeats 1000000 in
theorem walk_long (A : Option Addr) (n c : Nat) (y : Nat) (w : World) (hc2 : c ≤ maxLen) (hc : n ≤ c) (hn : 70000 < n) :
    Calls Try.prog 6 #[.slice A n c, .int .u8 y] w fun e w' => e = .returned (.bool true) ∧ Below w.heap.size w w' := by
  unfold maxLen at hc2
  have h1 : decide (70000 < n) = true := by simpa using hn
  go_enter Try.func6, Try.ntmps6
  go_wp2_with fail
  refine (alive_any w).mono ?_
  rintro e w1 ⟨rfl, hb1⟩
  go_wp2_with fail
  refine (alive_any w1).mono ?_
  rintro e w2 ⟨rfl, hb2⟩
  go_wp2
  go_ret
  exact ⟨rfl, hb1.trans (hb2.mono hb1.size)⟩

set_option maxRecDepth 100000 in
set_option maxHeartbeats 1000000 in
theorem walk_111 (A : Option Addr) (n c : Nat) (bs : List UInt8) (y : Nat) (hy : y < 256) (w : World) (hr : Rd w A n (cu8 bs)) (hc2 : c ≤ maxLen) (hc : n ≤ c) (hn : n ≤ 70000)
    (k kl km : Nat) (hk1 : 1 ≤ k) (hk8 : k ≤ 8) (hyk : 1 + (y : Int) % 8 = (k : Int)) (HL : Hid (bs.length = n)) (HKL : Hid (kl = getN (bs.take 1))) (HKM : Hid (km = getN (bs.take 2)))
    (hkl2 : kl < 256) (hkm2 : km < 65536) (hc3 : c ≤ 9223372036854775807) (g1 : k ≤ n) (g2 : 1 + 4 * kl ≤ n) (g3 : 2 + km ≤ n) :
    Calls Try.prog 6 #[.slice A n c, .int .u8 y] w fun e w' => e = .returned (.bool true) ∧ Below w.heap.size w w' := by
  have hnn : ¬ 70000 < n := by omega
  have hg8 := getN_take8 bs hk8
  have e1 := Lib.hid (putB_take_get bs k (by rw [HL.out]; exact g1))
  have e2 := Lib.hid (putL_getL bs kl HKL.out (by rw [HL.out]; exact g2))
  have e3 := Lib.hid (putS_get bs km HKM.out (by rw [HL.out]; exact g3))
  have d0 : decide ((n : Int) < 0) = false := by simp
  have d1 : decide (1 + 4 * (kl : Int) < 0) = false := by simp; omega
  have d2 : decide ((n : Int) < 1 + 4 * (kl : Int)) = false := by simp; omega
  have b3 : (0 : Int) ≤ 1 + 4 * (kl : Int) := by omega
  have b4 : 1 + 4 * (kl : Int) ≤ (c : Int) := by omega
  have b7 : (1 + 4 * (kl : Int)).toNat = 1 + 4 * kl := by omega
  have d3 : decide (2 + (km : Int) < 0) = false := by simp; omega
  have d4 : decide ((n : Int) < 2 + (km : Int)) = false := by simp; omega
  have b5 : (0 : Int) ≤ 2 + (km : Int) := by omega
  have b6 : 2 + (km : Int) ≤ (c : Int) := by omega
  have b8 : (2 + (km : Int)).toNat = 2 + km := by omega
  have b1 : (0 : Int) ≤ (k : Int) := by omega
  have b2 : (k : Int) ≤ (c : Int) := by omega
  go_enter Try.func6, Try.ntmps6
  go_wp2_with fail
  refine (alive_any w).mono ?_
  rintro e w1 ⟨rfl, hb1⟩
  have hr1 := hr.below hb1
  go_wp2_with fail
  refine (get_ok A n c bs k w1 hr1 hc hc2 hk1 hk8 g1).mono ?_
  rintro e w2 ⟨rfl, rfl⟩
  go_wp2_with fail
  refine (getlist_ok A n c bs _ hr1 hc hc2 (by omega) kl HKL.out g2).mono ?_
  rintro e w2 ⟨A2, c2, rfl, ho2, hb2⟩
  have hr2 := hr1.below hb2
  go_wp2_with fail
  refine (getbytes_ok A n c bs _ hr2 hc hc2 (by omega) km HKM.out g3).mono ?_
  rintro e w3 ⟨A3, c3, rfl, ho3, hb3⟩
  have hx3 := ho3.rd.drew
  have hxc := ho3.le
  have hxm := ho3.cap
  have hr3 := (hr2.below hb3).drew
  have hl3 := (ho2.below hb3).rd.drew
  have hlc := ho2.le
  have hlm := ho2.cap
  have hB3 : Below w.heap.size w w3.drew := (hb1.trans ((hb2.mono hb1.size).trans (hb3.mono (Nat.le_trans hb1.size hb2.size)))).drew
  clear ho2 ho3 hb1 hb2 hb3 hr1 hr2 hr
  go_wp2
  refine wp_region_ord (S := fun _ => True) [(0, true), (1, true), (2, true), (3, true), (4, true), (6, true), (7, true), (8, true), (5, false), (9, false), (10, true), (11, true), (12, true), (13, true), (14, true), (15, true), (17, true), (18, true), (19, true), (16, false), (20, false), (21, true), (22, true), (23, true), (24, true), (25, true), (26, true), (27, true), (29, true), (30, true), (31, true), (28, false), (32, false), (33, true), (34, true), (35, true)] default (by kernel_rfl) (by kernel_rfl) (by kernel_rfl) trivial ?_
  simp only [getOrd, nth]
  repeat (first | (refine ordS (by rfl) ?_; simp only [Act.put, List.setIfInBounds_toArray, List.set_cons_zero, List.set_cons_succ]) | (refine ordN (by rfl) ?_; simp only [Act.put, List.setIfInBounds_toArray, List.set_cons_zero, List.set_cons_succ]) | (refine ordQ (v := ?_) (by rfl) (fun _ _ => ?_) ?_; rotate_left; (focus (go_simp; (first | done | with_reducible rfl))); simp only [Act.put, List.setIfInBounds_toArray, List.set_cons_zero, List.set_cons_succ]))
  refine ordD (by rfl) ?_
  intro K hK
  go_simp
  go_at_call 8
  refine (put_nil _ hg8 k hk8 _).mono ?_
  rintro e w4 ⟨A4, c4, rfl, ho4, hb4⟩
  rw [e1.out] at ho4
  have q1 := ho4.rd
  have q2 := (hr3.below hb4).take g1
  rw [cu8_take] at q2
  have hB4 := hB3.trans (hb4.mono hB3.size)
  have hr4 := hr3.below hb4
  have hl4 := hl3.below hb4
  have hx4 := hx3.below hb4
  go_wp2_with fail
  refine hK _ _ trivial ?_
  clear hK K
  try simp only [Act.put, List.setIfInBounds_toArray, List.set_cons_zero, List.set_cons_succ]
  repeat (first | (refine ordS (by rfl) ?_; simp only [Act.put, List.setIfInBounds_toArray, List.set_cons_zero, List.set_cons_succ]) | (refine ordN (by rfl) ?_; simp only [Act.put, List.setIfInBounds_toArray, List.set_cons_zero, List.set_cons_succ]) | (refine ordQ (v := ?_) (by rfl) (fun _ _ => ?_) ?_; rotate_left; (focus (go_simp; (first | done | with_reducible rfl))); simp only [Act.put, List.setIfInBounds_toArray, List.set_cons_zero, List.set_cons_succ]))
  refine ordD (by rfl) ?_
  intro K hK
  go_simp
  go_at_call 10
  refine (samebytes_eqB _ _ _ _ _ _ _ q1 q2 (by unfold maxLen <;> omega)).mono ?_
  rintro e w5 ⟨rfl, hb5⟩
  have hB5 := hB4.trans (hb5.mono hB4.size)
  have hr5 := hr4.below hb5
  have hl5 := hl4.below hb5
  have hx5 := hx4.below hb5
  clear q1 q2
  go_wp2_with fail
  refine hK _ _ trivial ?_
  clear hK K
  try simp only [Act.put, List.setIfInBounds_toArray, List.set_cons_zero, List.set_cons_succ]
  repeat (first | (refine ordS (by rfl) ?_; simp only [Act.put, List.setIfInBounds_toArray, List.set_cons_zero, List.set_cons_succ]) | (refine ordN (by rfl) ?_; simp only [Act.put, List.setIfInBounds_toArray, List.set_cons_zero, List.set_cons_succ]) | (refine ordQ (v := ?_) (by rfl) (fun _ _ => ?_) ?_; rotate_left; (focus (go_simp; (first | done | with_reducible rfl))); simp only [Act.put, List.setIfInBounds_toArray, List.set_cons_zero, List.set_cons_succ]))
  refine ordD (by rfl) ?_
  intro K hK
  go_simp
  go_at_call 9
  refine (putlist_nil A2 kl c2 _ _ hl5 hlc hlm (by omega)).mono ?_
  rintro e w6 ⟨A6, c6, rfl, ho6, hb6⟩
  rw [e2.out] at ho6
  have q3 := ho6.rd
  have q4 := (hr5.below hb6).take g2
  rw [cu8_take] at q4
  have hB6 := hB5.trans (hb6.mono hB5.size)
  have hr6 := hr5.below hb6
  have hx6 := hx5.below hb6
  go_wp2_with fail
  refine hK _ _ trivial ?_
  clear hK K
  try simp only [Act.put, List.setIfInBounds_toArray, List.set_cons_zero, List.set_cons_succ]
  repeat (first | (refine ordS (by rfl) ?_; simp only [Act.put, List.setIfInBounds_toArray, List.set_cons_zero, List.set_cons_succ]) | (refine ordN (by rfl) ?_; simp only [Act.put, List.setIfInBounds_toArray, List.set_cons_zero, List.set_cons_succ]) | (refine ordQ (v := ?_) (by rfl) (fun _ _ => ?_) ?_; rotate_left; (focus (go_simp; (first | done | with_reducible rfl))); simp only [Act.put, List.setIfInBounds_toArray, List.set_cons_zero, List.set_cons_succ]))
  refine ordD (by rfl) ?_
  intro K hK
  go_simp
  go_at_call 10
  refine (samebytes_eqB _ _ _ _ _ _ _ q3 q4 (by unfold maxLen <;> omega)).mono ?_
  rintro e w7 ⟨rfl, hb7⟩
  have hB7 := hB6.trans (hb7.mono hB6.size)
  have hr7 := hr6.below hb7
  have hx7 := hx6.below hb7
  clear q3 q4
  go_wp2_with fail
  refine hK _ _ trivial ?_
  clear hK K
  try simp only [Act.put, List.setIfInBounds_toArray, List.set_cons_zero, List.set_cons_succ]
  repeat (first | (refine ordS (by rfl) ?_; simp only [Act.put, List.setIfInBounds_toArray, List.set_cons_zero, List.set_cons_succ]) | (refine ordN (by rfl) ?_; simp only [Act.put, List.setIfInBounds_toArray, List.set_cons_zero, List.set_cons_succ]) | (refine ordQ (v := ?_) (by rfl) (fun _ _ => ?_) ?_; rotate_left; (focus (go_simp; (first | done | with_reducible rfl))); simp only [Act.put, List.setIfInBounds_toArray, List.set_cons_zero, List.set_cons_succ]))
  refine ordD (by rfl) ?_
  intro K hK
  go_simp
  go_at_call 13
  refine (putbytes_nil A3 km c3 _ _ hx7 hxc hxm (by omega)).mono ?_
  rintro e w8 ⟨A8, c8, rfl, ho8, hb8⟩
  rw [e3.out] at ho8
  have q5 := ho8.rd
  have q6 := (hr7.below hb8).take g3
  rw [cu8_take] at q6
  have hB8 := hB7.trans (hb8.mono hB7.size)
  go_wp2_with fail
  refine hK _ _ trivial ?_
  clear hK K
  try simp only [Act.put, List.setIfInBounds_toArray, List.set_cons_zero, List.set_cons_succ]
  repeat (first | (refine ordS (by rfl) ?_; simp only [Act.put, List.setIfInBounds_toArray, List.set_cons_zero, List.set_cons_succ]) | (refine ordN (by rfl) ?_; simp only [Act.put, List.setIfInBounds_toArray, List.set_cons_zero, List.set_cons_succ]) | (refine ordQ (v := ?_) (by rfl) (fun _ _ => ?_) ?_; rotate_left; (focus (go_simp; (first | done | with_reducible rfl))); simp only [Act.put, List.setIfInBounds_toArray, List.set_cons_zero, List.set_cons_succ]))
  refine ordD (by rfl) ?_
  intro K hK
  go_simp
  go_at_call 10
  refine (samebytes_eqB _ _ _ _ _ _ _ q5 q6 (by unfold maxLen <;> omega)).mono ?_
  rintro e w9 ⟨rfl, hb9⟩
  have hB9 := hB8.trans (hb9.mono hB8.size)
  clear q5 q6
  go_wp2_with fail
  refine hK _ _ trivial ?_
  clear hK K
  try simp only [Act.put, List.setIfInBounds_toArray, List.set_cons_zero, List.set_cons_succ]
  repeat (first | (refine ordS (by rfl) ?_; simp only [Act.put, List.setIfInBounds_toArray, List.set_cons_zero, List.set_cons_succ]) | (refine ordN (by rfl) ?_; simp only [Act.put, List.setIfInBounds_toArray, List.set_cons_zero, List.set_cons_succ]) | (refine ordQ (v := ?_) (by rfl) (fun _ _ => ?_) ?_; rotate_left; (focus (go_simp; (first | done | with_reducible rfl))); simp only [Act.put, List.setIfInBounds_toArray, List.set_cons_zero, List.set_cons_succ]))
  refine ordE ?_
  all_goals go_wp2
  all_goals go_ret
  all_goals exact ⟨rfl, hB9⟩

set_option maxRecDepth 100000 in
set_option maxHeartbeats 1000000 in
theorem walk_110 (A : Option Addr) (n c : Nat) (bs : List UInt8) (y : Nat) (hy : y < 256) (w : World) (hr : Rd w A n (cu8 bs)) (hc2 : c ≤ maxLen) (hc : n ≤ c) (hn : n ≤ 70000)
    (k kl km : Nat) (hk1 : 1 ≤ k) (hk8 : k ≤ 8) (hyk : 1 + (y : Int) % 8 = (k : Int)) (HL : Hid (bs.length = n)) (HKL : Hid (kl = getN (bs.take 1))) (HKM : Hid (km = getN (bs.take 2)))
    (hkl2 : kl < 256) (hkm2 : km < 65536) (hc3 : c ≤ 9223372036854775807) (g1 : k ≤ n) (g2 : 1 + 4 * kl ≤ n) (g3 : ¬ 2 + km ≤ n) :
    Calls Try.prog 6 #[.slice A n c, .int .u8 y] w fun e w' => e = .returned (.bool true) ∧ Below w.heap.size w w' := by
  have hnn : ¬ 70000 < n := by omega
  have hg8 := getN_take8 bs hk8
  have e1 := Lib.hid (putB_take_get bs k (by rw [HL.out]; exact g1))
  have e2 := Lib.hid (putL_getL bs kl HKL.out (by rw [HL.out]; exact g2))
  have d0 : decide ((n : Int) < 0) = false := by simp
  have d1 : decide (1 + 4 * (kl : Int) < 0) = false := by simp; omega
  have d2 : decide ((n : Int) < 1 + 4 * (kl : Int)) = false := by simp; omega
  have b3 : (0 : Int) ≤ 1 + 4 * (kl : Int) := by omega
  have b4 : 1 + 4 * (kl : Int) ≤ (c : Int) := by omega
  have b7 : (1 + 4 * (kl : Int)).toNat = 1 + 4 * kl := by omega
  have b1 : (0 : Int) ≤ (k : Int) := by omega
  have b2 : (k : Int) ≤ (c : Int) := by omega
  go_enter Try.func6, Try.ntmps6
  go_wp2_with fail
  refine (alive_any w).mono ?_
  rintro e w1 ⟨rfl, hb1⟩
  have hr1 := hr.below hb1
  go_wp2_with fail
  refine (get_ok A n c bs k w1 hr1 hc hc2 hk1 hk8 g1).mono ?_
  rintro e w2 ⟨rfl, rfl⟩
  go_wp2_with fail
  refine (getlist_ok A n c bs _ hr1 hc hc2 (by omega) kl HKL.out g2).mono ?_
  rintro e w2 ⟨A2, c2, rfl, ho2, hb2⟩
  have hr2 := hr1.below hb2
  go_wp2_with fail
  refine (getbytes_fail A n c bs _ hr2 hc hc2 (by rw [← HKM.out]; omega)).mono ?_
  rintro e w3 ⟨rfl, hw⟩
  have hb3 : Below w2.heap.size w2 w3 := by rw [← hw]; exact Below.refl _ _
  clear hw
  have hr3 := (hr2.below hb3).drew
  have hl3 := (ho2.below hb3).rd.drew
  have hlc := ho2.le
  have hlm := ho2.cap
  have hB3 : Below w.heap.size w w3.drew := (hb1.trans ((hb2.mono hb1.size).trans (hb3.mono (Nat.le_trans hb1.size hb2.size)))).drew
  clear ho2 hb1 hb2 hb3 hr1 hr2 hr
  go_wp2
  refine wp_region_ord (S := fun _ => True) [(0, true), (1, true), (2, true), (3, true), (4, true), (6, true), (7, true), (8, true), (5, false), (9, false), (10, true), (11, true), (12, true), (13, true), (14, true), (15, true), (17, true), (18, true), (19, true), (16, false), (20, false), (21, true), (22, true), (23, true), (24, true), (25, true), (26, true), (27, true), (29, true), (30, true), (31, true), (28, false), (32, false), (33, true), (34, true), (35, true)] default (by kernel_rfl) (by kernel_rfl) (by kernel_rfl) trivial ?_
  simp only [getOrd, nth]
  repeat (first | (refine ordS (by rfl) ?_; simp only [Act.put, List.setIfInBounds_toArray, List.set_cons_zero, List.set_cons_succ]) | (refine ordN (by rfl) ?_; simp only [Act.put, List.setIfInBounds_toArray, List.set_cons_zero, List.set_cons_succ]) | (refine ordQ (v := ?_) (by rfl) (fun _ _ => ?_) ?_; rotate_left; (focus (go_simp; (first | done | with_reducible rfl))); simp only [Act.put, List.setIfInBounds_toArray, List.set_cons_zero, List.set_cons_succ]))
  refine ordD (by rfl) ?_
  intro K hK
  go_simp
  go_at_call 8
  refine (put_nil _ hg8 k hk8 _).mono ?_
  rintro e w4 ⟨A4, c4, rfl, ho4, hb4⟩
  rw [e1.out] at ho4
  have q1 := ho4.rd
  have q2 := (hr3.below hb4).take g1
  rw [cu8_take] at q2
  have hB4 := hB3.trans (hb4.mono hB3.size)
  have hr4 := hr3.below hb4
  have hl4 := hl3.below hb4
  go_wp2_with fail
  refine hK _ _ trivial ?_
  clear hK K
  try simp only [Act.put, List.setIfInBounds_toArray, List.set_cons_zero, List.set_cons_succ]
  repeat (first | (refine ordS (by rfl) ?_; simp only [Act.put, List.setIfInBounds_toArray, List.set_cons_zero, List.set_cons_succ]) | (refine ordN (by rfl) ?_; simp only [Act.put, List.setIfInBounds_toArray, List.set_cons_zero, List.set_cons_succ]) | (refine ordQ (v := ?_) (by rfl) (fun _ _ => ?_) ?_; rotate_left; (focus (go_simp; (first | done | with_reducible rfl))); simp only [Act.put, List.setIfInBounds_toArray, List.set_cons_zero, List.set_cons_succ]))
  refine ordD (by rfl) ?_
  intro K hK
  go_simp
  go_at_call 10
  refine (samebytes_eqB _ _ _ _ _ _ _ q1 q2 (by unfold maxLen <;> omega)).mono ?_
  rintro e w5 ⟨rfl, hb5⟩
  have hB5 := hB4.trans (hb5.mono hB4.size)
  have hr5 := hr4.below hb5
  have hl5 := hl4.below hb5
  clear q1 q2
  go_wp2_with fail
  refine hK _ _ trivial ?_
  clear hK K
  try simp only [Act.put, List.setIfInBounds_toArray, List.set_cons_zero, List.set_cons_succ]
  repeat (first | (refine ordS (by rfl) ?_; simp only [Act.put, List.setIfInBounds_toArray, List.set_cons_zero, List.set_cons_succ]) | (refine ordN (by rfl) ?_; simp only [Act.put, List.setIfInBounds_toArray, List.set_cons_zero, List.set_cons_succ]) | (refine ordQ (v := ?_) (by rfl) (fun _ _ => ?_) ?_; rotate_left; (focus (go_simp; (first | done | with_reducible rfl))); simp only [Act.put, List.setIfInBounds_toArray, List.set_cons_zero, List.set_cons_succ]))
  refine ordD (by rfl) ?_
  intro K hK
  go_simp
  go_at_call 9
  refine (putlist_nil A2 kl c2 _ _ hl5 hlc hlm (by omega)).mono ?_
  rintro e w6 ⟨A6, c6, rfl, ho6, hb6⟩
  rw [e2.out] at ho6
  have q3 := ho6.rd
  have q4 := (hr5.below hb6).take g2
  rw [cu8_take] at q4
  have hB6 := hB5.trans (hb6.mono hB5.size)
  have hr6 := hr5.below hb6
  go_wp2_with fail
  refine hK _ _ trivial ?_
  clear hK K
  try simp only [Act.put, List.setIfInBounds_toArray, List.set_cons_zero, List.set_cons_succ]
  repeat (first | (refine ordS (by rfl) ?_; simp only [Act.put, List.setIfInBounds_toArray, List.set_cons_zero, List.set_cons_succ]) | (refine ordN (by rfl) ?_; simp only [Act.put, List.setIfInBounds_toArray, List.set_cons_zero, List.set_cons_succ]) | (refine ordQ (v := ?_) (by rfl) (fun _ _ => ?_) ?_; rotate_left; (focus (go_simp; (first | done | with_reducible rfl))); simp only [Act.put, List.setIfInBounds_toArray, List.set_cons_zero, List.set_cons_succ]))
  refine ordD (by rfl) ?_
  intro K hK
  go_simp
  go_at_call 10
  refine (samebytes_eqB _ _ _ _ _ _ _ q3 q4 (by unfold maxLen <;> omega)).mono ?_
  rintro e w7 ⟨rfl, hb7⟩
  have hB7 := hB6.trans (hb7.mono hB6.size)
  have hr7 := hr6.below hb7
  clear q3 q4
  go_wp2_with fail
  refine hK _ _ trivial ?_
  clear hK K
  try simp only [Act.put, List.setIfInBounds_toArray, List.set_cons_zero, List.set_cons_succ]
  repeat (first | (refine ordS (by rfl) ?_; simp only [Act.put, List.setIfInBounds_toArray, List.set_cons_zero, List.set_cons_succ]) | (refine ordN (by rfl) ?_; simp only [Act.put, List.setIfInBounds_toArray, List.set_cons_zero, List.set_cons_succ]) | (refine ordQ (v := ?_) (by rfl) (fun _ _ => ?_) ?_; rotate_left; (focus (go_simp; (first | done | with_reducible rfl))); simp only [Act.put, List.setIfInBounds_toArray, List.set_cons_zero, List.set_cons_succ]))
  refine ordE ?_
  all_goals go_wp2
  all_goals go_ret
  all_goals exact ⟨rfl, hB7⟩

set_option maxRecDepth 100000 in
set_option maxHeartbeats 1000000 in
theorem walk_101 (A : Option Addr) (n c : Nat) (bs : List UInt8) (y : Nat) (hy : y < 256) (w : World) (hr : Rd w A n (cu8 bs)) (hc2 : c ≤ maxLen) (hc : n ≤ c) (hn : n ≤ 70000)
    (k kl km : Nat) (hk1 : 1 ≤ k) (hk8 : k ≤ 8) (hyk : 1 + (y : Int) % 8 = (k : Int)) (HL : Hid (bs.length = n)) (HKL : Hid (kl = getN (bs.take 1))) (HKM : Hid (km = getN (bs.take 2)))
    (hkl2 : kl < 256) (hkm2 : km < 65536) (hc3 : c ≤ 9223372036854775807) (g1 : k ≤ n) (g2 : ¬ 1 + 4 * kl ≤ n) (g3 : 2 + km ≤ n) :
    Calls Try.prog 6 #[.slice A n c, .int .u8 y] w fun e w' => e = .returned (.bool true) ∧ Below w.heap.size w w' := by
  have hnn : ¬ 70000 < n := by omega
  have hg8 := getN_take8 bs hk8
  have e1 := Lib.hid (putB_take_get bs k (by rw [HL.out]; exact g1))
  have e3 := Lib.hid (putS_get bs km HKM.out (by rw [HL.out]; exact g3))
  have d0 : decide ((n : Int) < 0) = false := by simp
  have d3 : decide (2 + (km : Int) < 0) = false := by simp; omega
  have d4 : decide ((n : Int) < 2 + (km : Int)) = false := by simp; omega
  have b5 : (0 : Int) ≤ 2 + (km : Int) := by omega
  have b6 : 2 + (km : Int) ≤ (c : Int) := by omega
  have b8 : (2 + (km : Int)).toNat = 2 + km := by omega
  have b1 : (0 : Int) ≤ (k : Int) := by omega
  have b2 : (k : Int) ≤ (c : Int) := by omega
  go_enter Try.func6, Try.ntmps6
  go_wp2_with fail
  refine (alive_any w).mono ?_
  rintro e w1 ⟨rfl, hb1⟩
  have hr1 := hr.below hb1
  go_wp2_with fail
  refine (get_ok A n c bs k w1 hr1 hc hc2 hk1 hk8 g1).mono ?_
  rintro e w2 ⟨rfl, rfl⟩
  go_wp2_with fail
  refine (getlist_fail A n c bs _ hr1 hc hc2 (by rw [← HKL.out]; omega)).mono ?_
  rintro e w2 ⟨rfl, hw⟩
  have hb2 : Below w1.heap.size w1 w2 := by rw [← hw]; exact Below.refl _ _
  clear hw
  have hr2 := hr1.below hb2
  go_wp2_with fail
  refine (getbytes_ok A n c bs _ hr2 hc hc2 (by omega) km HKM.out g3).mono ?_
  rintro e w3 ⟨A3, c3, rfl, ho3, hb3⟩
  have hx3 := ho3.rd.drew
  have hxc := ho3.le
  have hxm := ho3.cap
  have hr3 := (hr2.below hb3).drew
  have hB3 : Below w.heap.size w w3.drew := (hb1.trans ((hb2.mono hb1.size).trans (hb3.mono (Nat.le_trans hb1.size hb2.size)))).drew
  clear ho3 hb1 hb2 hb3 hr1 hr2 hr
  go_wp2
  refine wp_region_ord (S := fun _ => True) [(0, true), (1, true), (2, true), (3, true), (4, true), (6, true), (7, true), (8, true), (5, false), (9, false), (10, true), (11, true), (12, true), (13, true), (14, true), (15, true), (17, true), (18, true), (19, true), (16, false), (20, false), (21, true), (22, true), (23, true), (24, true), (25, true), (26, true), (27, true), (29, true), (30, true), (31, true), (28, false), (32, false), (33, true), (34, true), (35, true)] default (by kernel_rfl) (by kernel_rfl) (by kernel_rfl) trivial ?_
  simp only [getOrd, nth]
  repeat (first | (refine ordS (by rfl) ?_; simp only [Act.put, List.setIfInBounds_toArray, List.set_cons_zero, List.set_cons_succ]) | (refine ordN (by rfl) ?_; simp only [Act.put, List.setIfInBounds_toArray, List.set_cons_zero, List.set_cons_succ]) | (refine ordQ (v := ?_) (by rfl) (fun _ _ => ?_) ?_; rotate_left; (focus (go_simp; (first | done | with_reducible rfl))); simp only [Act.put, List.setIfInBounds_toArray, List.set_cons_zero, List.set_cons_succ]))
  refine ordD (by rfl) ?_
  intro K hK
  go_simp
  go_at_call 8
  refine (put_nil _ hg8 k hk8 _).mono ?_
  rintro e w4 ⟨A4, c4, rfl, ho4, hb4⟩
  rw [e1.out] at ho4
  have q1 := ho4.rd
  have q2 := (hr3.below hb4).take g1
  rw [cu8_take] at q2
  have hB4 := hB3.trans (hb4.mono hB3.size)
  have hr4 := hr3.below hb4
  have hx4 := hx3.below hb4
  go_wp2_with fail
  refine hK _ _ trivial ?_
  clear hK K
  try simp only [Act.put, List.setIfInBounds_toArray, List.set_cons_zero, List.set_cons_succ]
  repeat (first | (refine ordS (by rfl) ?_; simp only [Act.put, List.setIfInBounds_toArray, List.set_cons_zero, List.set_cons_succ]) | (refine ordN (by rfl) ?_; simp only [Act.put, List.setIfInBounds_toArray, List.set_cons_zero, List.set_cons_succ]) | (refine ordQ (v := ?_) (by rfl) (fun _ _ => ?_) ?_; rotate_left; (focus (go_simp; (first | done | with_reducible rfl))); simp only [Act.put, List.setIfInBounds_toArray, List.set_cons_zero, List.set_cons_succ]))
  refine ordD (by rfl) ?_
  intro K hK
  go_simp
  go_at_call 10
  refine (samebytes_eqB _ _ _ _ _ _ _ q1 q2 (by unfold maxLen <;> omega)).mono ?_
  rintro e w5 ⟨rfl, hb5⟩
  have hB5 := hB4.trans (hb5.mono hB4.size)
  have hr5 := hr4.below hb5
  have hx5 := hx4.below hb5
  clear q1 q2
  go_wp2_with fail
  refine hK _ _ trivial ?_
  clear hK K
  try simp only [Act.put, List.setIfInBounds_toArray, List.set_cons_zero, List.set_cons_succ]
  repeat (first | (refine ordS (by rfl) ?_; simp only [Act.put, List.setIfInBounds_toArray, List.set_cons_zero, List.set_cons_succ]) | (refine ordN (by rfl) ?_; simp only [Act.put, List.setIfInBounds_toArray, List.set_cons_zero, List.set_cons_succ]) | (refine ordQ (v := ?_) (by rfl) (fun _ _ => ?_) ?_; rotate_left; (focus (go_simp; (first | done | with_reducible rfl))); simp only [Act.put, List.setIfInBounds_toArray, List.set_cons_zero, List.set_cons_succ]))
  refine ordD (by rfl) ?_
  intro K hK
  go_simp
  go_at_call 13
  refine (putbytes_nil A3 km c3 _ _ hx5 hxc hxm (by omega)).mono ?_
  rintro e w8 ⟨A8, c8, rfl, ho8, hb8⟩
  rw [e3.out] at ho8
  have q5 := ho8.rd
  have q6 := (hr5.below hb8).take g3
  rw [cu8_take] at q6
  have hB8 := hB5.trans (hb8.mono hB5.size)
  go_wp2_with fail
  refine hK _ _ trivial ?_
  clear hK K
  try simp only [Act.put, List.setIfInBounds_toArray, List.set_cons_zero, List.set_cons_succ]
  repeat (first | (refine ordS (by rfl) ?_; simp only [Act.put, List.setIfInBounds_toArray, List.set_cons_zero, List.set_cons_succ]) | (refine ordN (by rfl) ?_; simp only [Act.put, List.setIfInBounds_toArray, List.set_cons_zero, List.set_cons_succ]) | (refine ordQ (v := ?_) (by rfl) (fun _ _ => ?_) ?_; rotate_left; (focus (go_simp; (first | done | with_reducible rfl))); simp only [Act.put, List.setIfInBounds_toArray, List.set_cons_zero, List.set_cons_succ]))
  refine ordD (by rfl) ?_
  intro K hK
  go_simp
  go_at_call 10
  refine (samebytes_eqB _ _ _ _ _ _ _ q5 q6 (by unfold maxLen <;> omega)).mono ?_
  rintro e w9 ⟨rfl, hb9⟩
  have hB9 := hB8.trans (hb9.mono hB8.size)
  clear q5 q6
  go_wp2_with fail
  refine hK _ _ trivial ?_
  clear hK K
  try simp only [Act.put, List.setIfInBounds_toArray, List.set_cons_zero, List.set_cons_succ]
  repeat (first | (refine ordS (by rfl) ?_; simp only [Act.put, List.setIfInBounds_toArray, List.set_cons_zero, List.set_cons_succ]) | (refine ordN (by rfl) ?_; simp only [Act.put, List.setIfInBounds_toArray, List.set_cons_zero, List.set_cons_succ]) | (refine ordQ (v := ?_) (by rfl) (fun _ _ => ?_) ?_; rotate_left; (focus (go_simp; (first | done | with_reducible rfl))); simp only [Act.put, List.setIfInBounds_toArray, List.set_cons_zero, List.set_cons_succ]))
  refine ordE ?_
  all_goals go_wp2
  all_goals go_ret
  all_goals exact ⟨rfl, hB9⟩

set_option maxRecDepth 100000 in
set_option maxHeartbeats 1000000 in
theorem walk_100 (A : Option Addr) (n c : Nat) (bs : List UInt8) (y : Nat) (hy : y < 256) (w : World) (hr : Rd w A n (cu8 bs)) (hc2 : c ≤ maxLen) (hc : n ≤ c) (hn : n ≤ 70000)
    (k kl km : Nat) (hk1 : 1 ≤ k) (hk8 : k ≤ 8) (hyk : 1 + (y : Int) % 8 = (k : Int)) (HL : Hid (bs.length = n)) (HKL : Hid (kl = getN (bs.take 1))) (HKM : Hid (km = getN (bs.take 2)))
    (hkl2 : kl < 256) (hkm2 : km < 65536) (hc3 : c ≤ 9223372036854775807) (g1 : k ≤ n) (g2 : ¬ 1 + 4 * kl ≤ n) (g3 : ¬ 2 + km ≤ n) :
    Calls Try.prog 6 #[.slice A n c, .int .u8 y] w fun e w' => e = .returned (.bool true) ∧ Below w.heap.size w w' := by
  have hnn : ¬ 70000 < n := by omega
  have hg8 := getN_take8 bs hk8
  have e1 := Lib.hid (putB_take_get bs k (by rw [HL.out]; exact g1))
  have d0 : decide ((n : Int) < 0) = false := by simp
  have b1 : (0 : Int) ≤ (k : Int) := by omega
  have b2 : (k : Int) ≤ (c : Int) := by omega
  go_enter Try.func6, Try.ntmps6
  go_wp2_with fail
  refine (alive_any w).mono ?_
  rintro e w1 ⟨rfl, hb1⟩
  have hr1 := hr.below hb1
  go_wp2_with fail
  refine (get_ok A n c bs k w1 hr1 hc hc2 hk1 hk8 g1).mono ?_
  rintro e w2 ⟨rfl, rfl⟩
  go_wp2_with fail
  refine (getlist_fail A n c bs _ hr1 hc hc2 (by rw [← HKL.out]; omega)).mono ?_
  rintro e w2 ⟨rfl, hw⟩
  have hb2 : Below w1.heap.size w1 w2 := by rw [← hw]; exact Below.refl _ _
  clear hw
  have hr2 := hr1.below hb2
  go_wp2_with fail
  refine (getbytes_fail A n c bs _ hr2 hc hc2 (by rw [← HKM.out]; omega)).mono ?_
  rintro e w3 ⟨rfl, hw⟩
  have hb3 : Below w2.heap.size w2 w3 := by rw [← hw]; exact Below.refl _ _
  clear hw
  have hr3 := (hr2.below hb3).drew
  have hB3 : Below w.heap.size w w3.drew := (hb1.trans ((hb2.mono hb1.size).trans (hb3.mono (Nat.le_trans hb1.size hb2.size)))).drew
  clear hb1 hb2 hb3 hr1 hr2 hr
  go_wp2
  refine wp_region_ord (S := fun _ => True) [(0, true), (1, true), (2, true), (3, true), (4, true), (6, true), (7, true), (8, true), (5, false), (9, false), (10, true), (11, true), (12, true), (13, true), (14, true), (15, true), (17, true), (18, true), (19, true), (16, false), (20, false), (21, true), (22, true), (23, true), (24, true), (25, true), (26, true), (27, true), (29, true), (30, true), (31, true), (28, false), (32, false), (33, true), (34, true), (35, true)] default (by kernel_rfl) (by kernel_rfl) (by kernel_rfl) trivial ?_
  simp only [getOrd, nth]
  repeat (first | (refine ordS (by rfl) ?_; simp only [Act.put, List.setIfInBounds_toArray, List.set_cons_zero, List.set_cons_succ]) | (refine ordN (by rfl) ?_; simp only [Act.put, List.setIfInBounds_toArray, List.set_cons_zero, List.set_cons_succ]) | (refine ordQ (v := ?_) (by rfl) (fun _ _ => ?_) ?_; rotate_left; (focus (go_simp; (first | done | with_reducible rfl))); simp only [Act.put, List.setIfInBounds_toArray, List.set_cons_zero, List.set_cons_succ]))
  refine ordD (by rfl) ?_
  intro K hK
  go_simp
  go_at_call 8
  refine (put_nil _ hg8 k hk8 _).mono ?_
  rintro e w4 ⟨A4, c4, rfl, ho4, hb4⟩
  rw [e1.out] at ho4
  have q1 := ho4.rd
  have q2 := (hr3.below hb4).take g1
  rw [cu8_take] at q2
  have hB4 := hB3.trans (hb4.mono hB3.size)
  have hr4 := hr3.below hb4
  go_wp2_with fail
  refine hK _ _ trivial ?_
  clear hK K
  try simp only [Act.put, List.setIfInBounds_toArray, List.set_cons_zero, List.set_cons_succ]
  repeat (first | (refine ordS (by rfl) ?_; simp only [Act.put, List.setIfInBounds_toArray, List.set_cons_zero, List.set_cons_succ]) | (refine ordN (by rfl) ?_; simp only [Act.put, List.setIfInBounds_toArray, List.set_cons_zero, List.set_cons_succ]) | (refine ordQ (v := ?_) (by rfl) (fun _ _ => ?_) ?_; rotate_left; (focus (go_simp; (first | done | with_reducible rfl))); simp only [Act.put, List.setIfInBounds_toArray, List.set_cons_zero, List.set_cons_succ]))
  refine ordD (by rfl) ?_
  intro K hK
  go_simp
  go_at_call 10
  refine (samebytes_eqB _ _ _ _ _ _ _ q1 q2 (by unfold maxLen <;> omega)).mono ?_
  rintro e w5 ⟨rfl, hb5⟩
  have hB5 := hB4.trans (hb5.mono hB4.size)
  have hr5 := hr4.below hb5
  clear q1 q2
  go_wp2_with fail
  refine hK _ _ trivial ?_
  clear hK K
  try simp only [Act.put, List.setIfInBounds_toArray, List.set_cons_zero, List.set_cons_succ]
  repeat (first | (refine ordS (by rfl) ?_; simp only [Act.put, List.setIfInBounds_toArray, List.set_cons_zero, List.set_cons_succ]) | (refine ordN (by rfl) ?_; simp only [Act.put, List.setIfInBounds_toArray, List.set_cons_zero, List.set_cons_succ]) | (refine ordQ (v := ?_) (by rfl) (fun _ _ => ?_) ?_; rotate_left; (focus (go_simp; (first | done | with_reducible rfl))); simp only [Act.put, List.setIfInBounds_toArray, List.set_cons_zero, List.set_cons_succ]))
  refine ordE ?_
  all_goals go_wp2
  all_goals go_ret
  all_goals exact ⟨rfl, hB5⟩

set_option maxRecDepth 100000 in
set_option maxHeartbeats 1000000 in
theorem walk_011 (A : Option Addr) (n c : Nat) (bs : List UInt8) (y : Nat) (hy : y < 256) (w : World) (hr : Rd w A n (cu8 bs)) (hc2 : c ≤ maxLen) (hc : n ≤ c) (hn : n ≤ 70000)
    (k kl km : Nat) (hk1 : 1 ≤ k) (hk8 : k ≤ 8) (hyk : 1 + (y : Int) % 8 = (k : Int)) (HL : Hid (bs.length = n)) (HKL : Hid (kl = getN (bs.take 1))) (HKM : Hid (km = getN (bs.take 2)))
    (hkl2 : kl < 256) (hkm2 : km < 65536) (hc3 : c ≤ 9223372036854775807) (g1 : ¬ k ≤ n) (g2 : 1 + 4 * kl ≤ n) (g3 : 2 + km ≤ n) :
    Calls Try.prog 6 #[.slice A n c, .int .u8 y] w fun e w' => e = .returned (.bool true) ∧ Below w.heap.size w w' := by
  have hnn : ¬ 70000 < n := by omega
  have hg8 := getN_take8 bs hk8
  have e2 := Lib.hid (putL_getL bs kl HKL.out (by rw [HL.out]; exact g2))
  have e3 := Lib.hid (putS_get bs km HKM.out (by rw [HL.out]; exact g3))
  have d0 : decide ((n : Int) < 0) = false := by simp
  have d1 : decide (1 + 4 * (kl : Int) < 0) = false := by simp; omega
  have d2 : decide ((n : Int) < 1 + 4 * (kl : Int)) = false := by simp; omega
  have b3 : (0 : Int) ≤ 1 + 4 * (kl : Int) := by omega
  have b4 : 1 + 4 * (kl : Int) ≤ (c : Int) := by omega
  have b7 : (1 + 4 * (kl : Int)).toNat = 1 + 4 * kl := by omega
  have d3 : decide (2 + (km : Int) < 0) = false := by simp; omega
  have d4 : decide ((n : Int) < 2 + (km : Int)) = false := by simp; omega
  have b5 : (0 : Int) ≤ 2 + (km : Int) := by omega
  have b6 : 2 + (km : Int) ≤ (c : Int) := by omega
  have b8 : (2 + (km : Int)).toNat = 2 + km := by omega
  go_enter Try.func6, Try.ntmps6
  go_wp2_with fail
  refine (alive_any w).mono ?_
  rintro e w1 ⟨rfl, hb1⟩
  have hr1 := hr.below hb1
  go_wp2_with fail
  refine (get_short A n c k w1 hk1 hk8 (by omega)).mono ?_
  rintro e w2 ⟨rfl, rfl⟩
  go_wp2_with fail
  refine (getlist_ok A n c bs _ hr1 hc hc2 (by omega) kl HKL.out g2).mono ?_
  rintro e w2 ⟨A2, c2, rfl, ho2, hb2⟩
  have hr2 := hr1.below hb2
  go_wp2_with fail
  refine (getbytes_ok A n c bs _ hr2 hc hc2 (by omega) km HKM.out g3).mono ?_
  rintro e w3 ⟨A3, c3, rfl, ho3, hb3⟩
  have hx3 := ho3.rd.drew
  have hxc := ho3.le
  have hxm := ho3.cap
  have hr3 := (hr2.below hb3).drew
  have hl3 := (ho2.below hb3).rd.drew
  have hlc := ho2.le
  have hlm := ho2.cap
  have hB3 : Below w.heap.size w w3.drew := (hb1.trans ((hb2.mono hb1.size).trans (hb3.mono (Nat.le_trans hb1.size hb2.size)))).drew
  clear ho2 ho3 hb1 hb2 hb3 hr1 hr2 hr
  go_wp2
  refine wp_region_ord (S := fun _ => True) [(0, true), (1, true), (2, true), (3, true), (4, true), (6, true), (7, true), (8, true), (5, false), (9, false), (10, true), (11, true), (12, true), (13, true), (14, true), (15, true), (17, true), (18, true), (19, true), (16, false), (20, false), (21, true), (22, true), (23, true), (24, true), (25, true), (26, true), (27, true), (29, true), (30, true), (31, true), (28, false), (32, false), (33, true), (34, true), (35, true)] default (by kernel_rfl) (by kernel_rfl) (by kernel_rfl) trivial ?_
  simp only [getOrd, nth]
  repeat (first | (refine ordS (by rfl) ?_; simp only [Act.put, List.setIfInBounds_toArray, List.set_cons_zero, List.set_cons_succ]) | (refine ordN (by rfl) ?_; simp only [Act.put, List.setIfInBounds_toArray, List.set_cons_zero, List.set_cons_succ]) | (refine ordQ (v := ?_) (by rfl) (fun _ _ => ?_) ?_; rotate_left; (focus (go_simp; (first | done | with_reducible rfl))); simp only [Act.put, List.setIfInBounds_toArray, List.set_cons_zero, List.set_cons_succ]))
  refine ordD (by rfl) ?_
  intro K hK
  go_simp
  go_at_call 9
  refine (putlist_nil A2 kl c2 _ _ hl3 hlc hlm (by omega)).mono ?_
  rintro e w6 ⟨A6, c6, rfl, ho6, hb6⟩
  rw [e2.out] at ho6
  have q3 := ho6.rd
  have q4 := (hr3.below hb6).take g2
  rw [cu8_take] at q4
  have hB6 := hB3.trans (hb6.mono hB3.size)
  have hr6 := hr3.below hb6
  have hx6 := hx3.below hb6
  go_wp2_with fail
  refine hK _ _ trivial ?_
  clear hK K
  try simp only [Act.put, List.setIfInBounds_toArray, List.set_cons_zero, List.set_cons_succ]
  repeat (first | (refine ordS (by rfl) ?_; simp only [Act.put, List.setIfInBounds_toArray, List.set_cons_zero, List.set_cons_succ]) | (refine ordN (by rfl) ?_; simp only [Act.put, List.setIfInBounds_toArray, List.set_cons_zero, List.set_cons_succ]) | (refine ordQ (v := ?_) (by rfl) (fun _ _ => ?_) ?_; rotate_left; (focus (go_simp; (first | done | with_reducible rfl))); simp only [Act.put, List.setIfInBounds_toArray, List.set_cons_zero, List.set_cons_succ]))
  refine ordD (by rfl) ?_
  intro K hK
  go_simp
  go_at_call 10
  refine (samebytes_eqB _ _ _ _ _ _ _ q3 q4 (by unfold maxLen <;> omega)).mono ?_
  rintro e w7 ⟨rfl, hb7⟩
  have hB7 := hB6.trans (hb7.mono hB6.size)
  have hr7 := hr6.below hb7
  have hx7 := hx6.below hb7
  clear q3 q4
  go_wp2_with fail
  refine hK _ _ trivial ?_
  clear hK K
  try simp only [Act.put, List.setIfInBounds_toArray, List.set_cons_zero, List.set_cons_succ]
  repeat (first | (refine ordS (by rfl) ?_; simp only [Act.put, List.setIfInBounds_toArray, List.set_cons_zero, List.set_cons_succ]) | (refine ordN (by rfl) ?_; simp only [Act.put, List.setIfInBounds_toArray, List.set_cons_zero, List.set_cons_succ]) | (refine ordQ (v := ?_) (by rfl) (fun _ _ => ?_) ?_; rotate_left; (focus (go_simp; (first | done | with_reducible rfl))); simp only [Act.put, List.setIfInBounds_toArray, List.set_cons_zero, List.set_cons_succ]))
  refine ordD (by rfl) ?_
  intro K hK
  go_simp
  go_at_call 13
  refine (putbytes_nil A3 km c3 _ _ hx7 hxc hxm (by omega)).mono ?_
  rintro e w8 ⟨A8, c8, rfl, ho8, hb8⟩
  rw [e3.out] at ho8
  have q5 := ho8.rd
  have q6 := (hr7.below hb8).take g3
  rw [cu8_take] at q6
  have hB8 := hB7.trans (hb8.mono hB7.size)
  go_wp2_with fail
  refine hK _ _ trivial ?_
  clear hK K
  try simp only [Act.put, List.setIfInBounds_toArray, List.set_cons_zero, List.set_cons_succ]
  repeat (first | (refine ordS (by rfl) ?_; simp only [Act.put, List.setIfInBounds_toArray, List.set_cons_zero, List.set_cons_succ]) | (refine ordN (by rfl) ?_; simp only [Act.put, List.setIfInBounds_toArray, List.set_cons_zero, List.set_cons_succ]) | (refine ordQ (v := ?_) (by rfl) (fun _ _ => ?_) ?_; rotate_left; (focus (go_simp; (first | done | with_reducible rfl))); simp only [Act.put, List.setIfInBounds_toArray, List.set_cons_zero, List.set_cons_succ]))
  refine ordD (by rfl) ?_
  intro K hK
  go_simp
  go_at_call 10
  refine (samebytes_eqB _ _ _ _ _ _ _ q5 q6 (by unfold maxLen <;> omega)).mono ?_
  rintro e w9 ⟨rfl, hb9⟩
  have hB9 := hB8.trans (hb9.mono hB8.size)
  clear q5 q6
  go_wp2_with fail
  refine hK _ _ trivial ?_
  clear hK K
  try simp only [Act.put, List.setIfInBounds_toArray, List.set_cons_zero, List.set_cons_succ]
  repeat (first | (refine ordS (by rfl) ?_; simp only [Act.put, List.setIfInBounds_toArray, List.set_cons_zero, List.set_cons_succ]) | (refine ordN (by rfl) ?_; simp only [Act.put, List.setIfInBounds_toArray, List.set_cons_zero, List.set_cons_succ]) | (refine ordQ (v := ?_) (by rfl) (fun _ _ => ?_) ?_; rotate_left; (focus (go_simp; (first | done | with_reducible rfl))); simp only [Act.put, List.setIfInBounds_toArray, List.set_cons_zero, List.set_cons_succ]))
  refine ordE ?_
  all_goals go_wp2
  all_goals go_ret
  all_goals exact ⟨rfl, hB9⟩

set_option maxRecDepth 100000 in
set_option maxHeartbeats 1000000 in
theorem walk_010 (A : Option Addr) (n c : Nat) (bs : List UInt8) (y : Nat) (hy : y < 256) (w : World) (hr : Rd w A n (cu8 bs)) (hc2 : c ≤ maxLen) (hc : n ≤ c) (hn : n ≤ 70000)
    (k kl km : Nat) (hk1 : 1 ≤ k) (hk8 : k ≤ 8) (hyk : 1 + (y : Int) % 8 = (k : Int)) (HL : Hid (bs.length = n)) (HKL : Hid (kl = getN (bs.take 1))) (HKM : Hid (km = getN (bs.take 2)))
    (hkl2 : kl < 256) (hkm2 : km < 65536) (hc3 : c ≤ 9223372036854775807) (g1 : ¬ k ≤ n) (g2 : 1 + 4 * kl ≤ n) (g3 : ¬ 2 + km ≤ n) :
    Calls Try.prog 6 #[.slice A n c, .int .u8 y] w fun e w' => e = .returned (.bool true) ∧ Below w.heap.size w w' := by
  have hnn : ¬ 70000 < n := by omega
  have hg8 := getN_take8 bs hk8
  have e2 := Lib.hid (putL_getL bs kl HKL.out (by rw [HL.out]; exact g2))
  have d0 : decide ((n : Int) < 0) = false := by simp
  have d1 : decide (1 + 4 * (kl : Int) < 0) = false := by simp; omega
  have d2 : decide ((n : Int) < 1 + 4 * (kl : Int)) = false := by simp; omega
  have b3 : (0 : Int) ≤ 1 + 4 * (kl : Int) := by omega
  have b4 : 1 + 4 * (kl : Int) ≤ (c : Int) := by omega
  have b7 : (1 + 4 * (kl : Int)).toNat = 1 + 4 * kl := by omega
  go_enter Try.func6, Try.ntmps6
  go_wp2_with fail
  refine (alive_any w).mono ?_
  rintro e w1 ⟨rfl, hb1⟩
  have hr1 := hr.below hb1
  go_wp2_with fail
  refine (get_short A n c k w1 hk1 hk8 (by omega)).mono ?_
  rintro e w2 ⟨rfl, rfl⟩
  go_wp2_with fail
  refine (getlist_ok A n c bs _ hr1 hc hc2 (by omega) kl HKL.out g2).mono ?_
  rintro e w2 ⟨A2, c2, rfl, ho2, hb2⟩
  have hr2 := hr1.below hb2
  go_wp2_with fail
  refine (getbytes_fail A n c bs _ hr2 hc hc2 (by rw [← HKM.out]; omega)).mono ?_
  rintro e w3 ⟨rfl, hw⟩
  have hb3 : Below w2.heap.size w2 w3 := by rw [← hw]; exact Below.refl _ _
  clear hw
  have hr3 := (hr2.below hb3).drew
  have hl3 := (ho2.below hb3).rd.drew
  have hlc := ho2.le
  have hlm := ho2.cap
  have hB3 : Below w.heap.size w w3.drew := (hb1.trans ((hb2.mono hb1.size).trans (hb3.mono (Nat.le_trans hb1.size hb2.size)))).drew
  clear ho2 hb1 hb2 hb3 hr1 hr2 hr
  go_wp2
  refine wp_region_ord (S := fun _ => True) [(0, true), (1, true), (2, true), (3, true), (4, true), (6, true), (7, true), (8, true), (5, false), (9, false), (10, true), (11, true), (12, true), (13, true), (14, true), (15, true), (17, true), (18, true), (19, true), (16, false), (20, false), (21, true), (22, true), (23, true), (24, true), (25, true), (26, true), (27, true), (29, true), (30, true), (31, true), (28, false), (32, false), (33, true), (34, true), (35, true)] default (by kernel_rfl) (by kernel_rfl) (by kernel_rfl) trivial ?_
  simp only [getOrd, nth]
  repeat (first | (refine ordS (by rfl) ?_; simp only [Act.put, List.setIfInBounds_toArray, List.set_cons_zero, List.set_cons_succ]) | (refine ordN (by rfl) ?_; simp only [Act.put, List.setIfInBounds_toArray, List.set_cons_zero, List.set_cons_succ]) | (refine ordQ (v := ?_) (by rfl) (fun _ _ => ?_) ?_; rotate_left; (focus (go_simp; (first | done | with_reducible rfl))); simp only [Act.put, List.setIfInBounds_toArray, List.set_cons_zero, List.set_cons_succ]))
  refine ordD (by rfl) ?_
  intro K hK
  go_simp
  go_at_call 9
  refine (putlist_nil A2 kl c2 _ _ hl3 hlc hlm (by omega)).mono ?_
  rintro e w6 ⟨A6, c6, rfl, ho6, hb6⟩
  rw [e2.out] at ho6
  have q3 := ho6.rd
  have q4 := (hr3.below hb6).take g2
  rw [cu8_take] at q4
  have hB6 := hB3.trans (hb6.mono hB3.size)
  have hr6 := hr3.below hb6
  go_wp2_with fail
  refine hK _ _ trivial ?_
  clear hK K
  try simp only [Act.put, List.setIfInBounds_toArray, List.set_cons_zero, List.set_cons_succ]
  repeat (first | (refine ordS (by rfl) ?_; simp only [Act.put, List.setIfInBounds_toArray, List.set_cons_zero, List.set_cons_succ]) | (refine ordN (by rfl) ?_; simp only [Act.put, List.setIfInBounds_toArray, List.set_cons_zero, List.set_cons_succ]) | (refine ordQ (v := ?_) (by rfl) (fun _ _ => ?_) ?_; rotate_left; (focus (go_simp; (first | done | with_reducible rfl))); simp only [Act.put, List.setIfInBounds_toArray, List.set_cons_zero, List.set_cons_succ]))
  refine ordD (by rfl) ?_
  intro K hK
  go_simp
  go_at_call 10
  refine (samebytes_eqB _ _ _ _ _ _ _ q3 q4 (by unfold maxLen <;> omega)).mono ?_
  rintro e w7 ⟨rfl, hb7⟩
  have hB7 := hB6.trans (hb7.mono hB6.size)
  have hr7 := hr6.below hb7
  clear q3 q4
  go_wp2_with fail
  refine hK _ _ trivial ?_
  clear hK K
  try simp only [Act.put, List.setIfInBounds_toArray, List.set_cons_zero, List.set_cons_succ]
  repeat (first | (refine ordS (by rfl) ?_; simp only [Act.put, List.setIfInBounds_toArray, List.set_cons_zero, List.set_cons_succ]) | (refine ordN (by rfl) ?_; simp only [Act.put, List.setIfInBounds_toArray, List.set_cons_zero, List.set_cons_succ]) | (refine ordQ (v := ?_) (by rfl) (fun _ _ => ?_) ?_; rotate_left; (focus (go_simp; (first | done | with_reducible rfl))); simp only [Act.put, List.setIfInBounds_toArray, List.set_cons_zero, List.set_cons_succ]))
  refine ordE ?_
  all_goals go_wp2
  all_goals go_ret
  all_goals exact ⟨rfl, hB7⟩

set_option maxRecDepth 100000 in
set_option maxHeartbeats 1000000 in
theorem walk_001 (A : Option Addr) (n c : Nat) (bs : List UInt8) (y : Nat) (hy : y < 256) (w : World) (hr : Rd w A n (cu8 bs)) (hc2 : c ≤ maxLen) (hc : n ≤ c) (hn : n ≤ 70000)
    (k kl km : Nat) (hk1 : 1 ≤ k) (hk8 : k ≤ 8) (hyk : 1 + (y : Int) % 8 = (k : Int)) (HL : Hid (bs.length = n)) (HKL : Hid (kl = getN (bs.take 1))) (HKM : Hid (km = getN (bs.take 2)))
    (hkl2 : kl < 256) (hkm2 : km < 65536) (hc3 : c ≤ 9223372036854775807) (g1 : ¬ k ≤ n) (g2 : ¬ 1 + 4 * kl ≤ n) (g3 : 2 + km ≤ n) :
    Calls Try.prog 6 #[.slice A n c, .int .u8 y] w fun e w' => e = .returned (.bool true) ∧ Below w.heap.size w w' := by
  have hnn : ¬ 70000 < n := by omega
  have hg8 := getN_take8 bs hk8
  have e3 := Lib.hid (putS_get bs km HKM.out (by rw [HL.out]; exact g3))
  have d0 : decide ((n : Int) < 0) = false := by simp
  have d3 : decide (2 + (km : Int) < 0) = false := by simp; omega
  have d4 : decide ((n : Int) < 2 + (km : Int)) = false := by simp; omega
  have b5 : (0 : Int) ≤ 2 + (km : Int) := by omega
  have b6 : 2 + (km : Int) ≤ (c : Int) := by omega
  have b8 : (2 + (km : Int)).toNat = 2 + km := by omega
  go_enter Try.func6, Try.ntmps6
  go_wp2_with fail
  refine (alive_any w).mono ?_
  rintro e w1 ⟨rfl, hb1⟩
  have hr1 := hr.below hb1
  go_wp2_with fail
  refine (get_short A n c k w1 hk1 hk8 (by omega)).mono ?_
  rintro e w2 ⟨rfl, rfl⟩
  go_wp2_with fail
  refine (getlist_fail A n c bs _ hr1 hc hc2 (by rw [← HKL.out]; omega)).mono ?_
  rintro e w2 ⟨rfl, hw⟩
  have hb2 : Below w1.heap.size w1 w2 := by rw [← hw]; exact Below.refl _ _
  clear hw
  have hr2 := hr1.below hb2
  go_wp2_with fail
  refine (getbytes_ok A n c bs _ hr2 hc hc2 (by omega) km HKM.out g3).mono ?_
  rintro e w3 ⟨A3, c3, rfl, ho3, hb3⟩
  have hx3 := ho3.rd.drew
  have hxc := ho3.le
  have hxm := ho3.cap
  have hr3 := (hr2.below hb3).drew
  have hB3 : Below w.heap.size w w3.drew := (hb1.trans ((hb2.mono hb1.size).trans (hb3.mono (Nat.le_trans hb1.size hb2.size)))).drew
  clear ho3 hb1 hb2 hb3 hr1 hr2 hr
  go_wp2
  refine wp_region_ord (S := fun _ => True) [(0, true), (1, true), (2, true), (3, true), (4, true), (6, true), (7, true), (8, true), (5, false), (9, false), (10, true), (11, true), (12, true), (13, true), (14, true), (15, true), (17, true), (18, true), (19, true), (16, false), (20, false), (21, true), (22, true), (23, true), (24, true), (25, true), (26, true), (27, true), (29, true), (30, true), (31, true), (28, false), (32, false), (33, true), (34, true), (35, true)] default (by kernel_rfl) (by kernel_rfl) (by kernel_rfl) trivial ?_
  simp only [getOrd, nth]
  repeat (first | (refine ordS (by rfl) ?_; simp only [Act.put, List.setIfInBounds_toArray, List.set_cons_zero, List.set_cons_succ]) | (refine ordN (by rfl) ?_; simp only [Act.put, List.setIfInBounds_toArray, List.set_cons_zero, List.set_cons_succ]) | (refine ordQ (v := ?_) (by rfl) (fun _ _ => ?_) ?_; rotate_left; (focus (go_simp; (first | done | with_reducible rfl))); simp only [Act.put, List.setIfInBounds_toArray, List.set_cons_zero, List.set_cons_succ]))
  refine ordD (by rfl) ?_
  intro K hK
  go_simp
  go_at_call 13
  refine (putbytes_nil A3 km c3 _ _ hx3 hxc hxm (by omega)).mono ?_
  rintro e w8 ⟨A8, c8, rfl, ho8, hb8⟩
  rw [e3.out] at ho8
  have q5 := ho8.rd
  have q6 := (hr3.below hb8).take g3
  rw [cu8_take] at q6
  have hB8 := hB3.trans (hb8.mono hB3.size)
  go_wp2_with fail
  refine hK _ _ trivial ?_
  clear hK K
  try simp only [Act.put, List.setIfInBounds_toArray, List.set_cons_zero, List.set_cons_succ]
  repeat (first | (refine ordS (by rfl) ?_; simp only [Act.put, List.setIfInBounds_toArray, List.set_cons_zero, List.set_cons_succ]) | (refine ordN (by rfl) ?_; simp only [Act.put, List.setIfInBounds_toArray, List.set_cons_zero, List.set_cons_succ]) | (refine ordQ (v := ?_) (by rfl) (fun _ _ => ?_) ?_; rotate_left; (focus (go_simp; (first | done | with_reducible rfl))); simp only [Act.put, List.setIfInBounds_toArray, List.set_cons_zero, List.set_cons_succ]))
  refine ordD (by rfl) ?_
  intro K hK
  go_simp
  go_at_call 10
  refine (samebytes_eqB _ _ _ _ _ _ _ q5 q6 (by unfold maxLen <;> omega)).mono ?_
  rintro e w9 ⟨rfl, hb9⟩
  have hB9 := hB8.trans (hb9.mono hB8.size)
  clear q5 q6
  go_wp2_with fail
  refine hK _ _ trivial ?_
  clear hK K
  try simp only [Act.put, List.setIfInBounds_toArray, List.set_cons_zero, List.set_cons_succ]
  repeat (first | (refine ordS (by rfl) ?_; simp only [Act.put, List.setIfInBounds_toArray, List.set_cons_zero, List.set_cons_succ]) | (refine ordN (by rfl) ?_; simp only [Act.put, List.setIfInBounds_toArray, List.set_cons_zero, List.set_cons_succ]) | (refine ordQ (v := ?_) (by rfl) (fun _ _ => ?_) ?_; rotate_left; (focus (go_simp; (first | done | with_reducible rfl))); simp only [Act.put, List.setIfInBounds_toArray, List.set_cons_zero, List.set_cons_succ]))
  refine ordE ?_
  all_goals go_wp2
  all_goals go_ret
  all_goals exact ⟨rfl, hB9⟩

set_option maxRecDepth 100000 in
set_option maxHeartbeats 1000000 in
theorem walk_000 (A : Option Addr) (n c : Nat) (bs : List UInt8) (y : Nat) (hy : y < 256) (w : World) (hr : Rd w A n (cu8 bs)) (hc2 : c ≤ maxLen) (hc : n ≤ c) (hn : n ≤ 70000)
    (k kl km : Nat) (hk1 : 1 ≤ k) (hk8 : k ≤ 8) (hyk : 1 + (y : Int) % 8 = (k : Int)) (HL : Hid (bs.length = n)) (HKL : Hid (kl = getN (bs.take 1))) (HKM : Hid (km = getN (bs.take 2)))
    (hkl2 : kl < 256) (hkm2 : km < 65536) (hc3 : c ≤ 9223372036854775807) (g1 : ¬ k ≤ n) (g2 : ¬ 1 + 4 * kl ≤ n) (g3 : ¬ 2 + km ≤ n) :
    Calls Try.prog 6 #[.slice A n c, .int .u8 y] w fun e w' => e = .returned (.bool true) ∧ Below w.heap.size w w' := by
  have hnn : ¬ 70000 < n := by omega
  have hg8 := getN_take8 bs hk8
  have d0 : decide ((n : Int) < 0) = false := by simp
  go_enter Try.func6, Try.ntmps6
  go_wp2_with fail
  refine (alive_any w).mono ?_
  rintro e w1 ⟨rfl, hb1⟩
  have hr1 := hr.below hb1
  go_wp2_with fail
  refine (get_short A n c k w1 hk1 hk8 (by omega)).mono ?_
  rintro e w2 ⟨rfl, rfl⟩
  go_wp2_with fail
  refine (getlist_fail A n c bs _ hr1 hc hc2 (by rw [← HKL.out]; omega)).mono ?_
  rintro e w2 ⟨rfl, hw⟩
  have hb2 : Below w1.heap.size w1 w2 := by rw [← hw]; exact Below.refl _ _
  clear hw
  have hr2 := hr1.below hb2
  go_wp2_with fail
  refine (getbytes_fail A n c bs _ hr2 hc hc2 (by rw [← HKM.out]; omega)).mono ?_
  rintro e w3 ⟨rfl, hw⟩
  have hb3 : Below w2.heap.size w2 w3 := by rw [← hw]; exact Below.refl _ _
  clear hw
  have hr3 := (hr2.below hb3).drew
  have hB3 : Below w.heap.size w w3.drew := (hb1.trans ((hb2.mono hb1.size).trans (hb3.mono (Nat.le_trans hb1.size hb2.size)))).drew
  clear hb1 hb2 hb3 hr1 hr2 hr
  go_wp2
  go_quiet (fail)
  go_wp2
  go_ret
  exact ⟨rfl, ⟨hB3.os, hB3.tape, hB3.output, hB3.size, hB3.block⟩⟩

theorem walk (A : Option Addr) (n c : Nat) (bs : List UInt8) (y : Nat) (hy : y < 256) (w : World) (hr : Rd w A n (cu8 bs)) (hc2 : c ≤ maxLen) (hc : n ≤ c) :
    Calls Try.prog 6 #[.slice A n c, .int .u8 y] w fun e w' => e = .returned (.bool true) ∧ Below w.heap.size w w' := by
  by_cases hn : 70000 < n
  · exact walk_long A n c y w hc2 hc hn
  have hl : bs.length = n := by have h := hr.len; rw [cu8_len] at h; exact h
  have hkl2 := getN_take1 bs
  have hkm2 := getN_take2 bs
  have hc3 : c ≤ 9223372036854775807 := by unfold maxLen at hc2; omega
  by_cases g1 : 1 + y % 8 ≤ n <;> by_cases g2 : 1 + 4 * getN (bs.take 1) ≤ n <;> by_cases g3 : 2 + getN (bs.take 2) ≤ n
  · exact walk_111 A n c bs y hy w hr hc2 hc (by omega) _ _ _ (by omega) (by omega) (by omega) hl rfl rfl hkl2 hkm2 hc3 g1 g2 g3
  · exact walk_110 A n c bs y hy w hr hc2 hc (by omega) _ _ _ (by omega) (by omega) (by omega) hl rfl rfl hkl2 hkm2 hc3 g1 g2 g3
  · exact walk_101 A n c bs y hy w hr hc2 hc (by omega) _ _ _ (by omega) (by omega) (by omega) hl rfl rfl hkl2 hkm2 hc3 g1 g2 g3
  · exact walk_100 A n c bs y hy w hr hc2 hc (by omega) _ _ _ (by omega) (by omega) (by omega) hl rfl rfl hkl2 hkm2 hc3 g1 g2 g3
  · exact walk_011 A n c bs y hy w hr hc2 hc (by omega) _ _ _ (by omega) (by omega) (by omega) hl rfl rfl hkl2 hkm2 hc3 g1 g2 g3
  · exact walk_010 A n c bs y hy w hr hc2 hc (by omega) _ _ _ (by omega) (by omega) (by omega) hl rfl rfl hkl2 hkm2 hc3 g1 g2 g3
  · exact walk_001 A n c bs y hy w hr hc2 hc (by omega) _ _ _ (by omega) (by omega) (by omega) hl rfl rfl hkl2 hkm2 hc3 g1 g2 g3
  · exact walk_000 A n c bs y hy w hr hc2 hc (by omega) _ _ _ (by omega) (by omega) (by omega) hl rfl rfl hkl2 hkm2 hc3 g1 g2 g3

theorem own : ownKnob Try.prog.godebug = none := by kernel_rfl
theorem laidOut : laidOutB Try.prog = true := by kernel_rfl

set_option maxRecDepth 100000 in
theorem lifted (os : Os) (started : os.Started) (H : Type) (enc : TypeId × Value → H) :
    ReturnsInHanded {} Try.checked os 6 .any (Rows.numsAgainSpec.pre6 enc Try.prog Try.f6 Rows.numsAgainRow.domain false) (Rows.numsAgainSpec.post enc Try.prog Try.f6 false true false false) := by
  refine returnsInHanded_of_change (C := Try.checked) own started (by kernel_rfl) Try.func6
    (ChangeSpec.witness6 (enc := enc) (C := Try.checked) false ⟨#[], #[.slice none 0 0, .int .u8 0], []⟩ 8 (by kernel_rfl) (by kernel_rfl) (by kernel_rfl) (by kernel_rfl)) ?_
  intro W base args ds gs before hval0 hW hcnd _
  have hval : ∀ (j : Nat) t v, Try.f6.params[j]? = some t → args[j]? = some v → Value.okWide Try.prog W .any base t v := hval0
  have hW' := hW
  obtain ⟨p, q, hA0, hV, rfl, hfz, hnd⟩ := hW
  have hA : DataW.TrodAll enc Try.prog W 0 (fun _ => true) true Try.f6.params.toList args.toList ds p := hA0
  rw [Try.params6] at hA hval
  obtain ⟨v0, vs0, d0, ds0, p0, q0, hargs, rfl, rfl, h0, r0⟩ := trodAll_cons hA
  obtain ⟨v1, vs1, d1, ds1, p1, q1, rfl, rfl, rfl, h1, r1⟩ := trodAll_cons r0
  obtain ⟨rfl, rfl, rfl⟩ := trodAll_nil r1
  obtain rfl : args = #[v0, v1] := by cases args; simp_all
  obtain ⟨A, n, c, bs, rfl, hr, hc, hc2⟩ := arg_u8s Try.underlying22 Try.underlying5 (by kernel_rfl) (hval 0 22 v0 rfl rfl) h0
  obtain ⟨a1, rfl, rfl, rfl, w1⟩ := open_int Try.underlying5 (hval 1 5 v1 rfl rfl) h1
  obtain ⟨y, rfl, hy⟩ := fit_u8 w1
  refine (walk A n c bs y hy W hr hc2 hc).mono fun e W' ⟨he, hg⟩ => ?_
  subst he
  exact ⟨_, rfl, law_post laidOut (by kernel_rfl) hW' rfl rfl (by kernel_rfl) Try.underlying4 hg⟩

theorem over : Rows.numsAgainRow.holds Try.pinned (OpenSpec.ofChange Rows.numsAgainSpec) :=
  OpenClaim.holds_of_wide 6 Try.f6 rfl rfl rfl rfl rfl rfl rfl ⟨rfl, rfl, rfl, rfl, rfl⟩ rfl rfl rfl rfl rfl (by kernel_rfl) Try.func6 (by kernel_rfl)
    (of_decide_eq_true (by kernel_rfl)) (by unfold Func.isWrapper; first | (rw [if_pos (by decide +kernel)]; kernel_rfl) | (rw [if_neg (by decide +kernel)]; exact ⟨rfl, rfl⟩))
    (fun os started H enc _ => lifted os started H enc)

theorem proved : Rows.NumsAgainSaid :=
  over
end Go.Proofs.Ytillimpfnpjbhaa.numsAgain
