/-
  Proved: salesroomlaw01.NumsBack answers true, for any bytes ahead and behind, any number, any count of bytes, any list, in whatever memory. No conditions.
-/
import Derived.Test.YtillimpfnpjbhaaRows
import Derived.Test.YtillimpfnpjbhaaAlive1
import Derived.Test.YtillimpfnpjbhaaLift
import Derived.Test.YtillimpfnpjbhaaReg
import Derived.Lib.SmallJoins
namespace Go.Proofs.Ytillimpfnpjbhaa.numsBack
open Go.ChangeShapes Go.WideShapes Go.ChangeAt Go.RowKit
set_option linter.unusedVariables false

/-- Put in no bytes. -/
theorem put_low (A : Option Addr) (n c : Nat) (bs : List UInt8) (N : Nat) (hN : N < 18446744073709551616) (k : Int) (hk : k ≤ 0) (hk0 : -9223372036854775808 ≤ k) (w : World) (hr : Rd w A n (cu8 bs)) (hn : n ≤ 1000000000) :
    Calls Try.prog 8 #[.slice A n c, .int .u64 N, .int .i64 k] w fun e w' =>
      ∃ A' c', e = .returned (.slice A' n c') ∧ Own w' w.heap.size 5 A' n c' (cu8 bs) ∧ Below w.heap.size w w' := by
  refine (put_at A n c bs N hN k (by omega) hk0 w hr hn 0 (by omega)).mono ?_
  rintro e w' ⟨A', c', rfl, ho, hb⟩
  rw [putB_zero, List.append_nil] at ho
  exact ⟨A', c', rfl, ho, hb⟩

theorem get_eq (A : Option Addr) (n c : Nat) (bs : List UInt8) (k V : Nat) (w : World) (hr : Rd w A n (cu8 bs)) (hc : n ≤ c) (hc2 : c ≤ maxLen) (h1 : 1 ≤ k) (h8 : k ≤ 8) (hn : k ≤ n) (hV : getN (bs.take k) = V) :
    Calls Try.prog 11 #[.slice A n c, .int .i64 k] w fun e w' => e = .returned (.tuple #[.int .u64 V, .int .i64 0]) ∧ w = w' := by
  rw [← hV]
  exact get_ok A n c bs k w hr hc hc2 h1 h8 hn

theorem list_many (zs : List Int) (bs' : List UInt8) (hl : zs.length ≤ 255) : zs.length = getN ((putL zs ++ bs').take 1) := by
  have h1 : (putB (min zs.length 255) 1).length = 1 := putB_len _ _
  rw [putL, List.append_assoc, List.take_append_of_le_length (by omega), List.take_of_length_le (by omega), getN_put]
  omega
theorem list_back (zs : List Int) (bs' : List UInt8) (hl : zs.length ≤ 255) : getL ((putL zs ++ bs').drop 1) zs.length = zs.map fun z => z % 4294967296 := by
  have h1 : (putB (min zs.length 255) 1).length = 1 := putB_len _ _
  have h2 : (putB (min zs.length 255) 1 ++ listB (zs.take 255) ++ bs').drop 1 = listB zs ++ bs' := by
    rw [List.append_assoc, List.drop_append_of_le_length (by omega), List.drop_of_length_le (by omega), List.nil_append, List.take_of_length_le hl]
  rw [putL, h2]
  exact getL_listB zs bs'
theorem want_mid (N mm : Nat) (hN : N < 18446744073709551616) (h8 : mm < 8) : bits BinOp.and IntKind.u64 (N : Int) (IntKind.u64.wrap (IntKind.u64.wrap (2 ^ (8 * mm)) - 1)) = ((N % 2 ^ (8 * mm) : Nat) : Int) := by
  have hp : 2 ^ (8 * mm) ≤ 2 ^ 56 := Nat.pow_le_pow_right (by omega) (by omega)
  have hp0 : 0 < 2 ^ (8 * mm) := Nat.pow_pos (by omega)
  have e : IntKind.u64.wrap (IntKind.u64.wrap (2 ^ (8 * mm)) - 1) = ((2 ^ (8 * mm) - 1 : Nat) : Int) := by
    have ep : ((2 : Int) ^ (8 * mm)) = ((2 ^ (8 * mm) : Nat) : Int) := by simp
    rw [ep, IntKind.wrap_u64, IntKind.wrap_u64]
    omega
  rw [e, bits_and_u64_nat _ _ hN (by omega), Nat.and_two_pow_sub_one_eq_mod]

set_option maxRecDepth 100000 in
set_option maxHeartbeats 1000000 in
theorem walk_long1 (A : Option Addr) (n c : Nat) (A' : Option Addr) (n' c' : Nat) (N : Nat) (z : Int) (A'' : Option Addr) (m c'' : Nat) (w : World) (hc2 : c ≤ maxLen) (hc : n ≤ c) (hc2' : c' ≤ maxLen) (hc' : n' ≤ c') (hc2'' : c'' ≤ maxLen) (hc'' : m ≤ c'') (hn : 9000 < n) :
    Calls Try.prog 3 #[.agg #[.slice A n c, .slice A' n' c'], .agg #[.int .u64 N, .int .i64 z], .slice A'' m c''] w fun e w' => e = .returned (.bool true) ∧ Below w.heap.size w w' := by
  unfold maxLen at hc2 hc2' hc2''
  have h1 : decide (9000 < n) = true := by simpa using hn
  go_enter Try.func3, Try.ntmps3
  go_wp2_with fail
  refine (alive_any _).mono ?_
  rintro e w1 ⟨rfl, hb1⟩
  have hx1 : Bx w1 w.heap.size [.slice A n c, .slice A' n' c'] := ((Bx.new w _ _ _).alloc _).below hb1
  have h0 := hx1.at0
  have h01 := hx1.at1
  have hB1 := (((Below.refl _ w).alloc (Nat.le_refl _) _).alloc (by simp) _).trans (hb1.mono (by simp; omega))
  clear hx1 hb1
  go_wp2_with fail
  refine (alive_any w1).mono ?_
  rintro e w2 ⟨rfl, hb2⟩
  go_wp2
  go_ret
  exact ⟨rfl, hB1.trans (hb2.mono hB1.size)⟩

set_option maxRecDepth 100000 in
set_option maxHeartbeats 1000000 in
theorem walk_long2 (A : Option Addr) (n c : Nat) (A' : Option Addr) (n' c' : Nat) (N : Nat) (z : Int) (A'' : Option Addr) (m c'' : Nat) (w : World) (hc2 : c ≤ maxLen) (hc : n ≤ c) (hc2' : c' ≤ maxLen) (hc' : n' ≤ c') (hc2'' : c'' ≤ maxLen) (hc'' : m ≤ c'') (hn1 : n ≤ 9000) (hn : 9000 < n') :
    Calls Try.prog 3 #[.agg #[.slice A n c, .slice A' n' c'], .agg #[.int .u64 N, .int .i64 z], .slice A'' m c''] w fun e w' => e = .returned (.bool true) ∧ Below w.heap.size w w' := by
  unfold maxLen at hc2 hc2' hc2''
  have h1 : decide (9000 < n) = false := by simp; omega
  have h2 : decide (9000 < n') = true := by simpa using hn
  go_enter Try.func3, Try.ntmps3
  go_wp2_with fail
  refine (alive_any _).mono ?_
  rintro e w1 ⟨rfl, hb1⟩
  have hx1 : Bx w1 w.heap.size [.slice A n c, .slice A' n' c'] := ((Bx.new w _ _ _).alloc _).below hb1
  have h0 := hx1.at0
  have h01 := hx1.at1
  have hB1 := (((Below.refl _ w).alloc (Nat.le_refl _) _).alloc (by simp) _).trans (hb1.mono (by simp; omega))
  clear hx1 hb1
  go_wp2_with fail
  refine (alive_any w1).mono ?_
  rintro e w2 ⟨rfl, hb2⟩
  go_wp2
  go_ret
  exact ⟨rfl, hB1.trans (hb2.mono hB1.size)⟩

set_option maxRecDepth 100000 in
set_option maxHeartbeats 1000000 in
theorem walk_long3 (A : Option Addr) (n c : Nat) (A' : Option Addr) (n' c' : Nat) (N : Nat) (z : Int) (A'' : Option Addr) (m c'' : Nat) (w : World) (hc2 : c ≤ maxLen) (hc : n ≤ c) (hc2' : c' ≤ maxLen) (hc' : n' ≤ c') (hc2'' : c'' ≤ maxLen) (hc'' : m ≤ c'') (hn1 : n ≤ 9000) (hn2 : n' ≤ 9000) (hn : 255 < m) :
    Calls Try.prog 3 #[.agg #[.slice A n c, .slice A' n' c'], .agg #[.int .u64 N, .int .i64 z], .slice A'' m c''] w fun e w' => e = .returned (.bool true) ∧ Below w.heap.size w w' := by
  unfold maxLen at hc2 hc2' hc2''
  have h1 : decide (9000 < n) = false := by simp; omega
  have h2 : decide (9000 < n') = false := by simp; omega
  have h3 : decide (255 < m) = true := by simpa using hn
  go_enter Try.func3, Try.ntmps3
  go_wp2_with fail
  refine (alive_any _).mono ?_
  rintro e w1 ⟨rfl, hb1⟩
  have hx1 : Bx w1 w.heap.size [.slice A n c, .slice A' n' c'] := ((Bx.new w _ _ _).alloc _).below hb1
  have h0 := hx1.at0
  have h01 := hx1.at1
  have hB1 := (((Below.refl _ w).alloc (Nat.le_refl _) _).alloc (by simp) _).trans (hb1.mono (by simp; omega))
  clear hx1 hb1
  go_wp2_with fail
  refine (alive_any w1).mono ?_
  rintro e w2 ⟨rfl, hb2⟩
  go_wp2
  go_ret
  exact ⟨rfl, hB1.trans (hb2.mono hB1.size)⟩

set_option maxRecDepth 100000 in
set_option maxHeartbeats 8000000 in
theorem walk_low (A : Option Addr) (n c : Nat) (bs : List UInt8) (A' : Option Addr) (n' c' : Nat) (bs' : List UInt8) (N : Nat) (hN : N < 18446744073709551616) (z : Int) (kb1 : z ≤ 0) (kb2 : -9223372036854775808 ≤ z)
    (A'' : Option Addr) (m c'' : Nat) (zs : List Int) (w : World)
    (hr : Rd w A n (cu8 bs)) (hc2 : c ≤ maxLen) (hc : n ≤ c) (hr' : Rd w A' n' (cu8 bs')) (hc2' : c' ≤ maxLen) (hc' : n' ≤ c') (hr'' : Rd w A'' m (ci64 zs)) (hc2'' : c'' ≤ maxLen) (hc'' : m ≤ c'')
    (hn : n ≤ 9000) (hn' : n' ≤ 9000) (hm : m ≤ 255) :
    Calls Try.prog 3 #[.agg #[.slice A n c, .slice A' n' c'], .agg #[.int .u64 N, .int .i64 z], .slice A'' m c''] w fun e w' => e = .returned (.bool true) ∧ Below w.heap.size w w' := by
  obtain ⟨i0, hi0, hz0, hz1, hz2⟩ := info_parts info_u8
  have hzl : zs.length = m := by have h := hr''.len; rw [ci64_len] at h; exact h
  have l1 := Lib.hid (list_many zs bs' (by omega))
  have l2 := Lib.hid (list_back zs bs' (by omega))
  have HZ := Lib.hid hzl
  clear hzl
  have h1 : decide (9000 < n) = false := by simp; omega
  have h2 : decide (9000 < n') = false := by simp; omega
  have h3 : decide (255 < m) = false := by simp; omega
  have hcm := hc2
  have hcm' := hc2'
  have hcm'' := hc2''
  unfold maxLen at hc2 hc2' hc2''
  go_enter Try.func3, Try.ntmps3
  go_wp2_with fail
  refine (alive_any _).mono ?_
  rintro e w1 ⟨rfl, hb1⟩
  have hx1 : Bx w1 w.heap.size [.slice A n c, .slice A' n' c'] := ((Bx.new w _ _ _).alloc _).below hb1
  have hy1 : Bx w1 (w.heap.size + 1) [.int .u64 N, .int .i64 z] := (Bx.new_at _ _ _ _ _ (by simp)).below hb1
  have hr1 := ((hr.alloc _).alloc _).below hb1
  have hr1' := ((hr'.alloc _).alloc _).below hb1
  have hr1'' := ((hr''.alloc _).alloc _).below hb1
  have hB1 := (((Below.refl _ w).alloc (Nat.le_refl _) _).alloc (by simp) _).trans (hb1.mono (by simp; omega))
  clear hb1 hr hr' hr''
  have x10 := hx1.at0
  have x11 := hx1.at1
  have y10 := hy1.at0
  have y11 := hy1.at1
  go_wp2_with fail
  refine (put_low A n c bs N hN z kb1 kb2 w1 hr1 (by omega)).mono ?_
  rintro e w2 ⟨A2, c2, rfl, ho2, hb2⟩
  have hx2 := hx1.below hb2
  have hy2 := hy1.below hb2
  have hr2 := hr1.below hb2
  have hr2' := hr1'.below hb2
  have hr2'' := hr1''.below hb2
  have hB2 := hB1.trans (hb2.mono hB1.size)
  clear hb2 x10 x11 y10 y11 hx1 hy1 hr1 hr1' hr1''
  have x20 := hx2.at0
  go_wp2_with fail
  refine (putlist_le A n c bs A'' m c'' zs w2 hr2 (by omega) hr2'' hc'' hcm'' hm).mono ?_
  rintro e w3 ⟨A3, c3, rfl, ho3, hb3⟩
  have hx3 := hx2.below hb3
  have hy3 := hy2.below hb3
  have hr3 := hr2.below hb3
  have hr3' := hr2'.below hb3
  have hr3'' := hr2''.below hb3
  have ho23 := ho2.below hb3
  have hB3 := hB2.trans (hb3.mono hB2.size)
  clear hb3 x20 hx2 hy2 hr2 hr2' hr2'' ho2
  have x30 := hx3.at0
  have k2 := ho23.le
  have k2m := ho23.cap
  have k3 := ho3.le
  have k3m := ho3.cap
  have k2i : (n : Int) ≤ (c2 : Int) := by omega
  have k3i : (n : Int) ≤ (c3 : Int) := by omega
  have k0i : (0 : Int) ≤ (n : Int) := by omega
  have q1 := (ho23.rd.take (hi := n) (by omega)).drew
  have q2 := (ho3.rd.take (hi := n) (by omega)).drew
  have hlen : bs.length = n := by have h := hr3.len; rw [cu8_len] at h; exact h
  rw [cu8_take, List.take_of_length_le (by omega)] at q1
  rw [cu8_take, List.take_append_of_le_length (by omega), List.take_of_length_le (by omega)] at q2
  have HLEN := Lib.hid hlen
  clear hlen
  have hs3 := hr3.drew
  go_wp2_with fail
  have s1 : IntKind.i64.wrap (n : Int) = (n : Int) := IntWalk.i64_in _ (by omega)
  have s2 : IntKind.i64.wrap ((n : Int) + 1) = (n : Int) + 1 := IntWalk.i64_in _ (by omega)
  have s3 : IntKind.i64.wrap (4 * (m : Int)) = 4 * (m : Int) := IntWalk.i64_in _ (by omega)
  have s4 : IntKind.i64.wrap ((n : Int) + 1 + 4 * (m : Int)) = (n : Int) + 1 + 4 * (m : Int) := IntWalk.i64_in _ (by omega)
  refine wp_region_ord (S := fun w' => w'.cell? ⟨w.heap.size, 0, none⟩ = some (.slice A n c)) [(0, true), (1, true), (2, true), (3, true), (4, true), (5, true), (6, true), (7, true), (8, true), (9, true), (10, true), (11, true), (12, true), (13, true), (14, true), (15, true), (16, true), (17, true), (18, true), (19, true), (20, true), (21, true), (22, true), (23, false), (24, true), (25, true), (26, true), (27, true), (28, true), (29, true), (30, true), (31, true), (32, false), (33, true), (34, true)] default (by kernel_rfl) (by kernel_rfl) (by kernel_rfl) x30 ?_
  simp only [getOrd, nth]
  repeat (first | (refine ordS (by rfl) ?_; simp only [Act.put, List.setIfInBounds_toArray, List.set_cons_zero, List.set_cons_succ]) | (refine ordN (by rfl) ?_; simp only [Act.put, List.setIfInBounds_toArray, List.set_cons_zero, List.set_cons_succ]) | (refine ordQ (v := ?_) (by rfl) (fun _ hSw => ?_) ?_; rotate_left; (focus (go_simp; (first | done | with_reducible rfl))); simp only [Act.put, List.setIfInBounds_toArray, List.set_cons_zero, List.set_cons_succ]))
  refine ordD (by rfl) ?_
  intro K hK
  go_simp
  refine (samebytes_eqB _ n _ _ _ _ _ q1 hs3 (by unfold maxLen <;> omega)).mono ?_
  rintro e w4 ⟨rfl, hb4⟩
  have hx4 := hx3.drew.below hb4
  have hy4 := hy3.drew.below hb4
  have hr4 := hr3.drew.below hb4
  have hr4' := hr3'.drew.below hb4
  have hr4'' := hr3''.drew.below hb4
  have ho24 := ho23.drew.below hb4
  have ho34 := ho3.drew.below hb4
  have q3 := q2.below hb4
  have hB4 : Below w.heap.size w w4 := hB3.drew.trans (hb4.mono hB3.size)
  go_wp2_with fail
  refine hK _ _ hx4.at0 ?_
  clear hK K hb4 hx3 hy3 hr3 hr3' hr3'' ho23 ho3 q1 q2 hs3 x30
  try simp only [Act.put, List.setIfInBounds_toArray, List.set_cons_zero, List.set_cons_succ]
  repeat (first | (refine ordS (by rfl) ?_; simp only [Act.put, List.setIfInBounds_toArray, List.set_cons_zero, List.set_cons_succ]) | (refine ordN (by rfl) ?_; simp only [Act.put, List.setIfInBounds_toArray, List.set_cons_zero, List.set_cons_succ]) | (refine ordQ (v := ?_) (by rfl) (fun _ hSw => ?_) ?_; rotate_left; (focus (go_simp; (first | done | with_reducible rfl))); simp only [Act.put, List.setIfInBounds_toArray, List.set_cons_zero, List.set_cons_succ]))
  refine ordD (by rfl) ?_
  intro K hK
  go_simp
  refine (samebytes_eqB _ n _ _ _ _ _ q3 hr4 (by unfold maxLen <;> omega)).mono ?_
  rintro e w5 ⟨rfl, hb5⟩
  have hx5 := hx4.below hb5
  have hy5 := hy4.below hb5
  have hr5' := hr4'.below hb5
  have hr5'' := hr4''.below hb5
  have ho25 := ho24.below hb5
  have ho35 := ho34.below hb5
  have hB5 := hB4.trans (hb5.mono hB4.size)
  go_wp2_with fail
  refine hK _ _ hx5.at0 ?_
  clear hK K hb5 hx4 hy4 hr4 hr4' hr4'' ho24 ho34 q3
  try simp only [Act.put, List.setIfInBounds_toArray, List.set_cons_zero, List.set_cons_succ]
  repeat (first | (refine ordS (by rfl) ?_; simp only [Act.put, List.setIfInBounds_toArray, List.set_cons_zero, List.set_cons_succ]) | (refine ordN (by rfl) ?_; simp only [Act.put, List.setIfInBounds_toArray, List.set_cons_zero, List.set_cons_succ]) | (refine ordQ (v := ?_) (by rfl) (fun _ hSw => ?_) ?_; rotate_left; (focus (go_simp; (first | done | with_reducible rfl))); simp only [Act.put, List.setIfInBounds_toArray, List.set_cons_zero, List.set_cons_succ]))
  refine ordE ?_
  clear s1 s2 s3 s4
  have x51 := hx5.at1
  have y50 := hy5.at0
  go_wp2_with fail
  have g1 : (0 : Int) ≤ (n : Int) := by omega
  have g2 : (n : Int) ≤ (n : Int) := by omega
  have g3 : (n : Int) ≤ (c2 : Int) := by omega
  have r1 : Rd w5.drew (if c2 = n then A2 else A2.map (fun x => x.add n)) 0 (cu8 ([])) := by
    have h := (ho25.rd.cut (lo := n) (hi := n) (cap := c2) (by omega) (by omega) (by omega)).drew
    exact Rd.nil _ _
  refine wp_region_ord (S := fun w' => w'.cell? ⟨w.heap.size, 1, none⟩ = some (.slice A' n' c')) [(0, true), (1, true), (2, true), (4, true), (5, true), (7, true), (3, false), (6, false), (8, false), (9, true), (10, true), (11, true), (12, true), (13, true)] default (by kernel_rfl) (by kernel_rfl) (by kernel_rfl) x51 ?_
  simp only [getOrd, nth]
  repeat (first | (refine ordS (by rfl) ?_; simp only [Act.put, List.setIfInBounds_toArray, List.set_cons_zero, List.set_cons_succ]) | (refine ordN (by rfl) ?_; simp only [Act.put, List.setIfInBounds_toArray, List.set_cons_zero, List.set_cons_succ]) | (refine ordQ (v := ?_) (by rfl) (fun _ hSw => ?_) ?_; rotate_left; (focus (go_simp; (first | done | with_reducible rfl))); simp only [Act.put, List.setIfInBounds_toArray, List.set_cons_zero, List.set_cons_succ]))
  generalize (if c2 = n then A2 else A2.map (fun x => x.add n)) = A5 at r1 ⊢
  refine ordD (by rfl) ?_
  intro K hK
  refine wp_app _ _ _ _ rfl 5 i0 _ 1 Try.underlying22 hi0 hz0 hz1 hz2 rfl (w5.heap.size) none 0 0 [] (by rfl) (Own.none_ _ _ _ _) _ _ _ (cu8 ([])) (by rfl) (r1) (cu8_one _) (by simp only [maxLen]; omega) (by omega) (Nat.le_refl _) ?_
  intro A6 c6 w6 ho6 hb6 _ _
  refine hK _ _ ((hx5.drew.below hb6).at1) ?_
  clear hK K
  simp only [Act.put, List.setIfInBounds_toArray, List.set_cons_zero, List.set_cons_succ]
  refine ordD (by rfl) ?_
  intro K hK
  refine wp_app _ _ _ _ rfl 5 i0 _ 1 Try.underlying22 hi0 hz0 hz1 hz2 rfl (w5.heap.size) A6 (0 + 0) c6 _ (by rfl) (ho6) _ _ _ (cu8 bs') (by rfl) (hr5'.drew.below hb6) (cu8_one _) (by simp only [maxLen]; omega) (by omega) (hb6.size) ?_
  intro A7 c7 w7 ho7 hb7 _ _
  refine hK _ _ ((hx5.drew.below (hb6.trans hb7)).at1) ?_
  clear hK K
  simp only [Act.put, List.setIfInBounds_toArray, List.set_cons_zero, List.set_cons_succ]
  have hb67 := hb6.trans hb7
  have hx7 := hx5.drew.below hb67
  have hr7' := hr5'.drew.below hb67
  have hr7'' := hr5''.drew.below hb67
  have ho37 := ho35.drew.below hb67
  have hB7 : Below w.heap.size w w7 := hB5.drew.trans (hb67.mono hB5.size)
  have ho8 := ho7.rd
  have k8 := ho7.le
  have k8m := ho7.cap
  clear hb67 hb6 hb7 ho6 ho7 hx5 hy5 x51 y50 hr5' hr5'' ho25 ho35 hB5 r1
  simp only [Nat.zero_add] at k8 ⊢
  refine ordD (by rfl) ?_
  intro K hK
  go_simp
  refine (get_arg A7 n' c7 0 w7 (by omega)).mono ?_
  rintro e w8 ⟨rfl, rfl⟩
  go_wp2_with fail
  refine hK _ _ hx7.at1 ?_
  clear hK K ho8 k8 k8m
  try simp only [Act.put, List.setIfInBounds_toArray, List.set_cons_zero, List.set_cons_succ]
  repeat (first | (refine ordS (by rfl) ?_; simp only [Act.put, List.setIfInBounds_toArray, List.set_cons_zero, List.set_cons_succ]) | (refine ordN (by rfl) ?_; simp only [Act.put, List.setIfInBounds_toArray, List.set_cons_zero, List.set_cons_succ]) | (refine ordQ (v := ?_) (by rfl) (fun _ hSw => ?_) ?_; rotate_left; (focus (go_simp; (first | done | with_reducible rfl))); simp only [Act.put, List.setIfInBounds_toArray, List.set_cons_zero, List.set_cons_succ]))
  refine ordE ?_
  have x71 := hx7.at1
  clear g1 g2 g3
  go_wp2_with fail
  have g1 : (0 : Int) ≤ (n : Int) := by omega
  have g2 : (n : Int) ≤ (n : Int) + 1 + 4 * (m : Int) := by omega
  have g3 : (n : Int) + 1 + 4 * (m : Int) ≤ (c3 : Int) := by omega
  have r1 : Rd w7.drew (if c3 = n then A3 else A3.map (fun x => x.add n)) (n + 1 + 4 * m - n) (cu8 (putL zs)) := by
    have h := (ho37.rd.cut (lo := n) (hi := n + 1 + 4 * m) (cap := c3) (by omega) (by omega) (by omega)).drew
    rw [cu8_drop, cu8_take, List.drop_append_of_le_length (by rw [HLEN.out]; exact Nat.le_refl _), List.drop_of_length_le (by rw [HLEN.out]; exact Nat.le_refl _), List.nil_append, List.take_of_length_le (by rw [putL_len, HZ.out]; omega)] at h
    exact h
  have e0 : n + 1 + 4 * m - n = 1 + 4 * m := by omega
  refine wp_region_ord (S := fun w' => w'.cell? ⟨w.heap.size, 1, none⟩ = some (.slice A' n' c')) [(0, true), (1, true), (2, true), (4, true), (5, true), (3, false), (6, false), (7, false), (8, true), (9, true), (10, true), (11, true), (12, true), (13, true), (14, true)] default (by kernel_rfl) (by kernel_rfl) (by kernel_rfl) x71 ?_
  simp only [getOrd, nth]
  repeat (first | (refine ordS (by rfl) ?_; simp only [Act.put, List.setIfInBounds_toArray, List.set_cons_zero, List.set_cons_succ]) | (refine ordN (by rfl) ?_; simp only [Act.put, List.setIfInBounds_toArray, List.set_cons_zero, List.set_cons_succ]) | (refine ordQ (v := ?_) (by rfl) (fun _ hSw => ?_) ?_; rotate_left; (focus (go_simp; (first | done | with_reducible rfl))); simp only [Act.put, List.setIfInBounds_toArray, List.set_cons_zero, List.set_cons_succ]))
  generalize (if c3 = n then A3 else A3.map (fun x => x.add n)) = A55 at r1 ⊢
  rw [e0] at r1
  try simp only [e0]
  clear e0
  refine ordD (by rfl) ?_
  intro K hK
  refine wp_app _ _ _ _ rfl 5 i0 _ 1 Try.underlying22 hi0 hz0 hz1 hz2 rfl (w7.heap.size) none 0 0 [] (by rfl) (Own.none_ _ _ _ _) _ _ _ (cu8 (putL zs)) (by rfl) (r1) (cu8_one _) (by simp only [maxLen]; omega) (by omega) (Nat.le_refl _) ?_
  intro A8 c8 w8 ho8 hb8 _ _
  refine hK _ _ ((hx7.drew.below hb8).at1) ?_
  clear hK K
  simp only [Act.put, List.setIfInBounds_toArray, List.set_cons_zero, List.set_cons_succ]
  refine ordD (by rfl) ?_
  intro K hK
  refine wp_app _ _ _ _ rfl 5 i0 _ 1 Try.underlying22 hi0 hz0 hz1 hz2 rfl (w7.heap.size) A8 (0 + (1 + 4 * m)) c8 _ (by rfl) (ho8) _ _ _ (cu8 bs') (by rfl) (hr7'.drew.below hb8) (cu8_one _) (by simp only [maxLen]; omega) (by omega) (hb8.size) ?_
  intro A9 c9 w9 ho9 hb9 _ _
  refine hK _ _ ((hx7.drew.below (hb8.trans hb9)).at1) ?_
  clear hK K
  simp only [Act.put, List.setIfInBounds_toArray, List.set_cons_zero, List.set_cons_succ]
  have hb89 := hb8.trans hb9
  have hx9 := hx7.drew.below hb89
  have hr9'' := hr7''.drew.below hb89
  have hB9 : Below w.heap.size w w9 := hB7.drew.trans (hb89.mono hB7.size)
  have ho10 : Rd w9 A9 (1 + 4 * m + n') (cu8 (putL zs ++ bs')) := by
    have h := ho9.rd
    rw [List.nil_append, ← cu8_app, Nat.zero_add] at h
    exact h
  have k9 := ho9.le
  have k9m := ho9.cap
  clear hb89 hb8 hb9 ho8 ho9 hx7 x71 hr7' hr7'' ho37 hB7 r1 g1 g2 g3
  simp only [Nat.zero_add] at k9 ⊢
  refine ordD (by rfl) ?_
  intro K hK
  go_simp
  refine (getlist_ok A9 (1 + 4 * m + n') c9 _ w9 ho10 k9 k9m (by omega) m (by have h := l1.out; rw [HZ.out] at h; exact h) (by omega)).mono ?_
  rintro e w10 ⟨A10, c10, rfl, ho11, hb10⟩
  have hx10 := hx9.below hb10
  have hr10 := hr9''.below hb10
  have hB10 := hB9.trans (hb10.mono hB9.size)
  go_wp2_with fail
  refine hK _ _ hx10.at1 ?_
  clear hK K ho10 k9 k9m hx9 hr9'' hB9 hb10
  try simp only [Act.put, List.setIfInBounds_toArray, List.set_cons_zero, List.set_cons_succ]
  repeat (first | (refine ordS (by rfl) ?_; simp only [Act.put, List.setIfInBounds_toArray, List.set_cons_zero, List.set_cons_succ]) | (refine ordN (by rfl) ?_; simp only [Act.put, List.setIfInBounds_toArray, List.set_cons_zero, List.set_cons_succ]) | (refine ordQ (v := ?_) (by rfl) (fun _ hSw => ?_) ?_; rotate_left; (focus (go_simp; (first | done | with_reducible rfl))); simp only [Act.put, List.setIfInBounds_toArray, List.set_cons_zero, List.set_cons_succ]))
  refine ordE ?_
  clear hx10
  have hp : Rd w10 A10 m (ci64 (zs.map fun z => z % 4294967296)) := by
    have h := ho11.rd
    have h2 := l2.out
    rw [HZ.out] at h2
    rw [h2] at h
    exact h
  clear ho11
  go_wp2_with fail
  go_loopw [17] (fun i wr => ∃ j : Nat, j ≤ m ∧ i = .int .i64 j ∧ ∃ q, wr = w10.drewN q) (fun i _ => m - (intOf i).toNat)
  case atStart => exact ⟨0, Nat.zero_le _, rfl, 0, rfl⟩
  case round =>
    obtain ⟨j, hj, rfl, q, rfl⟩ := hrel
    by_cases hlt : j < m
    · have hjl : j < zs.length := by rw [HZ.out]; exact hlt
      obtain ⟨b0, o0, rfl, hb0, u0, hu0, hcell⟩ := hr10.get hlt
      rw [ci64_get zs j hjl] at hu0
      obtain rfl : iV zs[j] = u0 := by injection hu0
      obtain ⟨b1, o1, rfl, hb1, u1, hu1, hcell1⟩ := hp.get hlt
      rw [ci64_get _ j (by rw [List.length_map]; exact hjl), List.getElem_map] at hu1
      obtain rfl : iV (zs[j] % 4294967296) = u1 := by injection hu1
      have hc0 : w10.cell? ⟨b0, o0 + j, none⟩ = some (.int .i64 zs[j]) := hcell
      have hc1 : w10.cell? ⟨b1, o1 + j, none⟩ = some (.int .i64 (zs[j] % 4294967296)) := hcell1
      clear hcell hcell1 hu0 hu1
      generalize zs[j] = x at hc0 hc1
      have hx0 : 0 ≤ x % 4294967296 := Int.emod_nonneg _ (by omega)
      have hx1 : x % 4294967296 < 4294967296 := Int.emod_lt_of_pos _ (by omega)
      go_wp2
      go_quiet (fail)
      go_wp2
      go_roundw
      case rel => exact ⟨j + 1, by omega, by go_num, _, rfl⟩
      case measure => simp [intOf]; omega
    · obtain rfl : j = m := by omega
      go_wp2
      go_ret
      exact ⟨rfl, belowN hB10 _⟩

set_option maxRecDepth 100000 in
set_option maxHeartbeats 8000000 in
theorem walk_mid (A : Option Addr) (n c : Nat) (bs : List UInt8) (A' : Option Addr) (n' c' : Nat) (bs' : List UInt8) (N : Nat) (hN : N < 18446744073709551616) (mm : Nat) (kb1 : 0 < mm) (kb2 : mm < 8)
    (A'' : Option Addr) (m c'' : Nat) (zs : List Int) (w : World)
    (hr : Rd w A n (cu8 bs)) (hc2 : c ≤ maxLen) (hc : n ≤ c) (hr' : Rd w A' n' (cu8 bs')) (hc2' : c' ≤ maxLen) (hc' : n' ≤ c') (hr'' : Rd w A'' m (ci64 zs)) (hc2'' : c'' ≤ maxLen) (hc'' : m ≤ c'')
    (hn : n ≤ 9000) (hn' : n' ≤ 9000) (hm : m ≤ 255) :
    Calls Try.prog 3 #[.agg #[.slice A n c, .slice A' n' c'], .agg #[.int .u64 N, .int .i64 mm], .slice A'' m c''] w fun e w' => e = .returned (.bool true) ∧ Below w.heap.size w w' := by
  obtain ⟨i0, hi0, hz0, hz1, hz2⟩ := info_parts info_u8
  have hzl : zs.length = m := by have h := hr''.len; rw [ci64_len] at h; exact h
  have l1 := Lib.hid (list_many zs bs' (by omega))
  have l2 := Lib.hid (list_back zs bs' (by omega))
  have HZ := Lib.hid hzl
  clear hzl
  have h1 : decide (9000 < n) = false := by simp; omega
  have h2 : decide (9000 < n') = false := by simp; omega
  have h3 : decide (255 < m) = false := by simp; omega
  have hcm := hc2
  have hcm' := hc2'
  have hcm'' := hc2''
  unfold maxLen at hc2 hc2' hc2''
  go_enter Try.func3, Try.ntmps3
  go_wp2_with fail
  refine (alive_any _).mono ?_
  rintro e w1 ⟨rfl, hb1⟩
  have hx1 : Bx w1 w.heap.size [.slice A n c, .slice A' n' c'] := ((Bx.new w _ _ _).alloc _).below hb1
  have hy1 : Bx w1 (w.heap.size + 1) [.int .u64 N, .int .i64 mm] := (Bx.new_at _ _ _ _ _ (by simp)).below hb1
  have hr1 := ((hr.alloc _).alloc _).below hb1
  have hr1' := ((hr'.alloc _).alloc _).below hb1
  have hr1'' := ((hr''.alloc _).alloc _).below hb1
  have hB1 := (((Below.refl _ w).alloc (Nat.le_refl _) _).alloc (by simp) _).trans (hb1.mono (by simp; omega))
  clear hb1 hr hr' hr''
  have x10 := hx1.at0
  have x11 := hx1.at1
  have y10 := hy1.at0
  have y11 := hy1.at1
  go_wp2_with fail
  refine (put_at A n c bs N hN mm (by omega) (by omega) w1 hr1 (by omega) mm (by omega)).mono ?_
  rintro e w2 ⟨A2, c2, rfl, ho2, hb2⟩
  have hx2 := hx1.below hb2
  have hy2 := hy1.below hb2
  have hr2 := hr1.below hb2
  have hr2' := hr1'.below hb2
  have hr2'' := hr1''.below hb2
  have hB2 := hB1.trans (hb2.mono hB1.size)
  clear hb2 x10 x11 y10 y11 hx1 hy1 hr1 hr1' hr1''
  have x20 := hx2.at0
  go_wp2_with fail
  refine (putlist_le A n c bs A'' m c'' zs w2 hr2 (by omega) hr2'' hc'' hcm'' hm).mono ?_
  rintro e w3 ⟨A3, c3, rfl, ho3, hb3⟩
  have hx3 := hx2.below hb3
  have hy3 := hy2.below hb3
  have hr3 := hr2.below hb3
  have hr3' := hr2'.below hb3
  have hr3'' := hr2''.below hb3
  have ho23 := ho2.below hb3
  have hB3 := hB2.trans (hb3.mono hB2.size)
  clear hb3 x20 hx2 hy2 hr2 hr2' hr2'' ho2
  have x30 := hx3.at0
  have k2 := ho23.le
  have k2m := ho23.cap
  have k3 := ho3.le
  have k3m := ho3.cap
  have k2i : (n : Int) ≤ (c2 : Int) := by omega
  have k3i : (n : Int) ≤ (c3 : Int) := by omega
  have k0i : (0 : Int) ≤ (n : Int) := by omega
  have q1 := (ho23.rd.take (hi := n) (by omega)).drew
  have q2 := (ho3.rd.take (hi := n) (by omega)).drew
  have hlen : bs.length = n := by have h := hr3.len; rw [cu8_len] at h; exact h
  rw [cu8_take, List.take_append_of_le_length (by omega), List.take_of_length_le (by omega)] at q1 q2
  have HLEN := Lib.hid hlen
  clear hlen
  have hs3 := hr3.drew
  go_wp2_with fail
  have s1 : IntKind.i64.wrap ((n : Int) + (mm : Int)) = (n : Int) + (mm : Int) := IntWalk.i64_in _ (by omega)
  have s2 : IntKind.i64.wrap ((n : Int) + 1) = (n : Int) + 1 := IntWalk.i64_in _ (by omega)
  have s3 : IntKind.i64.wrap (4 * (m : Int)) = 4 * (m : Int) := IntWalk.i64_in _ (by omega)
  have s4 : IntKind.i64.wrap ((n : Int) + 1 + 4 * (m : Int)) = (n : Int) + 1 + 4 * (m : Int) := IntWalk.i64_in _ (by omega)
  refine wp_region_ord (S := fun w' => w'.cell? ⟨w.heap.size, 0, none⟩ = some (.slice A n c)) [(0, true), (1, true), (2, true), (3, true), (4, true), (5, true), (6, true), (7, true), (8, true), (9, true), (10, true), (11, true), (12, true), (13, true), (14, true), (15, true), (16, true), (17, true), (18, true), (19, true), (20, true), (21, true), (22, true), (23, false), (24, true), (25, true), (26, true), (27, true), (28, true), (29, true), (30, true), (31, true), (32, false), (33, true), (34, true)] default (by kernel_rfl) (by kernel_rfl) (by kernel_rfl) x30 ?_
  simp only [getOrd, nth]
  repeat (first | (refine ordS (by rfl) ?_; simp only [Act.put, List.setIfInBounds_toArray, List.set_cons_zero, List.set_cons_succ]) | (refine ordN (by rfl) ?_; simp only [Act.put, List.setIfInBounds_toArray, List.set_cons_zero, List.set_cons_succ]) | (refine ordQ (v := ?_) (by rfl) (fun _ hSw => ?_) ?_; rotate_left; (focus (go_simp; (first | done | with_reducible rfl))); simp only [Act.put, List.setIfInBounds_toArray, List.set_cons_zero, List.set_cons_succ]))
  refine ordD (by rfl) ?_
  intro K hK
  go_simp
  refine (samebytes_eqB _ n _ _ _ _ _ q1 hs3 (by unfold maxLen <;> omega)).mono ?_
  rintro e w4 ⟨rfl, hb4⟩
  have hx4 := hx3.drew.below hb4
  have hy4 := hy3.drew.below hb4
  have hr4 := hr3.drew.below hb4
  have hr4' := hr3'.drew.below hb4
  have hr4'' := hr3''.drew.below hb4
  have ho24 := ho23.drew.below hb4
  have ho34 := ho3.drew.below hb4
  have q3 := q2.below hb4
  have hB4 : Below w.heap.size w w4 := hB3.drew.trans (hb4.mono hB3.size)
  go_wp2_with fail
  refine hK _ _ hx4.at0 ?_
  clear hK K hb4 hx3 hy3 hr3 hr3' hr3'' ho23 ho3 q1 q2 hs3 x30
  try simp only [Act.put, List.setIfInBounds_toArray, List.set_cons_zero, List.set_cons_succ]
  repeat (first | (refine ordS (by rfl) ?_; simp only [Act.put, List.setIfInBounds_toArray, List.set_cons_zero, List.set_cons_succ]) | (refine ordN (by rfl) ?_; simp only [Act.put, List.setIfInBounds_toArray, List.set_cons_zero, List.set_cons_succ]) | (refine ordQ (v := ?_) (by rfl) (fun _ hSw => ?_) ?_; rotate_left; (focus (go_simp; (first | done | with_reducible rfl))); simp only [Act.put, List.setIfInBounds_toArray, List.set_cons_zero, List.set_cons_succ]))
  refine ordD (by rfl) ?_
  intro K hK
  go_simp
  refine (samebytes_eqB _ n _ _ _ _ _ q3 hr4 (by unfold maxLen <;> omega)).mono ?_
  rintro e w5 ⟨rfl, hb5⟩
  have hx5 := hx4.below hb5
  have hy5 := hy4.below hb5
  have hr5' := hr4'.below hb5
  have hr5'' := hr4''.below hb5
  have ho25 := ho24.below hb5
  have ho35 := ho34.below hb5
  have hB5 := hB4.trans (hb5.mono hB4.size)
  go_wp2_with fail
  refine hK _ _ hx5.at0 ?_
  clear hK K hb5 hx4 hy4 hr4 hr4' hr4'' ho24 ho34 q3
  try simp only [Act.put, List.setIfInBounds_toArray, List.set_cons_zero, List.set_cons_succ]
  repeat (first | (refine ordS (by rfl) ?_; simp only [Act.put, List.setIfInBounds_toArray, List.set_cons_zero, List.set_cons_succ]) | (refine ordN (by rfl) ?_; simp only [Act.put, List.setIfInBounds_toArray, List.set_cons_zero, List.set_cons_succ]) | (refine ordQ (v := ?_) (by rfl) (fun _ hSw => ?_) ?_; rotate_left; (focus (go_simp; (first | done | with_reducible rfl))); simp only [Act.put, List.setIfInBounds_toArray, List.set_cons_zero, List.set_cons_succ]))
  refine ordE ?_
  clear s1 s2 s3 s4
  have x51 := hx5.at1
  have y50 := hy5.at0
  have e11 := want_mid N mm hN kb2
  have V0 := Lib.hid (show getN ((putB N mm ++ bs').take mm) = N % 2 ^ (8 * mm) by
    rw [List.take_append_of_le_length (by rw [putB_len]; exact Nat.le_refl _), List.take_of_length_le (by rw [putB_len]; exact Nat.le_refl _), getN_put])
  generalize N % 2 ^ (8 * mm) = V at e11 V0
  go_wp2_with fail
  try simp only [e11]
  clear e11
  have g1 : (0 : Int) ≤ (n : Int) := by omega
  have g2 : (n : Int) ≤ (n : Int) + (mm : Int) := by omega
  have g3 : (n : Int) + (mm : Int) ≤ (c2 : Int) := by omega
  have r1 : Rd w5.drew (if c2 = n then A2 else A2.map (fun x => x.add n)) mm (cu8 (putB N mm)) := by
    have h := (ho25.rd.cut (lo := n) (hi := n + mm) (cap := c2) (by omega) (by omega) (by omega)).drew
    rw [show n + mm - n = mm by omega, cu8_drop, cu8_take, List.drop_append_of_le_length (by rw [HLEN.out]; exact Nat.le_refl _), List.drop_of_length_le (by rw [HLEN.out]; exact Nat.le_refl _), List.nil_append, List.take_of_length_le (by rw [putB_len]; exact Nat.le_refl _)] at h
    exact h
  refine wp_region_ord (S := fun w' => w'.cell? ⟨w.heap.size, 1, none⟩ = some (.slice A' n' c')) [(0, true), (1, true), (2, true), (4, true), (5, true), (7, true), (3, false), (6, false), (8, false), (9, true), (10, true), (11, true), (12, true), (13, true)] default (by kernel_rfl) (by kernel_rfl) (by kernel_rfl) x51 ?_
  simp only [getOrd, nth]
  repeat (first | (refine ordS (by rfl) ?_; simp only [Act.put, List.setIfInBounds_toArray, List.set_cons_zero, List.set_cons_succ]) | (refine ordN (by rfl) ?_; simp only [Act.put, List.setIfInBounds_toArray, List.set_cons_zero, List.set_cons_succ]) | (refine ordQ (v := ?_) (by rfl) (fun _ hSw => ?_) ?_; rotate_left; (focus (go_simp; (first | done | with_reducible rfl))); simp only [Act.put, List.setIfInBounds_toArray, List.set_cons_zero, List.set_cons_succ]))
  generalize (if c2 = n then A2 else A2.map (fun x => x.add n)) = A5 at r1 ⊢
  refine ordD (by rfl) ?_
  intro K hK
  refine wp_app _ _ _ _ rfl 5 i0 _ 1 Try.underlying22 hi0 hz0 hz1 hz2 rfl (w5.heap.size) none 0 0 [] (by rfl) (Own.none_ _ _ _ _) _ _ _ (cu8 (putB N mm)) (by rfl) (r1) (cu8_one _) (by simp only [maxLen]; omega) (by omega) (Nat.le_refl _) ?_
  intro A6 c6 w6 ho6 hb6 _ _
  refine hK _ _ ((hx5.drew.below hb6).at1) ?_
  clear hK K
  simp only [Act.put, List.setIfInBounds_toArray, List.set_cons_zero, List.set_cons_succ]
  refine ordD (by rfl) ?_
  intro K hK
  refine wp_app _ _ _ _ rfl 5 i0 _ 1 Try.underlying22 hi0 hz0 hz1 hz2 rfl (w5.heap.size) A6 (0 + mm) c6 _ (by rfl) (ho6) _ _ _ (cu8 bs') (by rfl) (hr5'.drew.below hb6) (cu8_one _) (by simp only [maxLen]; omega) (by omega) (hb6.size) ?_
  intro A7 c7 w7 ho7 hb7 _ _
  refine hK _ _ ((hx5.drew.below (hb6.trans hb7)).at1) ?_
  clear hK K
  simp only [Act.put, List.setIfInBounds_toArray, List.set_cons_zero, List.set_cons_succ]
  have hb67 := hb6.trans hb7
  have hx7 := hx5.drew.below hb67
  have hr7' := hr5'.drew.below hb67
  have hr7'' := hr5''.drew.below hb67
  have ho37 := ho35.drew.below hb67
  have hB7 : Below w.heap.size w w7 := hB5.drew.trans (hb67.mono hB5.size)
  have ho8 : Rd w7 A7 (mm + n') (cu8 ((putB N mm) ++ bs')) := by
    have h := ho7.rd
    rw [List.nil_append, ← cu8_app, Nat.zero_add] at h
    exact h
  have k8 := ho7.le
  have k8m := ho7.cap
  clear hb67 hb6 hb7 ho6 ho7 hx5 hy5 x51 y50 hr5' hr5'' ho25 ho35 hB5 r1
  simp only [Nat.zero_add] at k8 ⊢
  refine ordD (by rfl) ?_
  intro K hK
  go_simp
  refine (get_eq A7 (mm + n') c7 _ mm V w7 ho8 k8 k8m (by omega) (by omega) (by omega) V0.out).mono ?_
  rintro e w8 ⟨rfl, rfl⟩
  go_wp2_with fail
  refine hK _ _ hx7.at1 ?_
  clear hK K ho8 k8 k8m
  try simp only [Act.put, List.setIfInBounds_toArray, List.set_cons_zero, List.set_cons_succ]
  repeat (first | (refine ordS (by rfl) ?_; simp only [Act.put, List.setIfInBounds_toArray, List.set_cons_zero, List.set_cons_succ]) | (refine ordN (by rfl) ?_; simp only [Act.put, List.setIfInBounds_toArray, List.set_cons_zero, List.set_cons_succ]) | (refine ordQ (v := ?_) (by rfl) (fun _ hSw => ?_) ?_; rotate_left; (focus (go_simp; (first | done | with_reducible rfl))); simp only [Act.put, List.setIfInBounds_toArray, List.set_cons_zero, List.set_cons_succ]))
  refine ordE ?_
  have x71 := hx7.at1
  clear g1 g2 g3
  go_wp2_with fail
  have g1 : (0 : Int) ≤ (n : Int) := by omega
  have g2 : (n : Int) ≤ (n : Int) + 1 + 4 * (m : Int) := by omega
  have g3 : (n : Int) + 1 + 4 * (m : Int) ≤ (c3 : Int) := by omega
  have r1 : Rd w7.drew (if c3 = n then A3 else A3.map (fun x => x.add n)) (n + 1 + 4 * m - n) (cu8 (putL zs)) := by
    have h := (ho37.rd.cut (lo := n) (hi := n + 1 + 4 * m) (cap := c3) (by omega) (by omega) (by omega)).drew
    rw [cu8_drop, cu8_take, List.drop_append_of_le_length (by rw [HLEN.out]; exact Nat.le_refl _), List.drop_of_length_le (by rw [HLEN.out]; exact Nat.le_refl _), List.nil_append, List.take_of_length_le (by rw [putL_len, HZ.out]; omega)] at h
    exact h
  have e0 : n + 1 + 4 * m - n = 1 + 4 * m := by omega
  refine wp_region_ord (S := fun w' => w'.cell? ⟨w.heap.size, 1, none⟩ = some (.slice A' n' c')) [(0, true), (1, true), (2, true), (4, true), (5, true), (3, false), (6, false), (7, false), (8, true), (9, true), (10, true), (11, true), (12, true), (13, true), (14, true)] default (by kernel_rfl) (by kernel_rfl) (by kernel_rfl) x71 ?_
  simp only [getOrd, nth]
  repeat (first | (refine ordS (by rfl) ?_; simp only [Act.put, List.setIfInBounds_toArray, List.set_cons_zero, List.set_cons_succ]) | (refine ordN (by rfl) ?_; simp only [Act.put, List.setIfInBounds_toArray, List.set_cons_zero, List.set_cons_succ]) | (refine ordQ (v := ?_) (by rfl) (fun _ hSw => ?_) ?_; rotate_left; (focus (go_simp; (first | done | with_reducible rfl))); simp only [Act.put, List.setIfInBounds_toArray, List.set_cons_zero, List.set_cons_succ]))
  generalize (if c3 = n then A3 else A3.map (fun x => x.add n)) = A55 at r1 ⊢
  rw [e0] at r1
  try simp only [e0]
  clear e0
  refine ordD (by rfl) ?_
  intro K hK
  refine wp_app _ _ _ _ rfl 5 i0 _ 1 Try.underlying22 hi0 hz0 hz1 hz2 rfl (w7.heap.size) none 0 0 [] (by rfl) (Own.none_ _ _ _ _) _ _ _ (cu8 (putL zs)) (by rfl) (r1) (cu8_one _) (by simp only [maxLen]; omega) (by omega) (Nat.le_refl _) ?_
  intro A8 c8 w8 ho8 hb8 _ _
  refine hK _ _ ((hx7.drew.below hb8).at1) ?_
  clear hK K
  simp only [Act.put, List.setIfInBounds_toArray, List.set_cons_zero, List.set_cons_succ]
  refine ordD (by rfl) ?_
  intro K hK
  refine wp_app _ _ _ _ rfl 5 i0 _ 1 Try.underlying22 hi0 hz0 hz1 hz2 rfl (w7.heap.size) A8 (0 + (1 + 4 * m)) c8 _ (by rfl) (ho8) _ _ _ (cu8 bs') (by rfl) (hr7'.drew.below hb8) (cu8_one _) (by simp only [maxLen]; omega) (by omega) (hb8.size) ?_
  intro A9 c9 w9 ho9 hb9 _ _
  refine hK _ _ ((hx7.drew.below (hb8.trans hb9)).at1) ?_
  clear hK K
  simp only [Act.put, List.setIfInBounds_toArray, List.set_cons_zero, List.set_cons_succ]
  have hb89 := hb8.trans hb9
  have hx9 := hx7.drew.below hb89
  have hr9'' := hr7''.drew.below hb89
  have hB9 : Below w.heap.size w w9 := hB7.drew.trans (hb89.mono hB7.size)
  have ho10 : Rd w9 A9 (1 + 4 * m + n') (cu8 (putL zs ++ bs')) := by
    have h := ho9.rd
    rw [List.nil_append, ← cu8_app, Nat.zero_add] at h
    exact h
  have k9 := ho9.le
  have k9m := ho9.cap
  clear hb89 hb8 hb9 ho8 ho9 hx7 x71 hr7' hr7'' ho37 hB7 r1 g1 g2 g3
  simp only [Nat.zero_add] at k9 ⊢
  refine ordD (by rfl) ?_
  intro K hK
  go_simp
  refine (getlist_ok A9 (1 + 4 * m + n') c9 _ w9 ho10 k9 k9m (by omega) m (by have h := l1.out; rw [HZ.out] at h; exact h) (by omega)).mono ?_
  rintro e w10 ⟨A10, c10, rfl, ho11, hb10⟩
  have hx10 := hx9.below hb10
  have hr10 := hr9''.below hb10
  have hB10 := hB9.trans (hb10.mono hB9.size)
  go_wp2_with fail
  refine hK _ _ hx10.at1 ?_
  clear hK K ho10 k9 k9m hx9 hr9'' hB9 hb10
  try simp only [Act.put, List.setIfInBounds_toArray, List.set_cons_zero, List.set_cons_succ]
  repeat (first | (refine ordS (by rfl) ?_; simp only [Act.put, List.setIfInBounds_toArray, List.set_cons_zero, List.set_cons_succ]) | (refine ordN (by rfl) ?_; simp only [Act.put, List.setIfInBounds_toArray, List.set_cons_zero, List.set_cons_succ]) | (refine ordQ (v := ?_) (by rfl) (fun _ hSw => ?_) ?_; rotate_left; (focus (go_simp; (first | done | with_reducible rfl))); simp only [Act.put, List.setIfInBounds_toArray, List.set_cons_zero, List.set_cons_succ]))
  refine ordE ?_
  clear hx10
  have hp : Rd w10 A10 m (ci64 (zs.map fun z => z % 4294967296)) := by
    have h := ho11.rd
    have h2 := l2.out
    rw [HZ.out] at h2
    rw [h2] at h
    exact h
  clear ho11
  go_wp2_with fail
  go_loopw [17] (fun i wr => ∃ j : Nat, j ≤ m ∧ i = .int .i64 j ∧ ∃ q, wr = w10.drewN q) (fun i _ => m - (intOf i).toNat)
  case atStart => exact ⟨0, Nat.zero_le _, rfl, 0, rfl⟩
  case round =>
    obtain ⟨j, hj, rfl, q, rfl⟩ := hrel
    by_cases hlt : j < m
    · have hjl : j < zs.length := by rw [HZ.out]; exact hlt
      obtain ⟨b0, o0, rfl, hb0, u0, hu0, hcell⟩ := hr10.get hlt
      rw [ci64_get zs j hjl] at hu0
      obtain rfl : iV zs[j] = u0 := by injection hu0
      obtain ⟨b1, o1, rfl, hb1, u1, hu1, hcell1⟩ := hp.get hlt
      rw [ci64_get _ j (by rw [List.length_map]; exact hjl), List.getElem_map] at hu1
      obtain rfl : iV (zs[j] % 4294967296) = u1 := by injection hu1
      have hc0 : w10.cell? ⟨b0, o0 + j, none⟩ = some (.int .i64 zs[j]) := hcell
      have hc1 : w10.cell? ⟨b1, o1 + j, none⟩ = some (.int .i64 (zs[j] % 4294967296)) := hcell1
      clear hcell hcell1 hu0 hu1
      generalize zs[j] = x at hc0 hc1
      have hx0 : 0 ≤ x % 4294967296 := Int.emod_nonneg _ (by omega)
      have hx1 : x % 4294967296 < 4294967296 := Int.emod_lt_of_pos _ (by omega)
      go_wp2
      go_quiet (fail)
      go_wp2
      go_roundw
      case rel => exact ⟨j + 1, by omega, by go_num, _, rfl⟩
      case measure => simp [intOf]; omega
    · obtain rfl : j = m := by omega
      go_wp2
      go_ret
      exact ⟨rfl, belowN hB10 _⟩

set_option maxRecDepth 100000 in
set_option maxHeartbeats 8000000 in
theorem walk_big (A : Option Addr) (n c : Nat) (bs : List UInt8) (A' : Option Addr) (n' c' : Nat) (bs' : List UInt8) (N : Nat) (hN : N < 18446744073709551616) (z : Int) (kb1 : 8 ≤ z) (kb2 : z ≤ 9223372036854775807)
    (A'' : Option Addr) (m c'' : Nat) (zs : List Int) (w : World)
    (hr : Rd w A n (cu8 bs)) (hc2 : c ≤ maxLen) (hc : n ≤ c) (hr' : Rd w A' n' (cu8 bs')) (hc2' : c' ≤ maxLen) (hc' : n' ≤ c') (hr'' : Rd w A'' m (ci64 zs)) (hc2'' : c'' ≤ maxLen) (hc'' : m ≤ c'')
    (hn : n ≤ 9000) (hn' : n' ≤ 9000) (hm : m ≤ 255) :
    Calls Try.prog 3 #[.agg #[.slice A n c, .slice A' n' c'], .agg #[.int .u64 N, .int .i64 z], .slice A'' m c''] w fun e w' => e = .returned (.bool true) ∧ Below w.heap.size w w' := by
  obtain ⟨i0, hi0, hz0, hz1, hz2⟩ := info_parts info_u8
  have hzl : zs.length = m := by have h := hr''.len; rw [ci64_len] at h; exact h
  have l1 := Lib.hid (list_many zs bs' (by omega))
  have l2 := Lib.hid (list_back zs bs' (by omega))
  have HZ := Lib.hid hzl
  clear hzl
  have h1 : decide (9000 < n) = false := by simp; omega
  have h2 : decide (9000 < n') = false := by simp; omega
  have h3 : decide (255 < m) = false := by simp; omega
  have hcm := hc2
  have hcm' := hc2'
  have hcm'' := hc2''
  unfold maxLen at hc2 hc2' hc2''
  go_enter Try.func3, Try.ntmps3
  go_wp2_with fail
  refine (alive_any _).mono ?_
  rintro e w1 ⟨rfl, hb1⟩
  have hx1 : Bx w1 w.heap.size [.slice A n c, .slice A' n' c'] := ((Bx.new w _ _ _).alloc _).below hb1
  have hy1 : Bx w1 (w.heap.size + 1) [.int .u64 N, .int .i64 z] := (Bx.new_at _ _ _ _ _ (by simp)).below hb1
  have hr1 := ((hr.alloc _).alloc _).below hb1
  have hr1' := ((hr'.alloc _).alloc _).below hb1
  have hr1'' := ((hr''.alloc _).alloc _).below hb1
  have hB1 := (((Below.refl _ w).alloc (Nat.le_refl _) _).alloc (by simp) _).trans (hb1.mono (by simp; omega))
  clear hb1 hr hr' hr''
  have x10 := hx1.at0
  have x11 := hx1.at1
  have y10 := hy1.at0
  have y11 := hy1.at1
  go_wp2_with fail
  refine (put_at A n c bs N hN z (by omega) (by omega) w1 hr1 (by omega) 8 (by omega)).mono ?_
  rintro e w2 ⟨A2, c2, rfl, ho2, hb2⟩
  have hx2 := hx1.below hb2
  have hy2 := hy1.below hb2
  have hr2 := hr1.below hb2
  have hr2' := hr1'.below hb2
  have hr2'' := hr1''.below hb2
  have hB2 := hB1.trans (hb2.mono hB1.size)
  clear hb2 x10 x11 y10 y11 hx1 hy1 hr1 hr1' hr1''
  have x20 := hx2.at0
  go_wp2_with fail
  refine (putlist_le A n c bs A'' m c'' zs w2 hr2 (by omega) hr2'' hc'' hcm'' hm).mono ?_
  rintro e w3 ⟨A3, c3, rfl, ho3, hb3⟩
  have hx3 := hx2.below hb3
  have hy3 := hy2.below hb3
  have hr3 := hr2.below hb3
  have hr3' := hr2'.below hb3
  have hr3'' := hr2''.below hb3
  have ho23 := ho2.below hb3
  have hB3 := hB2.trans (hb3.mono hB2.size)
  clear hb3 x20 hx2 hy2 hr2 hr2' hr2'' ho2
  have x30 := hx3.at0
  have k2 := ho23.le
  have k2m := ho23.cap
  have k3 := ho3.le
  have k3m := ho3.cap
  have k2i : (n : Int) ≤ (c2 : Int) := by omega
  have k3i : (n : Int) ≤ (c3 : Int) := by omega
  have k0i : (0 : Int) ≤ (n : Int) := by omega
  have q1 := (ho23.rd.take (hi := n) (by omega)).drew
  have q2 := (ho3.rd.take (hi := n) (by omega)).drew
  have hlen : bs.length = n := by have h := hr3.len; rw [cu8_len] at h; exact h
  rw [cu8_take, List.take_append_of_le_length (by omega), List.take_of_length_le (by omega)] at q1 q2
  have HLEN := Lib.hid hlen
  clear hlen
  have hs3 := hr3.drew
  go_wp2_with fail
  have s1 : IntKind.i64.wrap ((n : Int) + 8) = (n : Int) + 8 := IntWalk.i64_in _ (by omega)
  have s2 : IntKind.i64.wrap ((n : Int) + 1) = (n : Int) + 1 := IntWalk.i64_in _ (by omega)
  have s3 : IntKind.i64.wrap (4 * (m : Int)) = 4 * (m : Int) := IntWalk.i64_in _ (by omega)
  have s4 : IntKind.i64.wrap ((n : Int) + 1 + 4 * (m : Int)) = (n : Int) + 1 + 4 * (m : Int) := IntWalk.i64_in _ (by omega)
  refine wp_region_ord (S := fun w' => w'.cell? ⟨w.heap.size, 0, none⟩ = some (.slice A n c)) [(0, true), (1, true), (2, true), (3, true), (4, true), (5, true), (6, true), (7, true), (8, true), (9, true), (10, true), (11, true), (12, true), (13, true), (14, true), (15, true), (16, true), (17, true), (18, true), (19, true), (20, true), (21, true), (22, true), (23, false), (24, true), (25, true), (26, true), (27, true), (28, true), (29, true), (30, true), (31, true), (32, false), (33, true), (34, true)] default (by kernel_rfl) (by kernel_rfl) (by kernel_rfl) x30 ?_
  simp only [getOrd, nth]
  repeat (first | (refine ordS (by rfl) ?_; simp only [Act.put, List.setIfInBounds_toArray, List.set_cons_zero, List.set_cons_succ]) | (refine ordN (by rfl) ?_; simp only [Act.put, List.setIfInBounds_toArray, List.set_cons_zero, List.set_cons_succ]) | (refine ordQ (v := ?_) (by rfl) (fun _ hSw => ?_) ?_; rotate_left; (focus (go_simp; (first | done | with_reducible rfl))); simp only [Act.put, List.setIfInBounds_toArray, List.set_cons_zero, List.set_cons_succ]))
  refine ordD (by rfl) ?_
  intro K hK
  go_simp
  refine (samebytes_eqB _ n _ _ _ _ _ q1 hs3 (by unfold maxLen <;> omega)).mono ?_
  rintro e w4 ⟨rfl, hb4⟩
  have hx4 := hx3.drew.below hb4
  have hy4 := hy3.drew.below hb4
  have hr4 := hr3.drew.below hb4
  have hr4' := hr3'.drew.below hb4
  have hr4'' := hr3''.drew.below hb4
  have ho24 := ho23.drew.below hb4
  have ho34 := ho3.drew.below hb4
  have q3 := q2.below hb4
  have hB4 : Below w.heap.size w w4 := hB3.drew.trans (hb4.mono hB3.size)
  go_wp2_with fail
  refine hK _ _ hx4.at0 ?_
  clear hK K hb4 hx3 hy3 hr3 hr3' hr3'' ho23 ho3 q1 q2 hs3 x30
  try simp only [Act.put, List.setIfInBounds_toArray, List.set_cons_zero, List.set_cons_succ]
  repeat (first | (refine ordS (by rfl) ?_; simp only [Act.put, List.setIfInBounds_toArray, List.set_cons_zero, List.set_cons_succ]) | (refine ordN (by rfl) ?_; simp only [Act.put, List.setIfInBounds_toArray, List.set_cons_zero, List.set_cons_succ]) | (refine ordQ (v := ?_) (by rfl) (fun _ hSw => ?_) ?_; rotate_left; (focus (go_simp; (first | done | with_reducible rfl))); simp only [Act.put, List.setIfInBounds_toArray, List.set_cons_zero, List.set_cons_succ]))
  refine ordD (by rfl) ?_
  intro K hK
  go_simp
  refine (samebytes_eqB _ n _ _ _ _ _ q3 hr4 (by unfold maxLen <;> omega)).mono ?_
  rintro e w5 ⟨rfl, hb5⟩
  have hx5 := hx4.below hb5
  have hy5 := hy4.below hb5
  have hr5' := hr4'.below hb5
  have hr5'' := hr4''.below hb5
  have ho25 := ho24.below hb5
  have ho35 := ho34.below hb5
  have hB5 := hB4.trans (hb5.mono hB4.size)
  go_wp2_with fail
  refine hK _ _ hx5.at0 ?_
  clear hK K hb5 hx4 hy4 hr4 hr4' hr4'' ho24 ho34 q3
  try simp only [Act.put, List.setIfInBounds_toArray, List.set_cons_zero, List.set_cons_succ]
  repeat (first | (refine ordS (by rfl) ?_; simp only [Act.put, List.setIfInBounds_toArray, List.set_cons_zero, List.set_cons_succ]) | (refine ordN (by rfl) ?_; simp only [Act.put, List.setIfInBounds_toArray, List.set_cons_zero, List.set_cons_succ]) | (refine ordQ (v := ?_) (by rfl) (fun _ hSw => ?_) ?_; rotate_left; (focus (go_simp; (first | done | with_reducible rfl))); simp only [Act.put, List.setIfInBounds_toArray, List.set_cons_zero, List.set_cons_succ]))
  refine ordE ?_
  clear s1 s2 s3 s4
  have x51 := hx5.at1
  have y50 := hy5.at0
  have V0 := Lib.hid (show getN ((putB N 8 ++ bs').take 8) = N by
    rw [List.take_append_of_le_length (by rw [putB_len]; exact Nat.le_refl _), List.take_of_length_le (by rw [putB_len]; exact Nat.le_refl _), getN_put]
    exact Nat.mod_eq_of_lt hN)
  go_wp2_with fail
  have g1 : (0 : Int) ≤ (n : Int) := by omega
  have g2 : (n : Int) ≤ (n : Int) + 8 := by omega
  have g3 : (n : Int) + 8 ≤ (c2 : Int) := by omega
  have r1 : Rd w5.drew (if c2 = n then A2 else A2.map (fun x => x.add n)) 8 (cu8 (putB N 8)) := by
    have h := (ho25.rd.cut (lo := n) (hi := n + 8) (cap := c2) (by omega) (by omega) (by omega)).drew
    rw [show n + 8 - n = 8 by omega, cu8_drop, cu8_take, List.drop_append_of_le_length (by rw [HLEN.out]; exact Nat.le_refl _), List.drop_of_length_le (by rw [HLEN.out]; exact Nat.le_refl _), List.nil_append, List.take_of_length_le (by rw [putB_len]; exact Nat.le_refl _)] at h
    exact h
  refine wp_region_ord (S := fun w' => w'.cell? ⟨w.heap.size, 1, none⟩ = some (.slice A' n' c')) [(0, true), (1, true), (2, true), (4, true), (5, true), (7, true), (3, false), (6, false), (8, false), (9, true), (10, true), (11, true), (12, true), (13, true)] default (by kernel_rfl) (by kernel_rfl) (by kernel_rfl) x51 ?_
  simp only [getOrd, nth]
  repeat (first | (refine ordS (by rfl) ?_; simp only [Act.put, List.setIfInBounds_toArray, List.set_cons_zero, List.set_cons_succ]) | (refine ordN (by rfl) ?_; simp only [Act.put, List.setIfInBounds_toArray, List.set_cons_zero, List.set_cons_succ]) | (refine ordQ (v := ?_) (by rfl) (fun _ hSw => ?_) ?_; rotate_left; (focus (go_simp; (first | done | with_reducible rfl))); simp only [Act.put, List.setIfInBounds_toArray, List.set_cons_zero, List.set_cons_succ]))
  generalize (if c2 = n then A2 else A2.map (fun x => x.add n)) = A5 at r1 ⊢
  refine ordD (by rfl) ?_
  intro K hK
  refine wp_app _ _ _ _ rfl 5 i0 _ 1 Try.underlying22 hi0 hz0 hz1 hz2 rfl (w5.heap.size) none 0 0 [] (by rfl) (Own.none_ _ _ _ _) _ _ _ (cu8 (putB N 8)) (by rfl) (r1) (cu8_one _) (by simp only [maxLen]; omega) (by omega) (Nat.le_refl _) ?_
  intro A6 c6 w6 ho6 hb6 _ _
  refine hK _ _ ((hx5.drew.below hb6).at1) ?_
  clear hK K
  simp only [Act.put, List.setIfInBounds_toArray, List.set_cons_zero, List.set_cons_succ]
  refine ordD (by rfl) ?_
  intro K hK
  refine wp_app _ _ _ _ rfl 5 i0 _ 1 Try.underlying22 hi0 hz0 hz1 hz2 rfl (w5.heap.size) A6 (0 + 8) c6 _ (by rfl) (ho6) _ _ _ (cu8 bs') (by rfl) (hr5'.drew.below hb6) (cu8_one _) (by simp only [maxLen]; omega) (by omega) (hb6.size) ?_
  intro A7 c7 w7 ho7 hb7 _ _
  refine hK _ _ ((hx5.drew.below (hb6.trans hb7)).at1) ?_
  clear hK K
  simp only [Act.put, List.setIfInBounds_toArray, List.set_cons_zero, List.set_cons_succ]
  have hb67 := hb6.trans hb7
  have hx7 := hx5.drew.below hb67
  have hr7' := hr5'.drew.below hb67
  have hr7'' := hr5''.drew.below hb67
  have ho37 := ho35.drew.below hb67
  have hB7 : Below w.heap.size w w7 := hB5.drew.trans (hb67.mono hB5.size)
  have ho8 : Rd w7 A7 (8 + n') (cu8 ((putB N 8) ++ bs')) := by
    have h := ho7.rd
    rw [List.nil_append, ← cu8_app, Nat.zero_add] at h
    exact h
  have k8 := ho7.le
  have k8m := ho7.cap
  clear hb67 hb6 hb7 ho6 ho7 hx5 hy5 x51 y50 hr5' hr5'' ho25 ho35 hB5 r1
  simp only [Nat.zero_add] at k8 ⊢
  refine ordD (by rfl) ?_
  intro K hK
  go_simp
  refine (get_eq A7 (8 + n') c7 _ 8 N w7 ho8 k8 k8m (by omega) (by omega) (by omega) V0.out).mono ?_
  rintro e w8 ⟨rfl, rfl⟩
  go_wp2_with fail
  refine hK _ _ hx7.at1 ?_
  clear hK K ho8 k8 k8m
  try simp only [Act.put, List.setIfInBounds_toArray, List.set_cons_zero, List.set_cons_succ]
  repeat (first | (refine ordS (by rfl) ?_; simp only [Act.put, List.setIfInBounds_toArray, List.set_cons_zero, List.set_cons_succ]) | (refine ordN (by rfl) ?_; simp only [Act.put, List.setIfInBounds_toArray, List.set_cons_zero, List.set_cons_succ]) | (refine ordQ (v := ?_) (by rfl) (fun _ hSw => ?_) ?_; rotate_left; (focus (go_simp; (first | done | with_reducible rfl))); simp only [Act.put, List.setIfInBounds_toArray, List.set_cons_zero, List.set_cons_succ]))
  refine ordE ?_
  have x71 := hx7.at1
  clear g1 g2 g3
  go_wp2_with fail
  have g1 : (0 : Int) ≤ (n : Int) := by omega
  have g2 : (n : Int) ≤ (n : Int) + 1 + 4 * (m : Int) := by omega
  have g3 : (n : Int) + 1 + 4 * (m : Int) ≤ (c3 : Int) := by omega
  have r1 : Rd w7.drew (if c3 = n then A3 else A3.map (fun x => x.add n)) (n + 1 + 4 * m - n) (cu8 (putL zs)) := by
    have h := (ho37.rd.cut (lo := n) (hi := n + 1 + 4 * m) (cap := c3) (by omega) (by omega) (by omega)).drew
    rw [cu8_drop, cu8_take, List.drop_append_of_le_length (by rw [HLEN.out]; exact Nat.le_refl _), List.drop_of_length_le (by rw [HLEN.out]; exact Nat.le_refl _), List.nil_append, List.take_of_length_le (by rw [putL_len, HZ.out]; omega)] at h
    exact h
  have e0 : n + 1 + 4 * m - n = 1 + 4 * m := by omega
  refine wp_region_ord (S := fun w' => w'.cell? ⟨w.heap.size, 1, none⟩ = some (.slice A' n' c')) [(0, true), (1, true), (2, true), (4, true), (5, true), (3, false), (6, false), (7, false), (8, true), (9, true), (10, true), (11, true), (12, true), (13, true), (14, true)] default (by kernel_rfl) (by kernel_rfl) (by kernel_rfl) x71 ?_
  simp only [getOrd, nth]
  repeat (first | (refine ordS (by rfl) ?_; simp only [Act.put, List.setIfInBounds_toArray, List.set_cons_zero, List.set_cons_succ]) | (refine ordN (by rfl) ?_; simp only [Act.put, List.setIfInBounds_toArray, List.set_cons_zero, List.set_cons_succ]) | (refine ordQ (v := ?_) (by rfl) (fun _ hSw => ?_) ?_; rotate_left; (focus (go_simp; (first | done | with_reducible rfl))); simp only [Act.put, List.setIfInBounds_toArray, List.set_cons_zero, List.set_cons_succ]))
  generalize (if c3 = n then A3 else A3.map (fun x => x.add n)) = A55 at r1 ⊢
  rw [e0] at r1
  try simp only [e0]
  clear e0
  refine ordD (by rfl) ?_
  intro K hK
  refine wp_app _ _ _ _ rfl 5 i0 _ 1 Try.underlying22 hi0 hz0 hz1 hz2 rfl (w7.heap.size) none 0 0 [] (by rfl) (Own.none_ _ _ _ _) _ _ _ (cu8 (putL zs)) (by rfl) (r1) (cu8_one _) (by simp only [maxLen]; omega) (by omega) (Nat.le_refl _) ?_
  intro A8 c8 w8 ho8 hb8 _ _
  refine hK _ _ ((hx7.drew.below hb8).at1) ?_
  clear hK K
  simp only [Act.put, List.setIfInBounds_toArray, List.set_cons_zero, List.set_cons_succ]
  refine ordD (by rfl) ?_
  intro K hK
  refine wp_app _ _ _ _ rfl 5 i0 _ 1 Try.underlying22 hi0 hz0 hz1 hz2 rfl (w7.heap.size) A8 (0 + (1 + 4 * m)) c8 _ (by rfl) (ho8) _ _ _ (cu8 bs') (by rfl) (hr7'.drew.below hb8) (cu8_one _) (by simp only [maxLen]; omega) (by omega) (hb8.size) ?_
  intro A9 c9 w9 ho9 hb9 _ _
  refine hK _ _ ((hx7.drew.below (hb8.trans hb9)).at1) ?_
  clear hK K
  simp only [Act.put, List.setIfInBounds_toArray, List.set_cons_zero, List.set_cons_succ]
  have hb89 := hb8.trans hb9
  have hx9 := hx7.drew.below hb89
  have hr9'' := hr7''.drew.below hb89
  have hB9 : Below w.heap.size w w9 := hB7.drew.trans (hb89.mono hB7.size)
  have ho10 : Rd w9 A9 (1 + 4 * m + n') (cu8 (putL zs ++ bs')) := by
    have h := ho9.rd
    rw [List.nil_append, ← cu8_app, Nat.zero_add] at h
    exact h
  have k9 := ho9.le
  have k9m := ho9.cap
  clear hb89 hb8 hb9 ho8 ho9 hx7 x71 hr7' hr7'' ho37 hB7 r1 g1 g2 g3
  simp only [Nat.zero_add] at k9 ⊢
  refine ordD (by rfl) ?_
  intro K hK
  go_simp
  refine (getlist_ok A9 (1 + 4 * m + n') c9 _ w9 ho10 k9 k9m (by omega) m (by have h := l1.out; rw [HZ.out] at h; exact h) (by omega)).mono ?_
  rintro e w10 ⟨A10, c10, rfl, ho11, hb10⟩
  have hx10 := hx9.below hb10
  have hr10 := hr9''.below hb10
  have hB10 := hB9.trans (hb10.mono hB9.size)
  go_wp2_with fail
  refine hK _ _ hx10.at1 ?_
  clear hK K ho10 k9 k9m hx9 hr9'' hB9 hb10
  try simp only [Act.put, List.setIfInBounds_toArray, List.set_cons_zero, List.set_cons_succ]
  repeat (first | (refine ordS (by rfl) ?_; simp only [Act.put, List.setIfInBounds_toArray, List.set_cons_zero, List.set_cons_succ]) | (refine ordN (by rfl) ?_; simp only [Act.put, List.setIfInBounds_toArray, List.set_cons_zero, List.set_cons_succ]) | (refine ordQ (v := ?_) (by rfl) (fun _ hSw => ?_) ?_; rotate_left; (focus (go_simp; (first | done | with_reducible rfl))); simp only [Act.put, List.setIfInBounds_toArray, List.set_cons_zero, List.set_cons_succ]))
  refine ordE ?_
  clear hx10
  have hp : Rd w10 A10 m (ci64 (zs.map fun z => z % 4294967296)) := by
    have h := ho11.rd
    have h2 := l2.out
    rw [HZ.out] at h2
    rw [h2] at h
    exact h
  clear ho11
  go_wp2_with fail
  go_loopw [17] (fun i wr => ∃ j : Nat, j ≤ m ∧ i = .int .i64 j ∧ ∃ q, wr = w10.drewN q) (fun i _ => m - (intOf i).toNat)
  case atStart => exact ⟨0, Nat.zero_le _, rfl, 0, rfl⟩
  case round =>
    obtain ⟨j, hj, rfl, q, rfl⟩ := hrel
    by_cases hlt : j < m
    · have hjl : j < zs.length := by rw [HZ.out]; exact hlt
      obtain ⟨b0, o0, rfl, hb0, u0, hu0, hcell⟩ := hr10.get hlt
      rw [ci64_get zs j hjl] at hu0
      obtain rfl : iV zs[j] = u0 := by injection hu0
      obtain ⟨b1, o1, rfl, hb1, u1, hu1, hcell1⟩ := hp.get hlt
      rw [ci64_get _ j (by rw [List.length_map]; exact hjl), List.getElem_map] at hu1
      obtain rfl : iV (zs[j] % 4294967296) = u1 := by injection hu1
      have hc0 : w10.cell? ⟨b0, o0 + j, none⟩ = some (.int .i64 zs[j]) := hcell
      have hc1 : w10.cell? ⟨b1, o1 + j, none⟩ = some (.int .i64 (zs[j] % 4294967296)) := hcell1
      clear hcell hcell1 hu0 hu1
      generalize zs[j] = x at hc0 hc1
      have hx0 : 0 ≤ x % 4294967296 := Int.emod_nonneg _ (by omega)
      have hx1 : x % 4294967296 < 4294967296 := Int.emod_lt_of_pos _ (by omega)
      go_wp2
      go_quiet (fail)
      go_wp2
      go_roundw
      case rel => exact ⟨j + 1, by omega, by go_num, _, rfl⟩
      case measure => simp [intOf]; omega
    · obtain rfl : j = m := by omega
      go_wp2
      go_ret
      exact ⟨rfl, belowN hB10 _⟩

theorem walk (A : Option Addr) (n c : Nat) (bs : List UInt8) (A' : Option Addr) (n' c' : Nat) (bs' : List UInt8) (N : Nat) (hN : N < 18446744073709551616) (z : Int) (hz1 : -9223372036854775808 ≤ z) (hz2 : z ≤ 9223372036854775807)
    (A'' : Option Addr) (m c'' : Nat) (zs : List Int) (w : World)
    (hr : Rd w A n (cu8 bs)) (hc2 : c ≤ maxLen) (hc : n ≤ c) (hr' : Rd w A' n' (cu8 bs')) (hc2' : c' ≤ maxLen) (hc' : n' ≤ c') (hr'' : Rd w A'' m (ci64 zs)) (hc2'' : c'' ≤ maxLen) (hc'' : m ≤ c'') :
    Calls Try.prog 3 #[.agg #[.slice A n c, .slice A' n' c'], .agg #[.int .u64 N, .int .i64 z], .slice A'' m c''] w fun e w' => e = .returned (.bool true) ∧ Below w.heap.size w w' := by
  by_cases h1 : n ≤ 9000
  · by_cases h2 : n' ≤ 9000
    · by_cases h3 : m ≤ 255
      · by_cases h4 : z ≤ 0
        · exact walk_low A n c bs A' n' c' bs' N hN z h4 hz1 A'' m c'' zs w hr hc2 hc hr' hc2' hc' hr'' hc2'' hc'' h1 h2 h3
        · by_cases h5 : 8 ≤ z
          · exact walk_big A n c bs A' n' c' bs' N hN z h5 hz2 A'' m c'' zs w hr hc2 hc hr' hc2' hc' hr'' hc2'' hc'' h1 h2 h3
          · obtain ⟨mm, rfl⟩ : ∃ mm : Nat, z = mm := ⟨z.toNat, by omega⟩
            exact walk_mid A n c bs A' n' c' bs' N hN mm (by omega) (by omega) A'' m c'' zs w hr hc2 hc hr' hc2' hc' hr'' hc2'' hc'' h1 h2 h3
      · exact walk_long3 A n c A' n' c' N z A'' m c'' w hc2 hc hc2' hc' hc2'' hc'' h1 h2 (by omega)
    · exact walk_long2 A n c A' n' c' N z A'' m c'' w hc2 hc hc2' hc' hc2'' hc'' h1 (by omega)
  · exact walk_long1 A n c A' n' c' N z A'' m c'' w hc2 hc hc2' hc' hc2'' hc'' (by omega)

theorem own : ownKnob Try.prog.godebug = none := by kernel_rfl
theorem laidOut : laidOutB Try.prog = true := by kernel_rfl

set_option maxRecDepth 100000 in
theorem lifted (os : Os) (started : os.Started) (H : Type) (enc : TypeId × Value → H) :
    ReturnsInHanded {} Try.checked os 3 .any (Rows.numsBackSpec.pre6 enc Try.prog Try.f3 Rows.numsBackRow.domain false) (Rows.numsBackSpec.post enc Try.prog Try.f3 false true false false) := by
  refine returnsInHanded_of_change (C := Try.checked) own started (by kernel_rfl) Try.func3
    (ChangeSpec.witness6 (enc := enc) (C := Try.checked) false ⟨#[], #[.agg #[.slice none 0 0, .slice none 0 0], .agg #[.int .u64 0, .int .i64 0], .slice none 0 0], []⟩ 8 (by kernel_rfl) (by kernel_rfl) (by kernel_rfl) (by kernel_rfl)) ?_
  intro W base args ds gs before hval0 hW hcnd _
  have hval : ∀ (j : Nat) t v, Try.f3.params[j]? = some t → args[j]? = some v → Value.okWide Try.prog W .any base t v := hval0
  have hW' := hW
  obtain ⟨p, q, hA0, hV, rfl, hfz, hnd⟩ := hW
  have hA : DataW.TrodAll enc Try.prog W 0 (fun _ => true) true Try.f3.params.toList args.toList ds p := hA0
  rw [Try.params3] at hA hval
  obtain ⟨v0, vs0, d0, ds0, p0, q0, hargs, rfl, rfl, h0, r0⟩ := trodAll_cons hA
  obtain ⟨v1, vs1, d1, ds1, p1, q1, rfl, rfl, rfl, h1, r1⟩ := trodAll_cons r0
  obtain ⟨v2, vs2, d2, ds2, p2, q2, rfl, rfl, rfl, h2, r2⟩ := trodAll_cons r1
  obtain ⟨rfl, rfl, rfl⟩ := trodAll_nil r2
  obtain rfl : args = #[v0, v1, v2] := by cases args; simp_all
  obtain ⟨A, n, c, l, A', n', c', l', rfl, a1, a2, a3, b1, b2, b3⟩ := arg_two_u8s Try.underlying23 Try.underlying22 Try.underlying5 (by kernel_rfl) (by kernel_rfl) (by kernel_rfl) (hval 0 23 v0 rfl rfl) h0
  obtain ⟨x0, x1, y0, y1, fu, rfl, _, _, g0, g1⟩ := Joins.open_agg2 Try.underlying26 (by kernel_rfl) (by kernel_rfl) (hval 1 26 v1 rfl rfl) h1
  obtain ⟨N0, rfl, w0⟩ := open_kc Try.underlying24 g0
  obtain ⟨N, rfl, hN⟩ := fit_u64 w0
  obtain ⟨z, rfl, w1⟩ := open_kc Try.underlying3 g1
  have hz := bounds_i64 w1
  obtain ⟨A2, m, c2, zs, rfl, e1, e2, e3, e4⟩ := arg_i64s Try.underlying27 Try.underlying3 (by kernel_rfl) (hval 2 27 v2 rfl rfl) h2
  have hwalk : Calls Try.prog 3 #[.agg #[.slice A n c, .slice A' n' c'], .agg #[.int .u64 N, .int .i64 z], .slice A2 m c2] W fun e w' => e = .returned (.bool true) ∧ Below W.heap.size W w' :=
    walk A n c l A' n' c' l' N hN z hz.1 hz.2 A2 m c2 zs W a1 a3 a2 b1 b3 b2 e1 e3 e2
  refine hwalk.mono fun e W' ⟨he, hg⟩ => ?_
  subst he
  exact ⟨_, rfl, law_post laidOut (by kernel_rfl) hW' rfl rfl (by kernel_rfl) Try.underlying4 hg⟩

theorem over : Rows.numsBackRow.holds Try.pinned (OpenSpec.ofChange Rows.numsBackSpec) :=
  OpenClaim.holds_of_wide 3 Try.f3 rfl rfl rfl rfl rfl rfl rfl ⟨rfl, rfl, rfl, rfl, rfl⟩ rfl rfl rfl rfl rfl (by kernel_rfl) Try.func3 (by kernel_rfl)
    (of_decide_eq_true (by kernel_rfl)) (by unfold Func.isWrapper; first | (rw [if_pos (by decide +kernel)]; kernel_rfl) | (rw [if_neg (by decide +kernel)]; exact ⟨rfl, rfl⟩))
    (fun os started H enc _ => lifted os started H enc)

theorem proved : Rows.NumsBackSaid :=
  over
end Go.Proofs.Ytillimpfnpjbhaa.numsBack
