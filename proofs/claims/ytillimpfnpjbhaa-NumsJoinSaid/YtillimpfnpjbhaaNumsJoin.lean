/-
  Proved: salesroomlaw01.NumsJoin answers true, for any two lists of bytes and any cut, in whatever memory. No conditions.
-/
import Derived.Test.YtillimpfnpjbhaaRows
import Derived.Test.YtillimpfnpjbhaaAlive1
import Derived.Test.YtillimpfnpjbhaaLift
import Derived.Test.YtillimpfnpjbhaaReg
namespace Go.Proofs.Ytillimpfnpjbhaa.numsJoin
open Go.ChangeShapes Go.WideShapes Go.ChangeAt Go.RowKit
set_option linter.unusedVariables false

set_option maxRecDepth 100000 in
set_option maxHeartbeats 1000000 in
theorem walk_long (A : Option Addr) (n c : Nat) (A' : Option Addr) (n' c' : Nat) (y : Nat) (w : World) (hc2 : c ≤ maxLen) (hc : n ≤ c) (hc2' : c' ≤ maxLen) (hc' : n' ≤ c') (hn : 65535 < n ∨ 65535 < n') :
    Calls Try.prog 4 #[.agg #[.slice A n c, .slice A' n' c'], .int .u16 y] w fun e w' => e = .returned (.bool true) ∧ Below w.heap.size w w' := by
  unfold maxLen at hc2 hc2'
  rcases hn with hn | hn
  · have h1 : decide (65535 < n) = true := by simpa using hn
    go_enter Try.func4, Try.ntmps4
    go_wp2_with fail
    refine (alive_any _).mono ?_
    rintro e w1 ⟨rfl, hb1⟩
    have hx := (Bx.new w _ _ _).below hb1
    have h0 := hx.at0
    have hB1 := ((Below.refl _ w).alloc (Nat.le_refl _) _).trans (hb1.mono (by simp))
    clear hx hb1
    go_wp2_with fail
    refine (alive_any w1).mono ?_
    rintro e w2 ⟨rfl, hb2⟩
    go_wp2
    go_ret
    exact ⟨rfl, hB1.trans (hb2.mono hB1.size)⟩
  · by_cases hn0 : 65535 < n
    · have h1 : decide (65535 < n) = true := by simpa using hn0
      go_enter Try.func4, Try.ntmps4
      go_wp2_with fail
      refine (alive_any _).mono ?_
      rintro e w1 ⟨rfl, hb1⟩
      have hx := (Bx.new w _ _ _).below hb1
      have h0 := hx.at0
      have hB1 := ((Below.refl _ w).alloc (Nat.le_refl _) _).trans (hb1.mono (by simp))
      clear hx hb1
      go_wp2_with fail
      refine (alive_any w1).mono ?_
      rintro e w2 ⟨rfl, hb2⟩
      go_wp2
      go_ret
      exact ⟨rfl, hB1.trans (hb2.mono hB1.size)⟩
    · have h1 : decide (65535 < n) = false := by simpa using hn0
      have h2 : decide (65535 < n') = true := by simpa using hn
      go_enter Try.func4, Try.ntmps4
      go_wp2_with fail
      refine (alive_any _).mono ?_
      rintro e w1 ⟨rfl, hb1⟩
      have hx := (Bx.new w _ _ _).below hb1
      have h0 := hx.at0
      have h01 := hx.at1
      have hB1 := ((Below.refl _ w).alloc (Nat.le_refl _) _).trans (hb1.mono (by simp))
      clear hx hb1
      go_wp2_with fail
      refine (alive_any w1).mono ?_
      rintro e w2 ⟨rfl, hb2⟩
      go_wp2
      go_ret
      exact ⟨rfl, hB1.trans (hb2.mono hB1.size)⟩

set_option maxRecDepth 100000 in
set_option maxHeartbeats 2000000 in
theorem walk_short (A : Option Addr) (n c : Nat) (l : List UInt8) (A' : Option Addr) (n' c' : Nat) (l' : List UInt8) (y : Nat) (hy : y < 65536) (w : World) (hr : Rd w A n (cu8 l)) (hc2 : c ≤ maxLen) (hc : n ≤ c) (hr' : Rd w A' n' (cu8 l')) (hc2' : c' ≤ maxLen) (hc' : n' ≤ c') (hn : n ≤ 65535) (hn' : n' ≤ 65535) :
    Calls Try.prog 4 #[.agg #[.slice A n c, .slice A' n' c'], .int .u16 y] w fun e w' => e = .returned (.bool true) ∧ Below w.heap.size w w' := by
  have hl : l.length = n := by have h := hr.len; rw [cu8_len] at h; exact h
  have hl' : l'.length = n' := by have h := hr'.len; rw [cu8_len] at h; exact h
  have HL := Lib.hid hl
  have HL' := Lib.hid hl'
  have h1 : decide (65535 < n) = false := by simp; omega
  have h2 : decide (65535 < n') = false := by simp; omega
  have m1 := Lib.hid (putS_many l (putS l') (by omega))
  have m2 := Lib.hid (putS_back l (putS l') (by omega))
  have m3 := Lib.hid (putS_rest l (putS l') (by omega))
  have m4 := Lib.hid (putS_many l' [] (by omega))
  have m5 := Lib.hid (putS_back l' [] (by omega))
  have m6 := Lib.hid (putS_cut l' (by omega) (y % (2 + n')) (by rw [hl']; exact Nat.mod_lt _ (by omega)))
  clear hl hl'
  have hcm := hc2
  have hcm' := hc2'
  unfold maxLen at hc2 hc2'
  go_enter Try.func4, Try.ntmps4
  go_wp2_with fail
  refine (alive_any _).mono ?_
  rintro e w1 ⟨rfl, hb1⟩
  have hx1 : Bx w1 w.heap.size [.slice A n c, .slice A' n' c'] := (Bx.new w _ _ _).below hb1
  have h0 := hx1.at0
  have h01 := hx1.at1
  have hr1 := (hr.alloc _).below hb1
  have hr1' := (hr'.alloc _).below hb1
  have hB1 := ((Below.refl _ w).alloc (Nat.le_refl _) _).trans (hb1.mono (by simp))
  clear hb1
  go_wp2
  refine wp_region_ord (S := fun w' => w'.cell? ⟨w.heap.size, 0, none⟩ = some (.slice A n c) ∧ w'.cell? ⟨w.heap.size, 1, none⟩ = some (.slice A' n' c')) [(0, true), (1, true), (3, true), (4, true), (2, false), (5, false), (6, true)] default (by kernel_rfl) (by kernel_rfl) (by kernel_rfl) ⟨h0, h01⟩ ?_
  simp only [getOrd, nth]
  repeat (first | (refine ordS (by rfl) ?_; simp only [Act.put, List.setIfInBounds_toArray, List.set_cons_zero, List.set_cons_succ]) | (refine ordN (by rfl) ?_; simp only [Act.put, List.setIfInBounds_toArray, List.set_cons_zero, List.set_cons_succ]) | (refine ordQ (v := ?_) (by rfl) (fun _ hSw => ?_) ?_; rotate_left; (focus ((try have hS1 := hSw.1); (try have hS2 := hSw.2); (try clear hSw); go_simp; (first | done | with_reducible rfl))); simp only [Act.put, List.setIfInBounds_toArray, List.set_cons_zero, List.set_cons_succ]))
  refine ordD (by rfl) ?_
  intro K hK
  go_simp
  refine (putbytes_nil A n c l _ hr1.drew hc hcm hn).mono ?_
  rintro e w2 ⟨A2, c2, rfl, ho2, hb2⟩
  have hx2 := hx1.drew.below hb2
  have hr2 := hr1.drew.below hb2
  have hr2' := hr1'.drew.below hb2
  have hB2 := hB1.drew.trans (hb2.mono hB1.size)
  go_wp2_with fail
  refine hK _ _ ⟨hx2.at0, hx2.at1⟩ ?_
  clear hK K hb2
  try simp only [Act.put, List.setIfInBounds_toArray, List.set_cons_zero, List.set_cons_succ]
  refine ordD (by rfl) ?_
  intro K hK
  go_simp
  refine (putbytes_le A2 (2 + n) c2 _ A' n' c' l' _ ho2.rd (by omega) hr2' hc' hcm' hn').mono ?_
  rintro e w3 ⟨A3, c3, rfl, ho3, hb3⟩
  have hx3 := hx2.below hb3
  have hr3 := hr2.below hb3
  have hr3' := hr2'.below hb3
  have hB3 := hB2.trans (hb3.mono hB2.size)
  go_wp2_with fail
  refine hK _ _ ⟨hx3.at0, hx3.at1⟩ ?_
  clear hK K hb3 ho2 hx2 hr2 hr2'
  repeat (first | (refine ordS (by rfl) ?_; simp only [Act.put, List.setIfInBounds_toArray, List.set_cons_zero, List.set_cons_succ]) | (refine ordN (by rfl) ?_; simp only [Act.put, List.setIfInBounds_toArray, List.set_cons_zero, List.set_cons_succ]) | (refine ordQ (v := ?_) (by rfl) (fun _ hSw => ?_) ?_; rotate_left; (focus ((try have hS1 := hSw.1); (try have hS2 := hSw.2); (try clear hSw); go_simp; (first | done | with_reducible rfl))); simp only [Act.put, List.setIfInBounds_toArray, List.set_cons_zero, List.set_cons_succ]))
  refine ordE ?_
  clear hx1 h0 h01 hr1 hr1'
  have h0 := hx3.at0
  have h01 := hx3.at1
  have hc3 := ho3.le
  have hc3m := ho3.cap
  have hc3' : c3 ≤ 9223372036854775807 := by unfold maxLen at hc3m; omega
  obtain ⟨g, rfl, hg0, hg1⟩ := ho3.lt (by omega)
  go_wp2_with fail
  refine (getbytes_ok _ (2 + n + 2 + n') c3 (putS l ++ putS l') w3 ho3.rd hc3 hc3m (by omega) n (by rw [m1.out, HL.out]) (by omega)).mono ?_
  rintro e w4 ⟨A4, c4, rfl, ho4, hb4⟩
  have hx4 := hx3.below hb4
  have h40 := hx4.at0
  have h41 := hx4.at1
  have hr4 := hr3.below hb4
  have hr4' := hr3'.below hb4
  have ho34 := ho3.below hb4
  have hB4 := hB3.trans (hb4.mono hB3.size)
  have q1 : Rd w4 A4 n (cu8 l) := by
    have h := ho4.rd
    have h2 := m2.out
    rw [HL.out] at h2
    rw [h2] at h
    exact h
  clear ho4 hb4 ho3 hx3 h0 h01 hr3 hr3'
  go_wp2_with fail
  refine (samebytes_eqB _ n _ _ _ _ _ q1 hr4 (by unfold maxLen <;> omega)).mono ?_
  rintro e w5 ⟨rfl, hb5⟩
  have hx5 := hx4.below hb5
  have h50 := hx5.at0
  have h51 := hx5.at1
  have hr5' := hr4'.below hb5
  have ho35 := ho34.below hb5
  have hB5 := hB4.trans (hb5.mono hB4.size)
  clear q1 hb5 ho34 hx4 h40 h41 hr4 hr4'
  go_wp2_with fail
  have e1 : 2 + n + 2 + n' - (2 + n) = 2 + n' := by omega
  rw [e1]
  have q2 : Rd w5 (some ⟨g, 2 + n, none⟩) (2 + n') (cu8 (putS l')) := by
    have h := ho35.rd.cut_at (lo := 2 + n) (hi := 2 + n + 2 + n') (by omega) (by omega)
    have h2 := m3.out
    rw [HL.out] at h2
    rw [e1, Nat.zero_add, cu8_drop, h2, List.take_of_length_le (by rw [cu8_len, putS_len, HL'.out]; omega)] at h
    exact h
  clear e1
  refine (getbytes_ok _ (2 + n') (c3 - (2 + n)) (putS l') w5 q2 (by omega) (by omega) (by omega) n' (by have h := m4.out; rw [List.append_nil] at h; rw [h, HL'.out]) (by omega)).mono ?_
  rintro e w6 ⟨A6, c6, rfl, ho6, hb6⟩
  have hx6 := hx5.below hb6
  have h60 := hx6.at0
  have h61 := hx6.at1
  have hr6' := hr5'.below hb6
  have ho36 := ho35.below hb6
  have hB6 := hB5.trans (hb6.mono hB5.size)
  have q3 : Rd w6 A6 n' (cu8 l') := by
    have h := ho6.rd
    have h2 := m5.out
    rw [HL'.out, List.append_nil] at h2
    rw [h2] at h
    exact h
  clear ho6 hb6 ho35 hx5 h50 h51 hr5' q2
  have hmod : (y : Int) % (2 + (n' : Int)) = ((y % (2 + n') : Nat) : Int) := by rw [Int.natCast_emod, Int.natCast_add]; rfl
  have hk2 : y % (2 + n') < 2 + n' := Nat.mod_lt _ (by omega)
  have M6 := m6
  clear m6
  generalize y % (2 + n') = k at hmod hk2 M6
  go_wp2_with fail
  have q4 : Rd w6 (some ⟨g, 2 + n, none⟩) k (cu8 ((putS l').take k)) := by
    have h := ho36.rd.cut_at (lo := 2 + n) (hi := 2 + n + k) (by omega) (by omega)
    have h2 := m3.out
    rw [HL.out] at h2
    rw [show 2 + n + k - (2 + n) = k by omega, Nat.zero_add, cu8_drop, h2, cu8_take] at h
    exact h
  refine (getbytes_fail _ k (c3 - (2 + n)) _ w6 q4 (by omega) (by omega) M6.out).mono ?_
  rintro e w7 ⟨rfl, hw⟩
  have hb7 : Below w6.heap.size w6 w7 := by rw [← hw]; exact Below.refl _ _
  have hx7 := hx6.below hb7
  have h70 := hx7.at0
  have h71 := hx7.at1
  have hr7' := hr6'.below hb7
  have q5 := q3.below hb7
  have hB7 := hB6.trans (hb7.mono hB6.size)
  clear hw hb7 hx6 h60 h61 hr6' q3 q4 ho36
  go_wp2_with fail
  refine (samebytes_eqB _ n' _ _ _ _ _ q5 hr7' (by unfold maxLen <;> omega)).mono ?_
  rintro e w8 ⟨rfl, hb8⟩
  have hB8 := hB7.trans (hb8.mono hB7.size)
  go_wp2
  go_ret
  exact ⟨rfl, hB8⟩

theorem own : ownKnob Try.prog.godebug = none := by kernel_rfl
theorem laidOut : laidOutB Try.prog = true := by kernel_rfl

set_option maxRecDepth 100000 in
theorem lifted (os : Os) (started : os.Started) (H : Type) (enc : TypeId × Value → H) :
    ReturnsInHanded {} Try.checked os 4 .any (Rows.numsJoinSpec.pre6 enc Try.prog Try.f4 Rows.numsJoinRow.domain false) (Rows.numsJoinSpec.post enc Try.prog Try.f4 false true false false) := by
  refine returnsInHanded_of_change (C := Try.checked) own started (by kernel_rfl) Try.func4
    (ChangeSpec.witness6 (enc := enc) (C := Try.checked) false ⟨#[], #[.agg #[.slice none 0 0, .slice none 0 0], .int .u16 0], []⟩ 8 (by kernel_rfl) (by kernel_rfl) (by kernel_rfl) (by kernel_rfl)) ?_
  intro W base args ds gs before hval0 hW hcnd _
  have hval : ∀ (j : Nat) t v, Try.f4.params[j]? = some t → args[j]? = some v → Value.okWide Try.prog W .any base t v := hval0
  have hW' := hW
  obtain ⟨p, q, hA0, hV, rfl, hfz, hnd⟩ := hW
  have hA : DataW.TrodAll enc Try.prog W 0 (fun _ => true) true Try.f4.params.toList args.toList ds p := hA0
  rw [Try.params4] at hA hval
  obtain ⟨v0, vs0, d0, ds0, p0, q0, hargs, rfl, rfl, h0, r0⟩ := trodAll_cons hA
  obtain ⟨v1, vs1, d1, ds1, p1, q1, rfl, rfl, rfl, h1, r1⟩ := trodAll_cons r0
  obtain ⟨rfl, rfl, rfl⟩ := trodAll_nil r1
  obtain rfl : args = #[v0, v1] := by cases args; simp_all
  obtain ⟨A, n, c, l, A', n', c', l', rfl, a1, a2, a3, b1, b2, b3⟩ := arg_two_u8s Try.underlying23 Try.underlying22 Try.underlying5 (by kernel_rfl) (by kernel_rfl) (by kernel_rfl) (hval 0 23 v0 rfl rfl) h0
  obtain ⟨z, rfl, rfl, rfl, w1⟩ := open_int Try.underlying39 (hval 1 39 v1 rfl rfl) h1
  obtain ⟨y, rfl, hy⟩ := fit_u16 w1
  have hwalk : Calls Try.prog 4 #[.agg #[.slice A n c, .slice A' n' c'], .int .u16 y] W fun e w' => e = .returned (.bool true) ∧ Below W.heap.size W w' := by
    by_cases hn : n ≤ 65535
    · by_cases hn' : n' ≤ 65535
      · exact walk_short A n c l A' n' c' l' y hy W a1 a3 a2 b1 b3 b2 hn hn'
      · exact walk_long A n c A' n' c' y W a3 a2 b3 b2 (.inr (by omega))
    · exact walk_long A n c A' n' c' y W a3 a2 b3 b2 (.inl (by omega))
  refine hwalk.mono fun e W' ⟨he, hg⟩ => ?_
  subst he
  exact ⟨_, rfl, law_post laidOut (by kernel_rfl) hW' rfl rfl (by kernel_rfl) Try.underlying4 hg⟩

theorem over : Rows.numsJoinRow.holds Try.pinned (OpenSpec.ofChange Rows.numsJoinSpec) :=
  OpenClaim.holds_of_wide 4 Try.f4 rfl rfl rfl rfl rfl rfl rfl ⟨rfl, rfl, rfl, rfl, rfl⟩ rfl rfl rfl rfl rfl (by kernel_rfl) Try.func4 (by kernel_rfl)
    (of_decide_eq_true (by kernel_rfl)) (by unfold Func.isWrapper; first | (rw [if_pos (by decide +kernel)]; kernel_rfl) | (rw [if_neg (by decide +kernel)]; exact ⟨rfl, rfl⟩))
    (fun os started H enc _ => lifted os started H enc)

theorem proved : Rows.NumsJoinSaid :=
  over
end Go.Proofs.Ytillimpfnpjbhaa.numsJoin
