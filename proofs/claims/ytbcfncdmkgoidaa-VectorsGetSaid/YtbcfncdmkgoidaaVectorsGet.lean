/-
  Proved: salesroomlaw04.VectorsGet answers true, for any bytes and any number of items, in whatever memory. No conditions.
-/
import Derived.Test.YtbcfncdmkgoidaaRows
import Derived.Test.YtbcfncdmkgoidaaAlive4
import Derived.Test.YtbcfncdmkgoidaaLift
namespace Go.Proofs.Ytbcfncdmkgoidaa.vectorsGet
open Go.ChangeShapes Go.WideShapes Go.ChangeAt Go.RowKit
set_option linter.unusedVariables false

set_option maxRecDepth 100000 in
set_option maxHeartbeats 1000000 in
theorem walk_out (A : Option Addr) (n c : Nat) (z : Int) (w : World) (hc2 : c ≤ maxLen) (hc : n ≤ c) (hn : 3000 < n) :
    Calls Try.prog 6 #[.slice A n c, .int .i64 z] w fun e w' => e = .returned (.bool true) ∧ Below w.heap.size w w' := by
  unfold maxLen at hc2
  have h1 : decide (3000 < n) = true := by simpa using hn
  go_enter Try.func6, Try.ntmps6
  go_wp2_with fail
  refine (alive4_any w).mono ?_
  rintro e w2 ⟨rfl, b2⟩
  go_wp2_with fail
  refine (alive4_any w2).mono ?_
  rintro e w3 ⟨rfl, b3⟩
  go_wp2
  go_ret
  exact ⟨rfl, b2.trans (b3.mono b2.size)⟩

set_option maxRecDepth 100000 in
set_option maxHeartbeats 1000000 in
theorem walk_in (A : Option Addr) (n c : Nat) (bs : List UInt8) (z : Int) (w : World) (hr : Rd w A n (cu8 bs)) (hc2 : c ≤ maxLen) (hc : n ≤ c) (hn : n ≤ 3000) :
    Calls Try.prog 6 #[.slice A n c, .int .i64 z] w fun e w' => e = .returned (.bool true) ∧ Below w.heap.size w w' := by
  have hl : bs.length = n := by have h := hr.len; rw [cu8_len] at h; exact h
  have hcm := hc2
  unfold maxLen at hc2
  have h1 : decide (3000 < n) = false := by simp; omega
  obtain ⟨E, hE⟩ : ∃ E, getVE bs z = E := ⟨_, rfl⟩
  obtain ⟨l, hL⟩ : ∃ l, getV bs z = l := ⟨_, rfl⟩
  obtain ⟨N, hN⟩ : ∃ N, l.length = N := ⟨_, rfl⟩
  have HE := Lib.hid hE
  have HL := Lib.hid hL
  have HN := Lib.hid hN
  have HLEN := Lib.hid hl
  clear hE hL hN hl
  go_enter Try.func6, Try.ntmps6
  go_wp2_with fail
  refine (alive4_any w).mono ?_
  rintro e w1 ⟨rfl, b1⟩
  have r1 := hr.below b1
  clear hr
  go_wp2_with fail
  refine (get_of A n c bs z w1 r1 hc hcm E HE.out l HL.out N HN.out).mono ?_
  rintro e w2 ⟨A2, c2, rfl, o2, b2⟩
  have r2 := r1.below b2
  have B2 := b1.trans (b2.mono b1.size)
  clear r1 b1 b2
  by_cases h0 : getVE bs z = 0
  · obtain rfl : E = 0 := by rw [← HE.out]; exact h0
    obtain ⟨⟨i1, i2⟩, j1, j2, j3⟩ := getVE_zero h0
    have hk := getN_take1 bs
    have hll := getL_len (bs.drop 1) (getN (bs.take 1))
    have e1 : l = getL (bs.drop 1) (getN (bs.take 1)) := by rw [← HL.out, j3]
    have e2 : N = getN (bs.take 1) := by rw [← HN.out, e1, hll]
    have hNz : (N : Int) = z := by have := ((mayB_iff _ _).1 j2).2.2.1; rw [hll] at this; omega
    have e3 : mayB l z = true := by rw [e1]; exact j2
    have e4 : putL l = bs := by rw [e1, putL_getL bs _ rfl (by omega), List.take_of_length_le (by omega)]
    have e5 : 1 + 4 * min N 255 = n := by rw [← HLEN.out, j1, ← e2]; omega
    have e6 : 0 + 1 + 4 * min N 255 = n := by omega
    have hcn := o2.le
    have hcm2 := o2.cap
    have E3 := Lib.hid e3
    have E4 := Lib.hid e4
    have E5 := Lib.hid e5
    have E6 := Lib.hid e6
    clear h0 i1 i2 j1 j2 j3 hk hll e1 e2 hNz e3 e4 e5 e6
    go_wp2_with fail
    refine (check_of A2 N c2 l z w2 o2.rd true E3.out).mono ?_
    rintro e w3 ⟨rfl, b3⟩
    have o3 := o2.below b3
    have r3 := r2.below b3
    have B3 := B2.trans (b3.mono B2.size)
    clear o2 r2 b3 B2
    go_wp2_with fail
    refine (put_of A2 N c2 l w3 o3.rd hcn hcm2 bs E4.out n E5.out).mono ?_
    rintro e w4 ⟨A4, c4, rfl, o4, b4⟩
    have o34 := o3.below b4
    have r4 := r3.below b4
    have B4 := B3.trans (b4.mono B3.size)
    clear o3 r3 b4 B3
    go_wp2_with fail
    refine (samebytes_eqB A4 n c4 bs A c w4 o4.rd r4 (by simp only [maxLen]; omega)).mono ?_
    rintro e w5 ⟨rfl, b5⟩
    have o5 := o34.below b5
    have r5 := r4.below b5
    have B5 := B4.trans (b5.mono B4.size)
    clear o4 o34 r4 b5 B4
    go_wp2_with fail
    refine (putlist_any none 0 0 [] A2 N c2 l w5 (Rd.nil _ _) (by omega) o5.rd hcn hcm2).mono ?_
    rw [E6.out, List.nil_append, E4.out]
    rintro e w6 ⟨A6, c6, rfl, o6, b6⟩
    have r6 := r5.below b6
    have B6 := B5.trans (b6.mono B5.size)
    clear o5 r5 b6 B5
    go_wp2_with fail
    refine (samebytes_eqB A6 n c6 bs A c w6 o6.rd r6 (by simp only [maxLen]; omega)).mono ?_
    rintro e w7 ⟨rfl, b7⟩
    have B7 := B6.trans (b7.mono B6.size)
    clear o6 r6 b7 B6
    go_wp2
    go_ret
    exact ⟨rfl, B7⟩
  · have hne : E ≠ 0 := by rw [← HE.out]; exact h0
    obtain rfl : l = [] := by rw [← HL.out]; exact getV_none h0
    obtain rfl : N = 0 := by rw [← HN.out]; rfl
    by_cases ha : z < 1 ∨ 8 < z
    · obtain rfl : E = 1 := by rw [← HE.out]; exact getVE_arg ha
      clear h0 hne o2 r2
      rcases ha with ha | ha
      · have t1 : decide (z < 1) = true := by simpa using ha
        go_wp2
        go_ret
        exact ⟨rfl, B2⟩
      · have t1 : decide (z < 1) = false := by simp; omega
        have t2 : decide (8 < z) = true := by simpa using ha
        go_wp2
        go_ret
        exact ⟨rfl, B2⟩
    · have h45 : E = 5 ∨ E = 4 := by
        rw [← HE.out]
        by_cases hs : bs.length < 1 + 4 * getN (bs.take 1)
        · exact .inl (getVE_short ha hs)
        · by_cases hf : bs.length = 1 + 4 * getN (bs.take 1) ∧ mayB (getL (bs.drop 1) (getN (bs.take 1))) z = true
          · exact absurd (getVE_ok ha hf.1 hf.2) h0
          · exact .inr (getVE_form ha hs hf)
      have t1 : decide (z < 1) = false := by simp; omega
      have t2 : decide (8 < z) = false := by simp; omega
      clear h0 hne ha o2 r2
      rcases h45 with rfl | rfl
      · go_wp2
        go_ret
        exact ⟨rfl, B2⟩
      · go_wp2
        go_ret
        exact ⟨rfl, B2⟩

theorem walk (A : Option Addr) (n c : Nat) (bs : List UInt8) (z : Int) (hz1 : -9223372036854775808 ≤ z) (hz2 : z ≤ 9223372036854775807) (w : World) (hr : Rd w A n (cu8 bs)) (hc2 : c ≤ maxLen) (hc : n ≤ c) :
    Calls Try.prog 6 #[.slice A n c, .int .i64 z] w fun e w' => e = .returned (.bool true) ∧ Below w.heap.size w w' := by
  by_cases h : n ≤ 3000
  · exact walk_in A n c bs z w hr hc2 hc h
  · exact walk_out A n c z w hc2 hc (by omega)

theorem own : ownKnob Try.prog.godebug = none := by kernel_rfl
theorem laidOut : laidOutB Try.prog = true := by kernel_rfl

set_option maxRecDepth 100000 in
theorem lifted (os : Os) (started : os.Started) (H : Type) (enc : TypeId × Value → H) :
    ReturnsInHanded {} Try.checked os 6 .any (Rows.vectorsGetSpec.pre6 enc Try.prog Try.f6 Rows.vectorsGetRow.domain false) (Rows.vectorsGetSpec.post enc Try.prog Try.f6 false true false false) := by
  refine returnsInHanded_of_change (C := Try.checked) own started (by kernel_rfl) Try.func6
    (ChangeSpec.witness6 (enc := enc) (C := Try.checked) false ⟨#[], #[.slice none 0 0, .int .i64 0], []⟩ 8 (by kernel_rfl) (by kernel_rfl) (by kernel_rfl) (by kernel_rfl)) ?_
  intro W base args ds gs before hval0 hW hcnd _
  have hval : ∀ (j : Nat) t v, Try.f6.params[j]? = some t → args[j]? = some v → Value.okWide Try.prog W .any base t v := hval0
  have hW' := hW
  obtain ⟨p, q, hA0, hV, rfl, hfz, hnd⟩ := hW
  have hA : DataW.TrodAll enc Try.prog W 0 (fun _ => true) true Try.f6.params.toList args.toList ds p := hA0
  rw [Try.params6] at hA hval
  obtain ⟨v0, vs0, d0, ds0, p0, q0, hargs, rfl, rfl, h0, r0⟩ := trodAll_cons hA
  obtain ⟨v1, vs1, d1, ds1, p1, q1, rfl, rfl, rfl, h1, r1⟩ := trodAll_cons r0
  obtain ⟨rfl, rfl, rfl⟩ := trodAll_nil r1
  obtain rfl : args = #[v0, v1] := by cases args; simp_all
  obtain ⟨A0, n0, c0, l0, rfl, a0, b0, e0⟩ := arg_u8s Try.underlying27 Try.underlying5 (by kernel_rfl) (hval 0 27 v0 rfl rfl) h0
  obtain ⟨x1, rfl, rfl, rfl, w1⟩ := open_int Try.underlying3 (hval 1 3 v1 rfl rfl) h1
  have y1 := bounds_i64 w1
  have hwalk : Calls Try.prog 6 #[.slice A0 n0 c0, .int .i64 x1] W fun e w' => e = .returned (.bool true) ∧ Below W.heap.size W w' := walk A0 n0 c0 l0 x1 y1.1 y1.2 W a0 e0 b0
  refine hwalk.mono fun e W' ⟨he, hg⟩ => ?_
  subst he
  exact ⟨_, rfl, law_post laidOut (by kernel_rfl) hW' rfl rfl (by kernel_rfl) Try.underlying4 hg⟩

theorem over : Rows.vectorsGetRow.holds Try.pinned (OpenSpec.ofChange Rows.vectorsGetSpec) :=
  OpenClaim.holds_of_wide 6 Try.f6 rfl rfl rfl rfl rfl rfl rfl ⟨rfl, rfl, rfl, rfl, rfl⟩ rfl rfl rfl rfl rfl (by kernel_rfl) Try.func6 (by kernel_rfl)
    (of_decide_eq_true (by kernel_rfl)) (by unfold Func.isWrapper; first | (rw [if_pos (by decide +kernel)]; kernel_rfl) | (rw [if_neg (by decide +kernel)]; exact ⟨rfl, rfl⟩))
    (fun os started H enc _ => lifted os started H enc)

theorem proved : Rows.VectorsGetSaid :=
  over

end Go.Proofs.Ytbcfncdmkgoidaa.vectorsGet
