/-
  Proved: salesroomlaw01.NumsBytes answers true, for every number and every count of bytes, in whatever memory. No conditions.
-/
import Derived.Test.YtillimpfnpjbhaaRows
import Derived.Test.YtillimpfnpjbhaaAlive1
import Derived.Test.YtillimpfnpjbhaaLift
namespace Go.Proofs.Ytillimpfnpjbhaa.numsBytes
open Go.ChangeShapes Go.WideShapes Go.ChangeAt Go.RowKit
set_option linter.unusedVariables false

set_option maxRecDepth 100000 in
set_option maxHeartbeats 1000000 in
theorem walk (N y : Nat) (hN : N < 18446744073709551616) (hy : y < 256) (w : World) :
    Calls Try.prog 5 #[.int .u64 N, .int .u8 y] w fun e w' => e = .returned (.bool true) ∧ Below w.heap.size w w' := by
  obtain ⟨m, hm⟩ : ∃ m, m = y % 9 := ⟨_, rfl⟩
  have hm9 : m ≤ 8 := by omega
  have hym : (y : Int) % 9 = (m : Int) := by omega
  clear hm
  go_enter Try.func5, Try.ntmps5
  go_wp2_with fail
  refine (put_nil N hN m hm9 w).mono ?_
  rintro e w1 ⟨A1, c1, rfl, ho1, hb1⟩
  go_wp2_with fail
  refine (put_nil N hN 8 (by omega) w1).mono ?_
  rintro e w2 ⟨A2, c2, rfl, ho2, hb2⟩
  have hc2 : m ≤ c2 := by have := ho2.le; omega
  have hcm2 : c2 ≤ 9223372036854775807 := by have := ho2.cap; unfold maxLen at this; omega
  go_wp2_with fail
  refine (alive_any w2).mono ?_
  rintro e w3 ⟨rfl, hb3⟩
  have ho1' := ((ho1.below hb2).below hb3).rd
  have ho2' := (ho2.below hb3)
  have hr2 := ho2'.rd.take hm9
  rw [cu8_take, putB_take _ _ _ hm9] at hr2
  have hB3 : Below w.heap.size w w3 := (hb1.trans (hb2.mono hb1.size)).trans (hb3.mono (Nat.le_trans hb1.size hb2.size))
  clear ho1 ho2 hb1 hb2 hb3
  go_wp2_with fail
  refine (samebytes_eq _ m _ _ _ _ _ ho1' hr2 (by unfold maxLen; omega)).mono ?_
  rintro e w4 ⟨rfl, q, rfl⟩
  go_wp2_with fail
  have ho3 : Own (w3.drewN q) w1.heap.size 5 A2 8 c2 (cu8 (putB N 8)) := ho2'
  clear ho1' hr2 ho2'
  obtain ⟨g, rfl, _, _⟩ := ho3.lt (by have := ho3.le; omega)
  go_loop [0, 8] (fun x i => ∃ j : Nat, j ≤ 8 ∧ i = .int .i64 j ∧ x = .int .u64 ((N / 2 ^ (8 * j) : Nat) : Int)) (fun _ i => 8 - (intOf i).toNat)
  case atStart => exact ⟨0, by omega, rfl, by simp⟩
  case round =>
    obtain ⟨j, hj, rfl, rfl⟩ := hrel
    by_cases hlt : j < 8
    · have hc := ho3.cell hlt
      rw [cu8_get _ _ (by rw [putB_len]; exact hlt)] at hc
      have hget : (putB N 8)[j]'(by rw [putB_len]; exact hlt) = UInt8.ofNat (N / 2 ^ (8 * j)) := by simp [putB]
      rw [hget, bV_ofNat] at hc
      have hX : N / 2 ^ (8 * j) < 18446744073709551616 := Nat.lt_of_le_of_lt (Nat.div_le_self _ _) hN
      have hnext : N / 2 ^ (8 * j) / 256 = N / 2 ^ (8 * (j + 1)) := by
        rw [Nat.div_div_eq_div_mul, show 8 * (j + 1) = 8 * j + 8 by omega, Nat.pow_add]
      have HN := Lib.hid hnext
      clear hget hnext
      generalize N / 2 ^ (8 * j) = X at hc hX HN
      go_wp2
      go_round
      case rel => exact ⟨j + 1, by omega, by go_num, by rw [← HN.out]; rfl⟩
      case measure => simp [intOf]; omega
    · obtain rfl : j = 8 := by omega
      go_wp2
      go_ret
      exact ⟨rfl, belowN hB3 q⟩

theorem own : ownKnob Try.prog.godebug = none := by kernel_rfl
theorem laidOut : laidOutB Try.prog = true := by kernel_rfl

set_option maxRecDepth 100000 in
theorem lifted (os : Os) (started : os.Started) (H : Type) (enc : TypeId × Value → H) :
    ReturnsInHanded {} Try.checked os 5 .any (Rows.numsBytesSpec.pre6 enc Try.prog Try.f5 Rows.numsBytesRow.domain false) (Rows.numsBytesSpec.post enc Try.prog Try.f5 false true false false) := by
  refine returnsInHanded_of_change (C := Try.checked) own started (by kernel_rfl) Try.func5
    (ChangeSpec.witness6 (enc := enc) (C := Try.checked) false ⟨#[], #[.int .u64 0, .int .u8 0], []⟩ 8 (by kernel_rfl) (by kernel_rfl) (by kernel_rfl) (by kernel_rfl)) ?_
  intro W base args ds gs before hval0 hW hcnd _
  have hval : ∀ (j : Nat) t v, Try.f5.params[j]? = some t → args[j]? = some v → Value.okWide Try.prog W .any base t v := hval0
  have hW' := hW
  obtain ⟨p, q, hA0, hV, rfl, hfz, hnd⟩ := hW
  have hA : DataW.TrodAll enc Try.prog W 0 (fun _ => true) true Try.f5.params.toList args.toList ds p := hA0
  rw [Try.params5] at hA hval
  obtain ⟨v0, vs0, d0, ds0, p0, q0, hargs, rfl, rfl, h0, r0⟩ := trodAll_cons hA
  obtain ⟨v1, vs1, d1, ds1, p1, q1, rfl, rfl, rfl, h1, r1⟩ := trodAll_cons r0
  obtain ⟨rfl, rfl, rfl⟩ := trodAll_nil r1
  obtain rfl : args = #[v0, v1] := by cases args; simp_all
  obtain ⟨a0, rfl, rfl, rfl, w0⟩ := open_int Try.underlying24 (hval 0 24 v0 rfl rfl) h0
  obtain ⟨a1, rfl, rfl, rfl, w1⟩ := open_int Try.underlying5 (hval 1 5 v1 rfl rfl) h1
  obtain ⟨N, rfl, hN⟩ := fit_u64 w0
  obtain ⟨y, rfl, hy⟩ := fit_u8 w1
  refine (walk N y hN hy W).mono fun e W' ⟨he, hg⟩ => ?_
  subst he
  exact ⟨_, rfl, law_post laidOut (by kernel_rfl) hW' rfl rfl (by kernel_rfl) Try.underlying4 hg⟩

theorem over : Rows.numsBytesRow.holds Try.pinned (OpenSpec.ofChange Rows.numsBytesSpec) :=
  OpenClaim.holds_of_wide 5 Try.f5 rfl rfl rfl rfl rfl rfl rfl ⟨rfl, rfl, rfl, rfl, rfl⟩ rfl rfl rfl rfl rfl (by kernel_rfl) Try.func5 (by kernel_rfl)
    (of_decide_eq_true (by kernel_rfl)) (by unfold Func.isWrapper; first | (rw [if_pos (by decide +kernel)]; kernel_rfl) | (rw [if_neg (by decide +kernel)]; exact ⟨rfl, rfl⟩))
    (fun os started H enc _ => lifted os started H enc)

theorem proved : Rows.NumsBytesSaid :=
  over
end Go.Proofs.Ytillimpfnpjbhaa.numsBytes
