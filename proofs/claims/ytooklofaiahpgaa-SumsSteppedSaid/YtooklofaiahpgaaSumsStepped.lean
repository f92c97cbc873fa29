/-
  Proved: salesroomlaw02.SumsStepped answers true, for any bytes and any sum, in whatever memory. No conditions.
-/
import Derived.Test.YtooklofaiahpgaaRows
import Derived.Test.YtooklofaiahpgaaSumsW
import Derived.Test.YtooklofaiahpgaaTwin
import Derived.Test.YtooklofaiahpgaaLift
namespace Go.Proofs.Ytooklofaiahpgaa.sumsStepped
open Go.ChangeShapes Go.WideShapes Go.ChangeAt Go.RowKit
set_option linter.unusedVariables false

set_option maxRecDepth 100000 in
set_option maxHeartbeats 2000000 in
theorem walk (A : Option Addr) (n c : Nat) (bs : List UInt8) (S : Nat) (hS : S < 4294967296) (w : World) (hr : Rd w A n (cu8 bs)) (hc2 : c ≤ maxLen) (hc : n ≤ c) :
    Calls Try.prog 3 #[.slice A n c, .int .u32 S] w fun e w' => e = .returned (.bool true) ∧ Below w.heap.size w w' := by
  unfold maxLen at hc2
  by_cases hn : n ≤ 50000
  · have h1 : decide (50000 < n) = false := by simp; omega
    go_enter Try.func3, Try.ntmps3
    go_wp2_with fail
    refine (twinbytes_any A n c bs w hr (by omega)).mono ?_
    rintro e w1 ⟨A1, c1, rfl, ho1, hb1⟩
    have hr1 := hr.below hb1
    have hx : ∀ {w' : World}, Own w' w.heap.size 5 A1 (n + 1) c1 (cu8 (bs ++ [77])) → Rd w' A1 n (cu8 bs) := fun {w'} h => by
      have h2 := h.rd.take (hi := n) (by omega)
      have hl : bs.length = n := by have h := hr.len; rw [cu8_len] at h; exact h
      rw [cu8_take, List.take_append_of_le_length (by omega), List.take_of_length_le (by omega)] at h2
      exact h2
    go_wp2_with fail
    refine (of_any A1 n c1 bs _ (hx ho1) (by omega)).mono ?_
    rintro e w2 ⟨rfl, hb2⟩
    have ho2 := ho1.below hb2
    have hr2 := hr1.below hb2
    have hB2 := hb1.trans (hb2.mono hb1.size)
    go_wp2_with fail
    refine (refof_any A n c bs _ hr2 (by omega)).mono ?_
    rintro e w3 ⟨rfl, rfl⟩
    go_wp2_with fail
    refine (on_any S hS A1 n c1 bs _ (hx ho2) (by omega)).mono ?_
    rintro e w3 ⟨rfl, hb3⟩
    have ho3 := ho2.below hb3
    have hr3 := hr2.below hb3
    have hB3 := hB2.trans (hb3.mono hB2.size)
    go_wp2_with fail
    refine (refon_any S hS A n c bs _ hr3 (by omega)).mono ?_
    rintro e w4 ⟨rfl, rfl⟩
    go_wp2_with fail
    refine (leftbytes_any A1 n c1 bs A c _ _ ho3 hr3 (by omega)).mono ?_
    rintro e w5 ⟨rfl, hb5⟩
    have hB5 := hB3.trans (hb5.mono hB3.size)
    go_wp2
    go_ret
    exact ⟨rfl, hB5⟩
  · have h1 : decide (50000 < n) = true := by simp; omega
    go_enter Try.func3, Try.ntmps3
    go_wp2
    go_ret
    exact ⟨rfl, Below.refl _ _⟩

theorem own : ownKnob Try.prog.godebug = none := by kernel_rfl
theorem laidOut : laidOutB Try.prog = true := by kernel_rfl

set_option maxRecDepth 100000 in
theorem lifted (os : Os) (started : os.Started) (H : Type) (enc : TypeId × Value → H) :
    ReturnsInHanded {} Try.checked os 3 .any (Rows.sumsSteppedSpec.pre6 enc Try.prog Try.f3 Rows.sumsSteppedRow.domain false) (Rows.sumsSteppedSpec.post enc Try.prog Try.f3 false true false false) := by
  refine returnsInHanded_of_change (C := Try.checked) own started (by kernel_rfl) Try.func3
    (ChangeSpec.witness6 (enc := enc) (C := Try.checked) false ⟨#[], #[.slice none 0 0, .int .u32 0], []⟩ 8 (by kernel_rfl) (by kernel_rfl) (by kernel_rfl) (by kernel_rfl)) ?_
  intro W base args ds gs before hval0 hW hcnd _
  have hval : ∀ (j : Nat) t v, Try.f3.params[j]? = some t → args[j]? = some v → Value.okWide Try.prog W .any base t v := hval0
  have hW' := hW
  obtain ⟨p, q, hA0, hV, rfl, hfz, hnd⟩ := hW
  have hA : DataW.TrodAll enc Try.prog W 0 (fun _ => true) true Try.f3.params.toList args.toList ds p := hA0
  rw [Try.params3] at hA hval
  obtain ⟨v0, vs0, d0, ds0, p0, q0, hargs, rfl, rfl, h0, r0⟩ := trodAll_cons hA
  obtain ⟨v1, vs1, d1, ds1, p1, q1, rfl, rfl, rfl, h1, r1⟩ := trodAll_cons r0
  obtain ⟨rfl, rfl, rfl⟩ := trodAll_nil r1
  obtain rfl : args = #[v0, v1] := by cases args; simp_all
  obtain ⟨A0, n0, c0, l0, rfl, a0, b0, e0⟩ := arg_u8s Try.underlying22 Try.underlying5 (by kernel_rfl) (hval 0 22 v0 rfl rfl) h0
  obtain ⟨x1, rfl, rfl, rfl, w1⟩ := open_int Try.underlying23 (hval 1 23 v1 rfl rfl) h1
  obtain ⟨y1, rfl, z1⟩ := fit_u32 w1
  have hwalk : Calls Try.prog 3 #[.slice A0 n0 c0, .int .u32 y1] W fun e w' => e = .returned (.bool true) ∧ Below W.heap.size W w' := walk A0 n0 c0 l0 y1 z1 W a0 e0 b0
  refine hwalk.mono fun e W' ⟨he, hg⟩ => ?_
  subst he
  exact ⟨_, rfl, law_post laidOut (by kernel_rfl) hW' rfl rfl (by kernel_rfl) Try.underlying4 hg⟩

theorem over : Rows.sumsSteppedRow.holds Try.pinned (OpenSpec.ofChange Rows.sumsSteppedSpec) :=
  OpenClaim.holds_of_wide 3 Try.f3 rfl rfl rfl rfl rfl rfl rfl ⟨rfl, rfl, rfl, rfl, rfl⟩ rfl rfl rfl rfl rfl (by kernel_rfl) Try.func3 (by kernel_rfl)
    (of_decide_eq_true (by kernel_rfl)) (by unfold Func.isWrapper; first | (rw [if_pos (by decide +kernel)]; kernel_rfl) | (rw [if_neg (by decide +kernel)]; exact ⟨rfl, rfl⟩))
    (fun os started H enc _ => lifted os started H enc)

theorem proved : Rows.SumsSteppedSaid :=
  over
end Go.Proofs.Ytooklofaiahpgaa.sumsStepped
