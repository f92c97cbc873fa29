/-
  Proved: salesroomlaw02.SumsNought answers true, for any sum, any bytes and any number of noughts, in whatever memory. No conditions.
-/
import Derived.Test.YtooklofaiahpgaaRows
import Derived.Test.YtooklofaiahpgaaAlive2
import Derived.Test.YtooklofaiahpgaaLift
import Derived.Test.YtooklofaiahpgaaZeros
namespace Go.Proofs.Ytooklofaiahpgaa.sumsNought
open Go.ChangeShapes Go.WideShapes Go.ChangeAt Go.RowKit
set_option linter.unusedVariables false

theorem info_u8 : (Try.prog.info? 5).map (fun i => (i.zero, i.size, i.bytes)) = some (some (.int .u8 0), 1, 1) := by kernel_rfl

set_option maxRecDepth 100000 in
set_option maxHeartbeats 1000000 in
theorem walk_long (S : Nat) (A : Option Addr) (n c : Nat) (y : Nat) (w : World) (hc2 : c ≤ maxLen) (hc : n ≤ c) (hn : 50000 < n) :
    Calls Try.prog 7 #[.int .u32 S, .slice A n c, .int .u16 y] w fun e w' => e = .returned (.bool true) ∧ Below w.heap.size w w' := by
  unfold maxLen at hc2
  have h1 : decide (50000 < n) = true := by simpa using hn
  go_enter Try.func7, Try.ntmps7
  go_wp2_with fail
  refine (alive2_any _).mono ?_
  rintro e w1 ⟨rfl, hb1⟩
  go_wp2
  go_ret
  exact ⟨rfl, hb1⟩

theorem rep_cu8 (m : Nat) : List.replicate m (Value.int .u8 0) = cu8 (List.replicate m 0) := by simp [cu8, bV]

set_option maxRecDepth 100000 in
set_option maxHeartbeats 2000000 in
theorem walk_short (S : Nat) (hS : S < 4294967296) (A : Option Addr) (n c : Nat) (bs : List UInt8) (y : Nat) (hy : y < 65536) (w : World) (hr : Rd w A n (cu8 bs)) (hc2 : c ≤ maxLen) (hc : n ≤ c) (hn : n ≤ 50000) :
    Calls Try.prog 7 #[.int .u32 S, .slice A n c, .int .u16 y] w fun e w' => e = .returned (.bool true) ∧ Below w.heap.size w w' := by
  obtain ⟨i0, hi0, hz0, hz1, hz2⟩ := info_parts info_u8
  have h1 : decide (50000 < n) = false := by simp; omega
  unfold maxLen at hc2
  have hmod : (y : Int) % 3000 = ((y % 3000 : Nat) : Int) := by omega
  have hk : y % 3000 < 3000 := Nat.mod_lt _ (by omega)
  generalize y % 3000 = k at hmod hk
  have HF := Lib.hid (sumF_noughts (sumF S bs) (sumF_lt S hS bs) k)
  rw [← sumF_app] at HF
  go_enter Try.func7, Try.ntmps7
  go_wp2_with fail
  refine (on_any S hS A n c bs _ hr (by omega)).mono ?_
  rintro e w1 ⟨rfl, hb1⟩
  have hr1 := hr.below hb1
  obtain ⟨β, f1, f2⟩ : ∃ β : Bool, (((sumF S (bs ++ List.replicate k 0) : Nat) : Int) == 0) = β ∧ (((sumF S bs : Nat) : Int) == 0) = β := by
    have hb := HF.out
    by_cases h0 : sumF S bs = 0
    · refine ⟨true, ?_, ?_⟩
      · rw [beq_iff_eq, hb.2 h0]; rfl
      · rw [beq_iff_eq, h0]; rfl
    · refine ⟨false, ?_, ?_⟩
      · rw [beq_eq_false_iff_ne]
        intro h
        exact h0 (hb.1 (by omega))
      · rw [beq_eq_false_iff_ne]
        omega
  generalize sumF S bs = T2 at f2 HF ⊢
  clear HF
  go_wp2_with (at_builtin; go_must (first
    | refine wpList_app _ rfl _ _ 22 rfl 5 i0 _ 1 Try.underlying22 hi0 hz0 hz1 hz2 rfl w1.heap.size none 0 0 [] rfl (Own.none_ _ _ _ _) A n c _ rfl hr1 (cu8_one _) ?c3 ?c4 ?c5 ?_))
  case c3 => simp only [maxLen]; omega
  case c4 => omega
  case c5 => exact Nat.le_refl _
  intro A2 c2 w2 ho2 hb2 _ _
  go_wp2_with (at_builtin; go_must (first
    | refine wpList_app0 _ rfl _ _ 22 3 rfl 5 i0 _ 1 .i64 .i64 Try.underlying22 Try.underlying3 hi0 hz0 hz1 hz2 rfl rfl w1.heap.size A2 n c2 _ rfl ho2 k _ rfl ?c2 ?c3 ?c4 ?c5 ?_))
  case c2 => first | rfl | exact hmod
  case c3 => simp only [maxLen]; omega
  case c4 => omega
  case c5 => exact hb2.size
  intro A3 c3 w3 ho3 hb3
  have ho3' : Rd w3 A3 (n + k) (cu8 (bs ++ List.replicate k 0)) := by
    have h := ho3.rd
    rw [rep_cu8, ← cu8_app] at h
    exact h
  have hB3 : Below w.heap.size w w3 := hb1.trans ((hb2.trans hb3).mono hb1.size)
  clear ho3 ho2 hb2 hb3 hr1 hb1
  go_wp2_with fail
  refine (alive2_any _).mono ?_
  rintro e w4 ⟨rfl, hb4⟩
  have ho4 := ho3'.below hb4
  have hB4 := hB3.trans (hb4.mono hB3.size)
  go_wp2_with fail
  refine (on_any S hS A3 (n + k) c3 _ _ ho4 (by omega)).mono ?_
  rintro e w5 ⟨rfl, hb5⟩
  have hB5 := hB4.trans (hb5.mono hB4.size)
  generalize sumF S (bs ++ List.replicate k 0) = T1 at f1 ⊢
  go_wp2
  go_ret
  exact ⟨by simp, hB5⟩

theorem walk (S : Nat) (hS : S < 4294967296) (A : Option Addr) (n c : Nat) (bs : List UInt8) (y : Nat) (hy : y < 65536) (w : World) (hr : Rd w A n (cu8 bs)) (hc2 : c ≤ maxLen) (hc : n ≤ c) :
    Calls Try.prog 7 #[.int .u32 S, .slice A n c, .int .u16 y] w fun e w' => e = .returned (.bool true) ∧ Below w.heap.size w w' := by
  by_cases hn : n ≤ 50000
  · exact walk_short S hS A n c bs y hy w hr hc2 hc hn
  · exact walk_long S A n c y w hc2 hc (by omega)

theorem own : ownKnob Try.prog.godebug = none := by kernel_rfl
theorem laidOut : laidOutB Try.prog = true := by kernel_rfl

set_option maxRecDepth 100000 in
theorem lifted (os : Os) (started : os.Started) (H : Type) (enc : TypeId × Value → H) :
    ReturnsInHanded {} Try.checked os 7 .any (Rows.sumsNoughtSpec.pre6 enc Try.prog Try.f7 Rows.sumsNoughtRow.domain false) (Rows.sumsNoughtSpec.post enc Try.prog Try.f7 false true false false) := by
  refine returnsInHanded_of_change (C := Try.checked) own started (by kernel_rfl) Try.func7
    (ChangeSpec.witness6 (enc := enc) (C := Try.checked) false ⟨#[], #[.int .u32 0, .slice none 0 0, .int .u16 0], []⟩ 8 (by kernel_rfl) (by kernel_rfl) (by kernel_rfl) (by kernel_rfl)) ?_
  intro W base args ds gs before hval0 hW hcnd _
  have hval : ∀ (j : Nat) t v, Try.f7.params[j]? = some t → args[j]? = some v → Value.okWide Try.prog W .any base t v := hval0
  have hW' := hW
  obtain ⟨p, q, hA0, hV, rfl, hfz, hnd⟩ := hW
  have hA : DataW.TrodAll enc Try.prog W 0 (fun _ => true) true Try.f7.params.toList args.toList ds p := hA0
  rw [Try.params7] at hA hval
  obtain ⟨v0, vs0, d0, ds0, p0, q0, hargs, rfl, rfl, h0, r0⟩ := trodAll_cons hA
  obtain ⟨v1, vs1, d1, ds1, p1, q1, rfl, rfl, rfl, h1, r1⟩ := trodAll_cons r0
  obtain ⟨v2, vs2, d2, ds2, p2, q2, rfl, rfl, rfl, h2, r2⟩ := trodAll_cons r1
  obtain ⟨rfl, rfl, rfl⟩ := trodAll_nil r2
  obtain rfl : args = #[v0, v1, v2] := by cases args; simp_all
  obtain ⟨x0, rfl, rfl, rfl, w0⟩ := open_int Try.underlying23 (hval 0 23 v0 rfl rfl) h0
  obtain ⟨y0, rfl, z0⟩ := fit_u32 w0
  obtain ⟨A1, n1, c1, l1, rfl, a1, b1, e1⟩ := arg_u8s Try.underlying22 Try.underlying5 (by kernel_rfl) (hval 1 22 v1 rfl rfl) h1
  obtain ⟨x2, rfl, rfl, rfl, w2⟩ := open_int Try.underlying31 (hval 2 31 v2 rfl rfl) h2
  obtain ⟨y2, rfl, z2⟩ := fit_u16 w2
  have hwalk : Calls Try.prog 7 #[.int .u32 y0, .slice A1 n1 c1, .int .u16 y2] W fun e w' => e = .returned (.bool true) ∧ Below W.heap.size W w' := walk y0 z0 A1 n1 c1 l1 y2 z2 W a1 e1 b1
  refine hwalk.mono fun e W' ⟨he, hg⟩ => ?_
  subst he
  exact ⟨_, rfl, law_post laidOut (by kernel_rfl) hW' rfl rfl (by kernel_rfl) Try.underlying4 hg⟩

theorem over : Rows.sumsNoughtRow.holds Try.pinned (OpenSpec.ofChange Rows.sumsNoughtSpec) :=
  OpenClaim.holds_of_wide 7 Try.f7 rfl rfl rfl rfl rfl rfl rfl ⟨rfl, rfl, rfl, rfl, rfl⟩ rfl rfl rfl rfl rfl (by kernel_rfl) Try.func7 (by kernel_rfl)
    (of_decide_eq_true (by kernel_rfl)) (by unfold Func.isWrapper; first | (rw [if_pos (by decide +kernel)]; kernel_rfl) | (rw [if_neg (by decide +kernel)]; exact ⟨rfl, rfl⟩))
    (fun os started H enc _ => lifted os started H enc)

theorem proved : Rows.SumsNoughtSaid :=
  over
end Go.Proofs.Ytooklofaiahpgaa.sumsNought
