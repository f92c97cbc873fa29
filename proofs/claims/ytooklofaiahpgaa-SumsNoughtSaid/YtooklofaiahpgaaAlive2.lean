/-
  What the statements of layer 2 ask first: some answers that the document fixes.
-/
import Derived.Test.YtooklofaiahpgaaSumsW
import Derived.Test.YtooklofaiahpgaaLit
import Derived.Lib.SlBytesConst
namespace Go.Proofs.Ytooklofaiahpgaa
open Go.RowKit
set_option linter.unusedVariables false

theorem of_nil (w : World) : Calls Try.prog 9 #[.slice none 0 0] w fun e w' => e = .returned (.int .u32 2166136261) ∧ Below w.heap.size w w' :=
  of_any none 0 0 [] w (Rd.nil _ _) (by omega)
theorem sum_a : sumF 2166136261 [97] = 3826002220 := by decide +kernel
theorem sum_foobar : sumF 2166136261 [102, 111, 111, 98, 97, 114] = 3214735720 := by decide +kernel
theorem sum_noughts : sumF 0 [0, 0, 0] = 0 := by decide +kernel
theorem sum_one : sumF 1 [0] = 16777619 := by decide +kernel
theorem of_a (A : Option Addr) (c : Nat) (w : World) (hr : Rd w A 1 (cu8 [97])) : Calls Try.prog 9 #[.slice A 1 c] w fun e w' => e = .returned (.int .u32 3826002220) ∧ Below w.heap.size w w' :=
  (of_any A 1 c [97] w hr (by omega)).mono fun e w' h => by rw [sum_a] at h; exact h
theorem of_foobar (A : Option Addr) (c : Nat) (w : World) (hr : Rd w A 6 (cu8 [102, 111, 111, 98, 97, 114])) : Calls Try.prog 9 #[.slice A 6 c] w fun e w' => e = .returned (.int .u32 3214735720) ∧ Below w.heap.size w w' :=
  (of_any A 6 c _ w hr (by omega)).mono fun e w' h => by rw [sum_foobar] at h; exact h
theorem on_noughts (A : Option Addr) (c : Nat) (w : World) (hr : Rd w A 3 (cu8 [0, 0, 0])) : Calls Try.prog 11 #[.int .u32 0, .slice A 3 c] w fun e w' => e = .returned (.int .u32 0) ∧ Below w.heap.size w w' :=
  (on_any 0 (by omega) A 3 c _ w hr (by omega)).mono fun e w' h => by rw [sum_noughts] at h; exact h
theorem on_one (A : Option Addr) (c : Nat) (w : World) (hr : Rd w A 1 (cu8 [0])) : Calls Try.prog 11 #[.int .u32 1, .slice A 1 c] w fun e w' => e = .returned (.int .u32 16777619) ∧ Below w.heap.size w w' :=
  (on_any 1 (by omega) A 1 c _ w hr (by omega)).mono fun e w' h => by rw [sum_one] at h; exact h

set_option maxRecDepth 100000 in
set_option maxHeartbeats 1000000 in
theorem alive2_any (w : World) : Calls Try.prog 14 #[] w fun e w' => e = .returned (.bool true) ∧ Below w.heap.size w w' := by
  have kc := fun (w : World) (C : Array Value) (n c : Nat) => Lib.run_convert_bytes_const (P := Try.prog) w 22 5 C n c Try.underlying22 Try.underlying5
  go_enter Try.func14, Try.ntmps14
  go_wp2_with fail
  refine (of_nil _).mono ?_
  rintro e w1 ⟨rfl, hb1⟩
  go_wp2_with fail
  refine (of_a _ 1 _ (rd_lit w1 _ _ _ 1 _ rfl _ rfl rfl)).mono ?_
  rintro e w2 ⟨rfl, hb2⟩
  have hB2 := (hb1.alloc hb1.size _).trans (hb2.mono (by have h := hb1.size; simp; omega))
  clear hb1 hb2
  go_wp2_with fail
  refine (of_foobar _ 6 _ (rd_lit w2 _ _ _ 6 _ rfl _ rfl rfl)).mono ?_
  rintro e w3 ⟨rfl, hb3⟩
  have hB3 := (hB2.alloc hB2.size _).trans (hb3.mono (by have h := hB2.size; simp; omega))
  clear hB2 hb3
  go_wp2_with fail
  refine (on_noughts _ 3 _ (rd_lit w3 _ _ _ 3 _ rfl _ rfl rfl)).mono ?_
  rintro e w4 ⟨rfl, hb4⟩
  have hB4 := (hB3.alloc hB3.size _).trans (hb4.mono (by have h := hB3.size; simp; omega))
  clear hB3 hb4
  go_wp2_with fail
  refine (on_one _ 1 _ (rd_lit w4 _ _ _ 1 _ rfl _ rfl rfl)).mono ?_
  rintro e w5 ⟨rfl, hb5⟩
  have hB5 := (hB4.alloc hB4.size _).trans (hb5.mono (by have h := hB4.size; simp; omega))
  clear hB4 hb5
  go_wp2
  go_ret
  exact ⟨rfl, hB5⟩
end Go.Proofs.Ytooklofaiahpgaa
