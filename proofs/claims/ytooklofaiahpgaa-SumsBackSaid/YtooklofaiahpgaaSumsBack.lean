/-
  Proved: salesroomlaw02.SumsBack answers true, for any bytes and any sum, in whatever memory. No conditions.
-/
import Derived.Test.YtooklofaiahpgaaRows
import Derived.Test.YtooklofaiahpgaaAlive2
import Derived.Test.YtooklofaiahpgaaLift
namespace Go.Proofs.Ytooklofaiahpgaa.sumsBack
open Go.ChangeShapes Go.WideShapes Go.ChangeAt Go.RowKit
set_option linter.unusedVariables false

theorem unst_num (n : Nat) (b : UInt8) : bits .xor .u32 ((n : Int) * 899433627 % 4294967296) ((b.toNat : Int) % 4294967296) = (unst n b.toNat : Int) := by
  have e0 : (b.toNat : Int) % 4294967296 = (b.toNat : Int) := by have := byte_lt32 b; omega
  rw [e0]
  have e : (n : Int) * 899433627 % 4294967296 = ((n * 899433627 % 4294967296 : Nat) : Int) := by omega
  rw [e, bits_xor_u32_nat _ _ (Nat.mod_lt _ (by omega)) (byte_lt32 b)]
  rfl

theorem on_eq (s t : Nat) (hs : s < 4294967296) (A : Option Addr) (n c : Nat) (bs : List UInt8) (w : World) (hr : Rd w A n (cu8 bs)) (hn : n ≤ 1000000000) (h : sumF s bs = t) :
    Calls Try.prog 11 #[.int .u32 s, .slice A n c] w fun e w' => e = .returned (.int .u32 t) ∧ Below w.heap.size w w' :=
  (on_any s hs A n c bs w hr hn).mono fun e w' h2 => by rw [h] at h2; exact h2
theorem of_eq (t : Nat) (A : Option Addr) (n c : Nat) (bs : List UInt8) (w : World) (hr : Rd w A n (cu8 bs)) (hn : n ≤ 1000000000) (h : sumF 2166136261 bs = t) :
    Calls Try.prog 9 #[.slice A n c] w fun e w' => e = .returned (.int .u32 t) ∧ Below w.heap.size w w' :=
  (of_any A n c bs w hr hn).mono fun e w' h2 => by rw [h] at h2; exact h2

set_option maxRecDepth 100000 in
set_option maxHeartbeats 1000000 in
theorem walk_long (A : Option Addr) (n c : Nat) (S : Nat) (w : World) (hc2 : c ≤ maxLen) (hc : n ≤ c) (hn : 20000 < n) :
    Calls Try.prog 4 #[.slice A n c, .int .u32 S] w fun e w' => e = .returned (.bool true) ∧ Below w.heap.size w w' := by
  unfold maxLen at hc2
  have h1 : decide (20000 < n) = true := by simpa using hn
  go_enter Try.func4, Try.ntmps4
  go_wp2_with fail
  refine (alive2_any _).mono ?_
  rintro e w1 ⟨rfl, hb1⟩
  go_wp2
  go_ret
  exact ⟨rfl, hb1⟩

set_option maxRecDepth 100000 in
set_option maxHeartbeats 2000000 in
theorem walk_short (A : Option Addr) (n c : Nat) (bs : List UInt8) (S : Nat) (hS : S < 4294967296) (w : World) (hr : Rd w A n (cu8 bs)) (hc2 : c ≤ maxLen) (hc : n ≤ c) (hn : n ≤ 20000) :
    Calls Try.prog 4 #[.slice A n c, .int .u32 S] w fun e w' => e = .returned (.bool true) ∧ Below w.heap.size w w' := by
  have hl : bs.length = n := by have h := hr.len; rw [cu8_len] at h; exact h
  have HL := Lib.hid hl
  clear hl
  have h1 : decide (20000 < n) = false := by simp; omega
  unfold maxLen at hc2
  go_enter Try.func4, Try.ntmps4
  go_wp2_with fail
  refine (undo_any _).mono ?_
  rintro e w0 ⟨rfl, rfl⟩
  go_wp2_with fail
  refine (of_any A n c bs _ hr (by omega)).mono ?_
  rintro e w1 ⟨rfl, hb1⟩
  have hr1 := hr.below hb1
  go_wp2_with fail
  go_loop [6, 7, 8] (fun x y i => ∃ j m : Nat, j ≤ n ∧ m < 4294967296 ∧ Hid (sumF m (bs.drop j) = S) ∧ x = .int .u32 m ∧ y = .int .u32 (sumF 2166136261 (bs.take j)) ∧ i = .int .i64 ((j : Int) - 1)) (fun _ _ i => (intOf i + 1).toNat)
  case atStart => exact ⟨n, S, Nat.le_refl _, hS, Lib.hid (by rw [List.drop_of_length_le (by rw [HL.out]; exact Nat.le_refl _), sumF_nil]), rfl, by rw [List.take_of_length_le (by rw [HL.out]; exact Nat.le_refl _)], rfl⟩
  case round =>
    obtain ⟨j, m, hj, hm, hM, rfl, rfl, rfl⟩ := hrel
    rcases j with _ | k
    · have hM0 : sumF m bs = S := hM.out
      have HM := Lib.hid hM0
      have e0 : sumF 2166136261 (bs.take 0) = 2166136261 := by rw [List.take_zero, sumF_nil]
      have e1 : ((0 : Nat) : Int) - 1 = -1 := by omega
      simp only [e0, e1]
      clear e0 e1 hM hM0
      by_cases hs : m = 2166136261
      · subst hs
        go_wp2_with fail
        refine (alive2_any _).mono ?_
        rintro e w2 ⟨rfl, hb2⟩
        have hr2 := hr1.below hb2
        have hB2 := hb1.trans (hb2.mono hb1.size)
        go_wp2_with fail
        refine (on_eq 2166136261 S hm A n c bs _ hr2 (by omega) HM.out).mono ?_
        rintro e w3 ⟨rfl, hb3⟩
        have hr3 := hr2.below hb3
        have hB3 := hB2.trans (hb3.mono hB2.size)
        go_wp2_with fail
        refine (of_eq S A n c bs _ hr3 (by omega) HM.out).mono ?_
        rintro e w4 ⟨rfl, hb4⟩
        have hB4 := hB3.trans (hb4.mono hB3.size)
        go_wp2
        go_ret
        exact ⟨rfl, hB4⟩
      · have f1 : ((m : Int) == 2166136261) = false := by rw [beq_eq_false_iff_ne]; omega
        have hne : sumF 2166136261 bs ≠ S := fun h => hs (sumF_inj hm (by omega) bs (HM.out.trans h.symm))
        generalize hT : sumF 2166136261 bs = T at hne
        have HT := Lib.hid hT
        clear hT
        have f2 : ((T : Int) == (S : Int)) = false := by rw [beq_eq_false_iff_ne]; omega
        go_wp2_with fail
        refine (alive2_any _).mono ?_
        rintro e w2 ⟨rfl, hb2⟩
        have hr2 := hr1.below hb2
        have hB2 := hb1.trans (hb2.mono hb1.size)
        go_wp2_with fail
        refine (on_eq m S hm A n c bs _ hr2 (by omega) HM.out).mono ?_
        rintro e w3 ⟨rfl, hb3⟩
        have hr3 := hr2.below hb3
        have hB3 := hB2.trans (hb3.mono hB2.size)
        go_wp2_with fail
        refine (of_eq T A n c bs _ hr3 (by omega) HT.out).mono ?_
        rintro e w4 ⟨rfl, hb4⟩
        have hB4 := hB3.trans (hb4.mono hB3.size)
        go_wp2
        go_ret
        exact ⟨rfl, hB4⟩
    · have hkl : k < bs.length := by rw [HL.out]; omega
      obtain ⟨b0, o0, rfl, hb0, u0, hu0, hcell⟩ := hr1.get (k := k) (by omega)
      rw [cu8_get bs k hkl] at hu0
      obtain rfl : bV bs[k] = u0 := by injection hu0
      have hcell' : w1.cell? ⟨b0, o0 + k, none⟩ = some (.int .u8 bs[k].toNat) := hcell
      clear hcell hu0
      have e1 : ((k + 1 : Nat) : Int) - 1 = (k : Int) := by omega
      simp only [e1]
      clear e1
      have q1 := Lib.hid (unst_num m bs[k])
      have hv := sumF_lt 2166136261 (by omega) (bs.take (k + 1))
      have q2 := Lib.hid (unst_num (sumF 2166136261 (bs.take (k + 1))) bs[k])
      have q3 := Lib.hid (show unst (sumF 2166136261 (bs.take (k + 1))) bs[k].toNat = sumF 2166136261 (bs.take k) by rw [sumF_take _ _ _ hkl, unst_stp _ _ (sumF_lt _ (by omega) _) (byte_lt32 _)])
      have q4 := Lib.hid (show sumF (unst m bs[k].toNat) (bs.drop k) = S by rw [List.drop_eq_getElem_cons hkl, sumF_cons, stp_unst _ _ hm]; exact hM.out)
      generalize sumF 2166136261 (bs.take (k + 1)) = v at hv q2 q3 ⊢
      go_wp2
      go_round
      case rel => exact ⟨k, unst m bs[k].toNat, by omega, unst_lt _ _ (byte_lt32 _), q4, by rw [← q1.out], by rw [← q3.out, ← q2.out], rfl⟩
      case measure => (simp [intOf]; try omega)

theorem own : ownKnob Try.prog.godebug = none := by kernel_rfl
theorem laidOut : laidOutB Try.prog = true := by kernel_rfl

set_option maxRecDepth 100000 in
theorem lifted (os : Os) (started : os.Started) (H : Type) (enc : TypeId × Value → H) :
    ReturnsInHanded {} Try.checked os 4 .any (Rows.sumsBackSpec.pre6 enc Try.prog Try.f4 Rows.sumsBackRow.domain false) (Rows.sumsBackSpec.post enc Try.prog Try.f4 false true false false) := by
  refine returnsInHanded_of_change (C := Try.checked) own started (by kernel_rfl) Try.func4
    (ChangeSpec.witness6 (enc := enc) (C := Try.checked) false ⟨#[], #[.slice none 0 0, .int .u32 0], []⟩ 8 (by kernel_rfl) (by kernel_rfl) (by kernel_rfl) (by kernel_rfl)) ?_
  intro W base args ds gs before hval0 hW hcnd _
  have hval : ∀ (j : Nat) t v, Try.f4.params[j]? = some t → args[j]? = some v → Value.okWide Try.prog W .any base t v := hval0
  have hW' := hW
  obtain ⟨p, q, hA0, hV, rfl, hfz, hnd⟩ := hW
  have hA : DataW.TrodAll enc Try.prog W 0 (fun _ => true) true Try.f4.params.toList args.toList ds p := hA0
  rw [Try.params4] at hA hval
  obtain ⟨v0, vs0, d0, ds0, p0, q0, hargs, rfl, rfl, h0, r0⟩ := trodAll_cons hA
  obtain ⟨v1, vs1, d1, ds1, p1, q1, rfl, rfl, rfl, h1, r1⟩ := trodAll_cons r0
  obtain ⟨rfl, rfl, rfl⟩ := trodAll_nil r1
  obtain rfl : args = #[v0, v1] := by cases args; simp_all
  obtain ⟨A, n, c, l, rfl, a1, a2, a3⟩ := arg_u8s Try.underlying22 Try.underlying5 (by kernel_rfl) (hval 0 22 v0 rfl rfl) h0
  obtain ⟨z, rfl, rfl, rfl, w1⟩ := open_int Try.underlying23 (hval 1 23 v1 rfl rfl) h1
  obtain ⟨y, rfl, hy⟩ := fit_u32 w1
  have hwalk : Calls Try.prog 4 #[.slice A n c, .int .u32 y] W fun e w' => e = .returned (.bool true) ∧ Below W.heap.size W w' := by
    by_cases hn : n ≤ 20000
    · exact walk_short A n c l y hy W a1 a3 a2 hn
    · exact walk_long A n c y W a3 a2 (by omega)
  refine hwalk.mono fun e W' ⟨he, hg⟩ => ?_
  subst he
  exact ⟨_, rfl, law_post laidOut (by kernel_rfl) hW' rfl rfl (by kernel_rfl) Try.underlying4 hg⟩

theorem over : Rows.sumsBackRow.holds Try.pinned (OpenSpec.ofChange Rows.sumsBackSpec) :=
  OpenClaim.holds_of_wide 4 Try.f4 rfl rfl rfl rfl rfl rfl rfl ⟨rfl, rfl, rfl, rfl, rfl⟩ rfl rfl rfl rfl rfl (by kernel_rfl) Try.func4 (by kernel_rfl)
    (of_decide_eq_true (by kernel_rfl)) (by unfold Func.isWrapper; first | (rw [if_pos (by decide +kernel)]; kernel_rfl) | (rw [if_neg (by decide +kernel)]; exact ⟨rfl, rfl⟩))
    (fun os started H enc _ => lifted os started H enc)

theorem proved : Rows.SumsBackSaid :=
  over
end Go.Proofs.Ytooklofaiahpgaa.sumsBack
