/-
  Proved: salesroomlaw02.SumsLowest answers true, for any bytes, any sum and any number of bits, in whatever memory. No conditions.
-/
import Derived.Test.YtooklofaiahpgaaRows
import Derived.Test.YtooklofaiahpgaaAlive2
import Derived.Test.YtooklofaiahpgaaLift
namespace Go.Proofs.Ytooklofaiahpgaa.sumsLowest
open Go.ChangeShapes Go.WideShapes Go.ChangeAt Go.RowKit
set_option linter.unusedVariables false

/-- '& mask', the mask of the lowest k bits. -/
theorem and_mask (a k : Nat) (ha : a < 4294967296) (hk : k < 32) : bits .and .u32 (a : Int) ((2 ^ k - 1 : Nat) : Int) = ((a % 2 ^ k : Nat) : Int) := by
  have hp : 2 ^ k ≤ 2 ^ 31 := Nat.pow_le_pow_right (by omega) (by omega)
  rw [bits_and_u32_nat _ _ ha (by omega), Nat.and_two_pow_sub_one_eq_mod]

/-- A round. -/
theorem low_num (s k mk : Nat) (hmk : 2 ^ k - 1 = mk) (hk : k < 32) (b : UInt8) :
    bits .and .u32 (bits .xor .u32 ((s % 2 ^ k : Nat) : Int) (bits .and .u32 ((b.toNat : Int) % 4294967296) (mk : Int)) * bits .and .u32 16777619 (mk : Int) % 4294967296) (mk : Int) = ((stp s b.toNat % 2 ^ k : Nat) : Int) := by
  have hp : 2 ^ k ≤ 2 ^ 31 := Nat.pow_le_pow_right (by omega) (by omega)
  have hp0 : 0 < 2 ^ k := Nat.pow_pos (by omega)
  have e0 : (b.toNat : Int) % 4294967296 = (b.toNat : Int) := by have := byte_lt32 b; omega
  have h1 : s % 2 ^ k < 2 ^ k := Nat.mod_lt _ hp0
  have h2 : b.toNat % 2 ^ k < 2 ^ k := Nat.mod_lt _ hp0
  rw [← hmk, e0, and_mask _ k (byte_lt32 b) hk, show (16777619 : Int) = ((16777619 : Nat) : Int) from rfl, and_mask _ k (by omega) hk, bits_xor_u32_nat _ _ (by omega) (by omega), stp_low s b.toNat k (by omega)]
  generalize s % 2 ^ k ^^^ b.toNat % 2 ^ k = x
  generalize 16777619 % 2 ^ k = y
  rw [← Int.natCast_mul, show ((x * y : Nat) : Int) % 4294967296 = ((x * y % 4294967296 : Nat) : Int) from (Int.natCast_emod _ _).symm]
  exact and_mask _ k (Nat.mod_lt _ (by omega)) hk

set_option maxRecDepth 100000 in
set_option maxHeartbeats 1000000 in
theorem walk_long (A : Option Addr) (n c : Nat) (S K : Nat) (hK : K < 256) (w : World) (hc2 : c ≤ maxLen) (hc : n ≤ c) (hn : 50000 < n) :
    Calls Try.prog 6 #[.slice A n c, .int .u32 S, .int .u8 K] w fun e w' => e = .returned (.bool true) ∧ Below w.heap.size w w' := by
  unfold maxLen at hc2
  have h1 : decide (50000 < n) = true := by simpa using hn
  go_enter Try.func6, Try.ntmps6
  go_wp2_with fail
  refine (alive2_any _).mono ?_
  rintro e w1 ⟨rfl, hb1⟩
  go_wp2
  go_ret
  exact ⟨rfl, hb1⟩

set_option maxRecDepth 100000 in
set_option maxHeartbeats 2000000 in
theorem walk_short (A : Option Addr) (n c : Nat) (bs : List UInt8) (S : Nat) (hS : S < 4294967296) (K : Nat) (hK : K < 256) (w : World) (hr : Rd w A n (cu8 bs)) (hc2 : c ≤ maxLen) (hc : n ≤ c) (hn : n ≤ 50000) :
    Calls Try.prog 6 #[.slice A n c, .int .u32 S, .int .u8 K] w fun e w' => e = .returned (.bool true) ∧ Below w.heap.size w w' := by
  have hl : bs.length = n := by have h := hr.len; rw [cu8_len] at h; exact h
  have HL := Lib.hid hl
  clear hl
  have h1 : decide (50000 < n) = false := by simp; omega
  unfold maxLen at hc2
  go_enter Try.func6, Try.ntmps6
  go_wp2_with fail
  have hk : K % 32 < 32 := Nat.mod_lt _ (by omega)
  generalize K % 32 = k at hk ⊢
  have hp : 2 ^ k ≤ 2 ^ 31 := Nat.pow_le_pow_right (by omega) (by omega)
  have hp0 : 0 < 2 ^ k := Nat.pow_pos (by omega)
  have ep : ((2 : Int) ^ k) = ((2 ^ k : Nat) : Int) := by simp
  have e7 : ((2 : Int) ^ k % 4294967296 - 1) % 4294967296 = ((2 ^ k - 1 : Nat) : Int) := by rw [ep]; omega
  have e8 : bits BinOp.and IntKind.u32 (S : Int) (((2 : Int) ^ k - 1) % 4294967296) = ((S % 2 ^ k : Nat) : Int) := by
    rw [← and_mask S k hS hk]
    congr 1
    rw [ep]
    omega
  simp only [e7, e8]
  clear e7 e8 ep hp hp0
  generalize hmk : 2 ^ k - 1 = mk
  have HK := Lib.hid hmk
  have HS := Lib.hid (fun s => sumF_lt S hS (bs.take s))
  clear hmk
  go_loop [8, 9] (fun x i => ∃ j : Nat, j ≤ n ∧ i = .int .i64 j ∧ x = .int .u32 ((sumF S (bs.take j) % 2 ^ k : Nat) : Int)) (fun _ i => n - (intOf i).toNat)
  case atStart => exact ⟨0, Nat.zero_le _, rfl, rfl⟩
  case round =>
    obtain ⟨j, hj, rfl, rfl⟩ := hrel
    by_cases hlt : j < n
    · have hjl : j < bs.length := by rw [HL.out]; exact hlt
      obtain ⟨b0, o0, rfl, hb0, u0, hu0, hcell⟩ := hr.get hlt
      rw [cu8_get bs j hjl] at hu0
      obtain rfl : bV bs[j] = u0 := by injection hu0
      have hcell' : w.cell? ⟨b0, o0 + j, none⟩ = some (.int .u8 bs[j].toNat) := hcell
      have hT := Lib.hid (sumF_take S bs j hjl)
      clear hcell hu0
      have q1 := Lib.hid (low_num (sumF S (bs.take j)) k mk HK.out hk bs[j])
      generalize sumF S (bs.take j) % 2 ^ k = v at q1 ⊢
      go_wp2
      go_round
      case rel => exact ⟨j + 1, by omega, by go_num, by rw [hT.out, ← q1.out]⟩
      case measure => (simp [intOf]; try omega)
    · obtain rfl : j = n := by omega
      have e1 : bs.take j = bs := List.take_of_length_le (by rw [HL.out]; exact Nat.le_refl _)
      simp only [e1]
      clear e1
      have f1 : bits BinOp.and IntKind.u32 ((sumF S bs : Nat) : Int) (mk : Int) = ((sumF S bs % 2 ^ k : Nat) : Int) := by rw [← HK.out]; exact and_mask _ k (sumF_lt S hS bs) hk
      generalize sumF S bs % 2 ^ k = v at f1 ⊢
      go_wp2_with fail
      refine (alive2_any _).mono ?_
      rintro e w2 ⟨rfl, hb2⟩
      have hr2 := hr.below hb2
      go_wp2_with fail
      refine (on_any S hS A j c bs _ hr2 (by omega)).mono ?_
      rintro e w3 ⟨rfl, hb3⟩
      have hB3 := hb2.trans (hb3.mono hb2.size)
      generalize sumF S bs = u at f1 ⊢
      go_wp2
      go_ret
      exact ⟨rfl, hB3⟩

theorem walk (A : Option Addr) (n c : Nat) (bs : List UInt8) (S : Nat) (hS : S < 4294967296) (K : Nat) (hK : K < 256) (w : World) (hr : Rd w A n (cu8 bs)) (hc2 : c ≤ maxLen) (hc : n ≤ c) :
    Calls Try.prog 6 #[.slice A n c, .int .u32 S, .int .u8 K] w fun e w' => e = .returned (.bool true) ∧ Below w.heap.size w w' := by
  by_cases hn : n ≤ 50000
  · exact walk_short A n c bs S hS K hK w hr hc2 hc hn
  · exact walk_long A n c S K hK w hc2 hc (by omega)

theorem own : ownKnob Try.prog.godebug = none := by kernel_rfl
theorem laidOut : laidOutB Try.prog = true := by kernel_rfl

set_option maxRecDepth 100000 in
theorem lifted (os : Os) (started : os.Started) (H : Type) (enc : TypeId × Value → H) :
    ReturnsInHanded {} Try.checked os 6 .any (Rows.sumsLowestSpec.pre6 enc Try.prog Try.f6 Rows.sumsLowestRow.domain false) (Rows.sumsLowestSpec.post enc Try.prog Try.f6 false true false false) := by
  refine returnsInHanded_of_change (C := Try.checked) own started (by kernel_rfl) Try.func6
    (ChangeSpec.witness6 (enc := enc) (C := Try.checked) false ⟨#[], #[.slice none 0 0, .int .u32 0, .int .u8 0], []⟩ 8 (by kernel_rfl) (by kernel_rfl) (by kernel_rfl) (by kernel_rfl)) ?_
  intro W base args ds gs before hval0 hW hcnd _
  have hval : ∀ (j : Nat) t v, Try.f6.params[j]? = some t → args[j]? = some v → Value.okWide Try.prog W .any base t v := hval0
  have hW' := hW
  obtain ⟨p, q, hA0, hV, rfl, hfz, hnd⟩ := hW
  have hA : DataW.TrodAll enc Try.prog W 0 (fun _ => true) true Try.f6.params.toList args.toList ds p := hA0
  rw [Try.params6] at hA hval
  obtain ⟨v0, vs0, d0, ds0, p0, q0, hargs, rfl, rfl, h0, r0⟩ := trodAll_cons hA
  obtain ⟨v1, vs1, d1, ds1, p1, q1, rfl, rfl, rfl, h1, r1⟩ := trodAll_cons r0
  obtain ⟨v2, vs2, d2, ds2, p2, q2, rfl, rfl, rfl, h2, r2⟩ := trodAll_cons r1
  obtain ⟨rfl, rfl, rfl⟩ := trodAll_nil r2
  obtain rfl : args = #[v0, v1, v2] := by cases args; simp_all
  obtain ⟨A0, n0, c0, l0, rfl, a0, b0, e0⟩ := arg_u8s Try.underlying22 Try.underlying5 (by kernel_rfl) (hval 0 22 v0 rfl rfl) h0
  obtain ⟨x1, rfl, rfl, rfl, w1⟩ := open_int Try.underlying23 (hval 1 23 v1 rfl rfl) h1
  obtain ⟨y1, rfl, z1⟩ := fit_u32 w1
  obtain ⟨x2, rfl, rfl, rfl, w2⟩ := open_int Try.underlying5 (hval 2 5 v2 rfl rfl) h2
  obtain ⟨y2, rfl, z2⟩ := fit_u8 w2
  have hwalk : Calls Try.prog 6 #[.slice A0 n0 c0, .int .u32 y1, .int .u8 y2] W fun e w' => e = .returned (.bool true) ∧ Below W.heap.size W w' := walk A0 n0 c0 l0 y1 z1 y2 z2 W a0 e0 b0
  refine hwalk.mono fun e W' ⟨he, hg⟩ => ?_
  subst he
  exact ⟨_, rfl, law_post laidOut (by kernel_rfl) hW' rfl rfl (by kernel_rfl) Try.underlying4 hg⟩

theorem over : Rows.sumsLowestRow.holds Try.pinned (OpenSpec.ofChange Rows.sumsLowestSpec) :=
  OpenClaim.holds_of_wide 6 Try.f6 rfl rfl rfl rfl rfl rfl rfl ⟨rfl, rfl, rfl, rfl, rfl⟩ rfl rfl rfl rfl rfl (by kernel_rfl) Try.func6 (by kernel_rfl)
    (of_decide_eq_true (by kernel_rfl)) (by unfold Func.isWrapper; first | (rw [if_pos (by decide +kernel)]; kernel_rfl) | (rw [if_neg (by decide +kernel)]; exact ⟨rfl, rfl⟩))
    (fun os started H enc _ => lifted os started H enc)

theorem proved : Rows.SumsLowestSaid :=
  over
end Go.Proofs.Ytooklofaiahpgaa.sumsLowest
