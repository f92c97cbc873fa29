/-
  Proved: salesroomlaw05.MarketsAgain answers true, for any bytes, in whatever memory. No conditions.
-/
import Derived.Test.YtoogldllcgbmdaaRows
import Derived.Test.YtoogldllcgbmdaaLift
import Derived.Test.YtoogldllcgbmdaaAlive5
import Derived.Test.YtoogldllcgbmdaaSame
namespace Go.Proofs.Ytoogldllcgbmdaa.marketsAgain
open Go.ChangeShapes Go.WideShapes Go.ChangeAt Go.RowKit
set_option linter.unusedVariables false

set_option maxRecDepth 100000 in
set_option maxHeartbeats 2000000 in
theorem walk (A : Option Addr) (n c : Nat) (bs : List UInt8) (w : World) (hr : Rd w A n (cu8 bs)) (hcm : c ≤ maxLen) (hc2 : n ≤ c) :
    Calls Try.prog 4 #[.slice A n c] w fun e w' => e = .returned (.bool true) ∧ Below w.heap.size w w' := by
  have hl : bs.length = n := by have h := hr.len; rw [cu8_len] at h; exact h
  have HL := Lib.hid hl
  clear hl
  have hcm' := hcm
  unfold maxLen at hcm'
  by_cases hn : 5000 < n
  · have h1 : decide (5000 < n) = true := by simp; omega
    have hB := Below.refl w.heap.size w
    go_enter Try.func4, Try.ntmps4
    have hc := alive5_any w
    go_wp2_with fail
    refine hc.mono ?_
    rintro e v1 ⟨rfl, hb⟩
    clear hc
    replace hB := hB.trans (hb.mono hB.size)
    clear hb
    go_wp2
    go_ret
    exact ⟨rfl, hB⟩
  · have h1 : decide (5000 < n) = false := by simp; omega
    by_cases hE : getME bs = 0
    · obtain ⟨r, b, o, g1, g2, g3⟩ := getME_zero hE
      have HE := Lib.hid hE
      clear hE
      have hB := Below.refl w.heap.size w
      go_enter Try.func4, Try.ntmps4
      have hc := mgetC A n c bs w hr hc2 hcm (by omega)
      rw [HE.out] at hc
      go_wp2_with fail
      refine hc.mono ?_
      rintro e v5 ⟨y, rfl, hy, hq, hb⟩
      clear hc
      replace hB := hB.trans (hb.mono hB.size)
      clear hb
      have v_y : y.v = .agg #[.slice y.r.A y.r.n y.r.c, .slice y.A y.n y.c, .slice y.o.A y.o.n y.o.c] := rfl
      have Vy := Lib.hid v_y
      clear v_y
      rw [Vy.out]
      have hpy : y.may = true ∧ y.bytes = bs := by
        rw [getM_good HE.out g2] at hq
        simp only [Mk.parts, Prod.mk.injEq] at hq
        have hm : y.may = true := by rw [Mk.may, hq.1, hq.2.1, hq.2.2]; exact g1
        exact ⟨hm, by rw [Mk.bytes, if_pos hm, hq.1, hq.2.1, hq.2.2, ← g3]⟩
      have hye : y.err = 0 := by rw [Mk.err, hpy.1]; rfl
      have M1 := Lib.hid hpy.1
      have M2 := Lib.hid hpy.2
      have M3 := Lib.hid hye
      clear hq hpy hye
      have b1 := InBox.new v5 y
      have hbx : Below v5.heap.size v5 (v5.alloc (.cells #[.slice y.r.A y.r.n y.r.c, .slice y.A y.n y.c, .slice y.o.A y.o.n y.o.c] 25)) := (Below.refl _ v5).alloc (Nat.le_refl _) _
      replace hy := hy.below hbx
      replace hB := hB.trans (hbx.mono hB.size)
      clear hbx
      have ea0 := b1.c0
      have ea1 := b1.c1
      have ea2 := b1.c2
      have hc := mputC y (v5.alloc (.cells #[.slice y.r.A y.r.n y.r.c, .slice y.A y.n y.c, .slice y.o.A y.o.n y.o.c] 25)) hy.ok
      rw [M3.out, M2.out, Vy.out] at hc
      go_wp2_with fail
      clear ea0 ea1 ea2
      generalize v5.alloc (.cells #[.slice y.r.A y.r.n y.r.c, .slice y.A y.n y.c, .slice y.o.A y.o.n y.o.c] 25) = W6 at *
      refine hc.mono ?_
      rintro e v7 ⟨A3, n3, c3, rfl, ho3, hb⟩
      clear hc
      replace hy := hy.below hb
      replace b1 := b1.below hb
      replace hB := hB.trans (hb.mono hB.size)
      clear hb
      have h3n : n3 = n := by
        have h := ho3.len
        rw [cu8_len, HL.out] at h
        exact h.symm
      subst h3n
      have ea0 := b1.c0
      have ea1 := b1.c1
      have ea2 := b1.c2
      have hc := alive5_any v7
      go_wp2_with fail
      clear ea0 ea1 ea2
      refine hc.mono ?_
      rintro e v8 ⟨rfl, hb⟩
      clear hc
      replace hy := hy.below hb
      replace ho3 := ho3.below hb
      replace b1 := b1.below hb
      replace hB := hB.trans (hb.mono hB.size)
      clear hb
      have ea0 := b1.c0
      have ea1 := b1.c1
      have ea2 := b1.c2
      have hc := mcheckC y v8 hy.ok
      rw [M1.out, Vy.out] at hc
      go_wp2_with fail
      clear ea0 ea1 ea2
      refine hc.mono ?_
      rintro e v9 ⟨rfl, hb⟩
      clear hc
      replace hy := hy.below hb
      replace ho3 := ho3.below hb
      replace b1 := b1.below hb
      replace hB := hB.trans (hb.mono hB.size)
      clear hb
      go_wp2_with fail
      refine (samebytes_eqB A n3 c bs A3 c3 _ (hr.below hB) ho3.rd (Nat.le_trans hc2 hcm)).mono ?_
      rintro e vz ⟨rfl, hb⟩
      replace hB := hB.trans (hb.mono hB.size)
      go_wp2
      go_ret
      exact ⟨rfl, hB⟩
    · obtain ⟨E, hEE⟩ : ∃ E, getME bs = E := ⟨_, rfl⟩
      have HE := Lib.hid hEE
      have hE0 : E ≠ 0 := by rw [← hEE]; exact hE
      have hE : E = 4 ∨ E = 5 := by rcases getME_cases bs with h | h | h <;> omega
      clear hEE
      have hB := Below.refl w.heap.size w
      go_enter Try.func4, Try.ntmps4
      have hc := mgetC A n c bs w hr hc2 hcm (by omega)
      rw [HE.out] at hc
      go_wp2_with fail
      refine hc.mono ?_
      rintro e v2 ⟨y, rfl, hy, hq, hb⟩
      clear hc
      replace hB := hB.trans (hb.mono hB.size)
      clear hb
      have v_y : y.v = .agg #[.slice y.r.A y.r.n y.r.c, .slice y.A y.n y.c, .slice y.o.A y.o.n y.o.c] := rfl
      have Vy := Lib.hid v_y
      clear v_y
      rw [Vy.out]
      have hyn : y.n = 0 := by
        rw [getM_bad' (by rw [HE.out]; exact hE0)] at hq
        have h := congrArg (fun p => p.2.1.length) hq
        simp only [Mk.parts, Ls.all, List.length_map, List.length_nil] at h
        rw [← hy.ok.len]; exact h
      have HY := Lib.hid hyn
      clear hq hyn
      have b1 := InBox.new v2 y
      have hbx : Below v2.heap.size v2 (v2.alloc (.cells #[.slice y.r.A y.r.n y.r.c, .slice y.A y.n y.c, .slice y.o.A y.o.n y.o.c] 25)) := (Below.refl _ v2).alloc (Nat.le_refl _) _
      replace hy := hy.below hbx
      replace hB := hB.trans (hbx.mono hB.size)
      clear hbx
      have ea0 := b1.c0
      have ea1 := b1.c1
      have ea2 := b1.c2
      have hc := alive5_any (v2.alloc (.cells #[.slice y.r.A y.r.n y.r.c, .slice y.A y.n y.c, .slice y.o.A y.o.n y.o.c] 25))
      go_wp2_with fail
      clear ea0 ea1 ea2
      generalize v2.alloc (.cells #[.slice y.r.A y.r.n y.r.c, .slice y.A y.n y.c, .slice y.o.A y.o.n y.o.c] 25) = W3 at *
      refine hc.mono ?_
      rintro e v4 ⟨rfl, hb⟩
      clear hc
      replace hy := hy.below hb
      replace b1 := b1.below hb
      replace hB := hB.trans (hb.mono hB.size)
      clear hb
      have ea0 := b1.c0
      have ea1 := b1.c1
      have ea2 := b1.c2
      rw [HY.out] at ea1
      rcases hE with rfl | rfl
      all_goals
        go_wp2
        go_ret
        exact ⟨rfl, hB⟩

theorem own : ownKnob Try.prog.godebug = none := by kernel_rfl
theorem laidOut : laidOutB Try.prog = true := by kernel_rfl

set_option maxRecDepth 100000 in
theorem lifted (os : Os) (started : os.Started) (H : Type) (enc : TypeId × Value → H) :
    ReturnsInHanded {} Try.checked os 4 .any (Rows.marketsAgainSpec.pre6 enc Try.prog Try.f4 Rows.marketsAgainRow.domain false) (Rows.marketsAgainSpec.post enc Try.prog Try.f4 false true false false) := by
  refine returnsInHanded_of_change (C := Try.checked) own started (by kernel_rfl) Try.func4
    (ChangeSpec.witness6 (enc := enc) (C := Try.checked) false ⟨#[], #[.slice none 0 0], []⟩ 8 (by kernel_rfl) (by kernel_rfl) (by kernel_rfl) (by kernel_rfl)) ?_
  intro W base args ds gs before hval0 hW hcnd _
  have hval : ∀ (j : Nat) t v, Try.f4.params[j]? = some t → args[j]? = some v → Value.okWide Try.prog W .any base t v := hval0
  have hW' := hW
  obtain ⟨p, q, hA0, hV, rfl, hfz, hnd⟩ := hW
  have hA : DataW.TrodAll enc Try.prog W 0 (fun _ => true) true Try.f4.params.toList args.toList ds p := hA0
  rw [Try.params4] at hA hval
  obtain ⟨v0, vs0, d0, ds0, p0, q0, hargs, rfl, rfl, h0, r0⟩ := trodAll_cons hA
  obtain ⟨rfl, rfl, rfl⟩ := trodAll_nil r0
  obtain rfl : args = #[v0] := by cases args; simp_all
  obtain ⟨A0, n0, c0, l0, rfl, a0, b0, e0⟩ := arg_u8s Try.underlying27 Try.underlying5 (by kernel_rfl) (hval 0 27 v0 rfl rfl) h0
  have hwalk : Calls Try.prog 4 #[.slice A0 n0 c0] W fun e w' => e = .returned (.bool true) ∧ Below W.heap.size W w' := walk A0 n0 c0 l0 W a0 e0 b0
  refine hwalk.mono fun e W' ⟨he, hg⟩ => ?_
  subst he
  exact ⟨_, rfl, law_post laidOut (by kernel_rfl) hW' rfl rfl (by kernel_rfl) Try.underlying4 hg⟩

theorem over : Rows.marketsAgainRow.holds Try.pinned (OpenSpec.ofChange Rows.marketsAgainSpec) :=
  OpenClaim.holds_of_wide 4 Try.f4 rfl rfl rfl rfl rfl rfl rfl ⟨rfl, rfl, rfl, rfl, rfl⟩ rfl rfl rfl rfl rfl (by kernel_rfl) Try.func4 (by kernel_rfl)
    (of_decide_eq_true (by kernel_rfl)) (by unfold Func.isWrapper; first | (rw [if_pos (by decide +kernel)]; kernel_rfl) | (rw [if_neg (by decide +kernel)]; exact ⟨rfl, rfl⟩))
    (fun os started H enc _ => lifted os started H enc)

theorem proved : Rows.MarketsAgainSaid :=
  over

end Go.Proofs.Ytoogldllcgbmdaa.marketsAgain
