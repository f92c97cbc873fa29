/-
  Proved: salesroomlaw11.FirstsBest answers true, for any gains, any items and any order, in whatever memory. No other conditions.
-/
import Derived.Test.YtecgakfblhiiaaaRows
import Derived.Test.YtecgakfblhiiaaaLift
import Derived.Test.YtecgakfblhiiaaaAlive11
import Derived.Test.YtecgakfblhiiaaaZeros
import Derived.Test.YtecgakfblhiiaaaReg
namespace Go.Proofs.Ytecgakfblhiiaaa.firstsBest
open Go.ChangeShapes Go.WideShapes Go.ChangeAt Go.RowKit
set_option linter.unusedVariables false

theorem info6_int : (Try.prog.info? 3).map (fun i => (i.zero, i.size, i.bytes)) = some (some (.int .i64 0), 1, 8) := by kernel_rfl

set_option maxRecDepth 100000 in
set_option maxHeartbeats 4000000 in
theorem walk (x : Gr) (m : Int) (y : Ls) (w : World) (h : x.Ok w) (hm1 : -9223372036854775808 ≤ m) (hm2 : m ≤ 9223372036854775807) (h1' : y.Ok w) :
    Calls Try.prog 3 #[.agg #[x.v, .int .i64 m], y.v] w fun e w' => e = .returned (.bool true) ∧ Below w.heap.size w w' := by
  have hx := h
  have hy := h1'
  have hB := Below.refl w.heap.size w
  have hxv : x.v = .slice x.A x.n x.c := rfl
  have hyv : y.v = .slice y.A y.n y.c := rfl
  have Vx := Lib.hid hxv
  have Vy := Lib.hid hyv
  rw [hxv, hyv]
  have hgl := h.glen
  have HGL := Lib.hid hgl
  have HYL := Lib.hid hy.len
  have htop := Nat.le_trans h.cap h.top
  have ttop := Nat.le_trans hy.cap hy.top
  unfold maxLen at htop ttop
  obtain ⟨B, hB0⟩ : ∃ B, mayF x.g m y.zs = B := ⟨_, rfl⟩
  clear hxv hyv hgl h h1'
  go_enter Try.func3, Try.ntmps3
  have bg := WBox.new w x m
  have hbx : Below w.heap.size w (w.alloc (.cells #[.slice x.A x.n x.c, .int .i64 m] 24)) := (Below.refl _ w).alloc (Nat.le_refl _) _
  replace hx := hx.below hbx
  replace hy := hy.below hbx
  replace hB := hB.trans (hbx.mono hB.size)
  clear hbx
  cases B
  · have E1 := Lib.hid (fi_bad hB0)
    obtain ⟨f0, hf0⟩ : ∃ q, wErr x.g m = q := ⟨_, rfl⟩
    obtain ⟨a0, ha0⟩ : ∃ q, bestE x.g m = q := ⟨_, rfl⟩
    have EF := Lib.hid hf0
    have EA := Lib.hid ha0
    clear hB0 hf0 ha0
    have eg0 := bg.c0
    have eg1 := bg.c1
    have hc := pfirstC x m y (w.alloc (.cells #[.slice x.A x.n x.c, .int .i64 m] 24)) hx (by omega) (by omega) hy
    rw [Vx.out, Vy.out, E1.out.1, E1.out.2] at hc
    go_wp2_with fail
    clear eg0 eg1
    generalize w.alloc (.cells #[.slice x.A x.n x.c, .int .i64 m] 24) = W1 at *
    refine hc.mono ?_
    rintro e v2 ⟨A1, n1, c1, rfl, h1, hb⟩
    clear hc
    replace hx := hx.below hb
    replace hy := hy.below hb
    replace bg := bg.below hb
    replace hB := hB.trans (hb.mono hB.size)
    clear hb
    have eg0 := bg.c0
    have eg1 := bg.c1
    have hc := pbestC x m v2 hx (by omega) (by omega)
    rw [Vx.out, EA.out, EF.out] at hc
    go_wp2_with fail
    clear eg0 eg1
    refine hc.mono ?_
    rintro e v3 ⟨rfl, hb⟩
    clear hc
    replace hx := hx.below hb
    replace hy := hy.below hb
    replace h1 := h1.below hb
    replace bg := bg.below hb
    replace hB := hB.trans (hb.mono hB.size)
    clear hb
    obtain rfl : n1 = 0 := h1.len.symm
    clear h1
    have eg0 := bg.c0
    have eg1 := bg.c1
    clear eg0 eg1
    have eg0 := bg.c0
    have eg1 := bg.c1
    have hc := alive11_any v3
    go_wp2_with fail
    clear eg0 eg1
    refine hc.mono ?_
    rintro e v4 ⟨rfl, hb⟩
    clear hc
    replace hx := hx.below hb
    replace hy := hy.below hb
    replace bg := bg.below hb
    replace hB := hB.trans (hb.mono hB.size)
    clear hb
    have eg0 := bg.c0
    have eg1 := bg.c1
    go_wp2
    go_ret
    exact ⟨rfl, hB⟩
  · obtain ⟨hBw, hBo⟩ := mayF_iff.1 hB0
    obtain ⟨M, rfl⟩ : ∃ M : Nat, m = M := ⟨m.toNat, by have := (mayW_iff.1 hBw).1; omega⟩
    have HB0 := Lib.hid hB0
    have HBW := Lib.hid hBw
    have HBO := Lib.hid hBo
    obtain ⟨hM1, hM8, hx8⟩ := may_m hBw
    rw [HGL.out] at hx8
    have EE := Lib.hid (we_ok hBw).2.1
    have FE := Lib.hid (fi_ok hB0).1
    obtain ⟨a0, ha0⟩ : ∃ a, bestE x.g M = a := ⟨_, rfl⟩
    obtain ⟨hl, hhl⟩ : ∃ a, firstE x.g M y.zs = a := ⟨_, rfl⟩
    have EB := Lib.hid ha0
    have EH := Lib.hid hhl
    have FO := Lib.hid (show FirstOf (gG x.g) M x.n (whoN y.zs) (firstV x.g M y.zs) from by rw [← HGL.out]; exact first_is hB0)
    have HLN : Hid (hl.length = x.n) := Lib.hid (by rw [← hhl, firstE_len hB0, HGL.out])
    have HGET : Hid (∀ b, b < x.n → hl[b]? = some (optI (firstV x.g M y.zs b))) := Lib.hid (fun b hb => by rw [← hhl, firstE_get hB0 (by rw [HGL.out]; exact hb)])
    have HFIT : Hid (∀ b, b < x.n → -1 ≤ optI (firstV x.g M y.zs b) ∧ optI (firstV x.g M y.zs b) < M) := Lib.hid (fun b hb => optI_fit hB0 (by rw [HGL.out]; exact hb))
    have BV : Hid (a0 = bestV (gG x.g) M x.n) := Lib.hid (by rw [← ha0, (we_ok hBw).1, HGL.out])
    have hab : 0 ≤ a0 ∧ a0 ≤ 8000000 := by rw [← ha0, (we_ok hBw).1]; exact best_bound hBw
    have hyn : y.n = x.n := by have h1 := (ordB_iff.1 hBo).1; rw [HYL.out, HGL.out] at h1; exact h1
    have HYN := Lib.hid hyn
    have HRW : Hid (∀ u ∈ x.t, u.n = M) := Lib.hid (fun u hu => by
      have h1 := (mayW_iff.1 hBw).2.2.2 u.zs (by rw [Gr.g, Ls.all]; exact List.mem_map_of_mem hu)
      have h2 := (hx.lss.ok u hu).len
      omega)
    clear hB0 hBw hBo ha0 hhl hm1 hm2 hyn
    have eg0 := bg.c0
    have eg1 := bg.c1
    have hc := pfirstC x M y (w.alloc (.cells #[.slice x.A x.n x.c, .int .i64 (M : Int)] 24)) hx (by omega) (by omega) hy
    rw [Vx.out, Vy.out, FE.out, EH.out] at hc
    go_wp2_with fail
    clear eg0 eg1
    generalize w.alloc (.cells #[.slice x.A x.n x.c, .int .i64 (M : Int)] 24) = W1 at *
    refine hc.mono ?_
    rintro e v2 ⟨A1, n1, c1, rfl, h1, hb⟩
    clear hc
    replace hx := hx.below hb
    replace hy := hy.below hb
    replace bg := bg.below hb
    replace hB := hB.trans (hb.mono hB.size)
    clear hb
    have eg0 := bg.c0
    have eg1 := bg.c1
    have hc := pbestC x M v2 hx (by omega) (by omega)
    rw [Vx.out, EB.out, EE.out] at hc
    go_wp2_with fail
    clear eg0 eg1
    refine hc.mono ?_
    rintro e v3 ⟨rfl, hb⟩
    clear hc
    replace hx := hx.below hb
    replace hy := hy.below hb
    replace h1 := h1.below hb
    replace bg := bg.below hb
    replace hB := hB.trans (hb.mono hB.size)
    clear hb
    obtain rfl : n1 = x.n := by have h5 := h1.len; have h6 := HLN.out; simp only at h5; omega
    have HVAL : Hid (validW x.g M hl = true ∧ sumV x.g M hl = a0) := Lib.hid (by
      have h5 := FO.out
      have h6 := mt_valid (g := x.g) (M := M) (A := firstV x.g M y.zs) (by rw [HGL.out]; exact h5.mt)
      have h7 : hl = (List.range x.g.length).map fun b => optI (firstV x.g M y.zs b) := by rw [← EH.out, (fi_ok HB0.out).2]
      rw [← h7] at h6
      refine ⟨h6.1, ?_⟩
      rw [sumV, if_pos h6.1, h6.2, HGL.out, h5.wt, BV.out])
    have eg0 := bg.c0
    have eg1 := bg.c1
    have hc := lgains_any x M ⟨A1, x.n, c1, hl⟩ v3 hx h1.ok HBW.out
    rw [HVAL.out.1, HVAL.out.2] at hc
    go_wp2_with fail
    clear eg0 eg1
    refine hc.mono ?_
    rintro e v4 ⟨rfl, hb⟩
    clear hc
    replace hx := hx.below hb
    replace hy := hy.below hb
    replace h1 := h1.below hb
    replace bg := bg.below hb
    replace hB := hB.trans (hb.mono hB.size)
    clear hb
    have eg0 := bg.c0
    have eg1 := bg.c1
    have hc := alive11_any v4
    go_wp2_with fail
    clear eg0 eg1
    refine hc.mono ?_
    rintro e v5 ⟨rfl, hb⟩
    clear hc
    replace hx := hx.below hb
    replace hy := hy.below hb
    replace h1 := h1.below hb
    replace bg := bg.below hb
    replace hB := hB.trans (hb.mono hB.size)
    clear hb
    have eg0 := bg.c0
    have eg1 := bg.c1
    go_wp2
    go_ret
    exact ⟨rfl, hB⟩

theorem own : ownKnob Try.prog.godebug = none := by kernel_rfl
theorem laidOut : laidOutB Try.prog = true := by kernel_rfl

set_option maxRecDepth 100000 in
theorem lifted (os : Os) (started : os.Started) (H : Type) (enc : TypeId × Value → H) :
    ReturnsInHanded {} Try.checked os 3 .any (Rows.firstsBestSpec.pre6 enc Try.prog Try.f3 Rows.firstsBestRow.domain false) (Rows.firstsBestSpec.post enc Try.prog Try.f3 false true false false) := by
  refine returnsInHanded_of_change (C := Try.checked) own started (by kernel_rfl) Try.func3
    (ChangeSpec.witness6 (enc := enc) (C := Try.checked) false ⟨#[], #[.agg #[.slice none 0 0, .int .i64 0], .slice none 0 0], []⟩ 8 (by kernel_rfl) (by kernel_rfl) (by kernel_rfl) (by kernel_rfl)) ?_
  intro W base args ds gs before hval0 hW hcnd _
  have hval : ∀ (j : Nat) t v, Try.f3.params[j]? = some t → args[j]? = some v → Value.okWide Try.prog W .any base t v := hval0
  have hW' := hW
  obtain ⟨p, q, hA0, hV, rfl, hfz, hnd⟩ := hW
  have hA : DataW.TrodAll enc Try.prog W 0 (fun _ => true) true Try.f3.params.toList args.toList ds p := hA0
  rw [Try.params3] at hA hval
  obtain ⟨v0, vs0, d0, ds0, p0, q0, hargs, rfl, rfl, h0, r0⟩ := trodAll_cons hA
  obtain ⟨v1, vs1, d1, ds1, p1, q1, rfl, rfl, rfl, h1, r1⟩ := trodAll_cons r0
  obtain ⟨rfl, rfl, rfl⟩ := trodAll_nil r1
  obtain rfl : args = #[v0, v1] := by cases args; simp_all
  obtain ⟨u0, m0, rfl, k0, a0, b0⟩ := arg_gr Try.underlying24 (by kernel_rfl) (by kernel_rfl) Try.underlying22 Try.underlying3 Try.underlying25 (by kernel_rfl) Try.underlying3 (by kernel_rfl) (hval 0 24 v0 rfl rfl) h0
  obtain ⟨A1, n1, c1, l1, rfl, a1, b1, e1, g1⟩ := arg_i64s Try.underlying25 Try.underlying3 (by kernel_rfl) (hval 1 25 v1 rfl rfl) h1
  have hwalk : Calls Try.prog 3 #[.agg #[u0.v, .int .i64 m0], .slice A1 n1 c1] W fun e w' => e = .returned (.bool true) ∧ Below W.heap.size W w' := walk u0 m0 ⟨A1, n1, c1, l1⟩ W k0 a0 b0 ⟨a1, b1, e1, g1⟩
  refine hwalk.mono fun e W' ⟨he, hg⟩ => ?_
  subst he
  exact ⟨_, rfl, law_post laidOut (by kernel_rfl) hW' rfl rfl (by kernel_rfl) Try.underlying4 hg⟩

theorem over : Rows.firstsBestRow.holds Try.pinned (OpenSpec.ofChange Rows.firstsBestSpec) :=
  OpenClaim.holds_of_wide 3 Try.f3 rfl rfl rfl rfl rfl rfl rfl ⟨rfl, rfl, rfl, rfl, rfl⟩ rfl rfl rfl rfl rfl (by kernel_rfl) Try.func3 (by kernel_rfl)
    (of_decide_eq_true (by kernel_rfl)) (by unfold Func.isWrapper; first | (rw [if_pos (by decide +kernel)]; kernel_rfl) | (rw [if_neg (by decide +kernel)]; exact ⟨rfl, rfl⟩))
    (fun os started H enc _ => lifted os started H enc)

theorem proved : Rows.FirstsBestSaid :=
  over

end Go.Proofs.Ytecgakfblhiiaaa.firstsBest
