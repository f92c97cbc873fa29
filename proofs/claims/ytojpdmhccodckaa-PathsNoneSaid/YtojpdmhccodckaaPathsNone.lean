/-
  Proved: salesroomlaw07.PathsNone answers true, for any lists, any items, any matching and any number of a bidder, in whatever memory. No conditions.
-/
import Derived.Test.YtojpdmhccodckaaRows
import Derived.Test.YtojpdmhccodckaaLift
import Derived.Test.YtojpdmhccodckaaAlive7
import Derived.Test.YtojpdmhccodckaaPaH
import Derived.Test.YtojpdmhccodckaaReg
namespace Go.Proofs.Ytojpdmhccodckaa.pathsNone
open Go.ChangeShapes Go.WideShapes Go.ChangeAt Go.RowKit
set_option linter.unusedVariables false

theorem info6_int : (Try.prog.info? 3).map (fun i => (i.zero, i.size, i.bytes)) = some (some (.int .i64 0), 1, 8) := by kernel_rfl
theorem count_take {l : List Int} {i : Nat} (hi : i < l.length) (p : Int → Bool) : (l.take (i + 1)).countP p = (l.take i).countP p + (if p l[i] = true then 1 else 0) := by
  rw [List.take_succ_eq_append_getElem hi, List.countP_append, List.countP_cons, List.countP_nil]; simp

set_option maxRecDepth 100000 in
set_option maxHeartbeats 4000000 in
theorem walk (x : Gr) (m : Int) (A1 : Option Addr) (n1 c1 : Nat) (zs : List Int) (z : Int) (w : World) (h : x.Ok w) (hm1 : -9223372036854775808 ≤ m) (hm2 : m ≤ 9223372036854775807) (h1 : Ls.Ok w ⟨A1, n1, c1, zs⟩) (hz1 : -9223372036854775808 ≤ z) (hz2 : z ≤ 9223372036854775807) :
    Calls Try.prog 4 #[.agg #[x.v, .int .i64 m], .slice A1 n1 c1, .int .i64 z] w fun e w' => e = .returned (.bool true) ∧ Below w.heap.size w w' := by
  have hx := h
  have hB := Below.refl w.heap.size w
  have hxv : x.v = .slice x.A x.n x.c := rfl
  have Vx := Lib.hid hxv
  rw [hxv]
  have hgl := h.glen
  have HGL := Lib.hid hgl
  have htop := Nat.le_trans h.cap h.top
  unfold maxLen at htop
  obtain ⟨B, hB0⟩ : ∃ B, mayP x.g m zs z = B := ⟨_, rfl⟩
  clear hxv hgl h
  have HZL : Hid (zs.length = n1) := Lib.hid h1.len
  have h1c := Nat.le_trans h1.cap h1.top
  unfold maxLen at h1c
  go_enter Try.func4, Try.ntmps4
  have bg := GBox.new w x m
  have hbx : Below w.heap.size w (w.alloc (.cells #[.slice x.A x.n x.c, .int .i64 m] 24)) := (Below.refl _ w).alloc (Nat.le_refl _) _
  replace hx := hx.below hbx
  replace h1 := h1.below hbx
  replace hB := hB.trans (hbx.mono hB.size)
  clear hbx
  cases B
  · obtain ⟨e1, e2, e3, e4, e5⟩ := path_bad hB0
    have E1 := Lib.hid e1
    have E2 := Lib.hid e2
    have E3 := Lib.hid e3
    have E4 := Lib.hid e4
    have E5 := Lib.hid e5
    clear e1 e2 e3 e4 e5 hB0
    have eg0 := bg.c0
    have eg1 := bg.c1
    have hc := pmoreC x m ⟨A1, n1, c1, zs⟩ z (w.alloc (.cells #[.slice x.A x.n x.c, .int .i64 m] 24)) hx h1 hm1 hm2 hz1 hz2
    rw [Vx.out, E1.out, E2.out, E3.out] at hc
    go_wp2_with fail
    clear eg0 eg1
    generalize w.alloc (.cells #[.slice x.A x.n x.c, .int .i64 m] 24) = W1 at *
    refine hc.mono ?_
    rintro e v2 ⟨A2, n2, c2, rfl, h2, hb⟩
    clear hc
    replace hx := hx.below hb
    replace h1 := h1.below hb
    replace bg := bg.below hb
    replace hB := hB.trans (hb.mono hB.size)
    clear hb
    clear h2
    have eg0 := bg.c0
    have eg1 := bg.c1
    have hc := preachC x m ⟨A1, n1, c1, zs⟩ z v2 hx h1 hm1 hm2 hz1 hz2
    rw [Vx.out, E1.out, E4.out, E5.out] at hc
    go_wp2_with fail
    clear eg0 eg1
    refine hc.mono ?_
    rintro e v3 ⟨A3, n3, c3, A4, n4, c4, rfl, h3, h4, h34, hb⟩
    clear hc
    replace hx := hx.below hb
    replace h1 := h1.below hb
    replace bg := bg.below hb
    replace hB := hB.trans (hb.mono hB.size)
    clear hb
    obtain rfl : n3 = 0 := h3.len.symm
    obtain rfl : n4 = 0 := h4.len.symm
    clear h3 h4 h34
    have eg0 := bg.c0
    have eg1 := bg.c1
    have hc := alive7_any v3
    go_wp2_with fail
    clear eg0 eg1
    refine hc.mono ?_
    rintro e v4 ⟨rfl, hb⟩
    clear hc
    replace hx := hx.below hb
    replace h1 := h1.below hb
    replace bg := bg.below hb
    replace hB := hB.trans (hb.mono hB.size)
    clear hb
    have eg0 := bg.c0
    have eg1 := bg.c1
    go_wp2
    go_ret
    exact ⟨rfl, hB⟩
  · obtain ⟨M, rfl, hM8, hg8, hzl, i, rfl, hif⟩ := may_nat hB0
    rw [HZL.out, HGL.out] at hzl
    subst hzl
    rw [HGL.out] at hif hg8
    obtain ⟨e1, e2, e3, e4, e5⟩ := path_ok hB0
    have E1 := Lib.hid e1
    have E2 := Lib.hid e2
    have E3 := Lib.hid e3
    have E4 := Lib.hid e4
    have E5 := Lib.hid e5
    have HMY := Lib.hid hB0
    clear e1 e2 e3 e4 e5 hB0 hm1 hm2 hz1 hz2
    have hck := may_check HMY.out
    have hwr : Rises x.g.length (whoP x.g M zs i) := upto_rises _ _
    have hno : nearOk x.g M (whoP x.g M zs i) = true := nearOk_of hck hwr
    have N1 := Lib.hid (near_err (m := M) hno)
    have N2 := Lib.hid ((near_ans hno).trans (near_who HMY.out))
    have hfi := found_iff HMY.out
    have hwl := who_len HMY.out
    have hfm : (i : Int) ∈ whoP x.g M zs i := who_from HMY.out
    have hql : (whoP x.g M zs i).length ≤ x.n := by rw [← HGL.out]; exact rises_len hwr
    have hqt : (whatP x.g M zs i).length ≤ M := upto_len _ _
    generalize whoP x.g M zs i = q at *
    generalize whatP x.g M zs i = t at *
    obtain ⟨D, hD⟩ : ∃ D, foundP x.g M zs i = D := ⟨_, rfl⟩
    rw [hD] at E2 hfi
    have HFI := Lib.hid hfi
    have HWL := Lib.hid hwl
    have HFM := Lib.hid (show decide ((i : Int) ∈ q) = true from decide_eq_true hfm)
    clear hck hwr hno hfi hwl hfm hD
    have eg0 := bg.c0
    have eg1 := bg.c1
    have hc := pmoreC x M ⟨A1, x.n, c1, zs⟩ i (w.alloc (.cells #[.slice x.A x.n x.c, .int .i64 (M : Int)] 24)) hx h1 (by omega) (by omega) (by omega) (by omega)
    rw [Vx.out, E1.out, E2.out] at hc
    go_wp2_with fail
    clear eg0 eg1
    generalize w.alloc (.cells #[.slice x.A x.n x.c, .int .i64 (M : Int)] 24) = W1 at *
    refine hc.mono ?_
    rintro e v2 ⟨A2, n2, c2, rfl, h2, hb⟩
    clear hc
    replace hx := hx.below hb
    replace h1 := h1.below hb
    replace bg := bg.below hb
    replace hB := hB.trans (hb.mono hB.size)
    clear hb
    clear h2
    have eg0 := bg.c0
    have eg1 := bg.c1
    have hc := preachC x M ⟨A1, x.n, c1, zs⟩ i v2 hx h1 (by omega) (by omega) (by omega) (by omega)
    rw [Vx.out, E1.out, E4.out, E5.out] at hc
    go_wp2_with fail
    clear eg0 eg1
    refine hc.mono ?_
    rintro e v3 ⟨A3, n3, c3, A4, n4, c4, rfl, h3, h4, h34, hb⟩
    clear hc
    replace hx := hx.below hb
    replace h1 := h1.below hb
    replace bg := bg.below hb
    replace hB := hB.trans (hb.mono hB.size)
    clear hb
    have hn3 : n3 = q.length := h3.len.symm
    have hn4 : n4 = t.length := h4.len.symm
    subst hn3 hn4
    clear h34
    have eg0 := bg.c0
    have eg1 := bg.c1
    have hc := gnearC x M ⟨A3, q.length, c3, q⟩ v3 hx h3.ok (by omega) (by omega)
    rw [Vx.out, N1.out, N2.out] at hc
    go_wp2_with fail
    clear eg0 eg1
    refine hc.mono ?_
    rintro e v4 ⟨A5, n5, c5, rfl, h5, hb⟩
    clear hc
    replace hx := hx.below hb
    replace h1 := h1.below hb
    replace h3 := h3.below hb
    replace h4 := h4.below hb
    replace bg := bg.below hb
    replace hB := hB.trans (hb.mono hB.size)
    clear hb
    have hn5 : n5 = t.length := h5.len.symm
    subst hn5
    have eg0 := bg.c0
    have eg1 := bg.c1
    have hc := sameints_b ⟨A5, t.length, c5, t⟩ ⟨A4, t.length, c4, t⟩ v4 h5.ok h4.ok
    rw [show (t == t) = true by simp] at hc
    go_wp2_with fail
    clear eg0 eg1
    refine hc.mono ?_
    rintro e v5 ⟨rfl, hb⟩
    clear hc
    replace hx := hx.below hb
    replace h1 := h1.below hb
    replace h3 := h3.below hb
    replace h4 := h4.below hb
    replace h5 := h5.below hb
    replace bg := bg.below hb
    replace hB := hB.trans (hb.mono hB.size)
    clear hb
    have hh := lhas7_any A3 q.length c3 q (i : Int) v5 h3.own.rd (Nat.le_trans h3.own.le h3.own.cap)
    rw [HFM.out] at hh
    have eg0 := bg.c0
    have eg1 := bg.c1
    go_wp2_with fail
    refine hh.mono ?_
    rintro e w8 ⟨rfl, hw8⟩
    rw [← hw8]
    clear hh hw8
    go_wp2_with fail
    clear eg0 eg1
    go_loopw [15, 16] (fun o v wr => ∃ (f j : Nat), j ≤ t.length ∧ f ≤ j ∧ o = .int .i64 f ∧ v = .int .i64 j ∧ Hid ((t.take j).countP (fun k => decide (k ∉ zs)) = f) ∧ Below v5.heap.size v5 wr) (fun _ v _ => t.length - (intOf v).toNat)
    case atStart => exact ⟨0, 0, Nat.zero_le _, Nat.le_refl _, rfl, rfl, Lib.hid (by simp), Below.refl _ _⟩
    case round =>
      obtain ⟨f, j, hj, hfj, rfl, rfl, hcn, hbel⟩ := hrel
      by_cases hjn : j < t.length
      · have hjn' : (j : Int) < t.length := by omega
        obtain ⟨p1, q1, rfl, hp1, y0, hy0, hcy⟩ := h4.own.rd.get hjn
        rw [ci64_get _ _ hjn] at hy0
        obtain rfl : iV t[j] = y0 := Option.some.inj hy0
        unfold iV at hcy
        have hct := count_take hjn fun k => decide (k ∉ zs)
        rw [hcn.out] at hct
        obtain ⟨a, ha⟩ : ∃ a, t[j] = a := ⟨_, rfl⟩
        rw [ha] at hcy hct
        have hcw : wr.cell? ⟨p1, q1 + j, none⟩ = some (.int .i64 a) := (hbel.cell (p := ⟨p1, q1 + j, none⟩) hp1).trans hcy
        have hh := lhas7_any A1 x.n c1 zs a wr (h1.rd.below hbel) (by unfold maxLen; omega)
        clear hy0 ha hcy hcn
        by_cases hm : a ∈ zs
        · rw [show decide (a ∈ zs) = true from decide_eq_true hm] at hh
          have HN := Lib.hid (show (t.take (j + 1)).countP (fun k => decide (k ∉ zs)) = f by rw [hct]; simp [hm])
          clear hm hct
          go_wp2_with fail
          refine hh.mono ?_
          rintro e w2 ⟨rfl, rfl⟩
          clear hh
          go_wp2
          go_roundw
          case rel => exact ⟨f, j + 1, by omega, by omega, rfl, by go_num, HN, hbel⟩
          case measure => simp [intOf]; omega
        · rw [show decide (a ∈ zs) = false from decide_eq_false hm] at hh
          have HN := Lib.hid (show (t.take (j + 1)).countP (fun k => decide (k ∉ zs)) = f + 1 by rw [hct]; simp [hm])
          clear hm hct
          go_wp2_with fail
          refine hh.mono ?_
          rintro e w2 ⟨rfl, rfl⟩
          clear hh
          go_wp2
          go_roundw
          case rel => exact ⟨f + 1, j + 1, by omega, by omega, by go_num, by go_num, HN, hbel⟩
          case measure => simp [intOf]; omega
      · obtain rfl : j = t.length := by omega
        have hft : t.countP (fun k => decide (k ∉ zs)) = f := by
          have h := hcn.out
          rwa [List.take_of_length_le (Nat.le_refl _)] at h
        have hD2 := HFI.out
        have hw2 := HWL.out
        rw [hft] at hD2 hw2
        have hD3 : decide (0 < (f : Int)) = D := by rw [hD2, decide_eq_decide]; omega
        have hD4 : decide (0 < f) = D := hD2.symm
        have s1 : IntKind.i64.wrap ((t.length : Int) - (f : Int)) = (t.length : Int) - (f : Int) := by rw [IntKind.wrap_i64]; omega
        have s2 : IntKind.i64.wrap ((t.length : Int) - (f : Int) + 1) = (t.length : Int) - (f : Int) + 1 := by rw [IntKind.wrap_i64]; omega
        have s3 : ((q.length : Int) == (t.length : Int) - (f : Int) + 1) = true := by rw [beq_iff_eq]; omega
        have s4 : (D == D) = true := by simp
        have hal := alive7_any wr
        clear hft hD2 hw2 hcn
        go_wp2_with fail
        refine hal.mono ?_
        rintro e w9 ⟨rfl, hb⟩
        have hB9 := hB.trans ((hbel.trans (hb.mono hbel.size)).mono hB.size)
        go_wp2
        go_ret
        exact ⟨rfl, hB9⟩

theorem own : ownKnob Try.prog.godebug = none := by kernel_rfl
theorem laidOut : laidOutB Try.prog = true := by kernel_rfl

set_option maxRecDepth 100000 in
theorem lifted (os : Os) (started : os.Started) (H : Type) (enc : TypeId × Value → H) :
    ReturnsInHanded {} Try.checked os 4 .any (Rows.pathsNoneSpec.pre6 enc Try.prog Try.f4 Rows.pathsNoneRow.domain false) (Rows.pathsNoneSpec.post enc Try.prog Try.f4 false true false false) := by
  refine returnsInHanded_of_change (C := Try.checked) own started (by kernel_rfl) Try.func4
    (ChangeSpec.witness6 (enc := enc) (C := Try.checked) false ⟨#[], #[.agg #[.slice none 0 0, .int .i64 0], .slice none 0 0, .int .i64 0], []⟩ 8 (by kernel_rfl) (by kernel_rfl) (by kernel_rfl) (by kernel_rfl)) ?_
  intro W base args ds gs before hval0 hW hcnd _
  have hval : ∀ (j : Nat) t v, Try.f4.params[j]? = some t → args[j]? = some v → Value.okWide Try.prog W .any base t v := hval0
  have hW' := hW
  obtain ⟨p, q, hA0, hV, rfl, hfz, hnd⟩ := hW
  have hA : DataW.TrodAll enc Try.prog W 0 (fun _ => true) true Try.f4.params.toList args.toList ds p := hA0
  rw [Try.params4] at hA hval
  obtain ⟨v0, vs0, d0, ds0, p0, q0, hargs, rfl, rfl, h0, r0⟩ := trodAll_cons hA
  obtain ⟨v1, vs1, d1, ds1, p1, q1, rfl, rfl, rfl, h1, r1⟩ := trodAll_cons r0
  obtain ⟨v2, vs2, d2, ds2, p2, q2, rfl, rfl, rfl, h2, r2⟩ := trodAll_cons r1
  obtain ⟨rfl, rfl, rfl⟩ := trodAll_nil r2
  obtain rfl : args = #[v0, v1, v2] := by cases args; simp_all
  obtain ⟨u0, m0, rfl, k0, a0, b0⟩ := arg_gr Try.underlying24 (by kernel_rfl) (by kernel_rfl) Try.underlying22 Try.underlying3 Try.underlying25 (by kernel_rfl) Try.underlying3 (by kernel_rfl) (hval 0 24 v0 rfl rfl) h0
  obtain ⟨A1, n1, c1, l1, rfl, a1, b1, e1, g1⟩ := arg_i64s Try.underlying25 Try.underlying3 (by kernel_rfl) (hval 1 25 v1 rfl rfl) h1
  obtain ⟨x2, rfl, rfl, rfl, w2⟩ := open_int Try.underlying3 (hval 2 3 v2 rfl rfl) h2
  have y2 := bounds_i64 w2
  have hwalk : Calls Try.prog 4 #[.agg #[u0.v, .int .i64 m0], .slice A1 n1 c1, .int .i64 x2] W fun e w' => e = .returned (.bool true) ∧ Below W.heap.size W w' := walk u0 m0 A1 n1 c1 l1 x2 W k0 a0 b0 ⟨a1, b1, e1, g1⟩ y2.1 y2.2
  refine hwalk.mono fun e W' ⟨he, hg⟩ => ?_
  subst he
  exact ⟨_, rfl, law_post laidOut (by kernel_rfl) hW' rfl rfl (by kernel_rfl) Try.underlying4 hg⟩

theorem over : Rows.pathsNoneRow.holds Try.pinned (OpenSpec.ofChange Rows.pathsNoneSpec) :=
  OpenClaim.holds_of_wide 4 Try.f4 rfl rfl rfl rfl rfl rfl rfl ⟨rfl, rfl, rfl, rfl, rfl⟩ rfl rfl rfl rfl rfl (by kernel_rfl) Try.func4 (by kernel_rfl)
    (of_decide_eq_true (by kernel_rfl)) (by unfold Func.isWrapper; first | (rw [if_pos (by decide +kernel)]; kernel_rfl) | (rw [if_neg (by decide +kernel)]; exact ⟨rfl, rfl⟩))
    (fun os started H enc _ => lifted os started H enc)

theorem proved : Rows.PathsNoneSaid :=
  over

end Go.Proofs.Ytojpdmhccodckaa.pathsNone
