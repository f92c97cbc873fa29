/-
  Proved: salesroomlaw07.PathsAgain answers true, for any lists, any items, any matching and any number of a bidder, in whatever memory. No conditions.
-/
import Derived.Test.YtojpdmhccodckaaRows
import Derived.Test.YtojpdmhccodckaaLift
import Derived.Test.YtojpdmhccodckaaAlive7
import Derived.Test.YtojpdmhccodckaaPaH
import Derived.Test.YtojpdmhccodckaaReg
namespace Go.Proofs.Ytojpdmhccodckaa.pathsAgain
open Go.ChangeShapes Go.WideShapes Go.ChangeAt Go.RowKit
set_option linter.unusedVariables false

theorem info6_int : (Try.prog.info? 3).map (fun i => (i.zero, i.size, i.bytes)) = some (some (.int .i64 0), 1, 8) := by kernel_rfl
/-- What stays so, whatever others' ways are: one can begin, and whom it reaches is shut in. -/
structure Still (g : List (List Int)) (M : Nat) (i : Nat) (R : Nat → Prop) (T : Int → Prop) (l : List Int) : Prop where
  may : mayP g M l i = true
  shut : Shut g l R T
  from_ : R i
theorem Still.len {g : List (List Int)} {M i : Nat} {R : Nat → Prop} {T : Int → Prop} {l : List Int} (h : Still g M i R T l) : l.length = g.length := (may_fits h.may).len
theorem Still.none_ {g : List (List Int)} {M i : Nat} {R : Nat → Prop} {T : Int → Prop} {l : List Int} (h : Still g M i R T l) : foundP g M l i = false := shut_none h.may (by rw [Int.toNat_natCast]; exact h.from_) h.shut
theorem Still.mayJ {g : List (List Int)} {M i j : Nat} {R : Nat → Prop} {T : Int → Prop} {l : List Int} (h : Still g M i R T l) (hj : j < g.length) (hl : l.getD j (-1) = -1) : mayP g M l j = true :=
  mayP_iff.2 ⟨(mayP_iff.1 h.may).1, by omega, by rw [Int.toNat_natCast]; exact hl⟩
theorem Still.next {g : List (List Int)} {M i j : Nat} {R : Nat → Prop} {T : Int → Prop} {l : List Int} (h : Still g M i R T l) (hj : mayP g M l j = true) (hf : foundP g M l j = true) : Still g M i R T (moreP g M l j) := by
  obtain ⟨h1, h2⟩ := shut_more hj hf h.shut
  have mo := more_fits hj hf
  obtain ⟨a1, a2, a3⟩ := mayP_iff.1 h.may
  refine ⟨mayP_iff.2 ⟨fits_fit (may_check hj) mo.fit, a2, ?_⟩, h1, h.from_⟩
  rw [Int.toNat_natCast] at a3 ⊢
  rw [h2 i h.from_]; exact a3

set_option maxRecDepth 100000 in
set_option maxHeartbeats 4000000 in
theorem walk (x : Gr) (m : Int) (A1 : Option Addr) (n1 c1 : Nat) (zs : List Int) (z : Int) (w : World) (h : x.Ok w) (hm1 : -9223372036854775808 ≤ m) (hm2 : m ≤ 9223372036854775807) (h1 : Ls.Ok w ⟨A1, n1, c1, zs⟩) (hz1 : -9223372036854775808 ≤ z) (hz2 : z ≤ 9223372036854775807) :
    Calls Try.prog 8 #[.agg #[x.v, .int .i64 m], .slice A1 n1 c1, .int .i64 z] w fun e w' => e = .returned (.bool true) ∧ Below w.heap.size w w' := by
  have hx := h
  have hB := Below.refl w.heap.size w
  have hxv : x.v = .slice x.A x.n x.c := rfl
  have Vx := Lib.hid hxv
  rw [hxv]
  have hgl := h.glen
  have HGL := Lib.hid hgl
  have htop := Nat.le_trans h.cap h.top
  unfold maxLen at htop
  obtain ⟨B, hB0⟩ : ∃ B, mayP x.g m zs z = B := ⟨_, rfl⟩
  clear hxv hgl h
  have HZL : Hid (zs.length = n1) := Lib.hid h1.len
  have h1c := Nat.le_trans h1.cap h1.top
  unfold maxLen at h1c
  go_enter Try.func8, Try.ntmps8
  have bg := GBox.new w x m
  have hbx : Below w.heap.size w (w.alloc (.cells #[.slice x.A x.n x.c, .int .i64 m] 24)) := (Below.refl _ w).alloc (Nat.le_refl _) _
  replace hx := hx.below hbx
  replace h1 := h1.below hbx
  replace hB := hB.trans (hbx.mono hB.size)
  clear hbx
  cases B
  · obtain ⟨e1, e2, e3, e4, e5⟩ := path_bad hB0
    have E1 := Lib.hid e1
    have E2 := Lib.hid e2
    have E3 := Lib.hid e3
    have E4 := Lib.hid e4
    have E5 := Lib.hid e5
    clear e1 e2 e3 e4 e5 hB0
    have eg0 := bg.c0
    have eg1 := bg.c1
    have hc := pmoreC x m ⟨A1, n1, c1, zs⟩ z (w.alloc (.cells #[.slice x.A x.n x.c, .int .i64 m] 24)) hx h1 hm1 hm2 hz1 hz2
    rw [Vx.out, E1.out, E2.out, E3.out] at hc
    go_wp2_with fail
    clear eg0 eg1
    generalize w.alloc (.cells #[.slice x.A x.n x.c, .int .i64 m] 24) = W1 at *
    refine hc.mono ?_
    rintro e v2 ⟨A2, n2, c2, rfl, h2, hb⟩
    clear hc
    replace hx := hx.below hb
    replace h1 := h1.below hb
    replace bg := bg.below hb
    replace hB := hB.trans (hb.mono hB.size)
    clear hb
    clear h2
    have eg0 := bg.c0
    have eg1 := bg.c1
    have hc := alive7_any v2
    go_wp2_with fail
    clear eg0 eg1
    refine hc.mono ?_
    rintro e v3 ⟨rfl, hb⟩
    clear hc
    replace hx := hx.below hb
    replace h1 := h1.below hb
    replace bg := bg.below hb
    replace hB := hB.trans (hb.mono hB.size)
    clear hb
    have eg0 := bg.c0
    have eg1 := bg.c1
    go_wp2
    go_ret
    exact ⟨rfl, hB⟩
  · obtain ⟨M, rfl, hM8, hg8, hzl, i, rfl, hif⟩ := may_nat hB0
    rw [HZL.out, HGL.out] at hzl
    subst hzl
    rw [HGL.out] at hif hg8
    obtain ⟨e1, e2, e3, e4, e5⟩ := path_ok hB0
    have E1 := Lib.hid e1
    have E2 := Lib.hid e2
    have E3 := Lib.hid e3
    have E4 := Lib.hid e4
    have E5 := Lib.hid e5
    have HMY := Lib.hid hB0
    clear e1 e2 e3 e4 e5 hB0 hm1 hm2 hz1 hz2
    obtain ⟨D, hD⟩ : ∃ D, foundP x.g M zs i = D := ⟨_, rfl⟩
    rw [hD] at E2
    cases D
    · obtain ⟨R, T, hst0⟩ : ∃ R T, Still x.g M i R T zs := ⟨_, _, ⟨HMY.out, shut_of HMY.out hD, who_from HMY.out⟩⟩
      have HST := Lib.hid hst0
      obtain ⟨i0, hi0', hy0, hy1, hy2⟩ := info_parts info6_int
      clear hst0 hD
      have eg0 := bg.c0
      have eg1 := bg.c1
      have hc := pmoreC x M ⟨A1, x.n, c1, zs⟩ i (w.alloc (.cells #[.slice x.A x.n x.c, .int .i64 (M : Int)] 24)) hx h1 (by omega) (by omega) (by omega) (by omega)
      rw [Vx.out, E1.out, E2.out] at hc
      go_wp2_with fail
      clear eg0 eg1
      generalize w.alloc (.cells #[.slice x.A x.n x.c, .int .i64 (M : Int)] 24) = W1 at *
      refine hc.mono ?_
      rintro e v2 ⟨A2, n2, c2, rfl, h2, hb⟩
      clear hc
      replace hx := hx.below hb
      replace h1 := h1.below hb
      replace bg := bg.below hb
      replace hB := hB.trans (hb.mono hB.size)
      clear hb
      clear h2
      have hne : ((x.n : Int) != (x.n : Int)) = false := by simp
      have eg0 := bg.c0
      have eg1 := bg.c1
      go_wp2_with (at_builtin; go_must (refine wpList_app _ rfl _ _ 25 rfl 3 i0 _ 8 Try.underlying25 hi0' hy0 hy1 hy2 rfl v2.heap.size none 0 0 [] rfl (Own.none_ _ _ _ _) A1 x.n c1 _ rfl h1.rd (ci64_one _) ?e3 ?e4 ?e5 ?_))
      case e3 => simp only [maxLen]; omega
      case e4 => omega
      try case e5 => exact Nat.le_refl _
      clear eg0 eg1
      intro A3 c3 w3 hown3 hbel3 hfr3 hat3
      have hls : Ls.Ok w3 ⟨A3, x.n, c3, zs⟩ := ⟨by simpa using hown3.rd, by simpa using hown3.le, hown3.cap, h1.fit⟩
      clear hfr3 hat3 hown3
      go_wp2_with fail
      go_loopw [10, 11] (fun o v wr => ∃ (j : Nat) (A3 : Option Addr) (c3 : Nat) (l : List Int), j ≤ x.n ∧ v = .int .i64 j ∧ o = .slice A3 x.n c3 ∧ Ls.Ok wr ⟨A3, x.n, c3, l⟩ ∧ Hid (Still x.g M i R T l) ∧ Below v2.heap.size v2 wr) (fun _ v _ => x.n - (intOf v).toNat)
      case atStart => exact ⟨0, A3, c3, zs, Nat.zero_le _, rfl, rfl, hls, HST, hbel3⟩
      case round =>
        obtain ⟨j, A4, c4, l, hj, rfl, rfl, hl, hst, hbel⟩ := hrel
        clear hls hbel3
        have hgr := bg.below hbel
        have hxr := hx.below hbel
        have hlc := Nat.le_trans hl.cap hl.top
        unfold maxLen at hlc
        have eg0 := hgr.c0
        have eg1 := hgr.c1
        by_cases hjn : j < x.n
        · have hjn' : (j : Int) < x.n := by omega
          have hll : l.length = x.n := by rw [hst.out.len, HGL.out]
          have hjl : j < l.length := by omega
          obtain ⟨p1, q1, hA4, hp1, y0, hy0', hcy⟩ := hl.rd.get hjn
          rw [ci64_get _ _ hjl] at hy0'
          obtain rfl : iV l[j] = y0 := Option.some.inj hy0'
          unfold iV at hcy
          have hgd : l.getD j (-1) = l[j] := by rw [List.getD_eq_getElem?_getD, List.getElem?_eq_getElem hjl]; rfl
          obtain ⟨a, ha⟩ : ∃ a, l[j] = a := ⟨_, rfl⟩
          rw [ha] at hcy hgd
          have HGD := Lib.hid hgd
          simp only at hA4
          subst hA4
          clear hy0' ha hgd hjl hll
          by_cases ha1 : a = -1
          · have k1 : (a != -1) = false := by rw [ha1]; rfl
            by_cases hji : j = i
            · have k2 : ((j : Int) == (i : Int)) = true := by rw [hji]; simp
              clear ha1 hji
              go_wp2
              go_roundw
              case rel => exact ⟨j + 1, _, c4, l, by omega, by go_num, rfl, hl, hst, hbel⟩
              case measure => simp [intOf]; omega
            · have k2 : ((j : Int) == (i : Int)) = false := by rw [beq_eq_false_iff_ne]; omega
              have hmj := hst.out.mayJ (j := j) (by rw [HGL.out]; exact hjn) (HGD.out.trans ha1)
              obtain ⟨f1, f2, f3, _, _⟩ := path_ok hmj
              obtain ⟨D, hD⟩ : ∃ D, foundP x.g M l j = D := ⟨_, rfl⟩
              rw [hD] at f2
              have hc := pmoreC x M ⟨some ⟨p1, q1, none⟩, x.n, c4, l⟩ j wr hxr hl (by omega) (by omega) (by omega) (by omega)
              rw [Vx.out, f1, f2, f3] at hc
              have HMJ := Lib.hid hmj
              have HD := Lib.hid hD
              clear f1 f2 f3 hmj hD ha1 hji
              go_wp2_with fail
              refine hc.mono ?_
              rintro e w4 ⟨A5, n5, c5, rfl, h5, hb5⟩
              have hb6 := hbel.trans (hb5.mono hbel.size)
              clear hc
              cases D
              · have hl6 := hl.below hb5
                clear h5 hcy hgr eg0 eg1 hxr
                go_wp2
                go_roundw
                case rel => exact ⟨j + 1, _, c4, l, by omega, by go_num, rfl, hl6, hst, hb6⟩
                case measure => simp [intOf]; omega
              · have HN := Lib.hid (hst.out.next HMJ.out HD.out)
                have hn5 : n5 = x.n := by
                  have h6 := h5.len
                  simp only at h6
                  rw [← h6, HN.out.len, HGL.out]
                subst hn5
                have hl6 := h5.ok
                clear h5 hcy hgr eg0 eg1 hxr hst
                go_wp2
                go_roundw
                case rel => exact ⟨j + 1, A5, c5, _, by omega, by go_num, rfl, hl6, HN, hb6⟩
                case measure => simp [intOf]; omega
          · have k1 : (a != -1) = true := by rw [bne_iff_ne]; exact ha1
            clear ha1
            go_wp2
            go_roundw
            case rel => exact ⟨j + 1, _, c4, l, by omega, by go_num, rfl, hl, hst, hbel⟩
            case measure => simp [intOf]; omega
        · obtain rfl : j = x.n := by omega
          obtain ⟨f1, f2, f3, _, _⟩ := path_ok hst.out.may
          rw [hst.out.none_] at f2
          have hc := pmoreC x M ⟨A4, x.n, c4, l⟩ i wr hxr hl (by omega) (by omega) (by omega) (by omega)
          rw [Vx.out, f1, f2] at hc
          clear f1 f2 f3
          go_wp2_with fail
          refine hc.mono ?_
          rintro e w4 ⟨A5, n5, c5, rfl, h5, hb5⟩
          have hb6 := hbel.trans (hb5.mono hbel.size)
          clear hc h5
          have hal := alive7_any w4
          go_wp2_with fail
          refine hal.mono ?_
          rintro e w9 ⟨rfl, hb⟩
          have hB9 := hB.trans ((hb6.trans (hb.mono hb6.size)).mono hB.size)
          go_wp2
          go_ret
          exact ⟨rfl, hB9⟩
    · clear hD
      have eg0 := bg.c0
      have eg1 := bg.c1
      have hc := pmoreC x M ⟨A1, x.n, c1, zs⟩ i (w.alloc (.cells #[.slice x.A x.n x.c, .int .i64 (M : Int)] 24)) hx h1 (by omega) (by omega) (by omega) (by omega)
      rw [Vx.out, E1.out, E2.out, E3.out] at hc
      go_wp2_with fail
      clear eg0 eg1
      generalize w.alloc (.cells #[.slice x.A x.n x.c, .int .i64 (M : Int)] 24) = W1 at *
      refine hc.mono ?_
      rintro e v2 ⟨A2, n2, c2, rfl, h2, hb⟩
      clear hc
      replace hx := hx.below hb
      replace h1 := h1.below hb
      replace bg := bg.below hb
      replace hB := hB.trans (hb.mono hB.size)
      clear hb
      clear h2
      have eg0 := bg.c0
      have eg1 := bg.c1
      have hc := alive7_any v2
      go_wp2_with fail
      clear eg0 eg1
      refine hc.mono ?_
      rintro e v3 ⟨rfl, hb⟩
      clear hc
      replace hx := hx.below hb
      replace h1 := h1.below hb
      replace bg := bg.below hb
      replace hB := hB.trans (hb.mono hB.size)
      clear hb
      have eg0 := bg.c0
      have eg1 := bg.c1
      go_wp2
      go_ret
      exact ⟨rfl, hB⟩

theorem own : ownKnob Try.prog.godebug = none := by kernel_rfl
theorem laidOut : laidOutB Try.prog = true := by kernel_rfl

set_option maxRecDepth 100000 in
theorem lifted (os : Os) (started : os.Started) (H : Type) (enc : TypeId × Value → H) :
    ReturnsInHanded {} Try.checked os 8 .any (Rows.pathsAgainSpec.pre6 enc Try.prog Try.f8 Rows.pathsAgainRow.domain false) (Rows.pathsAgainSpec.post enc Try.prog Try.f8 false true false false) := by
  refine returnsInHanded_of_change (C := Try.checked) own started (by kernel_rfl) Try.func8
    (ChangeSpec.witness6 (enc := enc) (C := Try.checked) false ⟨#[], #[.agg #[.slice none 0 0, .int .i64 0], .slice none 0 0, .int .i64 0], []⟩ 8 (by kernel_rfl) (by kernel_rfl) (by kernel_rfl) (by kernel_rfl)) ?_
  intro W base args ds gs before hval0 hW hcnd _
  have hval : ∀ (j : Nat) t v, Try.f8.params[j]? = some t → args[j]? = some v → Value.okWide Try.prog W .any base t v := hval0
  have hW' := hW
  obtain ⟨p, q, hA0, hV, rfl, hfz, hnd⟩ := hW
  have hA : DataW.TrodAll enc Try.prog W 0 (fun _ => true) true Try.f8.params.toList args.toList ds p := hA0
  rw [Try.params8] at hA hval
  obtain ⟨v0, vs0, d0, ds0, p0, q0, hargs, rfl, rfl, h0, r0⟩ := trodAll_cons hA
  obtain ⟨v1, vs1, d1, ds1, p1, q1, rfl, rfl, rfl, h1, r1⟩ := trodAll_cons r0
  obtain ⟨v2, vs2, d2, ds2, p2, q2, rfl, rfl, rfl, h2, r2⟩ := trodAll_cons r1
  obtain ⟨rfl, rfl, rfl⟩ := trodAll_nil r2
  obtain rfl : args = #[v0, v1, v2] := by cases args; simp_all
  obtain ⟨u0, m0, rfl, k0, a0, b0⟩ := arg_gr Try.underlying24 (by kernel_rfl) (by kernel_rfl) Try.underlying22 Try.underlying3 Try.underlying25 (by kernel_rfl) Try.underlying3 (by kernel_rfl) (hval 0 24 v0 rfl rfl) h0
  obtain ⟨A1, n1, c1, l1, rfl, a1, b1, e1, g1⟩ := arg_i64s Try.underlying25 Try.underlying3 (by kernel_rfl) (hval 1 25 v1 rfl rfl) h1
  obtain ⟨x2, rfl, rfl, rfl, w2⟩ := open_int Try.underlying3 (hval 2 3 v2 rfl rfl) h2
  have y2 := bounds_i64 w2
  have hwalk : Calls Try.prog 8 #[.agg #[u0.v, .int .i64 m0], .slice A1 n1 c1, .int .i64 x2] W fun e w' => e = .returned (.bool true) ∧ Below W.heap.size W w' := walk u0 m0 A1 n1 c1 l1 x2 W k0 a0 b0 ⟨a1, b1, e1, g1⟩ y2.1 y2.2
  refine hwalk.mono fun e W' ⟨he, hg⟩ => ?_
  subst he
  exact ⟨_, rfl, law_post laidOut (by kernel_rfl) hW' rfl rfl (by kernel_rfl) Try.underlying4 hg⟩

theorem over : Rows.pathsAgainRow.holds Try.pinned (OpenSpec.ofChange Rows.pathsAgainSpec) :=
  OpenClaim.holds_of_wide 8 Try.f8 rfl rfl rfl rfl rfl rfl rfl ⟨rfl, rfl, rfl, rfl, rfl⟩ rfl rfl rfl rfl rfl (by kernel_rfl) Try.func8 (by kernel_rfl)
    (of_decide_eq_true (by kernel_rfl)) (by unfold Func.isWrapper; first | (rw [if_pos (by decide +kernel)]; kernel_rfl) | (rw [if_neg (by decide +kernel)]; exact ⟨rfl, rfl⟩))
    (fun os started H enc _ => lifted os started H enc)

theorem proved : Rows.PathsAgainSaid :=
  over

end Go.Proofs.Ytojpdmhccodckaa.pathsAgain
