/-
  Proved: salesroomlaw09.HallsMore answers true, for any lists, any items, any some, whoever more, in whatever memory. No conditions.
-/
import Derived.Test.YtdiklmfaehmmjaaRows
import Derived.Test.YtdiklmfaehmmjaaLift
import Derived.Test.YtdiklmfaehmmjaaAlive9
import Derived.Test.YtdiklmfaehmmjaaGrM
import Derived.Test.YtdiklmfaehmmjaaHaL
import Derived.Test.YtdiklmfaehmmjaaReg
namespace Go.Proofs.Ytdiklmfaehmmjaa.hallsMore
open Go.ChangeShapes Go.WideShapes Go.ChangeAt Go.RowKit
set_option linter.unusedVariables false

/-- Some, and one more. -/
def moreL9 (zs : List Int) (k j : Nat) : List Int := upto j fun i => decide ((i : Int) ∈ zs) || decide (i = k)
theorem more_few {g : List (List Int)} {m k : Nat} {s l : List Int} (hc : checkG g m = true) (hs : Rises g.length s) (h : Best g m s l) : ∃ r, nearOk g m (moreL9 s k g.length) = true ∧ fewP g m (moreL9 s k g.length) = some r ∧ r.length ≤ l.length := by
  obtain ⟨r, hr, hl⟩ := few_more (s' := moreL9 s k g.length) h (nodup_of_rises hs) (fun i hi => by
    have h1 := hs.1 i hi
    obtain ⟨i, rfl⟩ : ∃ y : Nat, i = y := ⟨i.toNat, by omega⟩
    refine mem_upto_nat.2 ⟨by omega, ?_⟩
    rw [decide_eq_true hi]; rfl)
  exact ⟨r, nearOk_of hc (upto_rises _ _), few_best hr, hl⟩

set_option maxRecDepth 100000 in
set_option maxHeartbeats 4000000 in
theorem walk (x : Gr) (m : Int) (A1 : Option Addr) (n1 c1 : Nat) (zs : List Int) (y : Nat) (w : World) (h : x.Ok w) (hm1 : -9223372036854775808 ≤ m) (hm2 : m ≤ 9223372036854775807) (h1 : Ls.Ok w ⟨A1, n1, c1, zs⟩) (hy : y < 256) :
    Calls Try.prog 6 #[.agg #[x.v, .int .i64 m], .slice A1 n1 c1, .int .u8 y] w fun e w' => e = .returned (.bool true) ∧ Below w.heap.size w w' := by
  have hx := h
  have hB := Below.refl w.heap.size w
  have hxv : x.v = .slice x.A x.n x.c := rfl
  have Vx := Lib.hid hxv
  rw [hxv]
  have hgl := h.glen
  have HGL := Lib.hid hgl
  have htop := Nat.le_trans h.cap h.top
  unfold maxLen at htop
  obtain ⟨B, hB0⟩ : ∃ B, nearOk x.g m zs = B := ⟨_, rfl⟩
  clear hxv hgl h
  have HZL : Hid (zs.length = n1) := Lib.hid h1.len
  go_enter Try.func6, Try.ntmps6
  have bg := GBox.new w x m
  have hbx : Below w.heap.size w (w.alloc (.cells #[.slice x.A x.n x.c, .int .i64 m] 24)) := (Below.refl _ w).alloc (Nat.le_refl _) _
  replace hx := hx.below hbx
  replace h1 := h1.below hbx
  replace hB := hB.trans (hbx.mono hB.size)
  clear hbx
  cases B
  · have E1 := Lib.hid (few_bad hB0)
    have E2 := Lib.hid (near_err_bad hB0)
    clear hB0
    have eg0 := bg.c0
    have eg1 := bg.c1
    have hc := pfewC x m ⟨A1, n1, c1, zs⟩ (w.alloc (.cells #[.slice x.A x.n x.c, .int .i64 m] 24)) hx h1 hm1 hm2
    rw [Vx.out, E2.out, E1.out.1, E1.out.2] at hc
    go_wp2_with fail
    clear eg0 eg1
    generalize w.alloc (.cells #[.slice x.A x.n x.c, .int .i64 m] 24) = W1 at *
    refine hc.mono ?_
    rintro e v2 ⟨A2, n2, c2, rfl, h2, hb⟩
    clear hc
    replace hx := hx.below hb
    replace h1 := h1.below hb
    replace bg := bg.below hb
    replace hB := hB.trans (hb.mono hB.size)
    clear hb
    clear h2
    have eg0 := bg.c0
    have eg1 := bg.c1
    have hc := alive9_any v2
    go_wp2_with fail
    clear eg0 eg1
    refine hc.mono ?_
    rintro e v3 ⟨rfl, hb⟩
    clear hc
    replace hx := hx.below hb
    replace h1 := h1.below hb
    replace bg := bg.below hb
    replace hB := hB.trans (hb.mono hB.size)
    clear hb
    have eg0 := bg.c0
    have eg1 := bg.c1
    go_wp2
    go_ret
    exact ⟨rfl, hB⟩
  · have hck : checkG x.g m = true := by rw [nearOk, Bool.and_eq_true] at hB0; exact hB0.1
    have hrs : Rises x.g.length zs := by rw [nearOk, Bool.and_eq_true] at hB0; exact of_decide_eq_true hB0.2
    obtain ⟨M, rfl⟩ : ∃ M : Nat, m = M := ⟨m.toNat, by have := (checkG_iff.1 hck).1; omega⟩
    have E2 := Lib.hid (near_err hB0)
    have HC := Lib.hid hck
    have HRS := Lib.hid hrs
    have hM8 : M ≤ 8 := by have := (checkG_iff.1 hck).2.1; omega
    have hx8 : x.n ≤ 8 := by have := (checkG_iff.1 hck).2.2.1; rw [HGL.out] at this; exact this
    have hzn : n1 ≤ x.n := by have := rises_len hrs; rw [HGL.out, HZL.out] at this; exact this
    have HRG : Hid (∀ i ∈ zs, 0 ≤ i ∧ i < (x.n : Int)) := Lib.hid (by have := hrs.1; rw [HGL.out] at this; exact this)
    have HB0 := Lib.hid hB0
    clear hck hrs hB0 hm1 hm2
    obtain ⟨P, hP⟩ : ∃ P, fewP x.g M zs = P := ⟨_, rfl⟩
    have HP := Lib.hid hP
    clear hP
    cases P
    · have E1 := Lib.hid (few_no HB0.out HP.out)
      have eg0 := bg.c0
      have eg1 := bg.c1
      have hc := pfewC x M ⟨A1, n1, c1, zs⟩ (w.alloc (.cells #[.slice x.A x.n x.c, .int .i64 (M : Int)] 24)) hx h1 (by omega) (by omega)
      rw [Vx.out, E2.out, E1.out.1, E1.out.2] at hc
      go_wp2_with fail
      clear eg0 eg1
      generalize w.alloc (.cells #[.slice x.A x.n x.c, .int .i64 (M : Int)] 24) = W1 at *
      refine hc.mono ?_
      rintro e v2 ⟨A2, n2, c2, rfl, h2, hb⟩
      clear hc
      replace hx := hx.below hb
      replace h1 := h1.below hb
      replace bg := bg.below hb
      replace hB := hB.trans (hb.mono hB.size)
      clear hb
      clear h2
      have eg0 := bg.c0
      have eg1 := bg.c1
      have hc := alive9_any v2
      go_wp2_with fail
      clear eg0 eg1
      refine hc.mono ?_
      rintro e v3 ⟨rfl, hb⟩
      clear hc
      replace hx := hx.below hb
      replace h1 := h1.below hb
      replace bg := bg.below hb
      replace hB := hB.trans (hb.mono hB.size)
      clear hb
      have eg0 := bg.c0
      have eg1 := bg.c1
      go_wp2
      go_ret
      exact ⟨rfl, hB⟩
    · rename_i l
      have E1 := Lib.hid (few_yes HB0.out HP.out)
      have HBE := Lib.hid (few_some HP.out)
      have hn0 : ¬ x.n = 0 := fun h0 => by
        have h5 := of_decide_eq_true HBE.out.is.few
        have h6 := within_len x.g zs l
        rw [HZL.out] at h6
        omega
      have g0 : ((x.n : Int) == 0) = false := by rw [beq_eq_false_iff_ne]; omega
      have g0' : (x.n == 0) = false := by rw [beq_eq_false_iff_ne]; exact hn0
      have eg0 := bg.c0
      have eg1 := bg.c1
      have hc := pfewC x M ⟨A1, n1, c1, zs⟩ (w.alloc (.cells #[.slice x.A x.n x.c, .int .i64 (M : Int)] 24)) hx h1 (by omega) (by omega)
      rw [Vx.out, E2.out, E1.out.1, E1.out.2] at hc
      go_wp2_with fail
      clear eg0 eg1
      generalize w.alloc (.cells #[.slice x.A x.n x.c, .int .i64 (M : Int)] 24) = W1 at *
      refine hc.mono ?_
      rintro e v2 ⟨A2, n2, c2, rfl, h2, hb⟩
      clear hc
      replace hx := hx.below hb
      replace h1 := h1.below hb
      replace bg := bg.below hb
      replace hB := hB.trans (hb.mono hB.size)
      clear hb
      have HLL : Hid (l.length = n2) := Lib.hid h2.len
      clear h2
      obtain ⟨i0, hi0, hz0, hz1, hz2⟩ := info_parts infoH_int
      obtain ⟨k, hk⟩ : ∃ k : Nat, y % x.n = k := ⟨_, rfl⟩
      have s3 : ((y : Int)).tmod (x.n : Int) = (k : Int) := by
        rw [Int.tmod_eq_emod_of_nonneg (by omega), ← hk]; simp
      have sy : IntKind.i64.wrap (y : Int) = (y : Int) := by rw [IntKind.wrap_i64]; omega
      clear hk
      have eg0 := bg.c0
      have eg1 := bg.c1
      go_wp2_with fail
      clear eg0 eg1
      go_loopw [10, 11] (fun o v wr => ∃ (j : Nat) (Al : Option Addr) (nl cl : Nat), j ≤ x.n ∧ v = .int .i64 j ∧ o = .slice Al nl cl ∧ OwnI wr v2.heap.size ⟨Al, nl, cl, moreL9 zs k j⟩ ∧ Below v2.heap.size v2 wr) (fun _ v _ => x.n - (intOf v).toNat)
      case atStart => exact ⟨0, none, 0, 0, Nat.zero_le _, rfl, rfl, OwnI.nil _ _, Below.refl _ _⟩
      case round =>
        obtain ⟨j, Al, nl, cl, hj, rfl, rfl, hol, hbel⟩ := hrel
        have e0 := (bg.below hbel).c0
        have hnl : nl ≤ 8 := by
          have h1 := hol.len
          have h2 := upto_len j fun i => decide ((i : Int) ∈ zs) || decide (i = k)
          have h3 : (moreL9 zs k j).length = nl := h1
          unfold moreL9 at h3
          omega
        by_cases hjn : j < x.n
        · have hjn' : (j : Int) < x.n := by omega
          have hj0 : (0 : Int) ≤ j := by omega
          have hlsu : moreL9 zs k (j + 1) = moreL9 zs k j ++ if (decide ((j : Int) ∈ zs) || decide (j = k)) = true then [(j : Int)] else [] := upto_succ j _
          have hha := hhas_b ⟨A1, n1, c1, zs⟩ j wr (h1.below hbel)
          unfold Ls.v at hha
          simp only at hha
          obtain ⟨β, hβ⟩ : ∃ β, decide ((j : Int) ∈ zs) = β := ⟨_, rfl⟩
          obtain ⟨γ, hγ⟩ : ∃ γ, decide (j = k) = γ := ⟨_, rfl⟩
          rw [hβ] at hha hlsu
          rw [hγ] at hlsu
          have keq : ((j : Int) == (k : Int)) = γ := by rw [← hγ, Bool.eq_iff_iff, beq_iff_eq, decide_eq_true_eq]; omega
          have keq' : (j == k) = γ := by rw [← hγ, Bool.eq_iff_iff, beq_iff_eq, decide_eq_true_eq]
          have HLS := Lib.hid hlsu
          clear hlsu hβ hγ
          go_wp2_with fail
          clear e0
          refine hha.mono ?_
          rintro e wh ⟨rfl, hbh⟩
          replace hol := hol.below hbh
          replace hbel := hbel.trans (hbh.mono hbel.size)
          have e0 := (bg.below hbel).c0
          clear hha hbh
          obtain ⟨δ, hδ⟩ : ∃ δ, (β || γ) = δ := ⟨_, rfl⟩
          rw [hδ] at HLS
          cases δ
          · obtain rfl : β = false := by cases β <;> simp_all
            obtain rfl : γ = false := by cases γ <;> simp_all
            have hol3 : OwnI wh v2.heap.size ⟨Al, nl, cl, moreL9 zs k (j + 1)⟩ := by rw [HLS.out]; simpa using hol
            clear hol HLS hδ
            go_wp2
            go_roundw
            case rel => exact ⟨j + 1, Al, nl, cl, by omega, by go_num, rfl, hol3, hbel⟩
            case measure => simp [intOf]; omega
          · have hsz0 := hbel.size
            cases β
            · obtain rfl : γ = true := by simpa using hδ
              clear hδ
              go_wp2_with (at_builtin; go_must (refine wpList_app1 wh rfl _ _ 25 rfl 3 i0 _ 8 Try.underlying25 hi0 hz0 hz1 hz2 rfl v2.heap.size Al nl cl _ rfl hol.own 1 rfl rfl ?b3 ?b4 ?b5 ?_))
              case b3 => simp only [maxLen]; omega
              case b4 => omega
              try case b5 => exact hsz0
              intro A7 c7 w7 hown7 hbel7 hfr7 hat7
              have hol3 : OwnI w7 v2.heap.size ⟨A7, nl + 1, c7, moreL9 zs k (j + 1)⟩ := by
                refine ⟨?_, fun z hz => ?_⟩
                · show Own w7 v2.heap.size _ A7 (nl + 1) c7 (ci64 (moreL9 zs k (j + 1)))
                  rw [HLS.out, if_pos trivial, ci64_snoc6]; exact hown7
                · have h5 := (upto_rises (j + 1) fun i => decide ((i : Int) ∈ zs) || decide (i = k)).1 z hz
                  omega
              have hbel3 := hbel.trans hbel7
              clear hown7 hbel7 hfr7 hat7 hol HLS hbel e0
              go_wp2
              go_roundw
              case rel => exact ⟨j + 1, A7, nl + 1, c7, by omega, by go_num, rfl, hol3, hbel3⟩
              case measure => simp [intOf]; omega
            · skip
              clear hδ
              go_wp2_with (at_builtin; go_must (refine wpList_app1 wh rfl _ _ 25 rfl 3 i0 _ 8 Try.underlying25 hi0 hz0 hz1 hz2 rfl v2.heap.size Al nl cl _ rfl hol.own 1 rfl rfl ?a3 ?a4 ?a5 ?_))
              case a3 => simp only [maxLen]; omega
              case a4 => omega
              try case a5 => exact hsz0
              intro A7 c7 w7 hown7 hbel7 hfr7 hat7
              have hol3 : OwnI w7 v2.heap.size ⟨A7, nl + 1, c7, moreL9 zs k (j + 1)⟩ := by
                refine ⟨?_, fun z hz => ?_⟩
                · show Own w7 v2.heap.size _ A7 (nl + 1) c7 (ci64 (moreL9 zs k (j + 1)))
                  rw [HLS.out, if_pos trivial, ci64_snoc6]; exact hown7
                · have h5 := (upto_rises (j + 1) fun i => decide ((i : Int) ∈ zs) || decide (i = k)).1 z hz
                  omega
              have hbel3 := hbel.trans hbel7
              clear hown7 hbel7 hfr7 hat7 hol HLS hbel e0
              go_wp2
              go_roundw
              case rel => exact ⟨j + 1, A7, nl + 1, c7, by omega, by go_num, rfl, hol3, hbel3⟩
              case measure => simp [intOf]; omega
        · obtain rfl : j = x.n := by omega
          clear e0
          have hxr := hx.below hbel
          have bgr := bg.below hbel
          have hB := hB.trans (hbel.mono hB.size)
          obtain ⟨r, hok, hfp, hrl⟩ := more_few (k := k) HC.out HRS.out HBE.out
          rw [HLL.out] at hrl
          rw [HGL.out] at hok hfp
          obtain ⟨e5, e6⟩ := few_yes hok hfp
          have e7 := near_err hok
          obtain ⟨ml, hml⟩ : ∃ p, moreL9 zs k x.n = p := ⟨_, rfl⟩
          rw [hml] at e5 e6 e7 hol
          have E5 := Lib.hid e5
          have E6 := Lib.hid e6
          have E7 := Lib.hid e7
          clear e5 e6 e7 hok hfp hml
          have eg0 := bgr.c0
          have eg1 := bgr.c1
          have hc := pfewC x M ⟨Al, nl, cl, ml⟩ wr hxr hol.ok (by omega) (by omega)
          rw [Vx.out, E7.out, E5.out, E6.out] at hc
          go_wp2_with fail
          clear eg0 eg1
          refine hc.mono ?_
          rintro e v3 ⟨A5, n5, c5, rfl, h5, hb⟩
          clear hc
          replace hxr := hxr.below hb
          replace hol := hol.below hb
          replace bgr := bgr.below hb
          replace hB := hB.trans (hb.mono hB.size)
          clear hb
          obtain rfl : n5 = r.length := h5.len.symm
          have g5 : decide ((r.length : Int) ≤ (n2 : Int)) = true := decide_eq_true (by omega)
          have g5' : decide (r.length ≤ n2) = true := decide_eq_true hrl
          clear h5
          have eg0 := bgr.c0
          have eg1 := bgr.c1
          have hc := alive9_any v3
          go_wp2_with fail
          clear eg0 eg1
          refine hc.mono ?_
          rintro e v4 ⟨rfl, hb⟩
          clear hc
          replace hxr := hxr.below hb
          replace hol := hol.below hb
          replace bgr := bgr.below hb
          replace hB := hB.trans (hb.mono hB.size)
          clear hb
          have eg0 := bgr.c0
          have eg1 := bgr.c1
          go_wp2
          go_ret
          exact ⟨rfl, hB⟩

theorem own : ownKnob Try.prog.godebug = none := by kernel_rfl
theorem laidOut : laidOutB Try.prog = true := by kernel_rfl

set_option maxRecDepth 100000 in
theorem lifted (os : Os) (started : os.Started) (H : Type) (enc : TypeId × Value → H) :
    ReturnsInHanded {} Try.checked os 6 .any (Rows.hallsMoreSpec.pre6 enc Try.prog Try.f6 Rows.hallsMoreRow.domain false) (Rows.hallsMoreSpec.post enc Try.prog Try.f6 false true false false) := by
  refine returnsInHanded_of_change (C := Try.checked) own started (by kernel_rfl) Try.func6
    (ChangeSpec.witness6 (enc := enc) (C := Try.checked) false ⟨#[], #[.agg #[.slice none 0 0, .int .i64 0], .slice none 0 0, .int .u8 0], []⟩ 8 (by kernel_rfl) (by kernel_rfl) (by kernel_rfl) (by kernel_rfl)) ?_
  intro W base args ds gs before hval0 hW hcnd _
  have hval : ∀ (j : Nat) t v, Try.f6.params[j]? = some t → args[j]? = some v → Value.okWide Try.prog W .any base t v := hval0
  have hW' := hW
  obtain ⟨p, q, hA0, hV, rfl, hfz, hnd⟩ := hW
  have hA : DataW.TrodAll enc Try.prog W 0 (fun _ => true) true Try.f6.params.toList args.toList ds p := hA0
  rw [Try.params6] at hA hval
  obtain ⟨v0, vs0, d0, ds0, p0, q0, hargs, rfl, rfl, h0, r0⟩ := trodAll_cons hA
  obtain ⟨v1, vs1, d1, ds1, p1, q1, rfl, rfl, rfl, h1, r1⟩ := trodAll_cons r0
  obtain ⟨v2, vs2, d2, ds2, p2, q2, rfl, rfl, rfl, h2, r2⟩ := trodAll_cons r1
  obtain ⟨rfl, rfl, rfl⟩ := trodAll_nil r2
  obtain rfl : args = #[v0, v1, v2] := by cases args; simp_all
  obtain ⟨u0, m0, rfl, k0, a0, b0⟩ := arg_gr Try.underlying24 (by kernel_rfl) (by kernel_rfl) Try.underlying22 Try.underlying3 Try.underlying25 (by kernel_rfl) Try.underlying3 (by kernel_rfl) (hval 0 24 v0 rfl rfl) h0
  obtain ⟨A1, n1, c1, l1, rfl, a1, b1, e1, g1⟩ := arg_i64s Try.underlying25 Try.underlying3 (by kernel_rfl) (hval 1 25 v1 rfl rfl) h1
  obtain ⟨x2, rfl, rfl, rfl, w2⟩ := open_int Try.underlying5 (hval 2 5 v2 rfl rfl) h2
  obtain ⟨y2, rfl, z2⟩ := fit_u8 w2
  have hwalk : Calls Try.prog 6 #[.agg #[u0.v, .int .i64 m0], .slice A1 n1 c1, .int .u8 y2] W fun e w' => e = .returned (.bool true) ∧ Below W.heap.size W w' := walk u0 m0 A1 n1 c1 l1 y2 W k0 a0 b0 ⟨a1, b1, e1, g1⟩ z2
  refine hwalk.mono fun e W' ⟨he, hg⟩ => ?_
  subst he
  exact ⟨_, rfl, law_post laidOut (by kernel_rfl) hW' rfl rfl (by kernel_rfl) Try.underlying4 hg⟩

theorem over : Rows.hallsMoreRow.holds Try.pinned (OpenSpec.ofChange Rows.hallsMoreSpec) :=
  OpenClaim.holds_of_wide 6 Try.f6 rfl rfl rfl rfl rfl rfl rfl ⟨rfl, rfl, rfl, rfl, rfl⟩ rfl rfl rfl rfl rfl (by kernel_rfl) Try.func6 (by kernel_rfl)
    (of_decide_eq_true (by kernel_rfl)) (by unfold Func.isWrapper; first | (rw [if_pos (by decide +kernel)]; kernel_rfl) | (rw [if_neg (by decide +kernel)]; exact ⟨rfl, rfl⟩))
    (fun os started H enc _ => lifted os started H enc)

theorem proved : Rows.HallsMoreSaid :=
  over

end Go.Proofs.Ytdiklmfaehmmjaa.hallsMore
