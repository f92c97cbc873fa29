/-
  Proved: salesroomlaw09.HallsAll answers true, for any lists, any items, any some, in whatever memory. No conditions.
-/
import Derived.Test.YtdiklmfaehmmjaaRows
import Derived.Test.YtdiklmfaehmmjaaLift
import Derived.Test.YtdiklmfaehmmjaaAlive9
import Derived.Test.YtdiklmfaehmmjaaGrM
import Derived.Test.YtdiklmfaehmmjaaHaL
import Derived.Test.YtdiklmfaehmmjaaReg
namespace Go.Proofs.Ytdiklmfaehmmjaa.hallsAll
open Go.ChangeShapes Go.WideShapes Go.ChangeAt Go.RowKit
set_option linter.unusedVariables false

theorem all_bad {g : List (List Int)} {m : Int} {s : List Int} (h : nearOk g m s = false) : allE g m s = false := by simp [allE, h]
theorem all_few {g : List (List Int)} {m : Nat} {s : List Int} (h : nearOk g m s = true) : allE g m s = !(fewP g m s).isSome := by
  have h0 := h
  rw [nearOk, Bool.and_eq_true] at h0
  rw [few_not h0.1 (of_decide_eq_true h0.2)]
  simp [allE, h]

set_option maxRecDepth 100000 in
set_option maxHeartbeats 4000000 in
theorem walk (x : Gr) (m : Int) (A1 : Option Addr) (n1 c1 : Nat) (zs : List Int) (w : World) (h : x.Ok w) (hm1 : -9223372036854775808 ≤ m) (hm2 : m ≤ 9223372036854775807) (h1 : Ls.Ok w ⟨A1, n1, c1, zs⟩) :
    Calls Try.prog 3 #[.agg #[x.v, .int .i64 m], .slice A1 n1 c1] w fun e w' => e = .returned (.bool true) ∧ Below w.heap.size w w' := by
  have hx := h
  have hB := Below.refl w.heap.size w
  have hxv : x.v = .slice x.A x.n x.c := rfl
  have Vx := Lib.hid hxv
  rw [hxv]
  have hgl := h.glen
  have HGL := Lib.hid hgl
  have htop := Nat.le_trans h.cap h.top
  unfold maxLen at htop
  obtain ⟨B, hB0⟩ : ∃ B, nearOk x.g m zs = B := ⟨_, rfl⟩
  clear hxv hgl h
  have HZL : Hid (zs.length = n1) := Lib.hid h1.len
  go_enter Try.func3, Try.ntmps3
  have bg := GBox.new w x m
  have hbx : Below w.heap.size w (w.alloc (.cells #[.slice x.A x.n x.c, .int .i64 m] 24)) := (Below.refl _ w).alloc (Nat.le_refl _) _
  replace hx := hx.below hbx
  replace h1 := h1.below hbx
  replace hB := hB.trans (hbx.mono hB.size)
  clear hbx
  cases B
  · have E3 := Lib.hid (all_bad hB0)
    have E1 := Lib.hid (few_bad hB0)
    have E2 := Lib.hid (near_err_bad hB0)
    clear hB0
    have eg0 := bg.c0
    have eg1 := bg.c1
    have hc := pfewC x m ⟨A1, n1, c1, zs⟩ (w.alloc (.cells #[.slice x.A x.n x.c, .int .i64 m] 24)) hx h1 hm1 hm2
    rw [Vx.out, E2.out, E1.out.1, E1.out.2] at hc
    go_wp2_with fail
    clear eg0 eg1
    generalize w.alloc (.cells #[.slice x.A x.n x.c, .int .i64 m] 24) = W1 at *
    refine hc.mono ?_
    rintro e v2 ⟨A2, n2, c2, rfl, h2, hb⟩
    clear hc
    replace hx := hx.below hb
    replace h1 := h1.below hb
    replace bg := bg.below hb
    replace hB := hB.trans (hb.mono hB.size)
    clear hb
    obtain rfl : n2 = 0 := h2.len.symm
    clear h2
    have eg0 := bg.c0
    have eg1 := bg.c1
    have hc := pallC x m ⟨A1, n1, c1, zs⟩ v2 hx h1 hm1 hm2
    rw [Vx.out, E3.out, E2.out] at hc
    go_wp2_with fail
    clear eg0 eg1
    refine hc.mono ?_
    rintro e v3 ⟨rfl, hb⟩
    clear hc
    replace hx := hx.below hb
    replace h1 := h1.below hb
    replace bg := bg.below hb
    replace hB := hB.trans (hb.mono hB.size)
    clear hb
    have eg0 := bg.c0
    have eg1 := bg.c1
    have hc := alive9_any v3
    go_wp2_with fail
    clear eg0 eg1
    refine hc.mono ?_
    rintro e v4 ⟨rfl, hb⟩
    clear hc
    replace hx := hx.below hb
    replace h1 := h1.below hb
    replace bg := bg.below hb
    replace hB := hB.trans (hb.mono hB.size)
    clear hb
    have eg0 := bg.c0
    have eg1 := bg.c1
    go_wp2
    go_ret
    exact ⟨rfl, hB⟩
  · have hck : checkG x.g m = true := by rw [nearOk, Bool.and_eq_true] at hB0; exact hB0.1
    have hrs : Rises x.g.length zs := by rw [nearOk, Bool.and_eq_true] at hB0; exact of_decide_eq_true hB0.2
    obtain ⟨M, rfl⟩ : ∃ M : Nat, m = M := ⟨m.toNat, by have := (checkG_iff.1 hck).1; omega⟩
    have E2 := Lib.hid (near_err hB0)
    have HC := Lib.hid hck
    have HRS := Lib.hid hrs
    have hM8 : M ≤ 8 := by have := (checkG_iff.1 hck).2.1; omega
    have hx8 : x.n ≤ 8 := by have := (checkG_iff.1 hck).2.2.1; rw [HGL.out] at this; exact this
    have hzn : n1 ≤ x.n := by have := rises_len hrs; rw [HGL.out, HZL.out] at this; exact this
    have HRG : Hid (∀ i ∈ zs, 0 ≤ i ∧ i < (x.n : Int)) := Lib.hid (by have := hrs.1; rw [HGL.out] at this; exact this)
    have HB0 := Lib.hid hB0
    clear hck hrs hB0 hm1 hm2
    have E3 := Lib.hid (all_few HB0.out)
    obtain ⟨P, hP⟩ : ∃ P, fewP x.g M zs = P := ⟨_, rfl⟩
    have HP := Lib.hid hP
    clear hP
    cases P
    · have E1 := Lib.hid (few_no HB0.out HP.out)
      have E4 : Hid (allE x.g M zs = true) := Lib.hid (by rw [E3.out, HP.out]; rfl)
      clear E3
      have eg0 := bg.c0
      have eg1 := bg.c1
      have hc := pfewC x M ⟨A1, n1, c1, zs⟩ (w.alloc (.cells #[.slice x.A x.n x.c, .int .i64 (M : Int)] 24)) hx h1 (by omega) (by omega)
      rw [Vx.out, E2.out, E1.out.1, E1.out.2] at hc
      go_wp2_with fail
      clear eg0 eg1
      generalize w.alloc (.cells #[.slice x.A x.n x.c, .int .i64 (M : Int)] 24) = W1 at *
      refine hc.mono ?_
      rintro e v2 ⟨A2, n2, c2, rfl, h2, hb⟩
      clear hc
      replace hx := hx.below hb
      replace h1 := h1.below hb
      replace bg := bg.below hb
      replace hB := hB.trans (hb.mono hB.size)
      clear hb
      obtain rfl : n2 = 0 := h2.len.symm
      clear h2
      have eg0 := bg.c0
      have eg1 := bg.c1
      have hc := pallC x M ⟨A1, n1, c1, zs⟩ v2 hx h1 (by omega) (by omega)
      rw [Vx.out, E4.out, E2.out] at hc
      go_wp2_with fail
      clear eg0 eg1
      refine hc.mono ?_
      rintro e v3 ⟨rfl, hb⟩
      clear hc
      replace hx := hx.below hb
      replace h1 := h1.below hb
      replace bg := bg.below hb
      replace hB := hB.trans (hb.mono hB.size)
      clear hb
      have eg0 := bg.c0
      have eg1 := bg.c1
      have hc := alive9_any v3
      go_wp2_with fail
      clear eg0 eg1
      refine hc.mono ?_
      rintro e v4 ⟨rfl, hb⟩
      clear hc
      replace hx := hx.below hb
      replace h1 := h1.below hb
      replace bg := bg.below hb
      replace hB := hB.trans (hb.mono hB.size)
      clear hb
      have eg0 := bg.c0
      have eg1 := bg.c1
      go_wp2
      go_ret
      exact ⟨rfl, hB⟩
    · rename_i l
      have E1 := Lib.hid (few_yes HB0.out HP.out)
      have E4 : Hid (allE x.g M zs = false) := Lib.hid (by rw [E3.out, HP.out]; rfl)
      have HBE := Lib.hid (few_some HP.out)
      clear E3
      have eg0 := bg.c0
      have eg1 := bg.c1
      have hc := pfewC x M ⟨A1, n1, c1, zs⟩ (w.alloc (.cells #[.slice x.A x.n x.c, .int .i64 (M : Int)] 24)) hx h1 (by omega) (by omega)
      rw [Vx.out, E2.out, E1.out.1, E1.out.2] at hc
      go_wp2_with fail
      clear eg0 eg1
      generalize w.alloc (.cells #[.slice x.A x.n x.c, .int .i64 (M : Int)] 24) = W1 at *
      refine hc.mono ?_
      rintro e v2 ⟨A2, n2, c2, rfl, h2, hb⟩
      clear hc
      replace hx := hx.below hb
      replace h1 := h1.below hb
      replace bg := bg.below hb
      replace hB := hB.trans (hb.mono hB.size)
      clear hb
      have HLL : Hid (l.length = n2) := Lib.hid h2.len
      have hn28 : n2 ≤ 8 := by have := rises_len HBE.out.is.rises; rw [HLL.out] at this; omega
      have eg0 := bg.c0
      have eg1 := bg.c1
      have hc := pallC x M ⟨A1, n1, c1, zs⟩ v2 hx h1 (by omega) (by omega)
      rw [Vx.out, E4.out, E2.out] at hc
      go_wp2_with fail
      clear eg0 eg1
      refine hc.mono ?_
      rintro e v3 ⟨rfl, hb⟩
      clear hc
      replace hx := hx.below hb
      replace h1 := h1.below hb
      replace h2 := h2.below hb
      replace bg := bg.below hb
      replace hB := hB.trans (hb.mono hB.size)
      clear hb
      have eg0 := bg.c0
      have eg1 := bg.c1
      go_wp2_with fail
      clear eg0 eg1
      go_loopw [10] (fun v wr => ∃ i : Nat, i ≤ n2 ∧ v = .int .i64 i ∧ Below v3.heap.size v3 wr) (fun v _ => n2 - (intOf v).toNat)
      case atStart => exact ⟨0, Nat.zero_le _, rfl, Below.refl _ _⟩
      case round =>
        obtain ⟨i, hi, rfl, hbel⟩ := hrel
        by_cases hin : i < n2
        · have hin' : (i : Int) < n2 := by omega
          have hi0 : (0 : Int) ≤ i := by omega
          have hil : i < l.length := by rw [HLL.out]; exact hin
          obtain ⟨p1, q1, hA1, hp1, y0, hy0', hcy⟩ := h2.ok.rd.get hin
          simp only at hA1
          subst hA1
          rw [ci64_get _ _ hil] at hy0'
          obtain rfl : iV l[i] = y0 := Option.some.inj hy0'
          unfold iV at hcy
          have hrg := HBE.out.is.rises.1 _ (List.getElem_mem hil)
          have hpr : ∀ h0 : 0 < i, l[i - 1]'(by omega) < l[i] := fun h0 => List.pairwise_iff_getElem.1 HBE.out.is.rises.2 _ _ (by omega) hil (by omega)
          have hcp : 0 < i → ∃ d, v3.cell? ⟨p1, q1 + (i - 1), none⟩ = some (.int .i64 d) ∧ d < l[i] := fun h0 => by
            obtain ⟨p', q', hA', _, y1, hy1', hcy1⟩ := h2.ok.rd.get (show i - 1 < n2 by omega)
            simp only at hA'
            cases hA'
            rw [ci64_get _ _ (show i - 1 < l.length by omega)] at hy1'
            cases hy1'
            exact ⟨_, hcy1, hpr h0⟩
          obtain ⟨a, ha⟩ : ∃ a, l[i] = a := ⟨_, rfl⟩
          rw [ha] at hcy hrg hcp
          have g0 : decide (a < 0) = false := decide_eq_false (by omega)
          have g1 : decide ((M : Int) ≤ a) = false := decide_eq_false (by omega)
          clear hy0' ha hpr
          by_cases h0 : i = 0
          · subst h0
            clear hcp
            rw [Nat.add_zero] at hcy
            have hS : ∀ w', Below v3.heap.size v3 w' → w'.cell? ⟨w.heap.size, 1, none⟩ = some (.int .i64 (M : Int)) ∧ w'.cell? ⟨p1, q1, none⟩ = some (.int .i64 a) := fun w' hb => ⟨(bg.below hb).c1, (hb.cell (p := ⟨p1, q1, none⟩) hp1).trans hcy⟩
            go_wp2_with fail
            refine wp_region_ord (S := fun w' => w'.cell? ⟨w.heap.size, 1, none⟩ = some (.int .i64 (M : Int)) ∧ w'.cell? ⟨p1, q1, none⟩ = some (.int .i64 a)) [(0, true), (1, true), (2, true), (3, true), (4, true), (5, true), (6, true), (7, true), (8, true), (9, true), (10, true), (11, true), (12, true), (13, true), (14, true), (15, true), (16, true), (17, true), (18, true), (19, true), (20, true), (21, true), (22, true), (23, true), (24, true), (25, true), (26, true), (27, true), (28, true), (29, true)] default (by kernel_rfl) (by kernel_rfl) (by kernel_rfl) (hS _ (hbel.drew)) ?_
            simp only [getOrd, nth]
            obtain ⟨q1_0, hu0⟩ : ∃ q1_0, q1_0 = wr.drew := ⟨_, rfl⟩
            have b0 : Below v3.heap.size v3 q1_0 := by rw [hu0]; exact (hbel.drew)
            rw [← hu0]
            clear hu0
            repeat (first | (refine ordS (by rfl) ?_; simp only [Act.put, List.setIfInBounds_toArray, List.set_cons_zero, List.set_cons_succ]) | (refine ordN (by rfl) ?_; simp only [Act.put, List.setIfInBounds_toArray, List.set_cons_zero, List.set_cons_succ]) | (refine ordQ (v := ?_) (by rfl) (fun _ hSw => ?_) ?_; rotate_left; (focus ((have hS1 := hSw.1); (have hS2 := hSw.2); clear hSw; go_simp; (first | done | with_reducible rfl))); simp only [Act.put, List.setIfInBounds_toArray, List.set_cons_zero, List.set_cons_succ]))
            refine ordE ?_
            replace hbel := b0
            clear hS b0
            go_wp2
            go_roundw
            case rel => exact ⟨0 + 1, by omega, by go_num, hbel⟩
            case measure => simp [intOf]; omega
          · obtain ⟨d, hcd, hda⟩ := hcp (by omega)
            have g2 : decide ((0 : Int) < (i : Int)) = true := decide_eq_true (by omega)
            have g2' : decide (0 < i) = true := decide_eq_true (by omega)
            have s1 : IntKind.i64.wrap ((i : Int) - 1) = ((i - 1 : Nat) : Int) := by rw [IntKind.wrap_i64]; omega
            have g3 : decide (a ≤ d) = false := decide_eq_false (by omega)
            have hi1 : ((i - 1 : Nat) : Int) < n2 := by omega
            have hi2 : (0 : Int) ≤ ((i - 1 : Nat) : Int) := by omega
            have hi3 : i - 1 < n2 := by omega
            clear hcp
            have hS : ∀ w', Below v3.heap.size v3 w' → w'.cell? ⟨w.heap.size, 1, none⟩ = some (.int .i64 (M : Int)) ∧ w'.cell? ⟨p1, q1 + i, none⟩ = some (.int .i64 a) ∧ w'.cell? ⟨p1, q1 + (i - 1), none⟩ = some (.int .i64 d) := fun w' hb => ⟨(bg.below hb).c1, (hb.cell (p := ⟨p1, q1 + i, none⟩) hp1).trans hcy, (hb.cell (p := ⟨p1, q1 + (i - 1), none⟩) hp1).trans hcd⟩
            go_wp2_with fail
            refine wp_region_ord (S := fun w' => w'.cell? ⟨w.heap.size, 1, none⟩ = some (.int .i64 (M : Int)) ∧ w'.cell? ⟨p1, q1 + i, none⟩ = some (.int .i64 a) ∧ w'.cell? ⟨p1, q1 + (i - 1), none⟩ = some (.int .i64 d)) [(0, true), (1, true), (2, true), (3, true), (4, true), (5, true), (6, true), (7, true), (8, true), (9, true), (10, true), (11, true), (12, true), (13, true), (14, true), (15, true), (16, true), (17, true), (18, true), (19, true), (20, true), (21, true), (22, true), (23, true), (24, true), (25, true), (26, true), (27, true), (28, true), (29, true)] default (by kernel_rfl) (by kernel_rfl) (by kernel_rfl) (hS _ (hbel.drew)) ?_
            simp only [getOrd, nth]
            obtain ⟨q2_0, hu0⟩ : ∃ q2_0, q2_0 = wr.drew := ⟨_, rfl⟩
            have b0 : Below v3.heap.size v3 q2_0 := by rw [hu0]; exact (hbel.drew)
            rw [← hu0]
            clear hu0
            repeat (first | (refine ordS (by rfl) ?_; simp only [Act.put, List.setIfInBounds_toArray, List.set_cons_zero, List.set_cons_succ]) | (refine ordN (by rfl) ?_; simp only [Act.put, List.setIfInBounds_toArray, List.set_cons_zero, List.set_cons_succ]) | (refine ordQ (v := ?_) (by rfl) (fun _ hSw => ?_) ?_; rotate_left; (focus ((have hS1 := hSw.1); (have hS2 := hSw.2.1); (have hS3 := hSw.2.2); clear hSw; go_simp; (first | done | with_reducible rfl))); simp only [Act.put, List.setIfInBounds_toArray, List.set_cons_zero, List.set_cons_succ]))
            refine ordE ?_
            replace hbel := b0
            clear hS b0
            go_wp2
            go_roundw
            case rel => exact ⟨i + 1, by omega, by go_num, hbel⟩
            case measure => simp [intOf]; omega
        · obtain rfl : i = n2 := by omega
          have hxr := hx.below hbel
          have h1r := h1.below hbel
          have h2r := h2.below hbel
          have bgr := bg.below hbel
          have hB := hB.trans (hbel.mono hB.size)
          have hfew := of_decide_eq_true HBE.out.is.few
          rw [HLL.out] at hfew
          have HFEW := Lib.hid hfew
          clear hfew
          have eg0 := bgr.c0
          have eg1 := bgr.c1
          have hc := alive9_any wr
          go_wp2_with fail
          clear eg0 eg1
          refine hc.mono ?_
          rintro e v4 ⟨rfl, hb⟩
          clear hc
          replace hxr := hxr.below hb
          replace h1r := h1r.below hb
          replace h2r := h2r.below hb
          replace bgr := bgr.below hb
          replace hB := hB.trans (hb.mono hB.size)
          clear hb
          have eg0 := bgr.c0
          have eg1 := bgr.c1
          have hc := hwithin_any x ⟨A1, n1, c1, zs⟩ ⟨A2, i, c2, l⟩ v4 hxr h1r h2r.ok HRG.out (by show n1 ≤ 1000; omega)
          go_wp2_with fail
          clear eg0 eg1
          refine hc.mono ?_
          rintro e v5 ⟨A4, n4, c4, rfl, h4, hb⟩
          clear hc
          replace hxr := hxr.below hb
          replace h1r := h1r.below hb
          replace h2r := h2r.below hb
          replace bgr := bgr.below hb
          replace hB := hB.trans (hb.mono hB.size)
          clear hb
          have hn4 : i < n4 := by have h5 : (withinL x.g zs l).length = n4 := h4.len; have := HFEW.out; omega
          have g5 : decide ((i : Int) < (n4 : Int)) = true := decide_eq_true (by omega)
          have g5' : decide (i < n4) = true := decide_eq_true hn4
          clear h4
          have eg0 := bgr.c0
          have eg1 := bgr.c1
          go_wp2
          go_ret
          exact ⟨rfl, hB⟩

theorem own : ownKnob Try.prog.godebug = none := by kernel_rfl
theorem laidOut : laidOutB Try.prog = true := by kernel_rfl

set_option maxRecDepth 100000 in
theorem lifted (os : Os) (started : os.Started) (H : Type) (enc : TypeId × Value → H) :
    ReturnsInHanded {} Try.checked os 3 .any (Rows.hallsAllSpec.pre6 enc Try.prog Try.f3 Rows.hallsAllRow.domain false) (Rows.hallsAllSpec.post enc Try.prog Try.f3 false true false false) := by
  refine returnsInHanded_of_change (C := Try.checked) own started (by kernel_rfl) Try.func3
    (ChangeSpec.witness6 (enc := enc) (C := Try.checked) false ⟨#[], #[.agg #[.slice none 0 0, .int .i64 0], .slice none 0 0], []⟩ 8 (by kernel_rfl) (by kernel_rfl) (by kernel_rfl) (by kernel_rfl)) ?_
  intro W base args ds gs before hval0 hW hcnd _
  have hval : ∀ (j : Nat) t v, Try.f3.params[j]? = some t → args[j]? = some v → Value.okWide Try.prog W .any base t v := hval0
  have hW' := hW
  obtain ⟨p, q, hA0, hV, rfl, hfz, hnd⟩ := hW
  have hA : DataW.TrodAll enc Try.prog W 0 (fun _ => true) true Try.f3.params.toList args.toList ds p := hA0
  rw [Try.params3] at hA hval
  obtain ⟨v0, vs0, d0, ds0, p0, q0, hargs, rfl, rfl, h0, r0⟩ := trodAll_cons hA
  obtain ⟨v1, vs1, d1, ds1, p1, q1, rfl, rfl, rfl, h1, r1⟩ := trodAll_cons r0
  obtain ⟨rfl, rfl, rfl⟩ := trodAll_nil r1
  obtain rfl : args = #[v0, v1] := by cases args; simp_all
  obtain ⟨u0, m0, rfl, k0, a0, b0⟩ := arg_gr Try.underlying24 (by kernel_rfl) (by kernel_rfl) Try.underlying22 Try.underlying3 Try.underlying25 (by kernel_rfl) Try.underlying3 (by kernel_rfl) (hval 0 24 v0 rfl rfl) h0
  obtain ⟨A1, n1, c1, l1, rfl, a1, b1, e1, g1⟩ := arg_i64s Try.underlying25 Try.underlying3 (by kernel_rfl) (hval 1 25 v1 rfl rfl) h1
  have hwalk : Calls Try.prog 3 #[.agg #[u0.v, .int .i64 m0], .slice A1 n1 c1] W fun e w' => e = .returned (.bool true) ∧ Below W.heap.size W w' := walk u0 m0 A1 n1 c1 l1 W k0 a0 b0 ⟨a1, b1, e1, g1⟩
  refine hwalk.mono fun e W' ⟨he, hg⟩ => ?_
  subst he
  exact ⟨_, rfl, law_post laidOut (by kernel_rfl) hW' rfl rfl (by kernel_rfl) Try.underlying4 hg⟩

theorem over : Rows.hallsAllRow.holds Try.pinned (OpenSpec.ofChange Rows.hallsAllSpec) :=
  OpenClaim.holds_of_wide 3 Try.f3 rfl rfl rfl rfl rfl rfl rfl ⟨rfl, rfl, rfl, rfl, rfl⟩ rfl rfl rfl rfl rfl (by kernel_rfl) Try.func3 (by kernel_rfl)
    (of_decide_eq_true (by kernel_rfl)) (by unfold Func.isWrapper; first | (rw [if_pos (by decide +kernel)]; kernel_rfl) | (rw [if_neg (by decide +kernel)]; exact ⟨rfl, rfl⟩))
    (fun os started H enc _ => lifted os started H enc)

theorem proved : Rows.HallsAllSaid :=
  over

end Go.Proofs.Ytdiklmfaehmmjaa.hallsAll
