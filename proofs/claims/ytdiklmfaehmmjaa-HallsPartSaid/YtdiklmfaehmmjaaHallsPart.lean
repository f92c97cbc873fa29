/-
  Proved: salesroomlaw09.HallsPart answers true, for any lists, any items, any some, any part, in whatever memory. No conditions.
-/
import Derived.Test.YtdiklmfaehmmjaaRows
import Derived.Test.YtdiklmfaehmmjaaLift
import Derived.Test.YtdiklmfaehmmjaaAlive9
import Derived.Test.YtdiklmfaehmmjaaGrM
import Derived.Test.YtdiklmfaehmmjaaHaL
import Derived.Test.YtdiklmfaehmmjaaReg
namespace Go.Proofs.Ytdiklmfaehmmjaa.hallsPart
open Go.ChangeShapes Go.WideShapes Go.ChangeAt Go.RowKit
set_option linter.unusedVariables false


set_option maxRecDepth 100000 in
set_option maxHeartbeats 4000000 in
theorem walk (x : Gr) (m : Int) (A1 : Option Addr) (n1 c1 : Nat) (zs : List Int) (y : Nat) (w : World) (h : x.Ok w) (hm1 : -9223372036854775808 ≤ m) (hm2 : m ≤ 9223372036854775807) (h1 : Ls.Ok w ⟨A1, n1, c1, zs⟩) (hy : y < 256) :
    Calls Try.prog 4 #[.agg #[x.v, .int .i64 m], .slice A1 n1 c1, .int .u8 y] w fun e w' => e = .returned (.bool true) ∧ Below w.heap.size w w' := by
  have hx := h
  have hB := Below.refl w.heap.size w
  have hxv : x.v = .slice x.A x.n x.c := rfl
  have Vx := Lib.hid hxv
  rw [hxv]
  have hgl := h.glen
  have HGL := Lib.hid hgl
  have htop := Nat.le_trans h.cap h.top
  unfold maxLen at htop
  obtain ⟨B, hB0⟩ : ∃ B, nearOk x.g m zs = B := ⟨_, rfl⟩
  clear hxv hgl h
  have HZL : Hid (zs.length = n1) := Lib.hid h1.len
  go_enter Try.func4, Try.ntmps4
  have bg := GBox.new w x m
  have hbx : Below w.heap.size w (w.alloc (.cells #[.slice x.A x.n x.c, .int .i64 m] 24)) := (Below.refl _ w).alloc (Nat.le_refl _) _
  replace hx := hx.below hbx
  replace h1 := h1.below hbx
  replace hB := hB.trans (hbx.mono hB.size)
  clear hbx
  cases B
  · have E1 := Lib.hid (few_bad hB0)
    have E2 := Lib.hid (near_err_bad hB0)
    clear hB0
    have eg0 := bg.c0
    have eg1 := bg.c1
    have hc := pfewC x m ⟨A1, n1, c1, zs⟩ (w.alloc (.cells #[.slice x.A x.n x.c, .int .i64 m] 24)) hx h1 hm1 hm2
    rw [Vx.out, E2.out, E1.out.1, E1.out.2] at hc
    go_wp2_with fail
    clear eg0 eg1
    generalize w.alloc (.cells #[.slice x.A x.n x.c, .int .i64 m] 24) = W1 at *
    refine hc.mono ?_
    rintro e v2 ⟨A2, n2, c2, rfl, h2, hb⟩
    clear hc
    replace hx := hx.below hb
    replace h1 := h1.below hb
    replace bg := bg.below hb
    replace hB := hB.trans (hb.mono hB.size)
    clear hb
    clear h2
    have eg0 := bg.c0
    have eg1 := bg.c1
    have hc := alive9_any v2
    go_wp2_with fail
    clear eg0 eg1
    refine hc.mono ?_
    rintro e v3 ⟨rfl, hb⟩
    clear hc
    replace hx := hx.below hb
    replace h1 := h1.below hb
    replace bg := bg.below hb
    replace hB := hB.trans (hb.mono hB.size)
    clear hb
    have eg0 := bg.c0
    have eg1 := bg.c1
    go_wp2
    go_ret
    exact ⟨rfl, hB⟩
  · have hck : checkG x.g m = true := by rw [nearOk, Bool.and_eq_true] at hB0; exact hB0.1
    have hrs : Rises x.g.length zs := by rw [nearOk, Bool.and_eq_true] at hB0; exact of_decide_eq_true hB0.2
    obtain ⟨M, rfl⟩ : ∃ M : Nat, m = M := ⟨m.toNat, by have := (checkG_iff.1 hck).1; omega⟩
    have E2 := Lib.hid (near_err hB0)
    have HC := Lib.hid hck
    have HRS := Lib.hid hrs
    have hM8 : M ≤ 8 := by have := (checkG_iff.1 hck).2.1; omega
    have hx8 : x.n ≤ 8 := by have := (checkG_iff.1 hck).2.2.1; rw [HGL.out] at this; exact this
    have hzn : n1 ≤ x.n := by have := rises_len hrs; rw [HGL.out, HZL.out] at this; exact this
    have HRG : Hid (∀ i ∈ zs, 0 ≤ i ∧ i < (x.n : Int)) := Lib.hid (by have := hrs.1; rw [HGL.out] at this; exact this)
    have HB0 := Lib.hid hB0
    clear hck hrs hB0 hm1 hm2
    obtain ⟨P, hP⟩ : ∃ P, fewP x.g M zs = P := ⟨_, rfl⟩
    have HP := Lib.hid hP
    clear hP
    cases P
    · have E1 := Lib.hid (few_no HB0.out HP.out)
      have eg0 := bg.c0
      have eg1 := bg.c1
      have hc := pfewC x M ⟨A1, n1, c1, zs⟩ (w.alloc (.cells #[.slice x.A x.n x.c, .int .i64 (M : Int)] 24)) hx h1 (by omega) (by omega)
      rw [Vx.out, E2.out, E1.out.1, E1.out.2] at hc
      go_wp2_with fail
      clear eg0 eg1
      generalize w.alloc (.cells #[.slice x.A x.n x.c, .int .i64 (M : Int)] 24) = W1 at *
      refine hc.mono ?_
      rintro e v2 ⟨A2, n2, c2, rfl, h2, hb⟩
      clear hc
      replace hx := hx.below hb
      replace h1 := h1.below hb
      replace bg := bg.below hb
      replace hB := hB.trans (hb.mono hB.size)
      clear hb
      clear h2
      have eg0 := bg.c0
      have eg1 := bg.c1
      have hc := alive9_any v2
      go_wp2_with fail
      clear eg0 eg1
      refine hc.mono ?_
      rintro e v3 ⟨rfl, hb⟩
      clear hc
      replace hx := hx.below hb
      replace h1 := h1.below hb
      replace bg := bg.below hb
      replace hB := hB.trans (hb.mono hB.size)
      clear hb
      have eg0 := bg.c0
      have eg1 := bg.c1
      go_wp2
      go_ret
      exact ⟨rfl, hB⟩
    · rename_i l
      have E1 := Lib.hid (few_yes HB0.out HP.out)
      have HBE := Lib.hid (few_some HP.out)
      have eg0 := bg.c0
      have eg1 := bg.c1
      have hc := pfewC x M ⟨A1, n1, c1, zs⟩ (w.alloc (.cells #[.slice x.A x.n x.c, .int .i64 (M : Int)] 24)) hx h1 (by omega) (by omega)
      rw [Vx.out, E2.out, E1.out.1, E1.out.2] at hc
      go_wp2_with fail
      clear eg0 eg1
      generalize w.alloc (.cells #[.slice x.A x.n x.c, .int .i64 (M : Int)] 24) = W1 at *
      refine hc.mono ?_
      rintro e v2 ⟨A2, n2, c2, rfl, h2, hb⟩
      clear hc
      replace hx := hx.below hb
      replace h1 := h1.below hb
      replace bg := bg.below hb
      replace hB := hB.trans (hb.mono hB.size)
      clear hb
      have HLL : Hid (l.length = n2) := Lib.hid h2.len
      have hn28 : n2 ≤ 8 := by have := rises_len HBE.out.is.rises; rw [HLL.out] at this; omega
      obtain ⟨i0, hi0, hz0, hz1, hz2⟩ := info_parts infoH_int
      have eg0 := bg.c0
      have eg1 := bg.c1
      go_wp2_with fail
      clear eg0 eg1
      go_loopw [10, 11] (fun o v wr => ∃ (j : Nat) (Al : Option Addr) (nl cl : Nat), j ≤ n2 ∧ v = .int .i64 j ∧ o = .slice Al nl cl ∧ OwnI wr v2.heap.size ⟨Al, nl, cl, lessL y l j⟩ ∧ Below v2.heap.size v2 wr) (fun _ v _ => n2 - (intOf v).toNat)
      case atStart => exact ⟨0, none, 0, 0, Nat.zero_le _, rfl, rfl, OwnI.nil _ _, Below.refl _ _⟩
      case round =>
        obtain ⟨j, Al, nl, cl, hj, rfl, rfl, hol, hbel⟩ := hrel
        have hnl : nl ≤ 8 := by
          have h1 := hol.len
          have h2 := lessL_len y l (j := j) (by rw [HLL.out]; exact hj)
          have h3 : (lessL y l j).length = nl := h1
          omega
        by_cases hjn : j < n2
        · have hjn' : (j : Int) < n2 := by omega
          have hj0 : (0 : Int) ≤ j := by omega
          have hjl : j < l.length := by rw [HLL.out]; exact hjn
          obtain ⟨p1, q1, hA1, hp1, y0, hy0', hcy⟩ := h2.ok.rd.get hjn
          simp only at hA1
          subst hA1
          rw [ci64_get _ _ hjl] at hy0'
          obtain rfl : iV l[j] = y0 := Option.some.inj hy0'
          unfold iV at hcy
          have hfz := h2.fit _ (List.getElem_mem hjl)
          have hlsu : lessL y l (j + 1) = lessL y l j ++ if y.testBit j = true then [l[j]] else [] := by
            rw [lessL, List.getD_eq_getElem?_getD, List.getElem?_eq_getElem hjl]; rfl
          obtain ⟨a, ha⟩ : ∃ a, l[j] = a := ⟨_, rfl⟩
          rw [ha] at hcy hlsu hfz
          have hcw := (hbel.cell (p := ⟨p1, q1 + j, none⟩) hp1).trans hcy
          have hbit := bit_u8 y j hy
          have HLS := Lib.hid hlsu
          obtain ⟨β, hβ⟩ : ∃ β, y.testBit j = β := ⟨_, rfl⟩
          rw [hβ] at hbit HLS
          clear hy0' ha hlsu hβ hcy
          cases β
          · have hol3 : OwnI wr v2.heap.size ⟨Al, nl, cl, lessL y l (j + 1)⟩ := by rw [HLS.out]; simpa using hol
            clear hol HLS
            go_wp2
            go_roundw
            case rel => exact ⟨j + 1, Al, nl, cl, by omega, by go_num, rfl, hol3, hbel⟩
            case measure => simp [intOf]; omega
          · have hszq := hbel.size
            go_wp2_with (at_builtin; go_must (refine wpList_app1 wr rfl _ _ 25 rfl 3 i0 _ 8 Try.underlying25 hi0 hz0 hz1 hz2 rfl v2.heap.size Al nl cl _ rfl hol.own 1 rfl rfl ?d3 ?d4 ?d5 ?_))
            case d3 => simp only [maxLen]; omega
            case d4 => omega
            try case d5 => exact hszq
            intro A7 c7 w7 hown7 hbel7 hfr7 hat7
            have hol3 : OwnI w7 v2.heap.size ⟨A7, nl + 1, c7, lessL y l (j + 1)⟩ := by
              refine ⟨?_, fun z hz => ?_⟩
              · show Own w7 v2.heap.size _ A7 (nl + 1) c7 (ci64 (lessL y l (j + 1)))
                rw [HLS.out, if_pos trivial, ci64_snoc6]; exact hown7
              · have hz : z ∈ lessL y l (j + 1) := hz
                rw [HLS.out, if_pos trivial] at hz
                rcases List.mem_append.1 hz with hz | hz
                · exact hol.fit z hz
                · rw [List.mem_singleton.1 hz]; exact hfz
            have hbel3 := hbel.trans hbel7
            clear hown7 hbel7 hfr7 hat7 hol HLS hbel hcw
            go_wp2
            go_roundw
            case rel => exact ⟨j + 1, A7, nl + 1, c7, by omega, by go_num, rfl, hol3, hbel3⟩
            case measure => simp [intOf]; omega
        · obtain rfl : j = n2 := by omega
          have hxr := hx.below hbel
          have h1r := h1.below hbel
          have h2r := h2.below hbel
          have bgr := bg.below hbel
          have hB := hB.trans (hbel.mono hB.size)
          have HPL : Hid ((lessL y l j).length = nl) := Lib.hid hol.len
          have hsub : (lessL y l j).Sublist l := by rw [← HLL.out]; exact lessL_all y l
          have hpt : 0 < nl → nl < (withinL x.g zs l).countP fun i => wantAny (x.g.getD i.toNat []) (lessL y l j) := fun h0 => by
            have h5 := few_part HBE.out hsub (fun he => by have := HPL.out; rw [he] at this; simp at this; omega)
            rw [List.countP_eq_length_filter, ← HPL.out]
            exact h5
          obtain ⟨pp, hpp⟩ : ∃ p, lessL y l j = p := ⟨_, rfl⟩
          rw [hpp] at hol HPL hpt
          have HPT := Lib.hid hpt
          clear hpt hpp hsub
          by_cases h0 : nl = 0
          · have g0 : ((nl : Int) == 0) = true := by rw [beq_iff_eq]; omega
            have g0' : (nl == 0) = true := by rw [beq_iff_eq]; exact h0
            have eg0 := bgr.c0
            have eg1 := bgr.c1
            have hc := alive9_any wr
            go_wp2_with fail
            clear eg0 eg1
            refine hc.mono ?_
            rintro e v3 ⟨rfl, hb⟩
            clear hc
            replace hxr := hxr.below hb
            replace h1r := h1r.below hb
            replace h2r := h2r.below hb
            replace hol := hol.below hb
            replace bgr := bgr.below hb
            replace hB := hB.trans (hb.mono hB.size)
            clear hb
            have eg0 := bgr.c0
            have eg1 := bgr.c1
            go_wp2
            go_ret
            exact ⟨rfl, hB⟩
          · have g0 : ((nl : Int) == 0) = false := by rw [beq_eq_false_iff_ne]; omega
            have g0' : (nl == 0) = false := by rw [beq_eq_false_iff_ne]; exact h0
            have eg0 := bgr.c0
            have eg1 := bgr.c1
            have hc := hwithin_any x ⟨A1, n1, c1, zs⟩ ⟨A2, j, c2, l⟩ wr hxr h1r h2r.ok HRG.out (by show n1 ≤ 1000; omega)
            go_wp2_with fail
            clear eg0 eg1
            refine hc.mono ?_
            rintro e v3 ⟨A4, n4, c4, rfl, h4, hb⟩
            clear hc
            replace hxr := hxr.below hb
            replace h1r := h1r.below hb
            replace h2r := h2r.below hb
            replace hol := hol.below hb
            replace bgr := bgr.below hb
            replace hB := hB.trans (hb.mono hB.size)
            clear hb
            have hsw : ∀ i ∈ withinL x.g zs l, i ∈ zs := fun i hi => (mem_within.1 hi).1
            have hwl : (withinL x.g zs l).length = n4 := h4.len
            have hw8 : n4 ≤ 8 := by
              have h5 := within_len x.g zs l
              rw [hwl, HZL.out] at h5
              omega
            obtain ⟨who, hwho⟩ : ∃ p, withinL x.g zs l = p := ⟨_, rfl⟩
            rw [hwho] at h4 hsw hwl
            have HPT2 := HPT
            rw [hwho] at HPT2
            have HSW := Lib.hid hsw
            have HWL := Lib.hid hwl
            clear hsw hwl hwho HPT
            have eg0 := bgr.c0
            have eg1 := bgr.c1
            go_wp2_with fail
            clear eg0 eg1
            go_loopw [13, 14] (fun o v wr => ∃ i : Nat, i ≤ n4 ∧ v = .int .i64 i ∧ (∃ K : Nat, o = .int .i64 K ∧ Hid (K = (who.take i).countP fun i => wantAny (x.g.getD i.toNat []) pp) ∧ K ≤ i) ∧ Below v3.heap.size v3 wr) (fun _ v _ => n4 - (intOf v).toNat)
            case atStart => exact ⟨0, Nat.zero_le _, rfl, ⟨0, rfl, Lib.hid rfl, Nat.le_refl _⟩, Below.refl _ _⟩
            case round =>
              obtain ⟨i, hi, rfl, ⟨K, rfl, hK, hKi⟩, hbel⟩ := hrel
              by_cases hin : i < n4
              · have hin' : (i : Int) < n4 := by omega
                have hi0 : (0 : Int) ≤ i := by omega
                have hil : i < who.length := by rw [HWL.out]; exact hin
                obtain ⟨p1, q1, hA1, hp1, y0, hy0', hcy⟩ := h4.ok.rd.get hin
                simp only at hA1
                subst hA1
                rw [ci64_get _ _ hil] at hy0'
                obtain rfl : iV who[i] = y0 := Option.some.inj hy0'
                unfold iV at hcy
                have hrg := HRG.out _ (HSW.out _ (List.getElem_mem hil))
                have hcn := countP_next (f := fun i => wantAny (x.g.getD i.toNat []) pp) hil
                obtain ⟨a, ha⟩ : ∃ a : Nat, who[i] = a := ⟨who[i].toNat, by omega⟩
                rw [ha] at hcy hrg hcn
                rw [← hK.out, Int.toNat_natCast] at hcn
                have han : a < x.n := by omega
                have han' : (a : Int) < x.n := by omega
                have ha0 : (0 : Int) ≤ a := by omega
                obtain ⟨p2, q2, v, hA2, _, hgv, hp2, hcv, hkv⟩ := hxr.get han
                rw [hgv] at hcn
                obtain ⟨vA, vn, vc, vl⟩ := v
                unfold Ls.v at hcv
                simp only at hcv hcn
                have HCN := Lib.hid hcn
                have c1 : ∀ w', Below v3.heap.size v3 w' → w'.cell? ⟨p1, q1 + i, none⟩ = some (.int .i64 (a : Int)) := fun w' hb => (hb.cell (p := ⟨p1, q1 + i, none⟩) hp1).trans hcy
                have c2 : ∀ w', Below v3.heap.size v3 w' → w'.cell? ⟨p2, q2 + a, none⟩ = some (.slice vA vn vc) := fun w' hb => (hb.cell (p := ⟨p2, q2 + a, none⟩) hp2).trans hcv
                have c3 : ∀ w', Below v3.heap.size v3 w' → w'.cell? ⟨w.heap.size, 0, none⟩ = some (.slice (some ⟨p2, q2, none⟩) x.n x.c) := fun w' hb => by rw [← hA2]; exact (bgr.below hb).c0
                clear hy0' ha hcn hgv hcy hcv hA2 hK
                go_wp2_with fail
                go_loopw [15, 16] (fun o v wr => ∃ k : Nat, k ≤ nl ∧ v = .int .i64 k ∧ ∃ β, o = .bool β ∧ Hid (β = wantAny vl (pp.take k)) ∧ Below v3.heap.size v3 wr) (fun _ v _ => nl - (intOf v).toNat)
                case atStart => exact ⟨0, Nat.zero_le _, rfl, false, rfl, Lib.hid (by simp [wantAny]), hbel⟩
                case round =>
                  obtain ⟨k, hk, rfl, β, rfl, hβ, hbel2⟩ := hrel
                  clear hbel
                  by_cases hkn : k < nl
                  · have hkn' : (k : Int) < nl := by omega
                    have hk0 : (0 : Int) ≤ k := by omega
                    have hkl : k < pp.length := by rw [HPL.out]; exact hkn
                    have hws := any_next (w := vl) hkl
                    rw [← hβ.out] at hws
                    obtain ⟨p3, q3, hA3, hp3, y0, hy0', hcy⟩ := hol.ok.rd.get hkn
                    simp only at hA3
                    subst hA3
                    rw [ci64_get _ _ hkl] at hy0'
                    obtain rfl : iV pp[k] = y0 := Option.some.inj hy0'
                    unfold iV at hcy
                    obtain ⟨d, hd⟩ : ∃ d, pp[k] = d := ⟨_, rfl⟩
                    rw [hd] at hcy hws
                    have c4 : ∀ w', Below v3.heap.size v3 w' → w'.cell? ⟨p3, q3 + k, none⟩ = some (.int .i64 d) := fun w' hb => (hb.cell (p := ⟨p3, q3 + k, none⟩) hp3).trans hcy
                    have HWS := Lib.hid hws
                    clear hy0' hd hws hcy hβ
                    cases β
                    · obtain ⟨γ, hγ⟩ : ∃ γ, decide (d ∈ vl) = γ := ⟨_, rfl⟩
                      have HN : Hid (γ = wantAny vl (pp.take (k + 1))) := Lib.hid (by rw [HWS.out, hγ]; simp)
                      have HGA := Lib.hid hγ
                      clear hγ
                      have hS : ∀ w', Below v3.heap.size v3 w' → w'.cell? ⟨w.heap.size, 0, none⟩ = some (.slice (some ⟨p2, q2, none⟩) x.n x.c) ∧ w'.cell? ⟨p1, q1 + i, none⟩ = some (.int .i64 (a : Int)) ∧ w'.cell? ⟨p2, q2 + a, none⟩ = some (.slice vA vn vc) ∧ w'.cell? ⟨p3, q3 + k, none⟩ = some (.int .i64 d) := fun w' hb => ⟨c3 _ hb, c1 _ hb, c2 _ hb, c4 _ hb⟩
                      go_wp2_with fail
                      refine wp_region_ord (S := fun w' => w'.cell? ⟨w.heap.size, 0, none⟩ = some (.slice (some ⟨p2, q2, none⟩) x.n x.c) ∧ w'.cell? ⟨p1, q1 + i, none⟩ = some (.int .i64 (a : Int)) ∧ w'.cell? ⟨p2, q2 + a, none⟩ = some (.slice vA vn vc) ∧ w'.cell? ⟨p3, q3 + k, none⟩ = some (.int .i64 d)) [(0, true), (1, true), (2, true), (3, true), (4, true), (5, true), (6, true), (7, true), (8, true), (9, true), (10, true), (11, true), (12, true), (13, true), (14, false), (15, true), (16, true)] default (by kernel_rfl) (by kernel_rfl) (by kernel_rfl) (hS _ (hbel2.drew)) ?_
                      simp only [getOrd, nth]
                      obtain ⟨q1_0, hu0⟩ : ∃ q1_0, q1_0 = wr.drew := ⟨_, rfl⟩
                      have b0 : Below v3.heap.size v3 q1_0 := by rw [hu0]; exact (hbel2.drew)
                      rw [← hu0]
                      clear hu0
                      repeat (first | (refine ordS (by rfl) ?_; simp only [Act.put, List.setIfInBounds_toArray, List.set_cons_zero, List.set_cons_succ]) | (refine ordN (by rfl) ?_; simp only [Act.put, List.setIfInBounds_toArray, List.set_cons_zero, List.set_cons_succ]) | (refine ordQ (v := ?_) (by rfl) (fun _ hSw => ?_) ?_; rotate_left; (focus ((have hS1 := hSw.1); (have hS2 := hSw.2.1); (have hS3 := hSw.2.2.1); (have hS4 := hSw.2.2.2); clear hSw; go_simp; (first | done | with_reducible rfl))); simp only [Act.put, List.setIfInBounds_toArray, List.set_cons_zero, List.set_cons_succ]))
                      refine ordD (by rfl) ?_
                      intro K hK
                      go_simp
                      have hc := hhas_b ⟨vA, vn, vc, vl⟩ d q1_0 (hkv.below b0)
                      rw [show Ls.v ⟨vA, vn, vc, vl⟩ = .slice vA vn vc from rfl, show decide (d ∈ (⟨vA, vn, vc, vl⟩ : Ls).zs) = γ from HGA.out] at hc
                      refine hc.mono ?_
                      rintro e q1_1 ⟨rfl, hb⟩
                      have b1 : Below v3.heap.size v3 q1_1 := b0.trans (hb.mono b0.size)
                      go_wp2_with fail
                      refine hK _ _ (hS _ b1) ?_
                      clear hK K hc hb
                      try simp only [Act.put, List.setIfInBounds_toArray, List.set_cons_zero, List.set_cons_succ]
                      repeat (first | (refine ordS (by rfl) ?_; simp only [Act.put, List.setIfInBounds_toArray, List.set_cons_zero, List.set_cons_succ]) | (refine ordN (by rfl) ?_; simp only [Act.put, List.setIfInBounds_toArray, List.set_cons_zero, List.set_cons_succ]) | (refine ordQ (v := ?_) (by rfl) (fun _ hSw => ?_) ?_; rotate_left; (focus ((have hS1 := hSw.1); (have hS2 := hSw.2.1); (have hS3 := hSw.2.2.1); (have hS4 := hSw.2.2.2); clear hSw; go_simp; (first | done | with_reducible rfl))); simp only [Act.put, List.setIfInBounds_toArray, List.set_cons_zero, List.set_cons_succ]))
                      refine ordE ?_
                      replace hbel2 := b1
                      clear hS b0 b1
                      go_wp2
                      go_roundw
                      case rel => exact ⟨k + 1, by omega, by go_num, γ, rfl, HN, hbel2⟩
                      case measure => simp [intOf]; omega
                    · have HN : Hid (true = wantAny vl (pp.take (k + 1))) := Lib.hid (by rw [HWS.out]; rfl)
                      have hS : ∀ w', Below v3.heap.size v3 w' → w'.cell? ⟨w.heap.size, 0, none⟩ = some (.slice (some ⟨p2, q2, none⟩) x.n x.c) ∧ w'.cell? ⟨p1, q1 + i, none⟩ = some (.int .i64 (a : Int)) ∧ w'.cell? ⟨p2, q2 + a, none⟩ = some (.slice vA vn vc) ∧ w'.cell? ⟨p3, q3 + k, none⟩ = some (.int .i64 d) := fun w' hb => ⟨c3 _ hb, c1 _ hb, c2 _ hb, c4 _ hb⟩
                      go_wp2_with fail
                      refine wp_region_ord (S := fun w' => w'.cell? ⟨w.heap.size, 0, none⟩ = some (.slice (some ⟨p2, q2, none⟩) x.n x.c) ∧ w'.cell? ⟨p1, q1 + i, none⟩ = some (.int .i64 (a : Int)) ∧ w'.cell? ⟨p2, q2 + a, none⟩ = some (.slice vA vn vc) ∧ w'.cell? ⟨p3, q3 + k, none⟩ = some (.int .i64 d)) [(0, true), (1, true), (2, true), (3, true), (4, true), (5, true), (6, true), (7, true), (8, true), (9, true), (10, true), (11, true), (12, true), (13, true), (14, false), (15, true), (16, true)] default (by kernel_rfl) (by kernel_rfl) (by kernel_rfl) (hS _ (hbel2.drew)) ?_
                      simp only [getOrd, nth]
                      obtain ⟨q2_0, hu0⟩ : ∃ q2_0, q2_0 = wr.drew := ⟨_, rfl⟩
                      have b0 : Below v3.heap.size v3 q2_0 := by rw [hu0]; exact (hbel2.drew)
                      rw [← hu0]
                      clear hu0
                      repeat (first | (refine ordS (by rfl) ?_; simp only [Act.put, List.setIfInBounds_toArray, List.set_cons_zero, List.set_cons_succ]) | (refine ordN (by rfl) ?_; simp only [Act.put, List.setIfInBounds_toArray, List.set_cons_zero, List.set_cons_succ]) | (refine ordQ (v := ?_) (by rfl) (fun _ hSw => ?_) ?_; rotate_left; (focus ((have hS1 := hSw.1); (have hS2 := hSw.2.1); (have hS3 := hSw.2.2.1); (have hS4 := hSw.2.2.2); clear hSw; go_simp; (first | done | with_reducible rfl))); simp only [Act.put, List.setIfInBounds_toArray, List.set_cons_zero, List.set_cons_succ]))
                      refine ordE ?_
                      replace hbel2 := b0
                      clear hS b0
                      go_wp2
                      go_roundw
                      case rel => exact ⟨k + 1, by omega, by go_num, true, rfl, HN, hbel2⟩
                      case measure => simp [intOf]; omega
                  · obtain rfl : k = nl := by omega
                    have hw : β = wantAny vl pp := by
                      have h5 := hβ.out
                      rwa [List.take_of_length_le (by rw [HPL.out]; exact Nat.le_refl _)] at h5
                    have HCN2 : Hid ((who.take (i + 1)).countP (fun i => wantAny (x.g.getD i.toNat []) pp) = K + if β = true then 1 else 0) := Lib.hid (by rw [HCN.out, hw])
                    clear hβ hw HCN
                    cases β
                    · have HK2 : Hid (K = (who.take (i + 1)).countP fun i => wantAny (x.g.getD i.toNat []) pp) := Lib.hid (by rw [HCN2.out]; simp)
                      clear HCN2
                      go_wp2
                      go_roundw
                      case rel => exact ⟨i + 1, by omega, by go_num, ⟨K, rfl, HK2, by omega⟩, hbel2⟩
                      case measure => simp [intOf]; omega
                    · have HK2 : Hid (K + 1 = (who.take (i + 1)).countP fun i => wantAny (x.g.getD i.toNat []) pp) := Lib.hid (by rw [HCN2.out]; simp)
                      have s1 : IntKind.i64.wrap ((K : Int) + 1) = (K : Int) + 1 := by rw [IntKind.wrap_i64]; omega
                      clear HCN2
                      go_wp2
                      go_roundw
                      case rel => exact ⟨i + 1, by omega, by go_num, ⟨K + 1, by go_num, HK2, by omega⟩, hbel2⟩
                      case measure => simp [intOf]; omega
              · obtain rfl : i = n4 := by omega
                have hfin : nl < K := by
                  have h5 := hK.out
                  rw [List.take_of_length_le (by rw [HWL.out]; exact Nat.le_refl _)] at h5
                  rw [h5]
                  exact HPT2.out (by omega)
                have hB9 := hB.trans (hbel.mono hB.size)
                clear hK
                have hB := hB9
                have g5 : decide ((nl : Int) < (K : Int)) = true := decide_eq_true (by omega)
                have g5' : decide (nl < K) = true := decide_eq_true hfin
                have hc := alive9_any wr
                go_wp2_with fail
                refine hc.mono ?_
                rintro e v4 ⟨rfl, hb⟩
                clear hc
                replace hB := hB.trans (hb.mono hB.size)
                clear hb
                go_wp2
                go_ret
                exact ⟨rfl, hB⟩

theorem own : ownKnob Try.prog.godebug = none := by kernel_rfl
theorem laidOut : laidOutB Try.prog = true := by kernel_rfl

set_option maxRecDepth 100000 in
theorem lifted (os : Os) (started : os.Started) (H : Type) (enc : TypeId × Value → H) :
    ReturnsInHanded {} Try.checked os 4 .any (Rows.hallsPartSpec.pre6 enc Try.prog Try.f4 Rows.hallsPartRow.domain false) (Rows.hallsPartSpec.post enc Try.prog Try.f4 false true false false) := by
  refine returnsInHanded_of_change (C := Try.checked) own started (by kernel_rfl) Try.func4
    (ChangeSpec.witness6 (enc := enc) (C := Try.checked) false ⟨#[], #[.agg #[.slice none 0 0, .int .i64 0], .slice none 0 0, .int .u8 0], []⟩ 8 (by kernel_rfl) (by kernel_rfl) (by kernel_rfl) (by kernel_rfl)) ?_
  intro W base args ds gs before hval0 hW hcnd _
  have hval : ∀ (j : Nat) t v, Try.f4.params[j]? = some t → args[j]? = some v → Value.okWide Try.prog W .any base t v := hval0
  have hW' := hW
  obtain ⟨p, q, hA0, hV, rfl, hfz, hnd⟩ := hW
  have hA : DataW.TrodAll enc Try.prog W 0 (fun _ => true) true Try.f4.params.toList args.toList ds p := hA0
  rw [Try.params4] at hA hval
  obtain ⟨v0, vs0, d0, ds0, p0, q0, hargs, rfl, rfl, h0, r0⟩ := trodAll_cons hA
  obtain ⟨v1, vs1, d1, ds1, p1, q1, rfl, rfl, rfl, h1, r1⟩ := trodAll_cons r0
  obtain ⟨v2, vs2, d2, ds2, p2, q2, rfl, rfl, rfl, h2, r2⟩ := trodAll_cons r1
  obtain ⟨rfl, rfl, rfl⟩ := trodAll_nil r2
  obtain rfl : args = #[v0, v1, v2] := by cases args; simp_all
  obtain ⟨u0, m0, rfl, k0, a0, b0⟩ := arg_gr Try.underlying24 (by kernel_rfl) (by kernel_rfl) Try.underlying22 Try.underlying3 Try.underlying25 (by kernel_rfl) Try.underlying3 (by kernel_rfl) (hval 0 24 v0 rfl rfl) h0
  obtain ⟨A1, n1, c1, l1, rfl, a1, b1, e1, g1⟩ := arg_i64s Try.underlying25 Try.underlying3 (by kernel_rfl) (hval 1 25 v1 rfl rfl) h1
  obtain ⟨x2, rfl, rfl, rfl, w2⟩ := open_int Try.underlying5 (hval 2 5 v2 rfl rfl) h2
  obtain ⟨y2, rfl, z2⟩ := fit_u8 w2
  have hwalk : Calls Try.prog 4 #[.agg #[u0.v, .int .i64 m0], .slice A1 n1 c1, .int .u8 y2] W fun e w' => e = .returned (.bool true) ∧ Below W.heap.size W w' := walk u0 m0 A1 n1 c1 l1 y2 W k0 a0 b0 ⟨a1, b1, e1, g1⟩ z2
  refine hwalk.mono fun e W' ⟨he, hg⟩ => ?_
  subst he
  exact ⟨_, rfl, law_post laidOut (by kernel_rfl) hW' rfl rfl (by kernel_rfl) Try.underlying4 hg⟩

theorem over : Rows.hallsPartRow.holds Try.pinned (OpenSpec.ofChange Rows.hallsPartSpec) :=
  OpenClaim.holds_of_wide 4 Try.f4 rfl rfl rfl rfl rfl rfl rfl ⟨rfl, rfl, rfl, rfl, rfl⟩ rfl rfl rfl rfl rfl (by kernel_rfl) Try.func4 (by kernel_rfl)
    (of_decide_eq_true (by kernel_rfl)) (by unfold Func.isWrapper; first | (rw [if_pos (by decide +kernel)]; kernel_rfl) | (rw [if_neg (by decide +kernel)]; exact ⟨rfl, rfl⟩))
    (fun os started H enc _ => lifted os started H enc)

theorem proved : Rows.HallsPartSaid :=
  over

end Go.Proofs.Ytdiklmfaehmmjaa.hallsPart
