/-
  Proved: salesroomlaw09.HallsFirst answers true, for any lists, any items, any some, any other items, in whatever memory. No conditions.
-/
import Derived.Test.YtdiklmfaehmmjaaRows
import Derived.Test.YtdiklmfaehmmjaaLift
import Derived.Test.YtdiklmfaehmmjaaAlive9
import Derived.Test.YtdiklmfaehmmjaaGrM
import Derived.Test.YtdiklmfaehmmjaaHaL
import Derived.Test.YtdiklmfaehmmjaaReg
namespace Go.Proofs.Ytdiklmfaehmmjaa.hallsFirst
open Go.ChangeShapes Go.WideShapes Go.ChangeAt Go.RowKit
set_option linter.unusedVariables false

theorem few_any {g : List (List Int)} {m : Nat} {s : List Int} (h : nearOk g m s = true) : ∃ (F : Bool) (l : List Int), fewF g m s = F ∧ fewE g m s = l ∧ (F = true → Best g m s l) ∧ (F = false → fewP g m s = none) := by
  cases hp : fewP g m s with
  | none => exact ⟨false, [], (few_no h hp).1, (few_no h hp).2, fun h => (nomatch h), fun _ => rfl⟩
  | some l => exact ⟨true, l, (few_yes h hp).1, (few_yes h hp).2, fun _ => few_some hp, fun h => (nomatch h)⟩

set_option maxRecDepth 100000 in
set_option maxHeartbeats 4000000 in
theorem walk (x : Gr) (m : Int) (A1 : Option Addr) (n1 c1 : Nat) (zs : List Int) (y : Nat) (w : World) (h : x.Ok w) (hm1 : -9223372036854775808 ≤ m) (hm2 : m ≤ 9223372036854775807) (h1 : Ls.Ok w ⟨A1, n1, c1, zs⟩) (hy : y < 256) :
    Calls Try.prog 5 #[.agg #[x.v, .int .i64 m], .slice A1 n1 c1, .int .u8 y] w fun e w' => e = .returned (.bool true) ∧ Below w.heap.size w w' := by
  have hx := h
  have hB := Below.refl w.heap.size w
  have hxv : x.v = .slice x.A x.n x.c := rfl
  have Vx := Lib.hid hxv
  rw [hxv]
  have hgl := h.glen
  have HGL := Lib.hid hgl
  have htop := Nat.le_trans h.cap h.top
  unfold maxLen at htop
  obtain ⟨B, hB0⟩ : ∃ B, nearOk x.g m zs = B := ⟨_, rfl⟩
  clear hxv hgl h
  have HZL : Hid (zs.length = n1) := Lib.hid h1.len
  go_enter Try.func5, Try.ntmps5
  have bg := GBox.new w x m
  have hbx : Below w.heap.size w (w.alloc (.cells #[.slice x.A x.n x.c, .int .i64 m] 24)) := (Below.refl _ w).alloc (Nat.le_refl _) _
  replace hx := hx.below hbx
  replace h1 := h1.below hbx
  replace hB := hB.trans (hbx.mono hB.size)
  clear hbx
  cases B
  · have E1 := Lib.hid (few_bad hB0)
    have E2 := Lib.hid (near_err_bad hB0)
    clear hB0
    have eg0 := bg.c0
    have eg1 := bg.c1
    have hc := pfewC x m ⟨A1, n1, c1, zs⟩ (w.alloc (.cells #[.slice x.A x.n x.c, .int .i64 m] 24)) hx h1 hm1 hm2
    rw [Vx.out, E2.out, E1.out.1, E1.out.2] at hc
    go_wp2_with fail
    clear eg0 eg1
    generalize w.alloc (.cells #[.slice x.A x.n x.c, .int .i64 m] 24) = W1 at *
    refine hc.mono ?_
    rintro e v2 ⟨A2, n2, c2, rfl, h2, hb⟩
    clear hc
    replace hx := hx.below hb
    replace h1 := h1.below hb
    replace bg := bg.below hb
    replace hB := hB.trans (hb.mono hB.size)
    clear hb
    clear h2
    have eg0 := bg.c0
    have eg1 := bg.c1
    have hc := alive9_any v2
    go_wp2_with fail
    clear eg0 eg1
    refine hc.mono ?_
    rintro e v3 ⟨rfl, hb⟩
    clear hc
    replace hx := hx.below hb
    replace h1 := h1.below hb
    replace bg := bg.below hb
    replace hB := hB.trans (hb.mono hB.size)
    clear hb
    have eg0 := bg.c0
    have eg1 := bg.c1
    go_wp2
    go_ret
    exact ⟨rfl, hB⟩
  · have hck : checkG x.g m = true := by rw [nearOk, Bool.and_eq_true] at hB0; exact hB0.1
    have hrs : Rises x.g.length zs := by rw [nearOk, Bool.and_eq_true] at hB0; exact of_decide_eq_true hB0.2
    obtain ⟨M, rfl⟩ : ∃ M : Nat, m = M := ⟨m.toNat, by have := (checkG_iff.1 hck).1; omega⟩
    have E2 := Lib.hid (near_err hB0)
    have HC := Lib.hid hck
    have HRS := Lib.hid hrs
    have hM8 : M ≤ 8 := by have := (checkG_iff.1 hck).2.1; omega
    have hx8 : x.n ≤ 8 := by have := (checkG_iff.1 hck).2.2.1; rw [HGL.out] at this; exact this
    have hzn : n1 ≤ x.n := by have := rises_len hrs; rw [HGL.out, HZL.out] at this; exact this
    have HRG : Hid (∀ i ∈ zs, 0 ≤ i ∧ i < (x.n : Int)) := Lib.hid (by have := hrs.1; rw [HGL.out] at this; exact this)
    have HB0 := Lib.hid hB0
    clear hck hrs hB0 hm1 hm2
    obtain ⟨FB, l, e1, e3, hbest, hnone⟩ := few_any HB0.out
    have E1 := Lib.hid e1
    have E3 := Lib.hid e3
    have HBE := Lib.hid hbest
    have HNO := Lib.hid hnone
    clear e1 e3 hbest hnone
    have eg0 := bg.c0
    have eg1 := bg.c1
    have hc := pfewC x M ⟨A1, n1, c1, zs⟩ (w.alloc (.cells #[.slice x.A x.n x.c, .int .i64 (M : Int)] 24)) hx h1 (by omega) (by omega)
    rw [Vx.out, E2.out, E1.out, E3.out] at hc
    go_wp2_with fail
    clear eg0 eg1
    generalize w.alloc (.cells #[.slice x.A x.n x.c, .int .i64 (M : Int)] 24) = W1 at *
    refine hc.mono ?_
    rintro e v2 ⟨A2, n2, c2, rfl, h2, hb⟩
    clear hc
    replace hx := hx.below hb
    replace h1 := h1.below hb
    replace bg := bg.below hb
    replace hB := hB.trans (hb.mono hB.size)
    clear hb
    have HLL : Hid (l.length = n2) := Lib.hid h2.len
    have hn28 : n2 ≤ 8 := by
      have h5 := fewE_len (g := x.g) (m := (M : Int)) (s := zs)
      rw [E3.out, HLL.out] at h5
      exact h5
    obtain ⟨i0, hi0, hz0, hz1, hz2⟩ := info_parts infoH_int
    have eg0 := bg.c0
    have eg1 := bg.c1
    go_wp2_with fail
    clear eg0 eg1
    go_loopw [10, 11] (fun o v wr => ∃ (j : Nat) (Al : Option Addr) (nl cl : Nat), j ≤ M ∧ v = .int .i64 j ∧ o = .slice Al nl cl ∧ OwnI wr v2.heap.size ⟨Al, nl, cl, partL j y⟩ ∧ Below v2.heap.size v2 wr) (fun _ v _ => M - (intOf v).toNat)
    case atStart => exact ⟨0, none, 0, 0, Nat.zero_le _, rfl, rfl, OwnI.nil _ _, Below.refl _ _⟩
    case round =>
      obtain ⟨j, Al, nl, cl, hj, rfl, rfl, hol, hbel⟩ := hrel
      have e1 := (bg.below hbel).c1
      have hnl : nl ≤ 8 := by
        have h1 := hol.len
        have h2 := upto_len j fun i => y.testBit i
        have h3 : (partL j y).length = nl := h1
        unfold partL at h3
        omega
      by_cases hjn : j < M
      · have hjn' : (j : Int) < M := by omega
        have hj0 : (0 : Int) ≤ j := by omega
        have hlsu : partL (j + 1) y = partL j y ++ if y.testBit j = true then [(j : Int)] else [] := upto_succ j _
        have hbit := bit_u8 y j hy
        have HLS := Lib.hid hlsu
        obtain ⟨β, hβ⟩ : ∃ β, y.testBit j = β := ⟨_, rfl⟩
        rw [hβ] at hbit HLS
        clear hlsu hβ
        cases β
        · have hol3 : OwnI wr v2.heap.size ⟨Al, nl, cl, partL (j + 1) y⟩ := by rw [HLS.out]; simpa using hol
          clear hol HLS
          go_wp2
          go_roundw
          case rel => exact ⟨j + 1, Al, nl, cl, by omega, by go_num, rfl, hol3, hbel⟩
          case measure => simp [intOf]; omega
        · have hszq := hbel.size
          go_wp2_with (at_builtin; go_must (refine wpList_app1 wr rfl _ _ 25 rfl 3 i0 _ 8 Try.underlying25 hi0 hz0 hz1 hz2 rfl v2.heap.size Al nl cl _ rfl hol.own 1 rfl rfl ?d3 ?d4 ?d5 ?_))
          case d3 => simp only [maxLen]; omega
          case d4 => omega
          try case d5 => exact hszq
          intro A7 c7 w7 hown7 hbel7 hfr7 hat7
          have hol3 : OwnI w7 v2.heap.size ⟨A7, nl + 1, c7, partL (j + 1) y⟩ := by
            refine ⟨?_, fun z hz => ?_⟩
            · show Own w7 v2.heap.size _ A7 (nl + 1) c7 (ci64 (partL (j + 1) y))
              rw [HLS.out, if_pos trivial, ci64_snoc6]; exact hown7
            · have h5 := (upto_rises (j + 1) fun i => y.testBit i).1 z hz
              omega
          have hbel3 := hbel.trans hbel7
          clear hown7 hbel7 hfr7 hat7 hol HLS hbel e1
          go_wp2
          go_roundw
          case rel => exact ⟨j + 1, A7, nl + 1, c7, by omega, by go_num, rfl, hol3, hbel3⟩
          case measure => simp [intOf]; omega
      · obtain rfl : j = M := by omega
        clear e1
        have hxr := hx.below hbel
        have h1r := h1.below hbel
        have h2r := h2.below hbel
        have bgr := bg.below hbel
        have hB := hB.trans (hbel.mono hB.size)
        have HOL : Hid ((partL j y).length = nl) := Lib.hid hol.len
        have hor : Rises j (partL j y) := upto_rises _ _
        have hfst : FB = true → (fewB x.g zs (partL j y) && befB (partL j y) l) = false := fun h => few_first (HBE.out h) hor
        have hnev : FB = false → fewB x.g zs (partL j y) = false := fun h => few_never (HNO.out h) hor
        have hfb : fewB x.g zs (partL j y) = decide (nl < (withinL x.g zs (partL j y)).length) := by rw [fewB, HOL.out]
        obtain ⟨oth, hoth⟩ : ∃ p, partL j y = p := ⟨_, rfl⟩
        rw [hoth] at hol HOL hfst hnev hfb
        have HFS := Lib.hid hfst
        have HNV := Lib.hid hnev
        have HFB := Lib.hid hfb
        clear hor hfst hnev hfb hoth
        have eg0 := bgr.c0
        have eg1 := bgr.c1
        have hc := hwithin_any x ⟨A1, n1, c1, zs⟩ ⟨Al, nl, cl, oth⟩ wr hxr h1r hol.ok HRG.out (by show n1 ≤ 1000; omega)
        go_wp2_with fail
        clear eg0 eg1
        refine hc.mono ?_
        rintro e v3 ⟨A4, n4, c4, rfl, h4, hb⟩
        clear hc
        replace hxr := hxr.below hb
        replace h1r := h1r.below hb
        replace h2r := h2r.below hb
        replace hol := hol.below hb
        replace bgr := bgr.below hb
        replace hB := hB.trans (hb.mono hB.size)
        clear hb
        have hw4 : (withinL x.g zs oth).length = n4 := h4.len
        have hn48 : n4 ≤ 8 := by
          have h5 := within_len x.g zs oth
          rw [hw4, HZL.out] at h5
          omega
        obtain ⟨fb, hfb⟩ : ∃ f, fewB x.g zs oth = f := ⟨_, rfl⟩
        have hfb2 := HFB.out
        rw [hw4, hfb] at hfb2
        have hfs2 := HFS.out
        have hnv2 := HNV.out
        rw [hfb] at hfs2 hnv2
        have HFS2 := Lib.hid hfs2
        have HNV2 := Lib.hid hnv2
        have kfb : decide ((nl : Int) < (n4 : Int)) = fb := by rw [hfb2]; exact decide_eq_decide.2 (by omega)
        have kfb' : decide (nl < n4) = fb := hfb2.symm
        clear h4 hw4 hfb hfb2 hfs2 hnv2 HFS HNV HFB
        cases FB
        · obtain rfl : fb = false := HNV2.out rfl
          have eg0 := bgr.c0
          have eg1 := bgr.c1
          have hc := alive9_any v3
          go_wp2_with fail
          clear eg0 eg1
          refine hc.mono ?_
          rintro e v4 ⟨rfl, hb⟩
          clear hc
          replace hxr := hxr.below hb
          replace h1r := h1r.below hb
          replace h2r := h2r.below hb
          replace hol := hol.below hb
          replace bgr := bgr.below hb
          replace hB := hB.trans (hb.mono hB.size)
          clear hb
          have eg0 := bgr.c0
          have eg1 := bgr.c1
          go_wp2
          go_ret
          exact ⟨rfl, hB⟩
        · have hfs := HFS2.out rfl
          have eg0 := bgr.c0
          have eg1 := bgr.c1
          have HFS3 := Lib.hid hfs
          obtain ⟨α, hα⟩ : ∃ α, decide (nl < n2) = α := ⟨_, rfl⟩
          have HAL := Lib.hid hα
          have ka : decide ((nl : Int) < (n2 : Int)) = α := by rw [← hα]; exact decide_eq_decide.2 (by omega)
          have ka' := hα
          clear hα hfs HFS2 HNV2
          go_wp2_with fail
          clear eg0 eg1
          go_loopw [13, 14] (fun o v wr => ∃ i : Nat, i ≤ n2 ∧ v = .int .i64 i ∧ o = .bool α ∧ Hid (0 < i → nl = n2) ∧ Hid (oth.take i = l.take i) ∧ Below v3.heap.size v3 wr) (fun _ v _ => n2 - (intOf v).toNat)
          case atStart => exact ⟨0, Nat.zero_le _, rfl, rfl, Lib.hid (fun h => by omega), Lib.hid (by simp), Below.refl _ _⟩
          case round =>
            obtain ⟨i, hi, rfl, rfl, heq, htk, hbel⟩ := hrel
            by_cases hgo : i < n2 ∧ nl = n2
            · obtain ⟨hin, hnn⟩ := hgo
              have hin' : (i : Int) < n2 := by omega
              have hi0 : (0 : Int) ≤ i := by omega
              have hinl : i < nl := by omega
              have hinl' : (i : Int) < nl := by omega
              have hil : i < l.length := by rw [HLL.out]; exact hin
              have hiol : i < oth.length := by rw [HOL.out]; exact hinl
              obtain ⟨p1, q1, hA1, hp1, y0, hy0', hcy⟩ := h2r.ok.rd.get hin
              obtain ⟨p2, q2, hA2, hp2, y1, hy1', hcy1⟩ := hol.ok.rd.get hinl
              simp only at hA1 hA2
              subst hA1 hA2
              rw [ci64_get _ _ hil] at hy0'
              rw [ci64_get _ _ hiol] at hy1'
              obtain rfl : iV l[i] = y0 := Option.some.inj hy0'
              obtain rfl : iV oth[i] = y1 := Option.some.inj hy1'
              unfold iV at hcy hcy1
              have hbat := fun hne => bef_at (l := oth) (r := l) (by rw [HOL.out, HLL.out]; exact hnn) hiol htk.out hne
              have htk2 : oth[i] = l[i] → oth.take (i + 1) = l.take (i + 1) := fun h => by
                rw [List.take_succ_eq_append_getElem hil, List.take_succ_eq_append_getElem hiol, htk.out, h]
              obtain ⟨d, hd⟩ : ∃ d, l[i] = d := ⟨_, rfl⟩
              obtain ⟨a, ha⟩ : ∃ a, oth[i] = a := ⟨_, rfl⟩
              rw [hd] at hcy htk2
              rw [ha] at hcy1 htk2
              have hba : a ≠ d → befB oth l = decide (a < d) := fun hne => by
                have h5 := hbat (by rw [ha, hd]; exact hne)
                simp only [ha, hd] at h5
                exact h5
              have HBA := Lib.hid hba
              have HTK := Lib.hid htk2
              have HNN := Lib.hid hnn
              have keq : ((nl : Int) == (n2 : Int)) = true := by rw [beq_iff_eq]; omega
              have keq' : (nl == n2) = true := by rw [beq_iff_eq]; exact hnn
              have d1 : ∀ w', Below v3.heap.size v3 w' → w'.cell? ⟨p2, q2 + i, none⟩ = some (.int .i64 a) ∧ w'.cell? ⟨p1, q1 + i, none⟩ = some (.int .i64 d) := fun w' hb => ⟨(hb.cell (p := ⟨p2, q2 + i, none⟩) hp2).trans hcy1, (hb.cell (p := ⟨p1, q1 + i, none⟩) hp1).trans hcy⟩
              clear hy0' hy1' hbat hd ha hba htk2 hcy hcy1 hnn heq htk
              have hS : ∀ w', Below v3.heap.size v3 w' → w'.cell? ⟨p2, q2 + i, none⟩ = some (.int .i64 a) ∧ w'.cell? ⟨p1, q1 + i, none⟩ = some (.int .i64 d) := fun w' hb => d1 _ hb
              go_wp2_with fail
              refine wp_region_ord (S := fun w' => w'.cell? ⟨p2, q2 + i, none⟩ = some (.int .i64 a) ∧ w'.cell? ⟨p1, q1 + i, none⟩ = some (.int .i64 d)) [(0, true), (1, true), (2, true), (3, true), (4, true), (5, true), (6, true), (7, true), (8, true)] default (by kernel_rfl) (by kernel_rfl) (by kernel_rfl) (hS _ (hbel.drew)) ?_
              simp only [getOrd, nth]
              obtain ⟨q1_0, hu0⟩ : ∃ q1_0, q1_0 = wr.drew := ⟨_, rfl⟩
              have b0 : Below v3.heap.size v3 q1_0 := by rw [hu0]; exact (hbel.drew)
              rw [← hu0]
              clear hu0
              repeat (first | (refine ordS (by rfl) ?_; simp only [Act.put, List.setIfInBounds_toArray, List.set_cons_zero, List.set_cons_succ]) | (refine ordN (by rfl) ?_; simp only [Act.put, List.setIfInBounds_toArray, List.set_cons_zero, List.set_cons_succ]) | (refine ordQ (v := ?_) (by rfl) (fun _ hSw => ?_) ?_; rotate_left; (focus ((have hS1 := hSw.1); (have hS2 := hSw.2); clear hSw; go_simp; (first | done | with_reducible rfl))); simp only [Act.put, List.setIfInBounds_toArray, List.set_cons_zero, List.set_cons_succ]))
              refine ordE ?_
              replace hbel := b0
              clear hS b0
              by_cases had : a = d
              · have kne : (a != d) = false := by rw [had]; simp
                have HT2 : Hid (oth.take (i + 1) = l.take (i + 1)) := Lib.hid (HTK.out had)
                have HN2 : Hid (0 < i + 1 → nl = n2) := Lib.hid fun _ => HNN.out
                clear had HTK HNN HBA keq keq'
                go_wp2
                go_roundw
                case rel => exact ⟨i + 1, by omega, by go_num, rfl, HN2, HT2, hbel⟩
                case measure => simp [intOf]; omega
              · have kne : (a != d) = true := by rw [bne_iff_ne]; exact had
                obtain ⟨δ, hδ⟩ : ∃ δ, decide (a < d) = δ := ⟨_, rfl⟩
                have hfin : (fb && δ) = false := by rw [← hδ, ← HBA.out had]; exact HFS3.out
                have HFIN := Lib.hid hfin
                clear had HTK HNN HBA hfin keq keq'
                have hS : ∀ w', Below v3.heap.size v3 w' → w'.cell? ⟨p2, q2 + i, none⟩ = some (.int .i64 a) ∧ w'.cell? ⟨p1, q1 + i, none⟩ = some (.int .i64 d) := fun w' hb => d1 _ hb
                go_wp2_with fail
                refine wp_region_ord (S := fun w' => w'.cell? ⟨p2, q2 + i, none⟩ = some (.int .i64 a) ∧ w'.cell? ⟨p1, q1 + i, none⟩ = some (.int .i64 d)) [(0, true), (1, true), (2, true), (3, true), (4, true), (5, true), (6, true), (7, true), (8, true), (9, true)] default (by kernel_rfl) (by kernel_rfl) (by kernel_rfl) (hS _ (hbel.drew)) ?_
                simp only [getOrd, nth]
                obtain ⟨q2_0, hu0⟩ : ∃ q2_0, q2_0 = q1_0.drew := ⟨_, rfl⟩
                have b0 : Below v3.heap.size v3 q2_0 := by rw [hu0]; exact (hbel.drew)
                rw [← hu0]
                clear hu0
                repeat (first | (refine ordS (by rfl) ?_; simp only [Act.put, List.setIfInBounds_toArray, List.set_cons_zero, List.set_cons_succ]) | (refine ordN (by rfl) ?_; simp only [Act.put, List.setIfInBounds_toArray, List.set_cons_zero, List.set_cons_succ]) | (refine ordQ (v := ?_) (by rfl) (fun _ hSw => ?_) ?_; rotate_left; (focus ((have hS1 := hSw.1); (have hS2 := hSw.2); clear hSw; go_simp; (first | done | with_reducible rfl))); simp only [Act.put, List.setIfInBounds_toArray, List.set_cons_zero, List.set_cons_succ]))
                refine ordE ?_
                replace hbel := b0
                clear hS b0
                have hB := hB.trans (hbel.mono hB.size)
                have hc := alive9_any q2_0
                go_wp2_with fail
                refine hc.mono ?_
                rintro e v4 ⟨rfl, hb⟩
                clear hc
                replace hB := hB.trans (hb.mono hB.size)
                clear hb
                cases fb
                · go_wp2
                  go_ret
                  exact ⟨rfl, hB⟩
                · obtain rfl : δ = false := by simpa using HFIN.out
                  go_wp2
                  go_ret
                  exact ⟨rfl, hB⟩
            · have hfin : (fb && α) = false := by
                by_cases hnn : nl = n2
                · obtain rfl : i = n2 := by omega
                  have h5 := bef_same (l := oth) (r := l) (by rw [HOL.out, HLL.out]; exact hnn) (by rw [HOL.out, hnn]; exact htk.out)
                  rw [HOL.out, HLL.out, HAL.out] at h5
                  rw [← h5]; exact HFS3.out
                · have h5 := bef_len (l := oth) (r := l) (by rw [HOL.out, HLL.out]; exact hnn)
                  rw [HOL.out, HLL.out, HAL.out] at h5
                  rw [← h5]; exact HFS3.out
              have HFIN := Lib.hid hfin
              have hi0 : i < n2 → ¬ (nl : Int) = n2 := fun h h2 => hgo ⟨h, by omega⟩
              have hi1 : i < n2 → ¬ nl = n2 := fun h h2 => hgo ⟨h, h2⟩
              have hB := hB.trans (hbel.mono hB.size)
              clear hfin heq htk hgo
              by_cases hin : i < n2
              · have hin' : (i : Int) < n2 := by omega
                have keq : ((nl : Int) == (n2 : Int)) = false := by rw [beq_eq_false_iff_ne]; exact hi0 hin
                have keq' : (nl == n2) = false := by rw [beq_eq_false_iff_ne]; exact hi1 hin
                clear hi0 hi1
                have hc := alive9_any wr
                go_wp2_with fail
                refine hc.mono ?_
                rintro e v4 ⟨rfl, hb⟩
                clear hc
                replace hB := hB.trans (hb.mono hB.size)
                clear hb
                cases fb
                · go_wp2
                  go_ret
                  exact ⟨rfl, hB⟩
                · obtain rfl : α = false := by simpa using HFIN.out
                  go_wp2
                  go_ret
                  exact ⟨rfl, hB⟩
              · have hin' : ¬ (i : Int) < n2 := by omega
                clear hi0 hi1
                have hc := alive9_any wr
                go_wp2_with fail
                refine hc.mono ?_
                rintro e v4 ⟨rfl, hb⟩
                clear hc
                replace hB := hB.trans (hb.mono hB.size)
                clear hb
                cases fb
                · go_wp2
                  go_ret
                  exact ⟨rfl, hB⟩
                · obtain rfl : α = false := by simpa using HFIN.out
                  go_wp2
                  go_ret
                  exact ⟨rfl, hB⟩

theorem own : ownKnob Try.prog.godebug = none := by kernel_rfl
theorem laidOut : laidOutB Try.prog = true := by kernel_rfl

set_option maxRecDepth 100000 in
theorem lifted (os : Os) (started : os.Started) (H : Type) (enc : TypeId × Value → H) :
    ReturnsInHanded {} Try.checked os 5 .any (Rows.hallsFirstSpec.pre6 enc Try.prog Try.f5 Rows.hallsFirstRow.domain false) (Rows.hallsFirstSpec.post enc Try.prog Try.f5 false true false false) := by
  refine returnsInHanded_of_change (C := Try.checked) own started (by kernel_rfl) Try.func5
    (ChangeSpec.witness6 (enc := enc) (C := Try.checked) false ⟨#[], #[.agg #[.slice none 0 0, .int .i64 0], .slice none 0 0, .int .u8 0], []⟩ 8 (by kernel_rfl) (by kernel_rfl) (by kernel_rfl) (by kernel_rfl)) ?_
  intro W base args ds gs before hval0 hW hcnd _
  have hval : ∀ (j : Nat) t v, Try.f5.params[j]? = some t → args[j]? = some v → Value.okWide Try.prog W .any base t v := hval0
  have hW' := hW
  obtain ⟨p, q, hA0, hV, rfl, hfz, hnd⟩ := hW
  have hA : DataW.TrodAll enc Try.prog W 0 (fun _ => true) true Try.f5.params.toList args.toList ds p := hA0
  rw [Try.params5] at hA hval
  obtain ⟨v0, vs0, d0, ds0, p0, q0, hargs, rfl, rfl, h0, r0⟩ := trodAll_cons hA
  obtain ⟨v1, vs1, d1, ds1, p1, q1, rfl, rfl, rfl, h1, r1⟩ := trodAll_cons r0
  obtain ⟨v2, vs2, d2, ds2, p2, q2, rfl, rfl, rfl, h2, r2⟩ := trodAll_cons r1
  obtain ⟨rfl, rfl, rfl⟩ := trodAll_nil r2
  obtain rfl : args = #[v0, v1, v2] := by cases args; simp_all
  obtain ⟨u0, m0, rfl, k0, a0, b0⟩ := arg_gr Try.underlying24 (by kernel_rfl) (by kernel_rfl) Try.underlying22 Try.underlying3 Try.underlying25 (by kernel_rfl) Try.underlying3 (by kernel_rfl) (hval 0 24 v0 rfl rfl) h0
  obtain ⟨A1, n1, c1, l1, rfl, a1, b1, e1, g1⟩ := arg_i64s Try.underlying25 Try.underlying3 (by kernel_rfl) (hval 1 25 v1 rfl rfl) h1
  obtain ⟨x2, rfl, rfl, rfl, w2⟩ := open_int Try.underlying5 (hval 2 5 v2 rfl rfl) h2
  obtain ⟨y2, rfl, z2⟩ := fit_u8 w2
  have hwalk : Calls Try.prog 5 #[.agg #[u0.v, .int .i64 m0], .slice A1 n1 c1, .int .u8 y2] W fun e w' => e = .returned (.bool true) ∧ Below W.heap.size W w' := walk u0 m0 A1 n1 c1 l1 y2 W k0 a0 b0 ⟨a1, b1, e1, g1⟩ z2
  refine hwalk.mono fun e W' ⟨he, hg⟩ => ?_
  subst he
  exact ⟨_, rfl, law_post laidOut (by kernel_rfl) hW' rfl rfl (by kernel_rfl) Try.underlying4 hg⟩

theorem over : Rows.hallsFirstRow.holds Try.pinned (OpenSpec.ofChange Rows.hallsFirstSpec) :=
  OpenClaim.holds_of_wide 5 Try.f5 rfl rfl rfl rfl rfl rfl rfl ⟨rfl, rfl, rfl, rfl, rfl⟩ rfl rfl rfl rfl rfl (by kernel_rfl) Try.func5 (by kernel_rfl)
    (of_decide_eq_true (by kernel_rfl)) (by unfold Func.isWrapper; first | (rw [if_pos (by decide +kernel)]; kernel_rfl) | (rw [if_neg (by decide +kernel)]; exact ⟨rfl, rfl⟩))
    (fun os started H enc _ => lifted os started H enc)

theorem proved : Rows.HallsFirstSaid :=
  over

end Go.Proofs.Ytdiklmfaehmmjaa.hallsFirst
