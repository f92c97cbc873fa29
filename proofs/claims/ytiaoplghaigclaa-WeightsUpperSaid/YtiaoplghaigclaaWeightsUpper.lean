/-
  Proved: WeightsUpper holds of all gains: an item number is at most what all together would gain less without that item.
-/
import Derived.Test.YtiaoplghaigclaaRows
import Derived.Test.YtiaoplghaigclaaLift
import Derived.Test.YtiaoplghaigclaaAlive10
import Derived.Test.YtiaoplghaigclaaZeros
import Derived.Test.YtiaoplghaigclaaReg
namespace Go.Proofs.Ytiaoplghaigclaa.weightsUpper
open Go.ChangeShapes Go.WideShapes Go.ChangeAt Go.RowKit
set_option linter.unusedVariables false

theorem info6_int : (Try.prog.info? 3).map (fun i => (i.zero, i.size, i.bytes)) = some (some (.int .i64 0), 1, 8) := by kernel_rfl
/-- Gains, in which an item has nothing at the first j bidders. -/
def colN (g : List (List Int)) (k j : Nat) : List (List Int) := (List.range g.length).map fun i => if i < j then (g.getD i []).set k (-1) else g.getD i []
theorem colN_len (g : List (List Int)) (k j : Nat) : (colN g k j).length = g.length := by simp [colN]
theorem colN_get {g : List (List Int)} {k j i : Nat} (hi : i < g.length) : (colN g k j)[i]? = some (if i < j then (g.getD i []).set k (-1) else g.getD i []) := by
  rw [colN, List.getElem?_map, List.getElem?_range hi]; rfl
theorem colN_zero (g : List (List Int)) (k : Nat) : colN g k 0 = g := by
  refine List.ext_getElem? fun i => ?_
  by_cases hi : i < g.length
  · rw [colN_get hi, if_neg (by omega), List.getD_eq_getElem?_getD, List.getElem?_eq_getElem hi]; rfl
  · rw [List.getElem?_eq_none (by rw [colN_len]; omega), List.getElem?_eq_none (by omega)]
theorem colN_set {g : List (List Int)} {k j : Nat} (hj : j < g.length) : (colN g k j).set j ((g.getD j []).set k (-1)) = colN g k (j + 1) := by
  refine List.ext_getElem? fun i => ?_
  rw [List.getElem?_set, colN_len]
  by_cases hi : i < g.length
  · by_cases e : j = i
    · subst e
      rw [if_pos rfl, if_pos hj, colN_get hj, if_pos (by omega)]
    · rw [if_neg e, colN_get hi, colN_get hi]
      by_cases h2 : i < j
      · rw [if_pos h2, if_pos (by omega)]
      · rw [if_neg h2, if_neg (by omega)]
  · rw [if_neg (by omega), List.getElem?_eq_none (by rw [colN_len]; omega), List.getElem?_eq_none (by rw [colN_len]; omega)]
theorem colN_may {g : List (List Int)} {m : Int} {k j : Nat} (h : mayW g m = true) : mayW (colN g k j) m = true := by
  obtain ⟨h1, h2, h3, h4⟩ := mayW_iff.1 h
  refine mayW_iff.2 ⟨h1, h2, by rw [colN_len]; exact h3, fun l hl => ?_⟩
  obtain ⟨i, hi, rfl⟩ := List.mem_map.1 hl
  have hi' := List.mem_range.1 hi
  have h5 := h4 _ (List.getElem_mem hi')
  have h6 : g.getD i [] = g[i] := by rw [List.getD_eq_getElem?_getD, List.getElem?_eq_getElem hi']; rfl
  rw [h6]
  by_cases e : i < j
  · rw [if_pos e]
    refine ⟨by rw [List.length_set]; exact h5.1, fun z hz => ?_⟩
    rcases List.mem_or_eq_of_mem_set hz with h7 | h7
    · exact h5.2 z h7
    · omega
  · rw [if_neg e]; exact h5
theorem colN_gG {g : List (List Int)} {m k b c : Nat} (h : mayW g m = true) (hb : b < g.length) (hc : c < m) : gG (colN g k g.length) b c = noneC (gG g) k b c := by
  have h5 := (may_row h hb).1
  have h6 : g.getD b [] = g[b] := by rw [List.getD_eq_getElem?_getD, List.getElem?_eq_getElem hb]; rfl
  rw [gG_at (colN_get hb), if_pos hb, h6, List.getD_eq_getElem?_getD, List.getElem?_set]
  unfold noneC
  by_cases e : c = k
  · subst e
    rw [if_pos rfl, if_pos (by omega), if_pos rfl]; rfl
  · rw [if_neg (fun e' => e e'.symm), if_neg e, gG, h6, List.getD_eq_getElem?_getD]

set_option maxRecDepth 100000 in
set_option maxHeartbeats 4000000 in
theorem walk (x : Gr) (m : Int) (w : World) (h : x.Ok w) (hm1 : -9223372036854775808 ≤ m) (hm2 : m ≤ 9223372036854775807) :
    Calls Try.prog 9 #[.agg #[x.v, .int .i64 m]] w fun e w' => e = .returned (.bool true) ∧ Below w.heap.size w w' := by
  have hx := h
  have hB := Below.refl w.heap.size w
  have hxv : x.v = .slice x.A x.n x.c := rfl
  have Vx := Lib.hid hxv
  rw [hxv]
  have hgl := h.glen
  have HGL := Lib.hid hgl
  have htop := Nat.le_trans h.cap h.top
  unfold maxLen at htop
  obtain ⟨B, hB0⟩ : ∃ B, mayW x.g m = B := ⟨_, rfl⟩
  clear hxv hgl h
  go_enter Try.func9, Try.ntmps9
  have bg := WBox.new w x m
  have hbx : Below w.heap.size w (w.alloc (.cells #[.slice x.A x.n x.c, .int .i64 m] 24)) := (Below.refl _ w).alloc (Nat.le_refl _) _
  replace hx := hx.below hbx
  replace hB := hB.trans (hbx.mono hB.size)
  clear hbx
  cases B
  · have E1 := Lib.hid (we_bad hB0)
    clear hB0
    have eg0 := bg.c0
    have eg1 := bg.c1
    have hc := pbestC x m (w.alloc (.cells #[.slice x.A x.n x.c, .int .i64 m] 24)) hx (by omega) (by omega)
    rw [Vx.out, E1.out.1, E1.out.2.1] at hc
    go_wp2_with fail
    clear eg0 eg1
    generalize w.alloc (.cells #[.slice x.A x.n x.c, .int .i64 m] 24) = W1 at *
    refine hc.mono ?_
    rintro e v2 ⟨rfl, hb⟩
    clear hc
    replace hx := hx.below hb
    replace bg := bg.below hb
    replace hB := hB.trans (hb.mono hB.size)
    clear hb
    have eg0 := bg.c0
    have eg1 := bg.c1
    have hc := pprovedC x m v2 hx (by omega) (by omega)
    rw [Vx.out, E1.out.2.1, E1.out.2.2.2, E1.out.2.2.1] at hc
    go_wp2_with fail
    clear eg0 eg1
    refine hc.mono ?_
    rintro e v3 ⟨A1, n1, c1, A1p, n1p, c1p, rfl, h1, h1p, hapt, hb⟩
    clear hc
    replace hx := hx.below hb
    replace bg := bg.below hb
    replace hB := hB.trans (hb.mono hB.size)
    clear hb
    clear hapt
    clear h1 h1p
    have eg0 := bg.c0
    have eg1 := bg.c1
    have hc := alive10_any v3
    go_wp2_with fail
    clear eg0 eg1
    refine hc.mono ?_
    rintro e v4 ⟨rfl, hb⟩
    clear hc
    replace hx := hx.below hb
    replace bg := bg.below hb
    replace hB := hB.trans (hb.mono hB.size)
    clear hb
    have eg0 := bg.c0
    have eg1 := bg.c1
    go_wp2
    go_ret
    exact ⟨rfl, hB⟩
  · obtain ⟨M, rfl⟩ : ∃ M : Nat, m = M := ⟨m.toNat, by have := (mayW_iff.1 hB0).1; omega⟩
    have HB0 := Lib.hid hB0
    obtain ⟨hM1, hM8, hx8⟩ := may_m hB0
    rw [HGL.out] at hx8
    have EE := Lib.hid (we_ok hB0).2.1
    obtain ⟨a0, ha0⟩ : ∃ a, bestE x.g M = a := ⟨_, rfl⟩
    obtain ⟨ul, hul⟩ : ∃ a, bidE x.g M = a := ⟨_, rfl⟩
    obtain ⟨pl, hpl⟩ : ∃ a, ofE x.g M = a := ⟨_, rfl⟩
    have EB := Lib.hid ha0
    have EU := Lib.hid hul
    have EP := Lib.hid hpl
    have ULN : Hid (ul.length = x.n) := Lib.hid (by rw [← hul, bidE_len hB0, HGL.out])
    have PLN : Hid (pl.length = M) := Lib.hid (by rw [← hpl, ofE_len hB0])
    have UGET : Hid (∀ i, i < x.n → ul[i]? = some (bidP (gG x.g) M x.n i)) := Lib.hid (fun i hi => by rw [← hul, bidE_get hB0 (by rw [HGL.out]; exact hi), HGL.out])
    have PGET : Hid (∀ k, k < M → pl[k]? = some (numP (gG x.g) M x.n k)) := Lib.hid (fun k hk => by rw [← hpl, ofE_get hB0 hk, HGL.out])
    have BV : Hid (a0 = bestV (gG x.g) M x.n) := Lib.hid (by rw [← ha0, (we_ok hB0).1, HGL.out])
    have hab : 0 ≤ a0 ∧ a0 ≤ 8000000 := by rw [← ha0, (we_ok hB0).1]; exact best_bound hB0
    have HRW : Hid (∀ u ∈ x.t, u.n = M) := Lib.hid (fun u hu => by
      have h1 := (mayW_iff.1 hB0).2.2.2 u.zs (by rw [Gr.g, Ls.all]; exact List.mem_map_of_mem hu)
      have h2 := (hx.lss.ok u hu).len
      omega)
    clear hB0 ha0 hul hpl hm1 hm2
    have eg0 := bg.c0
    have eg1 := bg.c1
    have hc := pbestC x M (w.alloc (.cells #[.slice x.A x.n x.c, .int .i64 (M : Int)] 24)) hx (by omega) (by omega)
    rw [Vx.out, EB.out, EE.out] at hc
    go_wp2_with fail
    clear eg0 eg1
    generalize w.alloc (.cells #[.slice x.A x.n x.c, .int .i64 (M : Int)] 24) = W1 at *
    refine hc.mono ?_
    rintro e v2 ⟨rfl, hb⟩
    clear hc
    replace hx := hx.below hb
    replace bg := bg.below hb
    replace hB := hB.trans (hb.mono hB.size)
    clear hb
    have eg0 := bg.c0
    have eg1 := bg.c1
    have hc := pprovedC x M v2 hx (by omega) (by omega)
    rw [Vx.out, EE.out, EU.out, EP.out] at hc
    go_wp2_with fail
    clear eg0 eg1
    refine hc.mono ?_
    rintro e v3 ⟨A1, n1, c1, A1p, n1p, c1p, rfl, h1, h1p, hapt, hb⟩
    clear hc
    replace hx := hx.below hb
    replace bg := bg.below hb
    replace hB := hB.trans (hb.mono hB.size)
    clear hb
    clear hapt
    obtain rfl : M = n1p := by have h5 := h1p.len; have h6 := PLN.out; simp only at h5; omega
    have gne : (((M : Int)) != (M : Int)) = false := by simp
    have eg0 := bg.c0
    have eg1 := bg.c1
    have hc := wmay_any x M v3 hx (by omega) (by omega)
    rw [HB0.out] at hc
    go_wp2_with fail
    clear eg0 eg1
    refine hc.mono ?_
    rintro e v4 ⟨rfl, hb⟩
    clear hc
    replace hx := hx.below hb
    replace h1 := h1.below hb
    replace h1p := h1p.below hb
    replace bg := bg.below hb
    replace hB := hB.trans (hb.mono hB.size)
    clear hb
    have eg0 := bg.c0
    have eg1 := bg.c1
    go_wp2_with fail
    clear eg0 eg1
    go_loopw [8] (fun v wr => ∃ k : Nat, k ≤ M ∧ v = .int .i64 k ∧ Below v4.heap.size v4 wr) (fun v _ => M - (intOf v).toNat)
    case atStart => exact ⟨0, Nat.zero_le _, rfl, Below.refl _ _⟩
    case round =>
      obtain ⟨k, hk, rfl, hbel⟩ := hrel
      obtain ⟨wo, rfl⟩ : ∃ wo, wo = wr := ⟨_, rfl⟩
      have bgr := bg.below hbel
      have e0 := bgr.c0
      have e1 := bgr.c1
      have hxr := hx.below hbel
      by_cases hkn : k < M
      · have hkn' : (k : Int) < M := by omega
        have hk0 : (0 : Int) ≤ k := by omega
        have hm2 : mayW (colN x.g k x.g.length) M = true := colN_may HB0.out
        obtain ⟨d, hd⟩ : ∃ d, bestE (colN x.g k x.g.length) M = d := ⟨_, rfl⟩
        have hdv : d = bestV (noneC (gG x.g) k) M x.n := by rw [← hd, bestE_of hm2 fun b c hb hc => colN_gG HB0.out (by rw [colN_len] at hb; exact hb) hc, colN_len, HGL.out]
        have ED := Lib.hid hd
        have EF := Lib.hid (we_ok hm2).2.1
        obtain ⟨pk, hpk⟩ : ∃ q, numP (gG x.g) M x.n k = q := ⟨_, rfl⟩
        have hug : pl[k]? = some pk := by rw [PGET.out k hkn, hpk]
        have hdb : 0 ≤ d ∧ d ≤ 8000000 := by rw [← hd, (we_ok hm2).1]; exact best_bound hm2
        have hple : pk ≤ a0 - d := by rw [← hpk, BV.out, hdv]; exact num_upper hkn
        have s1 : IntKind.i64.wrap (a0 - d) = a0 - d := by rw [IntKind.wrap_i64]; omega
        have gle : decide (a0 - d < pk) = false := decide_eq_false (by omega)
        obtain ⟨p1, q1, hA1, hp1, y0, hy0, hcy⟩ := h1p.ok.rd.get hkn
        simp only at hA1
        subst hA1
        rw [show ci64 pl = pl.map iV from rfl, List.getElem?_map, hug] at hy0
        obtain rfl : iV pk = y0 := Option.some.inj hy0
        unfold iV at hcy
        clear hd hdv hug hy0 hm2 hple hpk
        have htw := twin_gr x wo hxr (by omega) (fun u hu => by have := HRW.out u hu; omega)
        rw [Vx.out] at htw
        go_wp2_with fail
        refine htw.mono ?_
        rintro e w5 ⟨⟨yA, yn, yc, yt⟩, he, hy, hyg, hyn, hb5⟩
        obtain rfl : e = .returned (.slice yA yn yc) := he
        clear htw
        simp only at hyn
        subst hyn
        have hO := hy.outs
        simp only at hO
        have HYG := Lib.hid (show Ls.all yt = x.g from hyg)
        have hbel5 := hbel.trans (hb5.mono hbel.size)
        replace hO := hO.mono hbel.size
        clear hy hyg e0 e1 bgr hb5 hbel hxr
        go_wp2_with fail
        go_loopw [10] (fun v wr => ∃ (i : Nat) (t : List Ls), i ≤ x.n ∧ v = .int .i64 i ∧ Outs wr v4.heap.size yA x.n yc t ∧ Hid (Ls.all t = colN x.g k i) ∧ Below v4.heap.size v4 wr) (fun v _ => x.n - (intOf v).toNat)
        case atStart => exact ⟨0, yt, Nat.zero_le _, rfl, hO, Lib.hid (by rw [colN_zero, HYG.out]), hbel5⟩
        case round =>
          obtain ⟨i, t, hi, rfl, hOr, htg, hbr⟩ := hrel
          clear hO hbel5
          have hi0 : (0 : Int) ≤ i := by omega
          by_cases hin : i < x.n
          · have hin' : (i : Int) < x.n := by omega
            have hlen := hOr.len
            obtain ⟨u, hu⟩ : ∃ u, t[i]? = some u := ⟨_, List.getElem?_eq_getElem (by omega)⟩
            have hou := hOr.each u (List.mem_of_getElem? hu)
            have huz : u.zs = x.g.getD i [] := by
              have h1 : (Ls.all t)[i]? = some u.zs := by rw [Ls.all, List.getElem?_map, hu]; rfl
              rw [htg.out, colN_get (by rw [HGL.out]; exact hin), if_neg (by omega)] at h1
              exact (Option.some.inj h1).symm
            have hun : u.n = M := by
              have h1 := hou.len
              have h2 := (may_row HB0.out (b := i) (by rw [HGL.out]; exact hin)).1
              rw [huz, List.getD_eq_getElem?_getD, List.getElem?_eq_getElem (by rw [HGL.out]; exact hin)] at h1
              simp only [Option.getD_some] at h1
              omega
            have hkn5 : (k : Int) < u.n := by rw [hun]; omega
            have hkn6 : k < u.n := by rw [hun]; exact hkn
            obtain ⟨g, hgA, _, _⟩ := hOr.own.lt (by have := hOr.own.le; omega)
            subst hgA
            have hcO := hOr.own.cell (j := i) (by omega)
            rw [List.getElem?_map, hu] at hcO
            replace hcO : wr.cell? ⟨g, i, none⟩ = some (.slice u.A u.n u.c) := hcO
            have hule := hou.own.le
            obtain ⟨g2, hA2, _, _⟩ := hou.own.lt (by omega)
            have hown2 := hou.own
            rw [hA2] at hown2 hcO
            have hfr := hown2.free (by omega) k
            obtain ⟨vo, hvo⟩ : ∃ v, wr.cell? ⟨g2, k, none⟩ = some v := by
              rw [hown2.cell hkn6]
              exact ⟨_, List.getElem?_eq_getElem (by rw [hown2.len]; exact hkn6)⟩
            have hO2 := hOr.num (z := -1) hu hA2 hkn6 (by omega)
            have HN : Hid (Ls.all (t.set i ⟨u.A, u.n, u.c, u.zs.set k (-1)⟩) = colN x.g k (i + 1)) := Lib.hid (by
              rw [all_num, htg.out, huz, colN_set (by rw [HGL.out]; exact hin)])
            have hB2 := hbr.setCell (p := ⟨g2, k, none⟩) (hown2.base (by omega)) (.int .i64 (-1))
            clear hou hown2 hOr hu hA2 htg huz hun
            go_wp2
            go_roundw
            case rel => exact ⟨i + 1, _, by omega, by go_num, hO2, HN, hB2⟩
            case measure => simp [intOf]; omega
          · obtain rfl : i = x.n := by omega
            have HF2 : Hid (Ls.all t = colN x.g k x.g.length) := Lib.hid (by rw [htg.out, HGL.out])
            have e0 := (bg.below hbr).c0
            have e1 := (bg.below hbr).c1
            have hbb := pbestC ⟨yA, x.n, yc, t⟩ M wr hOr.gr (by omega) (by omega)
            rw [show Gr.v ⟨yA, x.n, yc, t⟩ = .slice yA x.n yc from rfl, show Gr.g ⟨yA, x.n, yc, t⟩ = colN x.g k x.g.length from HF2.out, ED.out, EF.out] at hbb
            clear hOr htg
            go_wp2_with fail
            refine hbb.mono ?_
            rintro e w6 ⟨rfl, hb6⟩
            clear hbb e0 e1
            have hbel6 := hbr.trans (hb6.mono hbr.size)
            have hcw := (hbel6.cell (p := ⟨p1, q1 + k, none⟩) hp1).trans hcy
            have gle2 : ¬ (a0 - d < pk) := of_decide_eq_false gle
            go_wp2
            go_roundw
            case rel => exact ⟨k + 1, by omega, by go_num, hbel6⟩
            case measure => simp [intOf]; omega
      · obtain rfl : k = M := by omega
        clear e0 e1
        have hB := hB.trans (hbel.mono hB.size)
        have eg0 := bgr.c0
        have eg1 := bgr.c1
        have hc := alive10_any wo
        go_wp2_with fail
        clear eg0 eg1
        refine hc.mono ?_
        rintro e v5 ⟨rfl, hb⟩
        clear hc
        replace hxr := hxr.below hb
        replace bgr := bgr.below hb
        replace hB := hB.trans (hb.mono hB.size)
        clear hb
        have eg0 := bgr.c0
        have eg1 := bgr.c1
        go_wp2
        go_ret
        exact ⟨rfl, hB⟩

theorem own : ownKnob Try.prog.godebug = none := by kernel_rfl
theorem laidOut : laidOutB Try.prog = true := by kernel_rfl

set_option maxRecDepth 100000 in
theorem lifted (os : Os) (started : os.Started) (H : Type) (enc : TypeId × Value → H) :
    ReturnsInHanded {} Try.checked os 9 .any (Rows.weightsUpperSpec.pre6 enc Try.prog Try.f9 Rows.weightsUpperRow.domain false) (Rows.weightsUpperSpec.post enc Try.prog Try.f9 false true false false) := by
  refine returnsInHanded_of_change (C := Try.checked) own started (by kernel_rfl) Try.func9
    (ChangeSpec.witness6 (enc := enc) (C := Try.checked) false ⟨#[], #[.agg #[.slice none 0 0, .int .i64 0]], []⟩ 8 (by kernel_rfl) (by kernel_rfl) (by kernel_rfl) (by kernel_rfl)) ?_
  intro W base args ds gs before hval0 hW hcnd _
  have hval : ∀ (j : Nat) t v, Try.f9.params[j]? = some t → args[j]? = some v → Value.okWide Try.prog W .any base t v := hval0
  have hW' := hW
  obtain ⟨p, q, hA0, hV, rfl, hfz, hnd⟩ := hW
  have hA : DataW.TrodAll enc Try.prog W 0 (fun _ => true) true Try.f9.params.toList args.toList ds p := hA0
  rw [Try.params9] at hA hval
  obtain ⟨v0, vs0, d0, ds0, p0, q0, hargs, rfl, rfl, h0, r0⟩ := trodAll_cons hA
  obtain ⟨rfl, rfl, rfl⟩ := trodAll_nil r0
  obtain rfl : args = #[v0] := by cases args; simp_all
  obtain ⟨u0, m0, rfl, k0, a0, b0⟩ := arg_gr Try.underlying24 (by kernel_rfl) (by kernel_rfl) Try.underlying22 Try.underlying3 Try.underlying28 (by kernel_rfl) Try.underlying3 (by kernel_rfl) (hval 0 24 v0 rfl rfl) h0
  have hwalk : Calls Try.prog 9 #[.agg #[u0.v, .int .i64 m0]] W fun e w' => e = .returned (.bool true) ∧ Below W.heap.size W w' := walk u0 m0 W k0 a0 b0
  refine hwalk.mono fun e W' ⟨he, hg⟩ => ?_
  subst he
  exact ⟨_, rfl, law_post laidOut (by kernel_rfl) hW' rfl rfl (by kernel_rfl) Try.underlying4 hg⟩

theorem over : Rows.weightsUpperRow.holds Try.pinned (OpenSpec.ofChange Rows.weightsUpperSpec) :=
  OpenClaim.holds_of_wide 9 Try.f9 rfl rfl rfl rfl rfl rfl rfl ⟨rfl, rfl, rfl, rfl, rfl⟩ rfl rfl rfl rfl rfl (by kernel_rfl) Try.func9 (by kernel_rfl)
    (of_decide_eq_true (by kernel_rfl)) (by unfold Func.isWrapper; first | (rw [if_pos (by decide +kernel)]; kernel_rfl) | (rw [if_neg (by decide +kernel)]; exact ⟨rfl, rfl⟩))
    (fun os started H enc _ => lifted os started H enc)

theorem proved : Rows.WeightsUpperSaid :=
  over

end Go.Proofs.Ytiaoplghaigclaa.weightsUpper
