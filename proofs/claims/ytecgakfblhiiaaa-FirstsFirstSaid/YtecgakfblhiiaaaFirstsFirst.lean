/-
  Proved: salesroomlaw11.FirstsFirst answers true, for any gains, any items, any order and any other matching, in whatever memory. No other conditions.
-/
import Derived.Test.YtecgakfblhiiaaaRows
import Derived.Test.YtecgakfblhiiaaaLift
import Derived.Test.YtecgakfblhiiaaaAlive11
import Derived.Test.YtecgakfblhiiaaaZeros
import Derived.Test.YtecgakfblhiiaaaFiE
import Derived.Test.YtecgakfblhiiaaaReg
namespace Go.Proofs.Ytecgakfblhiiaaa.firstsFirst
open Go.ChangeShapes Go.WideShapes Go.ChangeAt Go.RowKit
set_option linter.unusedVariables false

theorem info6_int : (Try.prog.info? 3).map (fun i => (i.zero, i.size, i.bytes)) = some (some (.int .i64 0), 1, 8) := by kernel_rfl
/-- What a list that is a matching says of one. -/
theorem item_of {g : List (List Int)} {M : Nat} {l : List Int} (h : validW g M l = true) {b : Nat} (hb : b < g.length) : l.getD b (-1) = optI (hasA l b) := by
  rw [validW, Bool.and_eq_true, List.all_eq_true] at h
  rcases mayAt_iff.1 (h.2 b (List.mem_range.2 hb)) with h1 | ⟨h1, _⟩
  · rw [hasA, itemO, if_pos h1, h1]; rfl
  · rw [hasA, itemO, if_neg (by omega)]
    simp only [optI]; omega

set_option maxRecDepth 100000 in
set_option maxHeartbeats 4000000 in
theorem walk (x : Gr) (m : Int) (y : Ls) (o : Ls) (w : World) (h : x.Ok w) (hm1 : -9223372036854775808 ≤ m) (hm2 : m ≤ 9223372036854775807) (h1' : y.Ok w) (h2' : o.Ok w) :
    Calls Try.prog 4 #[.agg #[x.v, .int .i64 m], y.v, o.v] w fun e w' => e = .returned (.bool true) ∧ Below w.heap.size w w' := by
  have hx := h
  have hy := h1'
  have ho := h2'
  have hB := Below.refl w.heap.size w
  have hxv : x.v = .slice x.A x.n x.c := rfl
  have hyv : y.v = .slice y.A y.n y.c := rfl
  have Vx := Lib.hid hxv
  have Vy := Lib.hid hyv
  have hov : o.v = .slice o.A o.n o.c := rfl
  have Vo := Lib.hid hov
  rw [hxv, hyv, hov]
  have hgl := h.glen
  have HGL := Lib.hid hgl
  have HYL := Lib.hid hy.len
  have htop := Nat.le_trans h.cap h.top
  have ttop := Nat.le_trans hy.cap hy.top
  unfold maxLen at htop ttop
  obtain ⟨B, hB0⟩ : ∃ B, mayF x.g m y.zs = B := ⟨_, rfl⟩
  have otop := Nat.le_trans ho.cap ho.top
  unfold maxLen at otop
  clear hxv hyv hov hgl h h1' h2'
  go_enter Try.func4, Try.ntmps4
  have bg := WBox.new w x m
  have hbx : Below w.heap.size w (w.alloc (.cells #[.slice x.A x.n x.c, .int .i64 m] 24)) := (Below.refl _ w).alloc (Nat.le_refl _) _
  replace hx := hx.below hbx
  replace hy := hy.below hbx
  replace ho := ho.below hbx
  replace hB := hB.trans (hbx.mono hB.size)
  clear hbx
  cases B
  · have E1 := Lib.hid (fi_bad hB0)
    obtain ⟨f0, hf0⟩ : ∃ q, wErr x.g m = q := ⟨_, rfl⟩
    obtain ⟨a0, ha0⟩ : ∃ q, bestE x.g m = q := ⟨_, rfl⟩
    have EF := Lib.hid hf0
    have EA := Lib.hid ha0
    clear hB0 hf0 ha0
    have eg0 := bg.c0
    have eg1 := bg.c1
    have hc := pfirstC x m y (w.alloc (.cells #[.slice x.A x.n x.c, .int .i64 m] 24)) hx (by omega) (by omega) hy
    rw [Vx.out, Vy.out, E1.out.1, E1.out.2] at hc
    go_wp2_with fail
    clear eg0 eg1
    generalize w.alloc (.cells #[.slice x.A x.n x.c, .int .i64 m] 24) = W1 at *
    refine hc.mono ?_
    rintro e v2 ⟨A1, n1, c1, rfl, h1, hb⟩
    clear hc
    replace hx := hx.below hb
    replace hy := hy.below hb
    replace ho := ho.below hb
    replace bg := bg.below hb
    replace hB := hB.trans (hb.mono hB.size)
    clear hb
    have eg0 := bg.c0
    have eg1 := bg.c1
    have hc := alive11_any v2
    go_wp2_with fail
    clear eg0 eg1
    refine hc.mono ?_
    rintro e v3 ⟨rfl, hb⟩
    clear hc
    replace hx := hx.below hb
    replace hy := hy.below hb
    replace ho := ho.below hb
    replace h1 := h1.below hb
    replace bg := bg.below hb
    replace hB := hB.trans (hb.mono hB.size)
    clear hb
    have eg0 := bg.c0
    have eg1 := bg.c1
    go_wp2
    go_ret
    exact ⟨rfl, hB⟩
  · obtain ⟨hBw, hBo⟩ := mayF_iff.1 hB0
    obtain ⟨M, rfl⟩ : ∃ M : Nat, m = M := ⟨m.toNat, by have := (mayW_iff.1 hBw).1; omega⟩
    have HB0 := Lib.hid hB0
    have HBW := Lib.hid hBw
    have HBO := Lib.hid hBo
    obtain ⟨hM1, hM8, hx8⟩ := may_m hBw
    rw [HGL.out] at hx8
    have EE := Lib.hid (we_ok hBw).2.1
    have FE := Lib.hid (fi_ok hB0).1
    obtain ⟨a0, ha0⟩ : ∃ a, bestE x.g M = a := ⟨_, rfl⟩
    obtain ⟨hl, hhl⟩ : ∃ a, firstE x.g M y.zs = a := ⟨_, rfl⟩
    have EB := Lib.hid ha0
    have EH := Lib.hid hhl
    have FO := Lib.hid (show FirstOf (gG x.g) M x.n (whoN y.zs) (firstV x.g M y.zs) from by rw [← HGL.out]; exact first_is hB0)
    have HLN : Hid (hl.length = x.n) := Lib.hid (by rw [← hhl, firstE_len hB0, HGL.out])
    have HGET : Hid (∀ b, b < x.n → hl[b]? = some (optI (firstV x.g M y.zs b))) := Lib.hid (fun b hb => by rw [← hhl, firstE_get hB0 (by rw [HGL.out]; exact hb)])
    have HFIT : Hid (∀ b, b < x.n → -1 ≤ optI (firstV x.g M y.zs b) ∧ optI (firstV x.g M y.zs b) < M) := Lib.hid (fun b hb => optI_fit hB0 (by rw [HGL.out]; exact hb))
    have BV : Hid (a0 = bestV (gG x.g) M x.n) := Lib.hid (by rw [← ha0, (we_ok hBw).1, HGL.out])
    have hab : 0 ≤ a0 ∧ a0 ≤ 8000000 := by rw [← ha0, (we_ok hBw).1]; exact best_bound hBw
    have hyn : y.n = x.n := by have h1 := (ordB_iff.1 hBo).1; rw [HYL.out, HGL.out] at h1; exact h1
    have HYN := Lib.hid hyn
    have HRW : Hid (∀ u ∈ x.t, u.n = M) := Lib.hid (fun u hu => by
      have h1 := (mayW_iff.1 hBw).2.2.2 u.zs (by rw [Gr.g, Ls.all]; exact List.mem_map_of_mem hu)
      have h2 := (hx.lss.ok u hu).len
      omega)
    clear hB0 hBw hBo ha0 hhl hm1 hm2 hyn
    have eg0 := bg.c0
    have eg1 := bg.c1
    have hc := pfirstC x M y (w.alloc (.cells #[.slice x.A x.n x.c, .int .i64 (M : Int)] 24)) hx (by omega) (by omega) hy
    rw [Vx.out, Vy.out, FE.out, EH.out] at hc
    go_wp2_with fail
    clear eg0 eg1
    generalize w.alloc (.cells #[.slice x.A x.n x.c, .int .i64 (M : Int)] 24) = W1 at *
    refine hc.mono ?_
    rintro e v2 ⟨A1, n1, c1, rfl, h1, hb⟩
    clear hc
    replace hx := hx.below hb
    replace hy := hy.below hb
    replace ho := ho.below hb
    replace bg := bg.below hb
    replace hB := hB.trans (hb.mono hB.size)
    clear hb
    obtain rfl : n1 = x.n := by have h5 := h1.len; have h6 := HLN.out; simp only at h5; omega
    by_cases hox : o.n = x.n
    rotate_left
    · have gn : ((o.n : Int) != (x.n : Int)) = true := by rw [bne_iff_ne]; omega
      have gn2 : (o.n != x.n) = true := by rw [bne_iff_ne]; exact hox
      clear hox
      have eg0 := bg.c0
      have eg1 := bg.c1
      have hc := alive11_any v2
      go_wp2_with fail
      clear eg0 eg1
      refine hc.mono ?_
      rintro e v3 ⟨rfl, hb⟩
      clear hc
      replace hx := hx.below hb
      replace hy := hy.below hb
      replace ho := ho.below hb
      replace h1 := h1.below hb
      replace bg := bg.below hb
      replace hB := hB.trans (hb.mono hB.size)
      clear hb
      have eg0 := bg.c0
      have eg1 := bg.c1
      go_wp2
      go_ret
      exact ⟨rfl, hB⟩
    have gn : ((o.n : Int) != (x.n : Int)) = false := by rw [bne_eq_false_iff_eq]; omega
    have gn2 : (o.n != x.n) = false := by rw [bne_eq_false_iff_eq]; exact hox
    have gn3 : ((x.n : Int) != (o.n : Int)) = false := by rw [bne_eq_false_iff_eq]; omega
    have gn4 : (x.n != o.n) = false := by rw [bne_eq_false_iff_eq]; omega
    have HOX := Lib.hid hox
    clear hox
    have eg0 := bg.c0
    have eg1 := bg.c1
    have hc := pbestC x M v2 hx (by omega) (by omega)
    rw [Vx.out, EB.out, EE.out] at hc
    go_wp2_with fail
    clear eg0 eg1
    refine hc.mono ?_
    rintro e v3 ⟨rfl, hb⟩
    clear hc
    replace hx := hx.below hb
    replace hy := hy.below hb
    replace ho := ho.below hb
    replace h1 := h1.below hb
    replace bg := bg.below hb
    replace hB := hB.trans (hb.mono hB.size)
    clear hb
    obtain ⟨VW, hVW⟩ : ∃ q, validW x.g M o.zs = q := ⟨_, rfl⟩
    obtain ⟨SV, hSV⟩ : ∃ q, sumV x.g M o.zs = q := ⟨_, rfl⟩
    have HVW := Lib.hid hVW
    have HSV := Lib.hid hSV
    have hle : Hid (VW = true → SV ≤ a0 ∧ 0 ≤ SV + 100000000) := Lib.hid (fun h => by
      rw [← hVW] at h
      obtain ⟨h5, h6⟩ := valid_mt h
      have h7 := bestV_ge h6
      have h8 := wt_le8 (A := hasA o.zs) (fun b c => (gG_bound HBW.out b c).2) (fun b c => (gG_bound HBW.out b c).1) x.g.length
      have h9 : (x.g.length : Int) ≤ 8 := by rw [HGL.out]; omega
      rw [← hSV, sumV, if_pos h, BV.out]
      rw [HGL.out] at h7 h8 h9 ⊢
      exact ⟨h7, by omega⟩)
    clear hVW hSV
    have eg0 := bg.c0
    have eg1 := bg.c1
    have hc := lgains_any x M o v3 hx ho HBW.out
    rw [HVW.out, HSV.out] at hc
    go_wp2_with fail
    clear eg0 eg1
    refine hc.mono ?_
    rintro e v4 ⟨rfl, hb⟩
    clear hc
    replace hx := hx.below hb
    replace hy := hy.below hb
    replace ho := ho.below hb
    replace h1 := h1.below hb
    replace bg := bg.below hb
    replace hB := hB.trans (hb.mono hB.size)
    clear hb
    cases VW
    · clear hle
      have eg0 := bg.c0
      have eg1 := bg.c1
      have hc := alive11_any v4
      go_wp2_with fail
      clear eg0 eg1
      refine hc.mono ?_
      rintro e v5 ⟨rfl, hb⟩
      clear hc
      replace hx := hx.below hb
      replace hy := hy.below hb
      replace ho := ho.below hb
      replace h1 := h1.below hb
      replace bg := bg.below hb
      replace hB := hB.trans (hb.mono hB.size)
      clear hb
      have eg0 := bg.c0
      have eg1 := bg.c1
      go_wp2
      go_ret
      exact ⟨rfl, hB⟩
    · have hle2 := hle.out rfl
      clear hle
      by_cases hsa : SV = a0
      rotate_left
      · have gs : (SV != a0) = true := by rw [bne_iff_ne]; exact hsa
        have gl : decide (SV < a0) = true := decide_eq_true (by omega)
        clear hsa hle2
        have eg0 := bg.c0
        have eg1 := bg.c1
        have hc := alive11_any v4
        go_wp2_with fail
        clear eg0 eg1
        refine hc.mono ?_
        rintro e v5 ⟨rfl, hb⟩
        clear hc
        replace hx := hx.below hb
        replace hy := hy.below hb
        replace ho := ho.below hb
        replace h1 := h1.below hb
        replace bg := bg.below hb
        replace hB := hB.trans (hb.mono hB.size)
        clear hb
        have eg0 := bg.c0
        have eg1 := bg.c1
        go_wp2
        go_ret
        exact ⟨rfl, hB⟩
      have gs : (a0 != a0) = false := by simp
      subst hsa
      obtain ⟨A, hA⟩ : ∃ A, firstV x.g M y.zs = A := ⟨_, rfl⟩
      have HAG : Hid (∀ b, b < x.n → hl[b]? = some (optI (A b))) := Lib.hid (by rw [← hA]; exact HGET.out)
      have HOG : Hid (∀ b, b < x.n → o.zs.getD b (-1) = optI (hasA o.zs b)) := Lib.hid (fun b hb => item_of HVW.out (by rw [HGL.out]; exact hb))
      have HON := Lib.hid ho.len
      have HWL : Hid (∀ i (hi : i < y.zs.length), 0 ≤ y.zs[i] ∧ y.zs[i] < x.n) := Lib.hid (fun i hi => by
        have h5 := ord_in HBO.out _ (List.getElem_mem hi)
        rw [HGL.out] at h5
        exact h5)
      have HFF : Hid (∀ i (hi : i < y.zs.length), (∀ j (hj : j < i), A (y.zs[j]'(by omega)).toNat = hasA o.zs (y.zs[j]'(by omega)).toNat) → A (y.zs[i]).toNat ≠ hasA o.zs (y.zs[i]).toNat → Before (A (y.zs[i]).toNat) (hasA o.zs (y.zs[i]).toNat)) := Lib.hid (fun i hi h5 h6 => by
        have h7 := FO.out
        rw [hA] at h7
        obtain ⟨_, h8⟩ := valid_mt HVW.out
        have h9 : wtN (gG x.g) (hasA o.zs) x.n = bestV (gG x.g) M x.n := by
          have h10 := HSV.out
          rw [sumV, if_pos HVW.out, HGL.out] at h10
          rw [h10, BV.out]
        rw [HGL.out] at h8
        have h11 := h7.first _ h8 h9 i (by rw [whoN_len]; exact hi) (fun j hj => by rw [whoN_get (by omega)]; exact h5 j hj) (by rw [whoN_get hi]; exact h6)
        rw [whoN_get hi] at h11
        exact h11)
      clear hA hle2 gn gn2
      have eg0 := bg.c0
      have eg1 := bg.c1
      go_wp2_with fail
      clear eg0 eg1
      go_loopw [13] (fun v wr => ∃ i : Nat, i ≤ x.n ∧ v = .int .i64 i ∧ Hid (∀ j (hj : j < y.zs.length), j < i → A (y.zs[j]).toNat = hasA o.zs (y.zs[j]).toNat) ∧ Below v4.heap.size v4 wr) (fun v _ => x.n - (intOf v).toNat)
      case atStart => exact ⟨0, Nat.zero_le _, rfl, Lib.hid (fun j _ hj => absurd hj (by omega)), Below.refl _ _⟩
      case round =>
        obtain ⟨i, hi, rfl, hsame, hbel⟩ := hrel
        have hi0 : (0 : Int) ≤ i := by omega
        by_cases hin : i < x.n
        · have hin' : (i : Int) < x.n := by omega
          have hiy : (i : Int) < y.n := by rw [HYN.out]; omega
          have hil : i < y.zs.length := by rw [HYL.out, HYN.out]; exact hin
          have hyb := hy.below hbel
          have hob := ho.below hbel
          have h1b := h1.below hbel
          obtain ⟨p0, q0, hA0, hp0, y0, hy0, hcy⟩ := hyb.rd.get (show i < y.n by rw [HYN.out]; exact hin)
          rw [ci64_get _ _ hil] at hy0
          obtain rfl : iV y.zs[i] = y0 := Option.some.inj hy0
          unfold iV at hcy
          have hwl := HWL.out i hil
          have hff := HFF.out i hil (fun j hj => hsame.out j (by omega) hj)
          have hstep : ∀ j (hj : j < y.zs.length), j < i + 1 → A (y.zs[i]).toNat = hasA o.zs (y.zs[i]).toNat → A (y.zs[j]).toNat = hasA o.zs (y.zs[j]).toNat := fun j hj hji h => by
            by_cases e : j = i
            · subst e; exact h
            · exact hsame.out j hj (by omega)
          obtain ⟨v, hv⟩ : ∃ v, y.zs[i] = v := ⟨_, rfl⟩
          rw [hv] at hcy hwl hff hstep
          obtain ⟨u, rfl⟩ : ∃ u : Nat, v = u := ⟨v.toNat, by omega⟩
          rw [Int.toNat_natCast] at hff hstep
          have hux : u < x.n := by omega
          have hux' : (u : Int) < x.n := by omega
          have huo : (u : Int) < o.n := by rw [HOX.out]; omega
          have hu0 : (0 : Int) ≤ u := by omega
          have gu1 : decide ((u : Int) < 0) = false := decide_eq_false (by omega)
          have gu2 : decide ((x.n : Int) ≤ (u : Int)) = false := decide_eq_false (by omega)
          have gu3 : decide (x.n ≤ u) = false := decide_eq_false (by omega)
          obtain ⟨p1, q1, hA1, hp1, y1, hy1, hc1⟩ := h1b.ok.rd.get hux
          simp only at hA1
          rw [show ci64 hl = hl.map iV from rfl, List.getElem?_map, HAG.out u hux] at hy1
          obtain rfl : iV (optI (A u)) = y1 := Option.some.inj hy1
          unfold iV at hc1
          have hul : u < o.zs.length := by rw [HON.out, HOX.out]; exact hux
          obtain ⟨p2, q2, hA2, hp2, y2, hy2, hc2⟩ := hob.rd.get (show u < o.n by rw [HOX.out]; exact hux)
          rw [ci64_get _ _ hul] at hy2
          obtain rfl : iV o.zs[u] = y2 := Option.some.inj hy2
          unfold iV at hc2
          have hog := HOG.out u hux
          rw [List.getD_eq_getElem?_getD, List.getElem?_eq_getElem hul] at hog
          replace hog : o.zs[u] = optI (hasA o.zs u) := hog
          rw [hog] at hc2
          obtain ⟨a, ha⟩ : ∃ a, A u = a := ⟨_, rfl⟩
          obtain ⟨d, hd⟩ : ∃ a, hasA o.zs u = a := ⟨_, rfl⟩
          rw [ha] at hc1 hff hstep
          rw [hd] at hc2 hff hstep
          obtain ⟨z1, hz1⟩ : ∃ z, optI a = z := ⟨_, rfl⟩
          obtain ⟨z2, hz2⟩ : ∃ z, optI d = z := ⟨_, rfl⟩
          rw [hz1] at hc1
          rw [hz2] at hc2
          have HS : ∀ w', Below wr.heap.size wr w' → w'.cell? ⟨p1, q1 + u, none⟩ = some (.int .i64 z1) ∧ w'.cell? ⟨p2, q2 + u, none⟩ = some (.int .i64 z2) := fun w' hb => ⟨(hb.cell (p := ⟨p1, q1 + u, none⟩) hp1).trans hc1, (hb.cell (p := ⟨p2, q2 + u, none⟩) hp2).trans hc2⟩
          rw [hA0, hA1, hA2]
          have HA0 := Lib.hid hA0
          have HA1 := Lib.hid hA1
          have HA2 := Lib.hid hA2
          have hbn := hbel.drew
          clear hy0 hy1 hy2 hog ha hd hv hwl hul hyb hob h1b hA0 hA1 hA2
          go_wp2_with fail
          by_cases hzz : z1 = z2
          · have gz : (z1 != z2) = false := by rw [bne_eq_false_iff_eq]; exact hzz
            have HSN : Hid (∀ j (hj : j < y.zs.length), j < i + 1 → A (y.zs[j]).toNat = hasA o.zs (y.zs[j]).toNat) := Lib.hid (fun j hj hji => hstep j hj hji (optI_inj (by rw [hz1, hz2]; exact hzz)))
            clear hff hstep hzz hsame hz1 hz2
            refine wp_region_ord (S := fun w' => w'.cell? ⟨p1, q1 + u, none⟩ = some (.int .i64 z1) ∧ w'.cell? ⟨p2, q2 + u, none⟩ = some (.int .i64 z2)) [(0, true), (1, true), (2, true), (3, true), (4, true), (5, true), (6, true), (7, true), (8, true)] default (by kernel_rfl) (by kernel_rfl) (by kernel_rfl) (HS _ (Below.refl _ _).drew) ?_
            simp only [getOrd, nth]
            repeat (first | (refine ordS (by rfl) ?_; simp only [Act.put, List.setIfInBounds_toArray, List.set_cons_zero, List.set_cons_succ]) | (refine ordN (by rfl) ?_; simp only [Act.put, List.setIfInBounds_toArray, List.set_cons_zero, List.set_cons_succ]) | (refine ordQ (v := ?_) (by rfl) (fun _ hSw => ?_) ?_; rotate_left; (focus ((have hS1 := hSw.1); (have hS2 := hSw.2); clear hSw; go_simp; (first | done | with_reducible rfl))); simp only [Act.put, List.setIfInBounds_toArray, List.set_cons_zero, List.set_cons_succ]))
            refine ordE ?_
            clear HS
            go_wp2
            go_roundw
            case rel => exact ⟨i + 1, by omega, by go_num, HSN, hbn⟩
            case measure => simp [intOf]; omega
          · have gz : (z1 != z2) = true := by rw [bne_iff_ne]; exact hzz
            have hbe := hff (fun e => hzz (by rw [← hz1, ← hz2, e]))
            clear hff hstep hsame
            refine wp_region_ord (S := fun w' => w'.cell? ⟨p1, q1 + u, none⟩ = some (.int .i64 z1) ∧ w'.cell? ⟨p2, q2 + u, none⟩ = some (.int .i64 z2)) [(0, true), (1, true), (2, true), (3, true), (4, true), (5, true), (6, true), (7, true), (8, true)] default (by kernel_rfl) (by kernel_rfl) (by kernel_rfl) (HS _ (Below.refl _ _).drew) ?_
            simp only [getOrd, nth]
            repeat (first | (refine ordS (by rfl) ?_; simp only [Act.put, List.setIfInBounds_toArray, List.set_cons_zero, List.set_cons_succ]) | (refine ordN (by rfl) ?_; simp only [Act.put, List.setIfInBounds_toArray, List.set_cons_zero, List.set_cons_succ]) | (refine ordQ (v := ?_) (by rfl) (fun _ hSw => ?_) ?_; rotate_left; (focus ((have hS1 := hSw.1); (have hS2 := hSw.2); clear hSw; go_simp; (first | done | with_reducible rfl))); simp only [Act.put, List.setIfInBounds_toArray, List.set_cons_zero, List.set_cons_succ]))
            refine ordE ?_
            obtain ⟨wd, hwd⟩ : ∃ q, q = wr.drew := ⟨_, rfl⟩
            have hbd : Below wr.heap.size wr wd := by rw [hwd]; exact (Below.refl _ wr).drew
            replace hbn : Below v4.heap.size v4 wd := by rw [hwd]; exact hbn
            rw [← hwd]
            have HSD : ∀ w', Below wd.heap.size wd w' → w'.cell? ⟨p1, q1 + u, none⟩ = some (.int .i64 z1) ∧ w'.cell? ⟨p2, q2 + u, none⟩ = some (.int .i64 z2) := fun w' hb => HS w' (hbd.trans (hb.mono hbd.size))
            clear hwd HS
            cases a with
            | none => exact hbe.elim
            | some k =>
              simp only [optI] at hz1
              have g1 : (z1 != -1) = true := by rw [bne_iff_ne]; omega
              have hcase : (z2 = -1 ∧ (z2 == -1) = true) ∨ ((z2 == -1) = false ∧ decide (z1 < z2) = true) := by
                cases d with
                | none => left; simp only [optI] at hz2; rw [beq_iff_eq]; omega
                | some j =>
                  right
                  simp only [optI] at hz2
                  have hkj : k < j := hbe
                  exact ⟨by rw [beq_eq_false_iff_ne]; omega, decide_eq_true (by omega)⟩
              clear hbe hzz hz2
              go_wp2_with fail
              have hwv : Below w.heap.size w wd := hB.trans (hbn.mono hB.size)
              refine wp_region_ord (S := fun w' => w'.cell? ⟨p1, q1 + u, none⟩ = some (.int .i64 z1) ∧ w'.cell? ⟨p2, q2 + u, none⟩ = some (.int .i64 z2)) [(0, false), (1, true), (2, true), (3, true), (4, true), (5, true), (6, true), (7, true), (8, true), (9, true), (10, true), (11, true), (12, true), (13, true), (14, true), (15, true), (16, true), (17, true), (18, true), (19, true), (20, true), (21, true), (22, true), (23, true), (24, true), (25, true), (26, true)] default (by kernel_rfl) (by kernel_rfl) (by kernel_rfl) (HSD _ (Below.refl _ wd).drew) ?_
              simp only [getOrd, nth]
              refine ordD (by rfl) ?_
              intro K hK
              go_simp
              have hc := alive11_any wd.drew
              refine hc.mono ?_
              rintro e wc ⟨rfl, hb⟩
              have hbc : Below wd.heap.size wd wc := (Below.refl _ wd).drew.trans hb
              go_wp2_with fail
              refine hK _ _ (HSD _ hbc) ?_
              clear hK K hc hb
              have hfin := hwv.trans (hbc.mono hwv.size)
              rcases hcase with ⟨_, hc9⟩ | ⟨hc9, hc10⟩
              · try simp only [Act.put, List.setIfInBounds_toArray, List.set_cons_zero, List.set_cons_succ]
                repeat (first | (refine ordS (by rfl) ?_; simp only [Act.put, List.setIfInBounds_toArray, List.set_cons_zero, List.set_cons_succ]) | (refine ordN (by rfl) ?_; simp only [Act.put, List.setIfInBounds_toArray, List.set_cons_zero, List.set_cons_succ]) | (refine ordQ (v := ?_) (by rfl) (fun _ hSw => ?_) ?_; rotate_left; (focus ((have hS1 := hSw.1); (have hS2 := hSw.2); clear hSw; go_simp; (first | done | with_reducible rfl))); simp only [Act.put, List.setIfInBounds_toArray, List.set_cons_zero, List.set_cons_succ]))
                refine ordE ?_
                go_wp2
                go_ret
                exact ⟨rfl, hfin⟩
              · try simp only [Act.put, List.setIfInBounds_toArray, List.set_cons_zero, List.set_cons_succ]
                repeat (first | (refine ordS (by rfl) ?_; simp only [Act.put, List.setIfInBounds_toArray, List.set_cons_zero, List.set_cons_succ]) | (refine ordN (by rfl) ?_; simp only [Act.put, List.setIfInBounds_toArray, List.set_cons_zero, List.set_cons_succ]) | (refine ordQ (v := ?_) (by rfl) (fun _ hSw => ?_) ?_; rotate_left; (focus ((have hS1 := hSw.1); (have hS2 := hSw.2); clear hSw; go_simp; (first | done | with_reducible rfl))); simp only [Act.put, List.setIfInBounds_toArray, List.set_cons_zero, List.set_cons_succ]))
                refine ordE ?_
                go_wp2
                go_ret
                exact ⟨rfl, hfin⟩
        · obtain rfl : x.n = i := by omega
          have gl : decide ((x.n : Int) < (y.n : Int)) = false := decide_eq_false (by rw [HYN.out]; omega)
          have gl2 : decide (x.n < y.n) = false := decide_eq_false (by rw [HYN.out]; omega)
          have hwv : Below w.heap.size w wr := hB.trans (hbel.mono hB.size)
          clear hsame
          have hc := alive11_any wr
          go_wp2_with fail
          refine hc.mono ?_
          rintro e v9 ⟨rfl, hb⟩
          clear hc
          have hfin := hwv.trans (hb.mono hwv.size)
          go_wp2
          go_ret
          exact ⟨rfl, hfin⟩

theorem own : ownKnob Try.prog.godebug = none := by kernel_rfl
theorem laidOut : laidOutB Try.prog = true := by kernel_rfl

set_option maxRecDepth 100000 in
theorem lifted (os : Os) (started : os.Started) (H : Type) (enc : TypeId × Value → H) :
    ReturnsInHanded {} Try.checked os 4 .any (Rows.firstsFirstSpec.pre6 enc Try.prog Try.f4 Rows.firstsFirstRow.domain false) (Rows.firstsFirstSpec.post enc Try.prog Try.f4 false true false false) := by
  refine returnsInHanded_of_change (C := Try.checked) own started (by kernel_rfl) Try.func4
    (ChangeSpec.witness6 (enc := enc) (C := Try.checked) false ⟨#[], #[.agg #[.slice none 0 0, .int .i64 0], .slice none 0 0, .slice none 0 0], []⟩ 8 (by kernel_rfl) (by kernel_rfl) (by kernel_rfl) (by kernel_rfl)) ?_
  intro W base args ds gs before hval0 hW hcnd _
  have hval : ∀ (j : Nat) t v, Try.f4.params[j]? = some t → args[j]? = some v → Value.okWide Try.prog W .any base t v := hval0
  have hW' := hW
  obtain ⟨p, q, hA0, hV, rfl, hfz, hnd⟩ := hW
  have hA : DataW.TrodAll enc Try.prog W 0 (fun _ => true) true Try.f4.params.toList args.toList ds p := hA0
  rw [Try.params4] at hA hval
  obtain ⟨v0, vs0, d0, ds0, p0, q0, hargs, rfl, rfl, h0, r0⟩ := trodAll_cons hA
  obtain ⟨v1, vs1, d1, ds1, p1, q1, rfl, rfl, rfl, h1, r1⟩ := trodAll_cons r0
  obtain ⟨v2, vs2, d2, ds2, p2, q2, rfl, rfl, rfl, h2, r2⟩ := trodAll_cons r1
  obtain ⟨rfl, rfl, rfl⟩ := trodAll_nil r2
  obtain rfl : args = #[v0, v1, v2] := by cases args; simp_all
  obtain ⟨u0, m0, rfl, k0, a0, b0⟩ := arg_gr Try.underlying24 (by kernel_rfl) (by kernel_rfl) Try.underlying22 Try.underlying3 Try.underlying25 (by kernel_rfl) Try.underlying3 (by kernel_rfl) (hval 0 24 v0 rfl rfl) h0
  obtain ⟨A1, n1, c1, l1, rfl, a1, b1, e1, g1⟩ := arg_i64s Try.underlying25 Try.underlying3 (by kernel_rfl) (hval 1 25 v1 rfl rfl) h1
  obtain ⟨A2, n2, c2, l2, rfl, a2, b2, e2, g2⟩ := arg_i64s Try.underlying25 Try.underlying3 (by kernel_rfl) (hval 2 25 v2 rfl rfl) h2
  have hwalk : Calls Try.prog 4 #[.agg #[u0.v, .int .i64 m0], .slice A1 n1 c1, .slice A2 n2 c2] W fun e w' => e = .returned (.bool true) ∧ Below W.heap.size W w' := walk u0 m0 ⟨A1, n1, c1, l1⟩ ⟨A2, n2, c2, l2⟩ W k0 a0 b0 ⟨a1, b1, e1, g1⟩ ⟨a2, b2, e2, g2⟩
  refine hwalk.mono fun e W' ⟨he, hg⟩ => ?_
  subst he
  exact ⟨_, rfl, law_post laidOut (by kernel_rfl) hW' rfl rfl (by kernel_rfl) Try.underlying4 hg⟩

theorem over : Rows.firstsFirstRow.holds Try.pinned (OpenSpec.ofChange Rows.firstsFirstSpec) :=
  OpenClaim.holds_of_wide 4 Try.f4 rfl rfl rfl rfl rfl rfl rfl ⟨rfl, rfl, rfl, rfl, rfl⟩ rfl rfl rfl rfl rfl (by kernel_rfl) Try.func4 (by kernel_rfl)
    (of_decide_eq_true (by kernel_rfl)) (by unfold Func.isWrapper; first | (rw [if_pos (by decide +kernel)]; kernel_rfl) | (rw [if_neg (by decide +kernel)]; exact ⟨rfl, rfl⟩))
    (fun os started H enc _ => lifted os started H enc)

theorem proved : Rows.FirstsFirstSaid :=
  over

end Go.Proofs.Ytecgakfblhiiaaa.firstsFirst
