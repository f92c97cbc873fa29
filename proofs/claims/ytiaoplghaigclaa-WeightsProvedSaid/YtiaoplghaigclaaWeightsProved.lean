/-
  Proved: WeightsProved holds of all gains: the numbers are 0 at least, cover what is gained, and are all together what the best matching gains.
-/
import Derived.Test.YtiaoplghaigclaaRows
import Derived.Test.YtiaoplghaigclaaLift
import Derived.Test.YtiaoplghaigclaaAlive10
import Derived.Test.YtiaoplghaigclaaZeros
import Derived.Test.YtiaoplghaigclaaReg
namespace Go.Proofs.Ytiaoplghaigclaa.weightsProved
open Go.ChangeShapes Go.WideShapes Go.ChangeAt Go.RowKit
set_option linter.unusedVariables false

theorem info6_int : (Try.prog.info? 3).map (fun i => (i.zero, i.size, i.bytes)) = some (some (.int .i64 0), 1, 8) := by kernel_rfl
theorem sum_bound {f : Nat → Int} {K : Int} (hK : 0 ≤ K) : ∀ {j : Nat}, (∀ i, i < j → 0 ≤ f i ∧ f i ≤ K) → 0 ≤ sumW f j ∧ sumW f j ≤ j * K
  | 0, _ => by simp [sumW]
  | j + 1, h => by
    rw [sumW]
    have h1 := sum_bound hK (j := j) fun i hi => h i (by omega)
    have h2 := h j (by omega)
    have h3 : ((j + 1 : Nat) : Int) * K = j * K + K := by rw [Int.natCast_add, Int.add_mul]; simp
    omega
theorem row_at {x : Gr} {w : World} (hx : x.Ok w) {i k : Nat} (hi : i < x.n) {u : Ls} (hu : x.g.getD i [] = u.zs) (hk : k < u.zs.length) : u.zs[k]? = some (gG x.g i k) := by
  rw [gG, hu, List.getD_eq_getElem?_getD, List.getElem?_eq_getElem hk]; rfl

set_option maxRecDepth 100000 in
set_option maxHeartbeats 4000000 in
theorem walk (x : Gr) (m : Int) (w : World) (h : x.Ok w) (hm1 : -9223372036854775808 ≤ m) (hm2 : m ≤ 9223372036854775807) :
    Calls Try.prog 3 #[.agg #[x.v, .int .i64 m]] w fun e w' => e = .returned (.bool true) ∧ Below w.heap.size w w' := by
  have hx := h
  have hB := Below.refl w.heap.size w
  have hxv : x.v = .slice x.A x.n x.c := rfl
  have Vx := Lib.hid hxv
  rw [hxv]
  have hgl := h.glen
  have HGL := Lib.hid hgl
  have htop := Nat.le_trans h.cap h.top
  unfold maxLen at htop
  obtain ⟨B, hB0⟩ : ∃ B, mayW x.g m = B := ⟨_, rfl⟩
  clear hxv hgl h
  go_enter Try.func3, Try.ntmps3
  have bg := WBox.new w x m
  have hbx : Below w.heap.size w (w.alloc (.cells #[.slice x.A x.n x.c, .int .i64 m] 24)) := (Below.refl _ w).alloc (Nat.le_refl _) _
  replace hx := hx.below hbx
  replace hB := hB.trans (hbx.mono hB.size)
  clear hbx
  cases B
  · have HB0 := Lib.hid hB0
    have E1 := Lib.hid (we_bad hB0)
    clear hB0
    have eg0 := bg.c0
    have eg1 := bg.c1
    have hc := pbestC x m (w.alloc (.cells #[.slice x.A x.n x.c, .int .i64 m] 24)) hx (by omega) (by omega)
    rw [Vx.out, E1.out.1, E1.out.2.1] at hc
    go_wp2_with fail
    clear eg0 eg1
    generalize w.alloc (.cells #[.slice x.A x.n x.c, .int .i64 m] 24) = W1 at *
    refine hc.mono ?_
    rintro e v2 ⟨rfl, hb⟩
    clear hc
    replace hx := hx.below hb
    replace bg := bg.below hb
    replace hB := hB.trans (hb.mono hB.size)
    clear hb
    have eg0 := bg.c0
    have eg1 := bg.c1
    have hc := pprovedC x m v2 hx (by omega) (by omega)
    rw [Vx.out, E1.out.2.1, E1.out.2.2.2, E1.out.2.2.1] at hc
    go_wp2_with fail
    clear eg0 eg1
    refine hc.mono ?_
    rintro e v3 ⟨A1, n1, c1, A1p, n1p, c1p, rfl, h1, h1p, hapt, hb⟩
    clear hc
    replace hx := hx.below hb
    replace bg := bg.below hb
    replace hB := hB.trans (hb.mono hB.size)
    clear hb
    clear hapt
    clear h1 h1p
    have eg0 := bg.c0
    have eg1 := bg.c1
    have hc := alive10_any v3
    go_wp2_with fail
    clear eg0 eg1
    refine hc.mono ?_
    rintro e v4 ⟨rfl, hb⟩
    clear hc
    replace hx := hx.below hb
    replace bg := bg.below hb
    replace hB := hB.trans (hb.mono hB.size)
    clear hb
    have eg0 := bg.c0
    have eg1 := bg.c1
    have hc := wmay_any x m v4 hx (by omega) (by omega)
    rw [HB0.out] at hc
    go_wp2_with fail
    clear eg0 eg1
    refine hc.mono ?_
    rintro e v5 ⟨rfl, hb⟩
    clear hc
    replace hx := hx.below hb
    replace bg := bg.below hb
    replace hB := hB.trans (hb.mono hB.size)
    clear hb
    have eg0 := bg.c0
    have eg1 := bg.c1
    go_wp2
    go_ret
    exact ⟨rfl, hB⟩
  · obtain ⟨M, rfl⟩ : ∃ M : Nat, m = M := ⟨m.toNat, by have := (mayW_iff.1 hB0).1; omega⟩
    have HB0 := Lib.hid hB0
    obtain ⟨hM1, hM8, hx8⟩ := may_m hB0
    rw [HGL.out] at hx8
    have EE := Lib.hid (we_ok hB0).2.1
    obtain ⟨a0, ha0⟩ : ∃ a, bestE x.g M = a := ⟨_, rfl⟩
    obtain ⟨ul, hul⟩ : ∃ a, bidE x.g M = a := ⟨_, rfl⟩
    obtain ⟨pl, hpl⟩ : ∃ a, ofE x.g M = a := ⟨_, rfl⟩
    have EB := Lib.hid ha0
    have EU := Lib.hid hul
    have EP := Lib.hid hpl
    have ULN : Hid (ul.length = x.n) := Lib.hid (by rw [← hul, bidE_len hB0, HGL.out])
    have PLN : Hid (pl.length = M) := Lib.hid (by rw [← hpl, ofE_len hB0])
    have UGET : Hid (∀ i, i < x.n → ul[i]? = some (bidP (gG x.g) M x.n i)) := Lib.hid (fun i hi => by rw [← hul, bidE_get hB0 (by rw [HGL.out]; exact hi), HGL.out])
    have PGET : Hid (∀ k, k < M → pl[k]? = some (numP (gG x.g) M x.n k)) := Lib.hid (fun k hk => by rw [← hpl, ofE_get hB0 hk, HGL.out])
    have BV : Hid (a0 = bestV (gG x.g) M x.n) := Lib.hid (by rw [← ha0, (we_ok hB0).1, HGL.out])
    have hab : 0 ≤ a0 ∧ a0 ≤ 8000000 := by rw [← ha0, (we_ok hB0).1]; exact best_bound hB0
    have HRW : Hid (∀ u ∈ x.t, u.n = M) := Lib.hid (fun u hu => by
      have h1 := (mayW_iff.1 hB0).2.2.2 u.zs (by rw [Gr.g, Ls.all]; exact List.mem_map_of_mem hu)
      have h2 := (hx.lss.ok u hu).len
      omega)
    clear hB0 ha0 hul hpl hm1 hm2
    have eg0 := bg.c0
    have eg1 := bg.c1
    have hc := pbestC x M (w.alloc (.cells #[.slice x.A x.n x.c, .int .i64 (M : Int)] 24)) hx (by omega) (by omega)
    rw [Vx.out, EB.out, EE.out] at hc
    go_wp2_with fail
    clear eg0 eg1
    generalize w.alloc (.cells #[.slice x.A x.n x.c, .int .i64 (M : Int)] 24) = W1 at *
    refine hc.mono ?_
    rintro e v2 ⟨rfl, hb⟩
    clear hc
    replace hx := hx.below hb
    replace bg := bg.below hb
    replace hB := hB.trans (hb.mono hB.size)
    clear hb
    have eg0 := bg.c0
    have eg1 := bg.c1
    have hc := pprovedC x M v2 hx (by omega) (by omega)
    rw [Vx.out, EE.out, EU.out, EP.out] at hc
    go_wp2_with fail
    clear eg0 eg1
    refine hc.mono ?_
    rintro e v3 ⟨A1, n1, c1, A1p, n1p, c1p, rfl, h1, h1p, hapt, hb⟩
    clear hc
    replace hx := hx.below hb
    replace bg := bg.below hb
    replace hB := hB.trans (hb.mono hB.size)
    clear hb
    clear hapt
    obtain rfl : n1 = x.n := by have h5 := h1.len; have h6 := ULN.out; simp only at h5; omega
    obtain rfl : M = n1p := by have h5 := h1p.len; have h6 := PLN.out; simp only at h5; omega
    have gne : (((M : Int)) != (M : Int)) = false := by simp
    have gne2 : (((x.n : Int)) != (x.n : Int)) = false := by simp
    have eg0 := bg.c0
    have eg1 := bg.c1
    have hc := wmay_any x M v3 hx (by omega) (by omega)
    rw [HB0.out] at hc
    go_wp2_with fail
    clear eg0 eg1
    refine hc.mono ?_
    rintro e v4 ⟨rfl, hb⟩
    clear hc
    replace hx := hx.below hb
    replace h1 := h1.below hb
    replace h1p := h1p.below hb
    replace bg := bg.below hb
    replace hB := hB.trans (hb.mono hB.size)
    clear hb
    obtain ⟨N, hN⟩ : ∃ N, numP (gG x.g) M x.n = N := ⟨_, rfl⟩
    obtain ⟨U, hU⟩ : ∃ N, bidP (gG x.g) M x.n = N := ⟨_, rfl⟩
    have hNb : ∀ k, k < M → 0 ≤ N k ∧ N k ≤ 8000000 := fun k hk => by rw [← hN]; have := num_bound HB0.out k hk; rw [HGL.out] at this; exact this
    have hUb : ∀ i, i < x.n → 0 ≤ U i ∧ U i ≤ 1000000 := fun i hi => by rw [← hU]; have := bid_bound HB0.out i; rw [HGL.out] at this; exact this
    have hcov : Hid (∀ i k, k < M → gG x.g i k ≤ U i + N k) := Lib.hid (fun i k hk => by rw [← hU, ← hN]; exact bid_cover hk)
    have hsum : Hid (sumW U x.n + sumW N M = a0) := Lib.hid (by rw [← hU, ← hN, num_sum, BV.out])
    have UG2 : Hid (∀ i, i < x.n → ul[i]? = some (U i)) := Lib.hid (fun i hi => by rw [← hU]; exact UGET.out i hi)
    have PG2 : Hid (∀ k, k < M → pl[k]? = some (N k)) := Lib.hid (fun k hk => by rw [← hN]; exact PGET.out k hk)
    have HNB := Lib.hid hNb
    have HUB := Lib.hid hUb
    clear hN hU hNb hUb
    have eg0 := bg.c0
    have eg1 := bg.c1
    go_wp2_with fail
    go_loopw [8, 9] (fun s v wr => ∃ k : Nat, k ≤ M ∧ v = .int .i64 k ∧ s = .int .i64 (sumW N k) ∧ wr = v4) (fun _ v _ => M - (intOf v).toNat)
    case atStart => exact ⟨0, Nat.zero_le _, rfl, rfl, rfl⟩
    case round =>
      obtain ⟨k, hk, rfl, rfl, hwr⟩ := hrel
      have hwr2 := hwr.symm
      subst hwr2
      by_cases hkn : k < M
      · have hkn' : (k : Int) < M := by omega
        have hk0 : (0 : Int) ≤ k := by omega
        have hb := HNB.out k hkn
        have hsb := sum_bound (f := N) (K := 8000000) (by omega) (j := k) fun i hi => HNB.out i (by omega)
        have hs1 : sumW N (k + 1) = sumW N k + N k := rfl
        obtain ⟨p1, q1, hA1, hp1, y0, hy0, hcy⟩ := h1p.ok.rd.get hkn
        simp only at hA1
        subst hA1
        rw [show ci64 pl = pl.map iV from rfl, List.getElem?_map, PG2.out k hkn] at hy0
        obtain rfl : iV (N k) = y0 := Option.some.inj hy0
        unfold iV at hcy
        obtain ⟨nk, hnk⟩ : ∃ q, N k = q := ⟨_, rfl⟩
        obtain ⟨sk, hsk⟩ : ∃ q, sumW N k = q := ⟨_, rfl⟩
        rw [hnk] at hb hs1 hcy
        rw [hsk] at hsb hs1 ⊢
        have HS1 := Lib.hid hs1
        have s1 : IntKind.i64.wrap (sk + nk) = sk + nk := by rw [IntKind.wrap_i64]; omega
        have g1 : decide (nk < 0) = false := decide_eq_false (by omega)
        have g2 : ¬ nk < 0 := by omega
        clear hy0 hnk hs1 hsk
        go_wp2
        go_roundw
        case rel => exact ⟨k + 1, by omega, by go_num, by rw [HS1.out], by first | rfl | trivial⟩
        case measure => simp [intOf]; omega
      · obtain rfl : k = M := by omega
        have hsP := sum_bound (f := N) (K := 8000000) (by omega) (j := k) HNB.out
        obtain ⟨P, hP⟩ : ∃ P, sumW N k = P := ⟨_, rfl⟩
        rw [hP] at hsP ⊢
        have HP := Lib.hid hP
        have HV := Lib.hid h1p
        clear hP
        go_wp2_with fail
        go_loopw [8, 10] (fun s v wr => ∃ i : Nat, i ≤ x.n ∧ v = .int .i64 i ∧ s = .int .i64 (P + sumW U i) ∧ Below v4.heap.size v4 wr) (fun _ v _ => x.n - (intOf v).toNat)
        case atStart => exact ⟨0, Nat.zero_le _, rfl, by simp [sumW], Below.refl _ _⟩
        case round =>
          obtain ⟨i, hi, rfl, rfl, hbel⟩ := hrel
          have e0 := (bg.below hbel).c0
          have e1 := (bg.below hbel).c1
          by_cases hin : i < x.n
          · have hin' : (i : Int) < x.n := by omega
            have hi0 : (0 : Int) ≤ i := by omega
            have hb := HUB.out i hin
            have hsb := sum_bound (f := U) (K := 1000000) (by omega) (j := i) fun i hi => HUB.out i (by omega)
            have hs1 : sumW U (i + 1) = sumW U i + U i := rfl
            obtain ⟨p1, q1, hA1, hp1, y0, hy0, hcy0⟩ := h1.ok.rd.get hin
            simp only at hA1
            have hcy := (hbel.cell (p := ⟨p1, q1 + i, none⟩) hp1).trans hcy0
            rw [show ci64 ul = ul.map iV from rfl, List.getElem?_map, UG2.out i hin] at hy0
            obtain rfl : iV (U i) = y0 := Option.some.inj hy0
            unfold iV at hcy
            obtain ⟨nk, hnk⟩ : ∃ q, U i = q := ⟨_, rfl⟩
            obtain ⟨sk, hsk⟩ : ∃ q, sumW U i = q := ⟨_, rfl⟩
            rw [hnk] at hb hs1 hcy
            rw [hsk] at hsb hs1 ⊢
            have HS1 := Lib.hid hs1
            have HNK := Lib.hid hnk
            have s1 : IntKind.i64.wrap (P + sk + nk) = P + sk + nk := by rw [IntKind.wrap_i64]; omega
            have g1 : decide (nk < 0) = false := decide_eq_false (by omega)
            have g2 : ¬ nk < 0 := by omega
            obtain ⟨p2, q2, y, hAx, hgy, hp2, hcx0, hky⟩ := gr_get (A := x.A) (n := x.n) (c := x.c) (t := x.t) hx rfl hin
            have hcx := (hbel.cell (p := ⟨p2, q2 + i, none⟩) hp2).trans hcx0
            have hyl : y.n = k := by
              have h1 := hky.len
              have h2 := (may_row HB0.out (b := i) (by rw [HGL.out]; exact hin)).1
              have h3 : x.g.getD i [] = y.zs := hgy
              rw [← h3, List.getD_eq_getElem?_getD, List.getElem?_eq_getElem (by rw [HGL.out]; exact hin)] at h1
              simp only [Option.getD_some] at h1
              omega
            have HGY := Lib.hid (show x.g.getD i [] = y.zs from hgy)
            have hkyl := hky.len
            have HYL := Lib.hid hkyl
            have ty := Nat.le_trans hky.cap hky.top
            unfold maxLen at ty
            rw [hAx] at e0
            subst hA1
            have HAx := Lib.hid hAx
            clear hy0 hnk hs1 hsk hcy0 hcx0 hgy hkyl hAx
            go_wp2_with fail
            obtain ⟨wo, rfl⟩ : ∃ wo, wo = wr := ⟨_, rfl⟩
            go_loopw [11] (fun v wr => ∃ j : Nat, j ≤ k ∧ v = .int .i64 j ∧ Below wo.heap.size wo wr) (fun v _ => k - (intOf v).toNat)
            case atStart => exact ⟨0, Nat.zero_le _, rfl, Below.refl _ _⟩
            case round =>
              obtain ⟨j, hj, rfl, hbj⟩ := hrel
              have hj0 : (0 : Int) ≤ j := by omega
              by_cases hjk : j < k
              · have hjk' : (j : Int) < k := by omega
                have hjy : (j : Int) < y.n := by omega
                have hjy2 : j < y.n := by omega
                have hbV := hbel.trans (hbj.mono hbel.size)
                obtain ⟨p3, q3, hA3, hp3, z0, hz0, hcz0⟩ := HV.out.ok.rd.get hjk
                simp only at hA3
                rw [show ci64 pl = pl.map iV from rfl, List.getElem?_map, PG2.out j hjk] at hz0
                obtain rfl : iV (N j) = z0 := Option.some.inj hz0
                unfold iV at hcz0
                have hcz := (hbV.cell (p := ⟨p3, q3 + j, none⟩) hp3).trans hcz0
                obtain ⟨p4, q4, hA4, hp4, t0, ht0, hct0⟩ := hky.rd.get hjy2
                have hjl : j < y.zs.length := by rw [HYL.out]; exact hjy2
                rw [ci64_get _ _ hjl] at ht0
                obtain rfl : iV y.zs[j] = t0 := Option.some.inj ht0
                unfold iV at hct0
                have hct := (hbV.cell (p := ⟨p4, q4 + j, none⟩) hp4).trans hct0
                have hgj : y.zs[j] = gG x.g i j := by
                  have h5 := row_at hx hin HGY.out hjl
                  rw [List.getElem?_eq_getElem hjl] at h5
                  exact Option.some.inj h5
                have hcv := hcov.out i j hjk
                rw [HNK.out, ← hgj] at hcv
                have hNb := HNB.out j hjk
                have hzb := hky.fit _ (List.getElem_mem hjl)
                obtain ⟨nj, hnj⟩ : ∃ q, N j = q := ⟨_, rfl⟩
                obtain ⟨zj, hzj⟩ : ∃ q, y.zs[j] = q := ⟨_, rfl⟩
                rw [hnj] at hcz hcv hNb
                rw [hzj] at hct hcv hzb
                have s2 : IntKind.i64.wrap (nk + nj) = nk + nj := by rw [IntKind.wrap_i64]; omega
                have g3 : decide (nk + nj < zj) = false := decide_eq_false (by omega)
                have g4 : ¬ (nk + nj < zj) := by omega
                have d0 := (bg.below hbV).c0
                have d1 := (hbj.cell (p := ⟨p2, q2 + i, none⟩) (by have := hbel.size; show p2 < wo.heap.size; omega)).trans hcx
                have d2 := (hbj.cell (p := ⟨p1, q1 + i, none⟩) (by have := hbel.size; show p1 < wo.heap.size; omega)).trans hcy
                rw [HAx.out] at d0
                rw [hA4] at d1
                subst hA3
                have HA4 := Lib.hid hA4
                clear hz0 hcz0 ht0 hct0 hgj hjl hnj hzj hA4 e0 hcx hcy
                go_wp2_with fail
                refine wp_region_ord (S := fun w' => w'.cell? ⟨w.heap.size, 0, none⟩ = some (.slice (some ⟨p2, q2, none⟩) x.n x.c) ∧ w'.cell? ⟨p2, q2 + i, none⟩ = some (.slice (some ⟨p4, q4, none⟩) y.n y.c) ∧ w'.cell? ⟨p1, q1 + i, none⟩ = some (.int .i64 nk) ∧ w'.cell? ⟨p3, q3 + j, none⟩ = some (.int .i64 nj) ∧ w'.cell? ⟨p4, q4 + j, none⟩ = some (.int .i64 zj)) [(0, true), (1, true), (2, true), (3, true), (4, true), (5, true), (6, true), (7, true), (8, true), (9, true), (10, true), (11, true), (12, true), (13, true), (14, true), (15, true), (16, true), (17, true)] default (by kernel_rfl) (by kernel_rfl) (by kernel_rfl) ⟨d0, d1, d2, hcz, hct⟩ ?_
                simp only [getOrd, nth]
                repeat (first | (refine ordS (by rfl) ?_; simp only [Act.put, List.setIfInBounds_toArray, List.set_cons_zero, List.set_cons_succ]) | (refine ordN (by rfl) ?_; simp only [Act.put, List.setIfInBounds_toArray, List.set_cons_zero, List.set_cons_succ]) | (refine ordQ (v := ?_) (by rfl) (fun _ hSw => ?_) ?_; rotate_left; (focus ((have hS1 := hSw.1); (have hS2 := hSw.2.1); (have hS3 := hSw.2.2.1); (have hS4 := hSw.2.2.2.1); (have hS5 := hSw.2.2.2.2); clear hSw; go_simp; (first | done | with_reducible rfl))); simp only [Act.put, List.setIfInBounds_toArray, List.set_cons_zero, List.set_cons_succ]))
                refine ordE ?_
                have hbj2 : Below wo.heap.size wo wr.drew := hbj.drew
                go_wp2
                go_roundw
                case rel => exact ⟨j + 1, by omega, by go_num, hbj2⟩
                case measure => simp [intOf]; omega
              · obtain rfl : j = k := by omega
                have hbV := hbel.trans (hbj.mono hbel.size)
                have HN : Hid (P + sumW U (i + 1) = P + sk + nk) := Lib.hid (by rw [HS1.out]; omega)
                go_wp2
                go_roundw
                case rel => exact ⟨i + 1, by omega, by go_num, by rw [HN.out], hbV⟩
                case measure => simp [intOf]; omega

          · obtain rfl : i = x.n := by omega
            clear e0 e1
            have hB := hB.trans (hbel.mono hB.size)
            have hxr := hx.below hbel
            have bgr := bg.below hbel
            have hf : P + sumW U x.n = a0 := by rw [← HP.out, ← hsum.out]; omega
            rw [hf]
            clear hf
            have eg0 := bgr.c0
            have eg1 := bgr.c1
            have hc := alive10_any wr
            go_wp2_with fail
            clear eg0 eg1
            refine hc.mono ?_
            rintro e v5 ⟨rfl, hb⟩
            clear hc
            replace hxr := hxr.below hb
            replace bgr := bgr.below hb
            replace hB := hB.trans (hb.mono hB.size)
            clear hb
            have eg0 := bgr.c0
            have eg1 := bgr.c1
            have hc := wmay_any x k v5 hxr (by omega) (by omega)
            rw [HB0.out] at hc
            go_wp2_with fail
            clear eg0 eg1
            refine hc.mono ?_
            rintro e v6 ⟨rfl, hb⟩
            clear hc
            replace hxr := hxr.below hb
            replace bgr := bgr.below hb
            replace hB := hB.trans (hb.mono hB.size)
            clear hb
            have eg0 := bgr.c0
            have eg1 := bgr.c1
            go_wp2
            go_ret
            exact ⟨rfl, hB⟩

theorem own : ownKnob Try.prog.godebug = none := by kernel_rfl
theorem laidOut : laidOutB Try.prog = true := by kernel_rfl

set_option maxRecDepth 100000 in
theorem lifted (os : Os) (started : os.Started) (H : Type) (enc : TypeId × Value → H) :
    ReturnsInHanded {} Try.checked os 3 .any (Rows.weightsProvedSpec.pre6 enc Try.prog Try.f3 Rows.weightsProvedRow.domain false) (Rows.weightsProvedSpec.post enc Try.prog Try.f3 false true false false) := by
  refine returnsInHanded_of_change (C := Try.checked) own started (by kernel_rfl) Try.func3
    (ChangeSpec.witness6 (enc := enc) (C := Try.checked) false ⟨#[], #[.agg #[.slice none 0 0, .int .i64 0]], []⟩ 8 (by kernel_rfl) (by kernel_rfl) (by kernel_rfl) (by kernel_rfl)) ?_
  intro W base args ds gs before hval0 hW hcnd _
  have hval : ∀ (j : Nat) t v, Try.f3.params[j]? = some t → args[j]? = some v → Value.okWide Try.prog W .any base t v := hval0
  have hW' := hW
  obtain ⟨p, q, hA0, hV, rfl, hfz, hnd⟩ := hW
  have hA : DataW.TrodAll enc Try.prog W 0 (fun _ => true) true Try.f3.params.toList args.toList ds p := hA0
  rw [Try.params3] at hA hval
  obtain ⟨v0, vs0, d0, ds0, p0, q0, hargs, rfl, rfl, h0, r0⟩ := trodAll_cons hA
  obtain ⟨rfl, rfl, rfl⟩ := trodAll_nil r0
  obtain rfl : args = #[v0] := by cases args; simp_all
  obtain ⟨u0, m0, rfl, k0, a0, b0⟩ := arg_gr Try.underlying24 (by kernel_rfl) (by kernel_rfl) Try.underlying22 Try.underlying3 Try.underlying28 (by kernel_rfl) Try.underlying3 (by kernel_rfl) (hval 0 24 v0 rfl rfl) h0
  have hwalk : Calls Try.prog 3 #[.agg #[u0.v, .int .i64 m0]] W fun e w' => e = .returned (.bool true) ∧ Below W.heap.size W w' := walk u0 m0 W k0 a0 b0
  refine hwalk.mono fun e W' ⟨he, hg⟩ => ?_
  subst he
  exact ⟨_, rfl, law_post laidOut (by kernel_rfl) hW' rfl rfl (by kernel_rfl) Try.underlying4 hg⟩

theorem over : Rows.weightsProvedRow.holds Try.pinned (OpenSpec.ofChange Rows.weightsProvedSpec) :=
  OpenClaim.holds_of_wide 3 Try.f3 rfl rfl rfl rfl rfl rfl rfl ⟨rfl, rfl, rfl, rfl, rfl⟩ rfl rfl rfl rfl rfl (by kernel_rfl) Try.func3 (by kernel_rfl)
    (of_decide_eq_true (by kernel_rfl)) (by unfold Func.isWrapper; first | (rw [if_pos (by decide +kernel)]; kernel_rfl) | (rw [if_neg (by decide +kernel)]; exact ⟨rfl, rfl⟩))
    (fun os started H enc _ => lifted os started H enc)

theorem proved : Rows.WeightsProvedSaid :=
  over

end Go.Proofs.Ytiaoplghaigclaa.weightsProved
