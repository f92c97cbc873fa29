/-
  The contract of package firsts: the walk of First.
-/
import Derived.Test.YtecgakfblhiiaaaFiWb
namespace Go.Proofs.Ytecgakfblhiiaaa
open Go.RowKit
set_option linter.unusedVariables false

theorem all_pow (M : Nat) (h : M ≤ 8) : wrap64 (wrap64 (2 ^ M) - 1) = ((2 ^ M - 1 : Nat) : Int) := by
  have h1 : (2 : Int) ^ M = ((2 ^ M : Nat) : Int) := by simp
  have h2 : 2 ^ M ≤ 2 ^ 8 := Nat.pow_le_pow_right (by omega) h
  have h3 := Nat.one_le_two_pow (n := M)
  rw [h1]
  generalize 2 ^ M = P at *
  unfold wrap64
  omega
set_option maxRecDepth 100000 in
set_option maxHeartbeats 1000000 in
theorem fhand_any (x : Gr) (M : Nat) (y : Ls) (b : Nat) (F : Nat → Int) (w : World) (hx : x.Ok w) (hy : y.Ok w) (hmay : mayF x.g M y.zs = true) (ht : TbAt w b F) (hsay : TbSays x.g M y.zs F 0) :
    Calls Try.prog 18 #[x.v, y.v, .int .i64 (bestV (gG x.g) M x.g.length), .int .i64 ((2 ^ M - 1 : Nat) : Int), .func (.func 19) #[.pointer (some ⟨b, 0, none⟩)] #[]] w fun e w' => ∃ A n c, e = .returned (.slice A n c) ∧ OwnI w' w.heap.size ⟨A, n, c, firstE x.g M y.zs⟩ ∧ Below w.heap.size w w' := by
  obtain ⟨i0, hi0, hz0, hz1, hz2⟩ := info_parts infoWe_int
  obtain ⟨hm1, hord⟩ := mayF_iff.1 hmay
  have HMAYF := Lib.hid hmay
  have HMAY := Lib.hid hm1
  have HORD := Lib.hid hord
  have HSAY := Lib.hid hsay
  obtain ⟨c1, hM8, c3⟩ := may_m hm1
  have HGL := Lib.hid hx.glen
  have HYL := Lib.hid hy.len
  have hyl : y.n = x.n := by have := (ordB_iff.1 hord).1; rw [hy.len, hx.glen] at this; exact this
  have hn8 : x.n ≤ 8 := by rw [hx.glen] at c3; exact c3
  have hy8 : y.n ≤ 8 := by omega
  have HYX := Lib.hid hyl
  have hP256 : 2 ^ M ≤ 256 := Nat.pow_le_pow_right (n := 2) (by omega) hM8
  have HP256 := Lib.hid hP256
  have HB : Hid (∀ q s, 0 ≤ hadO (gG x.g) M ((whoN y.zs).drop q) s ∧ hadO (gG x.g) M ((whoN y.zs).drop q) s ≤ 8000000) := Lib.hid fun q s => by
    obtain ⟨h1, h2⟩ := drop_ord (p := q) hord
    exact hadO_bound hm1 h1 h2 s
  have HST0 := Lib.hid (stp_start hmay)
  obtain ⟨a0, ha0⟩ : ∃ q, bestV (gG x.g) M x.g.length = q := ⟨_, rfl⟩
  obtain ⟨s0, hs0⟩ : ∃ q, 2 ^ M - 1 = q := ⟨_, rfl⟩
  obtain ⟨FL, hFL⟩ : ∃ q, firstE x.g M y.zs = q := ⟨_, rfl⟩
  rw [ha0, hs0] at HST0
  rw [ha0, hs0, hFL]
  have HFL := Lib.hid hFL
  clear hm1 hord hmay c1 c3 hyl hP256 ha0 hs0 hsay hFL
  have hv : x.v = .slice x.A x.n x.c := rfl
  have hv2 : y.v = .slice y.A y.n y.c := rfl
  rw [hv, hv2]
  clear hv hv2
  go_enter Try.func18, Try.ntmps18
  go_wp2_with (at_make; go_must (refine wpList_mk _ rfl _ _ 25 rfl w.heap.size 3 i0 _ Try.underlying25 hi0 hz0 hz1 rfl .i64 .i64 _ _ x.n rfl rfl rfl rfl ?mk2 ?mk3 ?mk4 ?_))
  case mk2 => rw [hz2]; omega
  case mk3 => simp only [maxLen]; omega
  case mk4 => exact Nat.le_refl _
  intro w1 ho1 hb1
  have hO1 : OwnI w1 w.heap.size ⟨some ⟨w.heap.size, 0, none⟩, x.n, x.n, List.replicate x.g.length 0⟩ := by
    refine ⟨?_, fun z hz => ?_⟩
    · show Own w1 w.heap.size _ _ x.n x.n (ci64 _)
      rw [HGL.out]
      have e : ci64 (List.replicate x.n 0) = List.replicate x.n (.int .i64 0) := by simp [ci64, iV]
      rw [e]; exact ho1
    · rw [(List.mem_replicate.1 hz).2]; omega
  clear ho1
  go_wp2_with fail
  go_loopw [2, 3, 21] (fun av sv v wr => ∃ (p s : Nat) (a : Int) (H : List Int), p ≤ y.n ∧ v = .int .i64 p ∧ av = .int .i64 a ∧ sv = .int .i64 s ∧ Hid (StP x.g M y.zs p s H a) ∧ OwnI wr w.heap.size ⟨some ⟨w.heap.size, 0, none⟩, x.n, x.n, H⟩ ∧ Below w.heap.size w wr) (fun _ _ v _ => y.n - (intOf v).toNat)
  case atStart => exact ⟨0, s0, a0, _, Nat.zero_le _, rfl, rfl, rfl, HST0, hO1, hb1⟩
  case round =>
    clear hO1 hb1
    obtain ⟨p, s, a, H, hp, rfl, rfl, rfl, hst, hO, hB⟩ := hrel
    by_cases hpn : p < y.n
    · have hpn' : (p : Int) < y.n := by omega
      have hp0 : (0 : Int) ≤ p := by omega
      have hpl : p < y.zs.length := by rw [HYL.out]; exact hpn
      obtain ⟨p1, q1, hA1, hp1, y0, hy0', hcy0⟩ := hy.rd.get hpn
      rw [ci64_get _ _ hpl] at hy0'
      obtain rfl : iV y.zs[p] = y0 := Option.some.inj hy0'
      unfold iV at hcy0
      obtain ⟨v, hv1, hv2, hv3, hv4⟩ := who_at HORD.out hpl
      rw [hv1] at hcy0
      have hvx : v < x.n := by rw [← HGL.out]; exact hv2
      have hvx' : (v : Int) < x.n := by omega
      have hv0 : (0 : Int) ≤ v := by omega
      obtain ⟨p2, q2, u, hAx, hut, hgy, hp2, hcx0, hku0⟩ := hx.get hvx
      replace hcx0 : w.cell? ⟨p2, q2 + v, none⟩ = some (.slice u.A u.n u.c) := hcx0
      obtain ⟨r1, r2⟩ := row_gG HMAY.out hv2 hgy
      have hun : u.n = M := by have := hku0.len; omega
      have HV3 := Lib.hid hv3
      have hcy := (hB.cell (p := ⟨p1, q1 + p, none⟩) hp1).trans hcy0
      have hcx := (hB.cell (p := ⟨p2, q2 + v, none⟩) hp2).trans hcx0
      have ha := hst.out.a_
      have hab : 0 ≤ a ∧ a ≤ 8000000 := by rw [ha]; exact HB.out _ _
      have hs2 := hst.out.s_
      have hs256 : s < 256 := Nat.lt_of_lt_of_le hs2 HP256.out
      have hct := fleast_any u b p F (hadO (gG x.g) M ((whoN y.zs).drop (p + 1))) (gG x.g v) a s M wr (ht.below hB) (hku0.below hB) hun hM8 hs2 (by omega) r2 (fun s hs => HSAY.out p s (Nat.zero_le _) hpl hs) (fun s _ => HB.out _ s) hab
      obtain ⟨q, hq⟩ : ∃ q, leastF (gG x.g v) (hadO (gG x.g) M ((whoN y.zs).drop (p + 1))) a s M = q := ⟨_, rfl⟩
      have hst2 := stp_step HORD.out hst.out hM8 hv3 q hq
      rw [hq] at hct
      have HQ := Lib.hid hq
      have HST2 := Lib.hid hst2
      have HUN := Lib.hid hun
      have HR2 := Lib.hid r2
      have HU := Lib.hid hku0
      rw [hA1, hAx]
      have HA := Lib.hid hA1
      have HAX := Lib.hid hAx
      clear hy0' hcy0 hcx0 hku0 hgy hv1 hv2 hv3 hv4 hA1 hAx r1 r2 hq hst2 hun hut ha hst hs2
      go_wp2_with fail
      refine hct.mono ?_
      rintro e w2 ⟨rfl, hw2⟩
      replace hw2 := hw2.symm
      subst hw2
      clear hct
      have hfr := hO.own.free (show 0 < x.n by omega) v
      obtain ⟨vo, hvo⟩ : ∃ q, wr.cell? ⟨w.heap.size, v, none⟩ = some q := by
        have := hO.own.cell (j := v) hvx
        exact ⟨_, this.trans (List.getElem?_eq_getElem (by have h5 : (ci64 H).length = x.n := hO.own.len; rw [h5]; exact hvx))⟩
      have hO2 := hO.putW (k := v) (z := optI q) (show 0 < x.n by omega) (by
        cases q with
        | none => simp only [optI]; omega
        | some k => have := (least_some HQ.out).1; simp only [optI]; omega)
      have hB2 := hB.setCell (p := ⟨w.heap.size, v, none⟩) (Nat.le_refl _) (.int .i64 (optI q))
      cases q with
      | none =>
        rw [show optI none = -1 from rfl] at hO2 hB2 HST2 ⊢
        clear hO hB hab
        go_wp2
        go_roundw
        case rel => exact ⟨p + 1, s, a, _, by omega, by go_num, rfl, rfl, HST2, hO2, hB2⟩
        case measure => simp [intOf]; omega
      | some k =>
        rw [show optI (some k) = (k : Int) from rfl] at hO2 hB2 HST2 ⊢
        obtain ⟨k1, k2, k3⟩ := least_some HQ.out
        have hkl : k < u.zs.length := by have h1 := HU.out.len; have h2 := HUN.out; omega
        obtain ⟨p4, q4, hA4, hp4, t0, ht0, hct0⟩ := HU.out.rd.get (show k < u.n by have h2 := HUN.out; omega)
        rw [ci64_get _ _ hkl] at ht0
        obtain rfl : iV u.zs[k] = t0 := Option.some.inj ht0
        unfold iV at hct0
        obtain ⟨g1, g2⟩ := HR2.out k hkl
        rw [g1] at hct0
        have hct := (hB2.cell (p := ⟨p4, q4 + k, none⟩) hp4).trans hct0
        have hk8 : k < 8 := by omega
        have hlh := wrap_pow k hk8
        have hband := and_not s k hs256 hk8
        rw [← hlh, k2, if_pos rfl] at hband
        have hkn' : (k : Int) < u.n := by have h2 := HUN.out; omega
        have hk0 : (0 : Int) ≤ k := by omega
        have gk : ((k : Int) != -1) = true := by rw [bne_iff_ne]; omega
        have HST3 : Hid (StP x.g M y.zs (p + 1) (s ^^^ 2 ^ k) (H.set v (k : Int)) (a - gG x.g v k)) := Lib.hid HST2.out
        obtain ⟨z, hz⟩ : ∃ q, gG x.g v k = q := ⟨_, rfl⟩
        rw [hz] at hct HST3 g2
        obtain ⟨o, ho⟩ : ∃ q, s ^^^ 2 ^ k = q := ⟨_, rfl⟩
        rw [ho] at hband HST3
        have s1 : IntKind.i64.wrap (a - z) = a - z := by rw [IntKind.wrap_i64]; omega
        rw [hA4] at hcx ⊢
        have HA4 := Lib.hid hA4
        clear hO hB hab k1 k2 k3 ht0 hct0 g1 hlh hz ho hA4 HST2
        go_wp2
        go_roundw
        case rel => exact ⟨p + 1, o, a - z, _, by omega, by go_num, rfl, rfl, HST3, hO2, hB2⟩
        case measure => simp [intOf]; omega
    · obtain rfl : p = y.n := by omega
      have HR : Hid (H = FL) := Lib.hid (by
        rw [← HFL.out]
        refine stp_end HMAYF.out (s := s) (a := a) ?_
        rw [HYL.out]; exact hst.out)
      rw [HR.out] at hO
      clear hst
      go_wp2
      go_ret
      exact ⟨_, _, _, rfl, hO, hB⟩

set_option maxRecDepth 100000 in
set_option maxHeartbeats 1000000 in
theorem pfirstC : FirstC 10 := by
  intro x m y w hx hm1 hm2 hy
  have hmf : ∀ (fn : Fn) (first cap : Array Value) (w : World), (Instr.makeFunc fn first cap).run Try.prog w = .ok (.func fn first cap) w := fun _ _ _ _ => rfl
  have HGL := Lib.hid hx.glen
  have HYL := Lib.hid hy.len
  have hcb := pbestC x m w hx hm1 hm2
  obtain ⟨B, hB0⟩ : ∃ B, mayF x.g m y.zs = B := ⟨_, rfl⟩
  have HB := Lib.hid hB0
  have HBAD : Hid (B = false → fErr x.g m y.zs = 1 ∧ firstE x.g m y.zs = []) := Lib.hid fun h => fi_bad (by rw [hB0]; exact h)
  obtain ⟨E, hE⟩ : ∃ q, fErr x.g m y.zs = q := ⟨_, rfl⟩
  obtain ⟨FL, hFL⟩ : ∃ q, firstE x.g m y.zs = q := ⟨_, rfl⟩
  rw [hE, hFL] at HBAD ⊢
  have HE := Lib.hid hE
  have HFL := Lib.hid hFL
  have hv : x.v = .slice x.A x.n x.c := rfl
  have hv2 : y.v = .slice y.A y.n y.c := rfl
  have HV := Lib.hid hv
  have HV2 := Lib.hid hv2
  rw [hv] at hcb ⊢
  rw [hv2]
  clear hB0 hE hFL hv hv2
  cases hW : mayW x.g m with
  | false =>
    obtain ⟨e1, e2, e3, e4⟩ := we_bad hW
    rw [e1, e2] at hcb
    have HF := Lib.hid (HBAD.out (by rw [← HB.out, mayF, hW]; rfl))
    clear hW e1 e2 e3 e4
    go_enter Try.func10, Try.ntmps10
    go_wp2_with fail
    refine hcb.mono ?_
    rintro e w1 ⟨rfl, hb1⟩
    clear hcb
    go_wp2
    go_ret2
    exact ⟨none, 0, 0, by rw [HF.out.1]; rfl, by rw [HF.out.2]; exact OwnI.nil _ _, hb1⟩
  | true =>
    obtain ⟨M, rfl⟩ : ∃ M : Nat, m = M := ⟨m.toNat, by have := (mayW_iff.1 hW).1; omega⟩
    obtain ⟨hM1, hM8, hx8⟩ := may_m hW
    rw [HGL.out] at hx8
    rw [(we_ok hW).1, (we_ok hW).2.1] at hcb
    have HW := Lib.hid hW
    clear hW
    obtain ⟨a0, ha0⟩ : ∃ q, bestV (gG x.g) M x.g.length = q := ⟨_, rfl⟩
    rw [ha0] at hcb
    have HA0 := Lib.hid ha0
    clear ha0
    go_enter Try.func10, Try.ntmps10
    go_wp2_with fail
    refine hcb.mono ?_
    rintro e w1 ⟨rfl, hb1⟩
    clear hcb
    have hch := fhas_any y x.n w1 (hy.below hb1) hx8
    obtain ⟨β, hβ⟩ : ∃ q, ordB y.zs x.n = q := ⟨_, rfl⟩
    rw [hβ] at hch
    have HO := Lib.hid hβ
    clear hβ
    go_wp2_with fail
    refine hch.mono ?_
    rintro e w2 ⟨rfl, hb2⟩
    clear hch
    have hB2 := hb1.trans (hb2.mono hb1.size)
    clear hb1 hb2
    cases β with
    | false =>
      have HF := Lib.hid (HBAD.out (by rw [← HB.out, mayF, HGL.out, HO.out]; simp))
      go_wp2
      go_ret2
      exact ⟨none, 0, 0, by rw [HF.out.1]; rfl, by rw [HF.out.2]; exact OwnI.nil _ _, hB2⟩
    | true =>
      have hmay : mayF x.g M y.zs = true := mayF_iff.2 ⟨HW.out, by rw [HGL.out]; exact HO.out⟩
      have HMAY := Lib.hid hmay
      have HE0 : Hid (E = 0) := Lib.hid (by rw [← HE.out]; exact (fi_ok hmay).1)
      have hct := ftable_any x M y w2 (hx.below hB2) (hy.below hB2) hmay
      rw [HV.out, HV2.out] at hct
      have hp1 := all_pow M hM8
      obtain ⟨S, hS⟩ : ∃ q, 2 ^ M - 1 = q := ⟨_, rfl⟩
      rw [hS] at hp1 hct
      have HS := Lib.hid hS
      clear hS
      clear hmay
      go_wp2_with fail
      refine hct.mono ?_
      rintro e w3 ⟨rfl, ⟨F, ht, hsay⟩, hb3⟩
      clear hct
      have hB3 := hB2.trans (hb3.mono hB2.size)
      have hch := fhand_any x M y w2.heap.size F w3 (hx.below hB3) (hy.below hB3) HMAY.out ht hsay
      rw [HV.out, HV2.out, HA0.out, HFL.out, HS.out] at hch
      clear ht hsay hb3
      go_wp2_with fail
      refine hch.mono ?_
      rintro e w4 ⟨A, n, c, rfl, hO, hb4⟩
      clear hch
      have hB4 := hB3.trans (hb4.mono hB3.size)
      have hO4 := hO.mono hB3.size
      clear hO hb4
      go_wp2
      go_ret2
      exact ⟨_, _, _, by rw [HE0.out]; rfl, hO4, hB4⟩
end Go.Proofs.Ytecgakfblhiiaaa
