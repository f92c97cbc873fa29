/-
  The document's answer of layer 9: Few (all sets of items).
-/
import Derived.Test.YtdckoaljcklmhaaGreatDoorHaE
import Derived.Test.YtdckoaljcklmhaaGreatDoorRef06b
import Derived.Test.YtdckoaljcklmhaaGreatDoorMaP
namespace Go.Proofs.YtdckoaljcklmhaaGreatDoor
open Go.RowKit
set_option linter.unusedVariables false

theorem info9_int : (Tryz.prog.info? 3).map (fun i => (i.zero, i.size, i.bytes)) = some (some (.int .i64 0), 1, 8) := by kernel_rfl
theorem within_succ9 {g : List (List Int)} {s l : List Int} {j : Nat} (hj : j < s.length) : withinL g (s.take (j + 1)) l = withinL g (s.take j) l ++ if wantB (g.getD s[j].toNat []) l = true then [s[j]] else [] := by
  rw [withinL, withinL, List.take_succ_eq_append_getElem hj, List.filter_append]
  congr 1
  by_cases h : wantB (g.getD s[j].toNat []) l = true
  · rw [if_pos h]; simp only [List.filter_cons, List.filter_nil, h, if_true]
  · rw [if_neg h]; simp only [List.filter_cons, List.filter_nil, h]; rfl
theorem want_succ9 {w l : List Int} {j : Nat} (hj : j < w.length) : wantB (w.take (j + 1)) l = (wantB (w.take j) l && decide (w[j] ∈ l)) := by
  rw [wantB, wantB, List.take_succ_eq_append_getElem hj, List.all_append]; simp
theorem fewN_succ (g : List (List Int)) (m : Nat) (s : List Int) (N : Nat) : fewN g m s (N + 1) = if (fewB g s (partL m N) && betB (fewN g m s N) (partL m N)) = true then some (partL m N) else fewN g m s N := rfl
set_option maxRecDepth 100000 in
set_option maxHeartbeats 1000000 in
theorem rless_any (a b : Ls) (w : World) (ha : a.Ok w) (hb : b.Ok w) (hn : a.n = b.n) :
    Calls Tryz.prog 73 #[a.v, b.v] w fun e w' => e = .returned (.bool (lexB a.zs b.zs)) ∧ Below w.heap.size w w' := by
  have hard := ha.rd
  have hbrd := hb.rd
  have HAL := Lib.hid ha.len
  have HBL := Lib.hid hb.len
  have ta := Nat.le_trans ha.cap ha.top
  have hB := Below.refl w.heap.size w
  unfold maxLen at ta
  obtain ⟨aA, an, ac, al⟩ := a
  obtain ⟨bA, bn, bc, bl⟩ := b
  simp only at hn hard hbrd HAL HBL ta ⊢
  subst hn
  unfold Ls.v
  go_enter Tryz.func73, Tryz.ntmps73
  go_wp2_with fail
  go_loopw [5] (fun v wr => ∃ j : Nat, j ≤ an ∧ v = .int .i64 j ∧ Hid (al.take j = bl.take j) ∧ Below w.heap.size w wr) (fun v _ => an - (intOf v).toNat)
  case atStart => exact ⟨0, Nat.zero_le _, rfl, Lib.hid (by simp), Below.refl _ _⟩
  case round =>
    obtain ⟨j, hj, rfl, htk, hbel⟩ := hrel
    by_cases hjn : j < an
    · have hjn' : (j : Int) < an := by omega
      have hj0 : (0 : Int) ≤ j := by omega
      have hjl : j < al.length := by rw [HAL.out]; exact hjn
      have hjb : j < bl.length := by rw [HBL.out]; exact hjn
      obtain ⟨p1, q1, hA1, hp1, y0, hy0', hcy⟩ := hard.get hjn
      obtain ⟨p2, q2, hA2, hp2, y1, hy1', hcy1⟩ := hbrd.get hjn
      subst hA1 hA2
      rw [ci64_get _ _ hjl] at hy0'
      rw [ci64_get _ _ hjb] at hy1'
      obtain rfl : iV al[j] = y0 := Option.some.inj hy0'
      obtain rfl : iV bl[j] = y1 := Option.some.inj hy1'
      unfold iV at hcy hcy1
      have hat := fun hne => lexB_at j hjl hjb htk.out hne
      have htk2 : al[j] = bl[j] → al.take (j + 1) = bl.take (j + 1) := fun h => by
        rw [List.take_succ_eq_append_getElem hjl, List.take_succ_eq_append_getElem hjb, htk.out, h]
      obtain ⟨c, hc⟩ : ∃ c, al[j] = c := ⟨_, rfl⟩
      obtain ⟨d, hd⟩ : ∃ d, bl[j] = d := ⟨_, rfl⟩
      rw [hc] at hcy htk2
      rw [hd] at hcy1 htk2
      have hba : c ≠ d → lexB al bl = decide (c < d) := fun hne => by
        have h5 := hat (by rw [hc, hd]; exact hne)
        simp only [hc, hd] at h5
        exact h5
      have HBA := Lib.hid hba
      have HTK := Lib.hid htk2
      have d1 : ∀ w', Below w.heap.size w w' → w'.cell? ⟨p1, q1 + j, none⟩ = some (.int .i64 c) ∧ w'.cell? ⟨p2, q2 + j, none⟩ = some (.int .i64 d) := fun w' hb => ⟨(hb.cell (p := ⟨p1, q1 + j, none⟩) hp1).trans hcy, (hb.cell (p := ⟨p2, q2 + j, none⟩) hp2).trans hcy1⟩
      clear hy0' hy1' hat hc hd hba htk2 hcy hcy1 htk
      have hS : ∀ w', Below w.heap.size w w' → w'.cell? ⟨p1, q1 + j, none⟩ = some (.int .i64 c) ∧ w'.cell? ⟨p2, q2 + j, none⟩ = some (.int .i64 d) := fun w' hb => d1 _ hb
      go_wp2_with fail
      refine wp_region_ord (S := fun w' => w'.cell? ⟨p1, q1 + j, none⟩ = some (.int .i64 c) ∧ w'.cell? ⟨p2, q2 + j, none⟩ = some (.int .i64 d)) [(0, true), (1, true), (2, true), (3, true), (4, true), (5, true), (6, true), (7, true), (8, true)] default (by kernel_rfl) (by kernel_rfl) (by kernel_rfl) (hS _ (hbel.drew)) ?_
      simp only [getOrd, nth]
      obtain ⟨q1_0, hu0⟩ : ∃ q1_0, q1_0 = wr.drew := ⟨_, rfl⟩
      have b0 : Below w.heap.size w q1_0 := by rw [hu0]; exact (hbel.drew)
      rw [← hu0]
      clear hu0
      repeat (first | (refine ordS (by rfl) ?_; simp only [Act.put, List.setIfInBounds_toArray, List.set_cons_zero, List.set_cons_succ]) | (refine ordN (by rfl) ?_; simp only [Act.put, List.setIfInBounds_toArray, List.set_cons_zero, List.set_cons_succ]) | (refine ordQ (v := ?_) (by rfl) (fun _ hSw => ?_) ?_; rotate_left; (focus ((have hS1 := hSw.1); (have hS2 := hSw.2); clear hSw; go_simp; (first | done | with_reducible rfl))); simp only [Act.put, List.setIfInBounds_toArray, List.set_cons_zero, List.set_cons_succ]))
      refine ordE ?_
      replace hbel := b0
      clear hS b0
      by_cases had : c = d
      · have kne : (c != d) = false := by rw [had]; simp
        have HT2 : Hid (al.take (j + 1) = bl.take (j + 1)) := Lib.hid (HTK.out had)
        clear had HTK HBA
        go_wp2
        go_roundw
        case rel => exact ⟨j + 1, by omega, by go_num, HT2, hbel⟩
        case measure => simp [intOf]; omega
      · have kne : (c != d) = true := by rw [bne_iff_ne]; exact had
        obtain ⟨δ, hδ⟩ : ∃ δ, decide (c < d) = δ := ⟨_, rfl⟩
        have HFIN : Hid (lexB al bl = δ) := Lib.hid ((HBA.out had).trans hδ)
        clear had HTK HBA
        have hS : ∀ w', Below w.heap.size w w' → w'.cell? ⟨p1, q1 + j, none⟩ = some (.int .i64 c) ∧ w'.cell? ⟨p2, q2 + j, none⟩ = some (.int .i64 d) := fun w' hb => d1 _ hb
        go_wp2_with fail
        refine wp_region_ord (S := fun w' => w'.cell? ⟨p1, q1 + j, none⟩ = some (.int .i64 c) ∧ w'.cell? ⟨p2, q2 + j, none⟩ = some (.int .i64 d)) [(0, true), (1, true), (2, true), (3, true), (4, true), (5, true), (6, true), (7, true), (8, true), (9, true)] default (by kernel_rfl) (by kernel_rfl) (by kernel_rfl) (hS _ (hbel.drew)) ?_
        simp only [getOrd, nth]
        obtain ⟨q2_0, hu0⟩ : ∃ q2_0, q2_0 = q1_0.drew := ⟨_, rfl⟩
        have b0 : Below w.heap.size w q2_0 := by rw [hu0]; exact (hbel.drew)
        rw [← hu0]
        clear hu0
        repeat (first | (refine ordS (by rfl) ?_; simp only [Act.put, List.setIfInBounds_toArray, List.set_cons_zero, List.set_cons_succ]) | (refine ordN (by rfl) ?_; simp only [Act.put, List.setIfInBounds_toArray, List.set_cons_zero, List.set_cons_succ]) | (refine ordQ (v := ?_) (by rfl) (fun _ hSw => ?_) ?_; rotate_left; (focus ((have hS1 := hSw.1); (have hS2 := hSw.2); clear hSw; go_simp; (first | done | with_reducible rfl))); simp only [Act.put, List.setIfInBounds_toArray, List.set_cons_zero, List.set_cons_succ]))
        refine ordE ?_
        replace hbel := b0
        clear hS b0
        go_wp2
        go_ret
        exact ⟨ret_bool HFIN.out.symm, hbel⟩
    · obtain rfl : j = an := by omega
      have HFIN : Hid (lexB al bl = false) := Lib.hid (by
        have h5 := htk.out
        rw [List.take_of_length_le (by rw [HAL.out]; exact Nat.le_refl _), List.take_of_length_le (by rw [HBL.out]; exact Nat.le_refl _)] at h5
        rw [h5]; exact lexB_self _)
      clear htk
      go_wp2
      go_ret
      exact ⟨ret_bool HFIN.out.symm, hbel⟩
set_option maxRecDepth 100000 in
set_option maxHeartbeats 4000000 in
theorem rfew9 : FewC 28 := by
  intro x m u w hx hu hm1 hm2
  obtain ⟨uA, un, uc, ul⟩ := u
  have hck := rcheckG x m w hx hm1 hm2
  have hurd := hu.rd
  have HUL := Lib.hid hu.len
  have hucap := Nat.le_trans hu.cap hu.top
  have HGL := Lib.hid hx.glen
  have hxt := Nat.le_trans hx.cap hx.top
  unfold Ls.v
  simp only at hurd HUL hucap ⊢
  obtain ⟨β, hβ⟩ : ∃ β, checkG x.g m = β := ⟨_, rfl⟩
  have HC := Lib.hid hβ
  rw [show x.v = .slice x.A x.n x.c from rfl] at hck ⊢
  rw [hβ] at hck
  obtain ⟨i0, hi0, hz0, hz1, hz2⟩ := info_parts info9_int
  cases β
  · have hno : nearOk x.g m ul = false := by rw [nearOk, HC.out]; rfl
    have H1 := Lib.hid (near_err_bad hno)
    have H2 := Lib.hid (few_bad hno)
    clear hβ hno
    go_enter Tryz.func28, Tryz.ntmps28
    go_wp2_with fail
    refine hck.mono ?_
    rintro e w1 ⟨rfl, hb1⟩
    clear hck
    go_wp2
    go_ret3
    exact ⟨none, 0, 0, by rw [H1.out, H2.out.1]; rfl, by rw [H2.out.2]; exact OwnI.nil _ _, hb1⟩
  · obtain ⟨M, rfl⟩ : ∃ M : Nat, m = M := ⟨m.toNat, by have := (checkG_iff.1 HC.out).1; omega⟩
    have h8 : x.n ≤ 8 := by have := (checkG_iff.1 HC.out).2.2.1; rw [HGL.out] at this; exact this
    have hM8 : M ≤ 8 := by have := (checkG_iff.1 HC.out).2.1; omega
    have hri := fun w1 (hb : Below w.heap.size w w1) => rrises_any uA un uc ul x.n w1 (hurd.below hb) hucap
    obtain ⟨γ, hγ⟩ : ∃ γ, riseB ul x.n = γ := ⟨_, rfl⟩
    rw [hγ] at hri
    have hok : nearOk x.g M ul = γ := by rw [nearOk, HC.out, HGL.out, hγ]; rfl
    cases γ
    · have H1 := Lib.hid (near_err_bad hok)
      have H2 := Lib.hid (few_bad hok)
      clear hβ hγ hok
      go_enter Tryz.func28, Tryz.ntmps28
      go_wp2_with fail
      refine hck.mono ?_
      rintro e w1 ⟨rfl, hb1⟩
      have hri1 := hri w1 hb1
      clear hck hri
      go_wp2_with fail
      refine hri1.mono ?_
      rintro e w2 ⟨rfl, hb2⟩
      have hB2 := hb1.trans (hb2.mono hb1.size)
      clear hri1 hb2 hb1
      go_wp2
      go_ret3
      exact ⟨none, 0, 0, by rw [H1.out, H2.out.1]; rfl, by rw [H2.out.2]; exact OwnI.nil _ _, hB2⟩
    · have hrs : Rises x.g.length ul := by rw [HGL.out]; exact of_decide_eq_true hγ
      have HRS := Lib.hid hrs
      have hun8 : un ≤ 8 := by
        have h1 := rises_len hrs
        rw [HUL.out, HGL.out] at h1
        omega
      have H1 := Lib.hid (near_err hok)
      have HOK := Lib.hid hok
      obtain ⟨N, hN⟩ : ∃ N, 2 ^ M = N := ⟨_, rfl⟩
      have hN8 : N ≤ 256 := by rw [← hN]; exact Nat.pow_le_pow_right (by omega) hM8
      have hNi : ((2 : Int) ^ M) = (N : Int) := by rw [← hN]; simp
      have hw : wrap64 (2 ^ M) = (N : Int) := by rw [hNi]; unfold wrap64; omega
      have HN := Lib.hid hN
      clear hβ hγ hok hrs hNi hN
      go_enter Tryz.func28, Tryz.ntmps28
      go_wp2_with fail
      refine hck.mono ?_
      rintro e w1 ⟨rfl, hb1⟩
      have hri1 := hri w1 hb1
      clear hck hri
      go_wp2_with fail
      refine hri1.mono ?_
      rintro e w2 ⟨rfl, hb2⟩
      have hB2 := hb1.trans (hb2.mono hb1.size)
      clear hri1 hb2 hb1
      go_wp2_with fail
      go_loopw [9, 10, 11] (fun o f v wr => ∃ (p : Nat) (Ab : Option Addr) (nb cb : Nat) (FO : Bool) (bl : List Int), p ≤ N ∧ v = .int .i64 p ∧ o = .slice Ab nb cb ∧ f = .bool FO ∧ Hid (FO = (fewN x.g M ul p).isSome) ∧ Hid (bl = (fewN x.g M ul p).getD []) ∧ OwnI wr w.heap.size ⟨Ab, nb, cb, bl⟩ ∧ Below w.heap.size w wr) (fun _ _ v _ => N - (intOf v).toNat)
      case atStart => exact ⟨0, none, 0, 0, false, [], Nat.zero_le _, rfl, rfl, rfl, Lib.hid rfl, Lib.hid rfl, OwnI.nil _ _, hB2⟩
      case round =>
        obtain ⟨p, Ab, nb, cb, FO, bl, hpN, rfl, rfl, rfl, hFO, hbl, hOb, hB⟩ := hrel
        obtain ⟨wo, rfl⟩ : ∃ wo, wo = wr := ⟨_, rfl⟩
        clear hB2
        by_cases hlt : p < N
        · have hlt' : (p : Int) < N := by omega
          go_wp2
          try rw [hw]
          clear hw
          go_loopw [12, 13] (fun o v wr => ∃ (j : Nat) (A2 : Option Addr) (n2 c2 : Nat), j ≤ M ∧ v = .int .i64 j ∧ o = .slice A2 n2 c2 ∧ OwnI wr wo.heap.size ⟨A2, n2, c2, partL j p⟩ ∧ Below wo.heap.size wo wr) (fun _ v _ => M - (intOf v).toNat)
          case atStart => exact ⟨0, none, 0, 0, Nat.zero_le _, rfl, rfl, OwnI.nil _ _, Below.refl _ _⟩
          case round =>
            obtain ⟨j, A2, n2, c2, hj, rfl, rfl, hO, hB2⟩ := hrel
            have hlen := hO.len
            have hul := upto_len j fun i => p.testBit i
            have hn2 : n2 ≤ j := by
              have h3 : (partL j p).length = n2 := hlen
              unfold partL at h3
              omega
            clear hlen hul
            by_cases hjL : j < M
            · have hjL' : (j : Int) < M := by omega
              have hbit := bit_i64 p j (by omega)
              have hsnoc : Hid (partL (j + 1) p = partL j p ++ if p.testBit j = true then [(j : Int)] else []) := Lib.hid (upto_succ j _)
              obtain ⟨δ, hδ⟩ : ∃ δ, p.testBit j = δ := ⟨_, rfl⟩
              rw [hδ] at hbit hsnoc
              clear hδ
              cases δ
              · have hO2 : OwnI wr wo.heap.size ⟨A2, n2, c2, partL (j + 1) p⟩ := by rw [hsnoc.out]; simpa using hO
                clear hO hsnoc
                go_wp2
                go_roundw
                case rel => exact ⟨j + 1, A2, n2, c2, by omega, by go_num, rfl, hO2, hB2⟩
                case measure => simp [intOf]; omega
              · have hsz2 := hB2.size
                go_wp2_with (at_builtin; go_must (refine wpList_app1 wr rfl _ _ 22 rfl 3 i0 _ 8 Tryz.underlying22 hi0 hz0 hz1 hz2 rfl wo.heap.size A2 n2 c2 _ rfl hO.own 1 rfl rfl ?xx3 ?xx4 ?xx5 ?_))
                case xx3 => simp only [maxLen]; omega
                case xx4 => omega
                try case xx5 => exact hsz2
                intro A3 c3 w5 hown5 hbel5 hfr5 hat5
                have hO2 : OwnI w5 wo.heap.size ⟨A3, n2 + 1, c3, partL (j + 1) p⟩ := by
                  refine ⟨?_, fun z hz => ?_⟩
                  · show Own w5 wo.heap.size _ A3 (n2 + 1) c3 (ci64 (partL (j + 1) p))
                    rw [hsnoc.out, if_pos trivial, ci64_snoc6]; exact hown5
                  · have := (upto_rises (j + 1) fun i => p.testBit i).1 z hz; omega
                have hB3 := hB2.trans hbel5
                clear hown5 hbel5 hfr5 hat5 hO hsnoc
                go_wp2
                go_roundw
                case rel => exact ⟨j + 1, A3, n2 + 1, c3, by omega, by go_num, rfl, hO2, hB3⟩
                case measure => simp [intOf]; omega
            · obtain rfl : j = M := by omega
              have hsz := hB.size
              have hB3 := hB.trans (hB2.mono hsz)
              have hOb3 := hOb.below hB2
              have hOl : OwnI wr w.heap.size ⟨A2, n2, c2, partL j p⟩ := hO.mono hsz
              have HLN : Hid ((partL j p).length = n2) := Lib.hid hO.len
              have HST : Hid (fewN x.g j ul (p + 1) = if (fewB x.g ul (partL j p) && betB (fewN x.g j ul p) (partL j p)) = true then some (partL j p) else fewN x.g j ul p) := Lib.hid (fewN_succ _ _ _ _)
              obtain ⟨lp, hlp⟩ : ∃ l, partL j p = l := ⟨_, rfl⟩
              rw [hlp] at hOl HLN HST
              obtain ⟨ws, rfl⟩ : ∃ ws, ws = wr := ⟨_, rfl⟩
              clear hO hB2 hOb hlp hB hjL
              go_wp2_with fail
              go_loopw [14, 15] (fun o v wr => ∃ (i K : Nat), i ≤ un ∧ v = .int .i64 i ∧ o = .int .i64 K ∧ Hid (K = (withinL x.g (ul.take i) lp).length) ∧ K ≤ i ∧ wr = ws) (fun _ v _ => un - (intOf v).toNat)
              case atStart => exact ⟨0, 0, Nat.zero_le _, rfl, rfl, Lib.hid rfl, Nat.le_refl _, rfl⟩
              case round =>
                obtain ⟨i, K, hi, rfl, rfl, hK, hKi, rfl⟩ := hrel
                by_cases hin : i < un
                · have hin' : (i : Int) < un := by omega
                  have hi0' : (0 : Int) ≤ i := by omega
                  have hil : i < ul.length := by rw [HUL.out]; exact hin
                  obtain ⟨p1, q1, hA1, hp1, y0, hy0', hcy⟩ := (hurd.below hB3).get hin
                  subst hA1
                  rw [ci64_get _ _ hil] at hy0'
                  obtain rfl : iV ul[i] = y0 := Option.some.inj hy0'
                  unfold iV at hcy
                  have hrg := HRS.out.1 _ (List.getElem_mem hil)
                  rw [HGL.out] at hrg
                  have hsuc := within_succ9 (g := x.g) (l := lp) hil
                  obtain ⟨a, ha⟩ : ∃ a : Nat, ul[i] = a := ⟨ul[i].toNat, by omega⟩
                  rw [ha] at hcy hrg hsuc
                  rw [Int.toNat_natCast] at hsuc
                  have han : a < x.n := by omega
                  have han' : (a : Int) < x.n := by omega
                  have ha0 : (0 : Int) ≤ a := by omega
                  obtain ⟨p2, q2, v, hA2, _, hgv, hp2, hcv, hkv⟩ := (hx.below hB3).get han
                  rw [hgv] at hsuc
                  obtain ⟨vA, vn, vc, vl⟩ := v
                  unfold Ls.v at hcv
                  simp only at hcv hsuc
                  have hvrd := hkv.rd
                  have HVL := Lib.hid hkv.len
                  have tv := Nat.le_trans hkv.cap hkv.top
                  simp only at hvrd HVL tv
                  unfold maxLen at tv
                  have HSUC := Lib.hid hsuc
                  clear hy0' ha hsuc hgv hkv
                  rw [hA2]
                  go_wp2_with fail
                  clear hcy hcv
                  go_loop [17, 18] (fun o v => ∃ k : Nat, k ≤ vn ∧ v = .int .i64 k ∧ ∃ β, o = .bool β ∧ Hid (β = wantB (vl.take k) lp)) (fun _ v => vn - (intOf v).toNat)
                  case atStart => exact ⟨0, Nat.zero_le _, rfl, true, rfl, Lib.hid (by simp [wantB])⟩
                  case round =>
                    obtain ⟨k, hk, rfl, β, rfl, hβ⟩ := hrel
                    by_cases hkn : k < vn
                    · have hkn' : (k : Int) < vn := by omega
                      have hk0 : (0 : Int) ≤ k := by omega
                      have hkl : k < vl.length := by rw [HVL.out]; exact hkn
                      have hws := want_succ9 (l := lp) hkl
                      rw [← hβ.out] at hws
                      cases β
                      · have HN2 : Hid (false = wantB (vl.take (k + 1)) lp) := Lib.hid (by rw [hws]; rfl)
                        clear hws hβ
                        go_wp2
                        go_round
                        case rel => exact ⟨k + 1, by omega, by go_num, false, rfl, HN2⟩
                        case measure => simp [intOf]; omega
                      · obtain ⟨p3, q3, hA3, hp3, y0, hy0', hcy⟩ := hvrd.get hkn
                        subst hA3
                        rw [ci64_get _ _ hkl] at hy0'
                        obtain rfl : iV vl[k] = y0 := Option.some.inj hy0'
                        unfold iV at hcy
                        obtain ⟨b, hb⟩ : ∃ b, vl[k] = b := ⟨_, rfl⟩
                        rw [hb] at hcy hws
                        have hha := rhas_any A2 n2 c2 lp b wr hOl.own.rd (Nat.le_trans hOl.own.le hOl.own.cap)
                        obtain ⟨γ, hγ⟩ : ∃ γ, decide (b ∈ lp) = γ := ⟨_, rfl⟩
                        rw [hγ] at hha hws
                        have HN2 : Hid (γ = wantB (vl.take (k + 1)) lp) := Lib.hid (by rw [hws]; simp)
                        clear hy0' hb hws hγ hβ
                        go_wp2_with fail
                        refine hha.mono ?_
                        rintro e w5 ⟨rfl, rfl⟩
                        clear hha hcy
                        go_wp2
                        go_round
                        case rel => exact ⟨k + 1, by omega, by go_num, γ, rfl, HN2⟩
                        case measure => simp [intOf]; omega
                    · obtain rfl : k = vn := by omega
                      have hwb : β = wantB vl lp := by
                        have h5 := hβ.out
                        rwa [List.take_of_length_le (by rw [HVL.out]; exact Nat.le_refl _)] at h5
                      have hs2 : (withinL x.g (ul.take (i + 1)) lp).length = K + if β = true then 1 else 0 := by
                        rw [HSUC.out, List.length_append, ← hK.out, hwb]
                        split <;> rfl
                      have HS2 := Lib.hid hs2
                      clear hβ hwb HSUC hs2
                      cases β
                      · have HK2 : Hid (K = (withinL x.g (ul.take (i + 1)) lp).length) := Lib.hid (by rw [HS2.out]; simp)
                        clear hK HS2
                        go_wp2
                        go_roundw
                        case rel => exact ⟨i + 1, K, by omega, by go_num, rfl, HK2, by omega, trivial⟩
                        case measure => simp [intOf]; omega
                      · have HK2 : Hid (K + 1 = (withinL x.g (ul.take (i + 1)) lp).length) := Lib.hid (by rw [HS2.out]; simp)
                        clear hK HS2
                        go_wp2
                        go_roundw
                        case rel => exact ⟨i + 1, K + 1, by omega, by go_num, by go_num, HK2, by omega, trivial⟩
                        case measure => simp [intOf]; omega
                · obtain rfl : i = un := by omega
                  have HFB : Hid (fewB x.g ul lp = decide (n2 < K)) := Lib.hid (by
                    have h5 := hK.out
                    rw [List.take_of_length_le (by rw [HUL.out]; exact Nat.le_refl _)] at h5
                    rw [fewB, HLN.out, h5])
                  clear hK hin
                  -- no other one
                  by_cases hfb : n2 < K
                  · have hfb' : (n2 : Int) < K := by omega
                    have HFB2 : Hid (fewB x.g ul lp = true) := Lib.hid (by rw [HFB.out]; exact decide_eq_true hfb)
                    cases hfo : fewN x.g j ul p with
                    | none =>
                      obtain rfl : FO = false := by rw [hFO.out, hfo]; rfl
                      have HN3 : Hid (fewN x.g j ul (p + 1) = some lp) := Lib.hid (by rw [HST.out, HFB2.out, hfo]; rfl)
                      have HF3 : Hid (true = (fewN x.g j ul (p + 1)).isSome) := Lib.hid (by rw [HN3.out]; rfl)
                      have HB3 : Hid (lp = (fewN x.g j ul (p + 1)).getD []) := Lib.hid (by rw [HN3.out]; rfl)
                      clear hfo hFO hbl HFB HFB2 HST HN3
                      go_wp2
                      go_roundw
                      case rel => exact ⟨p + 1, A2, n2, c2, true, lp, by omega, by go_num, rfl, rfl, HF3, HB3, hOl, hB3⟩
                      case measure => simp [intOf]; omega
                    | some b0 =>
                      obtain rfl : FO = true := by rw [hFO.out, hfo]; rfl
                      obtain rfl : b0 = bl := by rw [hbl.out, hfo]; rfl
                      have HLB : Hid (b0.length = nb) := Lib.hid hOb3.len
                      have HS3 : Hid (fewN x.g j ul (p + 1) = if befB lp b0 = true then some lp else some b0) := Lib.hid (by rw [HST.out, HFB2.out, hfo]; rfl)
                      clear hfo hFO hbl HFB HFB2 HST
                      by_cases h1 : n2 < nb
                      · have h1' : (n2 : Int) < nb := by omega
                        have HN3 : Hid (fewN x.g j ul (p + 1) = some lp) := Lib.hid (by rw [HS3.out, if_pos (befB_iff.2 (.inl (by rw [HLN.out, HLB.out]; exact h1)))])
                        have HF3 : Hid (true = (fewN x.g j ul (p + 1)).isSome) := Lib.hid (by rw [HN3.out]; rfl)
                        have HB3 : Hid (lp = (fewN x.g j ul (p + 1)).getD []) := Lib.hid (by rw [HN3.out]; rfl)
                        clear HS3 HN3
                        go_wp2
                        go_roundw
                        case rel => exact ⟨p + 1, A2, n2, c2, true, lp, by omega, by go_num, rfl, rfl, HF3, HB3, hOl, hB3⟩
                        case measure => simp [intOf]; omega
                      · have h1' : ¬ (n2 : Int) < nb := by omega
                        by_cases h2 : n2 = nb
                        · have k2 : ((n2 : Int) == (nb : Int)) = true := by rw [beq_iff_eq]; omega
                          have k2' : (n2 == nb) = true := by rw [beq_iff_eq]; exact h2
                          have hls := rless_any ⟨A2, n2, c2, lp⟩ ⟨Ab, nb, cb, b0⟩ wr hOl.ok hOb3.ok h2
                          unfold Ls.v at hls
                          simp only at hls
                          obtain ⟨δ, hδ⟩ : ∃ δ, lexB lp b0 = δ := ⟨_, rfl⟩
                          have hbd : befB lp b0 = δ := by
                            rw [befB, HLN.out, HLB.out, decide_eq_false h1, decide_eq_true h2, hδ]; simp
                          rw [hδ] at hls
                          rw [hbd] at HS3
                          have H2 := Lib.hid h2
                          clear hδ hbd h2
                          go_wp2_with fail
                          refine hls.mono ?_
                          rintro e w7 ⟨rfl, hb7⟩
                          have hB7 := hB3.trans (hb7.mono hB3.size)
                          have hOl7 := hOl.below hb7
                          have hOb7 := hOb3.below hb7
                          clear hls hb7
                          cases δ
                          · have HN3 : Hid (fewN x.g j ul (p + 1) = some b0) := Lib.hid (by rw [HS3.out]; rfl)
                            have HF3 : Hid (true = (fewN x.g j ul (p + 1)).isSome) := Lib.hid (by rw [HN3.out]; rfl)
                            have HB3 : Hid (b0 = (fewN x.g j ul (p + 1)).getD []) := Lib.hid (by rw [HN3.out]; rfl)
                            clear HS3 HN3
                            go_wp2
                            go_roundw
                            case rel => exact ⟨p + 1, Ab, nb, cb, true, b0, by omega, by go_num, rfl, rfl, HF3, HB3, hOb7, hB7⟩
                            case measure => simp [intOf]; omega
                          · have HN3 : Hid (fewN x.g j ul (p + 1) = some lp) := Lib.hid (by rw [HS3.out]; rfl)
                            have HF3 : Hid (true = (fewN x.g j ul (p + 1)).isSome) := Lib.hid (by rw [HN3.out]; rfl)
                            have HB3 : Hid (lp = (fewN x.g j ul (p + 1)).getD []) := Lib.hid (by rw [HN3.out]; rfl)
                            clear HS3 HN3
                            go_wp2
                            go_roundw
                            case rel => exact ⟨p + 1, A2, n2, c2, true, lp, by omega, by go_num, rfl, rfl, HF3, HB3, hOl7, hB7⟩
                            case measure => simp [intOf]; omega
                        · have k2 : ((n2 : Int) == (nb : Int)) = false := by rw [beq_eq_false_iff_ne]; omega
                          have k2' : (n2 == nb) = false := by rw [beq_eq_false_iff_ne]; exact h2
                          have hbd : befB lp b0 = false := by
                            rw [befB, HLN.out, HLB.out, decide_eq_false h1, decide_eq_false h2]; rfl
                          have HN3 : Hid (fewN x.g j ul (p + 1) = some b0) := Lib.hid (by rw [HS3.out, hbd]; rfl)
                          have HF3 : Hid (true = (fewN x.g j ul (p + 1)).isSome) := Lib.hid (by rw [HN3.out]; rfl)
                          have HB3 : Hid (b0 = (fewN x.g j ul (p + 1)).getD []) := Lib.hid (by rw [HN3.out]; rfl)
                          clear HS3 HN3 hbd h2
                          go_wp2
                          go_roundw
                          case rel => exact ⟨p + 1, Ab, nb, cb, true, b0, by omega, by go_num, rfl, rfl, HF3, HB3, hOb3, hB3⟩
                          case measure => simp [intOf]; omega
                  · have hfb' : ¬ (n2 : Int) < K := by omega
                    have HN3 : Hid (fewN x.g j ul (p + 1) = fewN x.g j ul p) := Lib.hid (by rw [HST.out, HFB.out, decide_eq_false hfb]; rfl)
                    have HF3 : Hid (FO = (fewN x.g j ul (p + 1)).isSome) := Lib.hid (by rw [HN3.out]; exact hFO.out)
                    have HB3 : Hid (bl = (fewN x.g j ul (p + 1)).getD []) := Lib.hid (by rw [HN3.out]; exact hbl.out)
                    clear hFO hbl HFB HST HN3
                    go_wp2
                    go_roundw
                    case rel => exact ⟨p + 1, Ab, nb, cb, FO, bl, by omega, by go_num, rfl, rfl, HF3, HB3, hOb3, hB3⟩
                    case measure => simp [intOf]; omega
        · obtain rfl : p = N := by omega
          have HF : Hid (fewF x.g M ul = FO) := Lib.hid (by rw [fewF, HOK.out, Bool.true_and, Int.toNat_natCast, fewP, HN.out, hFO.out])
          have HE : Hid (fewE x.g M ul = bl) := Lib.hid (by rw [fewE, if_pos HOK.out, Int.toNat_natCast, fewP, HN.out, hbl.out])
          clear hFO hbl
          go_wp2
          try rw [hw]
          clear hw
          go_wp2
          go_ret3
          exact ⟨Ab, nb, cb, by rw [H1.out, HF.out]; rfl, by rw [HE.out]; exact hOb, hB⟩
end Go.Proofs.YtdckoaljcklmhaaGreatDoor

