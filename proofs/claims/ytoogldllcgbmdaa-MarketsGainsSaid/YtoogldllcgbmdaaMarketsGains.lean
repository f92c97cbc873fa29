/-
  Proved: salesroomlaw05.MarketsGains answers true, for any market, in whatever memory. No conditions.
-/
import Derived.Test.YtoogldllcgbmdaaRows
import Derived.Test.YtoogldllcgbmdaaLift
import Derived.Test.YtoogldllcgbmdaaAlive5
namespace Go.Proofs.Ytoogldllcgbmdaa.marketsGains
open Go.ChangeShapes Go.WideShapes Go.ChangeAt Go.RowKit
set_option linter.unusedVariables false

set_option maxRecDepth 100000 in
set_option maxHeartbeats 2000000 in
theorem walk (x : Mk) (w : World) (h : x.Ok w) :
    Calls Try.prog 7 #[x.v] w fun e w' => e = .returned (.bool true) ∧ Below w.heap.size w w' := by
  have hxv : x.v = .agg #[.slice x.r.A x.r.n x.r.c, .slice x.A x.n x.c, .slice x.o.A x.o.n x.o.c] := rfl
  have Vx := Lib.hid hxv
  have hbox := InBox.new w x
  have hBW : Below w.heap.size w (w.alloc (.cells #[.slice x.r.A x.r.n x.r.c, .slice x.A x.n x.c, .slice x.o.A x.o.n x.o.c] 25)) := (Below.refl _ w).alloc (Nat.le_refl _) _
  have hg := mgainsC x _ (h.below hBW)
  rw [hxv]
  by_cases hm : x.may = true
  · have herr : x.err = 0 := by rw [Mk.err, if_pos hm]
    have hgs : x.gains = gains x.r.zs (Ls.all x.b) := by rw [Mk.gains, if_pos hm]
    rw [herr, hgs, hxv] at hg
    obtain ⟨l1, l2, l3, l4, l5, l6, l7, l8⟩ := mk_len h hm
    obtain ⟨p, q, hA, hp, hat⟩ := bids_at h (by omega)
    have hbid : ∀ u ∈ x.b, bidB u.zs x.r.zs.length = true := fun u hu => ((mayM_iff _ _ _).1 (show mayM x.r.zs (Ls.all x.b) x.o.zs = true from hm)).2.2.1 u.zs (List.mem_map_of_mem hu)
    have hrl := h.r.len
    have hrd := h.r.rd
    have hbl : (Ls.all x.b).length = x.n := by rw [Ls.all, List.length_map]; exact h.len
    have HA := Lib.hid hA
    have H6 := Lib.hid l6
    have H7 := Lib.hid l7
    have H8 := Lib.hid l8
    have HBID := Lib.hid hbid
    have HRL := Lib.hid hrl
    have HBL := Lib.hid hbl
    clear hA l5 l6 l7 l8 hbid hrl hbl hm herr hgs hxv
    go_enter Try.func7, Try.ntmps7
    go_wp2_with fail
    refine hg.mono ?_
    rintro e w1 ⟨A1, n1, c1, rfl, t, hout, hall, hb1⟩
    have hB1 := hBW.trans (hb1.mono hBW.size)
    have hbox1 := hbox.below hb1
    have hn1 : n1 = x.n := by
      have h1 := hout.len
      have h2 : t.length = x.n := by
        have h3 := congrArg List.length hall
        rw [Ls.all, List.length_map, gains, List.length_map, HBL.out] at h3
        exact h3
      omega
    subst hn1
    have HALL := Lib.hid hall
    have hlss := hout.lss
    obtain ⟨g, hgA, _, hglt⟩ := hout.own.lt (by have := hout.own.le; omega)
    subst hgA
    clear hg hb1 hBW hbox hall
    have ⟨c0, c1', c2', clt⟩ := hbox1
    have tn1 := hout.own.le
    have tn2 := hout.own.cap
    unfold maxLen at tn2
    go_wp2_with fail
    clear c0 c1' c2' clt
    go_loopw [5] (fun i wr => ∃ j : Nat, j ≤ x.n ∧ i = .int .i64 j ∧ Below w1.heap.size w1 wr) (fun i _ => x.n - (intOf i).toNat)
    case atStart => exact ⟨0, Nat.zero_le _, rfl, Below.refl _ _⟩
    case round =>
      obtain ⟨j, hj, rfl, hbel⟩ := hrel
      obtain ⟨wo, rfl⟩ : ∃ wo, wo = wr := ⟨_, rfl⟩
      have hBo := hB1.trans (hbel.mono hB1.size)
      have ⟨c0, c1', c2', clt⟩ := hbox1.below hbel
      by_cases hlt : j < x.n
      · obtain ⟨p', q', u, hA', hu, hp', hcu, hku⟩ := hlss.get hlt
        obtain ⟨rfl, rfl⟩ : g = p' ∧ 0 = q' := by injection hA' with hA'; injection hA' with h1 h2; exact ⟨h1, h2⟩
        rw [Nat.zero_add] at hcu
        obtain ⟨bd, hbd, hcb, hkb⟩ := hat j hlt
        have hzs : u.zs = gain x.r.zs bd.zs := by
          have h1 : (Ls.all t)[j]? = some u.zs := by rw [Ls.all, List.getElem?_map, hu]; rfl
          rw [HALL.out, gains, List.getElem?_map, Ls.all, List.getElem?_map, hbd] at h1
          exact (Option.some.inj h1).symm
        have hbb := HBID.out bd (List.mem_of_getElem? hbd)
        have hul : u.n = x.r.n := by
          rw [← hku.len, hzs, gain_len hbb, HRL.out]
        have hworth : ∀ k, k < x.r.n → max (-1) (u.zs.getD k 0) = worth bd.zs x.r.zs k := fun k hk => by
          rw [hzs]
          exact gain_worth hbb k (by rw [HRL.out]; exact hk)
        have HW := Lib.hid hworth
        have a0 : wo.cell? ⟨g, j, none⟩ = some (.slice u.A u.n u.c) := (hbel.cell (p := ⟨g, j, none⟩) hglt).trans hcu
        have b0 : wo.cell? ⟨p, q + j, none⟩ = some (.slice bd.A bd.n bd.c) := (hBo.cell (p := ⟨p, q + j, none⟩) hp).trans hcb
        have hurd := hku.rd.below hbel
        have hbrd := hkb.rd
        have hbn := H6.out bd (List.mem_of_getElem? hbd)
        have hbz := H8.out bd (List.mem_of_getElem? hbd)
        have hulen := hku.len
        obtain ⟨uA, un, uc, uz⟩ := u
        obtain ⟨bA, bn, bc, bz⟩ := bd
        simp only at hcu hurd hul HW a0 b0 hbrd hbn hbz hulen
        have HUL := Lib.hid hulen
        subst hul
        rw [HA.out] at c1'
        have hjn : (j : Int) < x.n := by omega
        have e0 : ((x.r.n : Int) != (x.r.n : Int)) = false := by simp
        have hglt2 := Nat.lt_of_lt_of_le hglt hbel.size
        have hpo := Nat.lt_of_lt_of_le hp hBo.size
        clear hu hcu hku hbd hcb hkb hzs hbb hworth hA' hulen
        go_wp2_with fail
        refine wp_region_ord (S := fun w' => w'.cell? ⟨g, j, none⟩ = some (.slice uA x.r.n uc) ∧ w'.cell? ⟨w.heap.size, 0, none⟩ = some (.slice x.r.A x.r.n x.r.c)) [(0, true), (1, true), (2, true), (3, true), (4, true), (5, true), (6, true), (7, true), (8, true)] default (by kernel_rfl) (by kernel_rfl) (by kernel_rfl) ⟨a0, c0⟩ ?_
        simp only [getOrd, nth]
        repeat (first | (refine ordS (by rfl) ?_; simp only [Act.put, List.setIfInBounds_toArray, List.set_cons_zero, List.set_cons_succ]) | (refine ordN (by rfl) ?_; simp only [Act.put, List.setIfInBounds_toArray, List.set_cons_zero, List.set_cons_succ]) | (refine ordQ (v := ?_) (by rfl) (fun _ hSw => ?_) ?_; rotate_left; (focus ((have hS1 := hSw.1); (have hS2 := hSw.2); clear hSw; go_simp; (first | done | with_reducible rfl))); simp only [Act.put, List.setIfInBounds_toArray, List.set_cons_zero, List.set_cons_succ]))
        refine ordE ?_
        have hdr : Below wo.heap.size wo wo.drew := (Below.refl _ wo).drew
        go_wp2_with fail
        go_loopw [6] (fun i wr => ∃ k : Nat, k ≤ x.r.n ∧ i = .int .i64 k ∧ Below wo.heap.size wo wr) (fun i _ => x.r.n - (intOf i).toNat)
        case atStart => exact ⟨0, Nat.zero_le _, rfl, hdr⟩
        case round =>
          obtain ⟨k, hk, rfl, hbk⟩ := hrel
          have hBk := hBo.trans (hbk.mono hBo.size)
          have d0 : wr.cell? ⟨w.heap.size, 0, none⟩ = some (.slice x.r.A x.r.n x.r.c) := (hbk.cell (p := ⟨w.heap.size, 0, none⟩) clt).trans c0
          have d1 : wr.cell? ⟨w.heap.size, 1, none⟩ = some (.slice (some ⟨p, q, none⟩) x.n x.c) := (hbk.cell (p := ⟨w.heap.size, 1, none⟩) clt).trans c1'
          have d2 : wr.cell? ⟨p, q + j, none⟩ = some (.slice bA bn bc) := (hbk.cell (p := ⟨p, q + j, none⟩) hpo).trans b0
          have d3 : wr.cell? ⟨g, j, none⟩ = some (.slice uA x.r.n uc) := (hbk.cell (p := ⟨g, j, none⟩) hglt2).trans a0
          by_cases hkn : k < x.r.n
          · obtain ⟨p2, q2, hA2, hp2, u0, hu0, hc0⟩ := hurd.get hkn
            have hkl : k < uz.length := by rw [HUL.out]; exact hkn
            rw [ci64_get _ _ hkl] at hu0
            obtain rfl : iV uz[k] = u0 := Option.some.inj hu0
            have d4 : wr.cell? ⟨p2, q2 + k, none⟩ = some (.int .i64 uz[k]) := (hbk.cell (p := ⟨p2, q2 + k, none⟩) hp2).trans hc0
            have hw := HW.out k hkn
            have hgd : uz.getD k 0 = uz[k] := by rw [List.getD_eq_getElem?_getD, List.getElem?_eq_getElem hkl]; rfl
            rw [hgd] at hw
            have hwo := vworth_any bA bn bc bz x.r.A x.r.n x.r.c x.r.zs k wr.drew ((hbrd.below hBk).drew) ((hrd.below hBk).drew) (fun z hz => by have := hbz z hz; omega) (fun z hz => by have := H7.out z hz; omega) (by omega) (by omega)
            rw [← hw] at hwo
            rw [hA2] at d3
            have hkn' : (k : Int) < x.r.n := by omega
            generalize uz[k] = zk at d4 hwo hu0 hc0 hw
            have hgl : g < wr.heap.size := Nat.lt_of_lt_of_le hglt2 hbk.size
            have hpl : p < wr.heap.size := Nat.lt_of_lt_of_le hpo hbk.size
            have hp2l : p2 < wr.heap.size := Nat.lt_of_lt_of_le hp2 hbk.size
            have hcl : w.heap.size < wr.heap.size := Nat.lt_of_lt_of_le clt hbk.size
            have hS : ∀ w', Below wr.heap.size wr w' → w'.cell? ⟨g, j, none⟩ = some (.slice (some ⟨p2, q2, none⟩) x.r.n uc) ∧ w'.cell? ⟨p2, q2 + k, none⟩ = some (.int .i64 zk) ∧ w'.cell? ⟨w.heap.size, 1, none⟩ = some (.slice (some ⟨p, q, none⟩) x.n x.c) ∧ w'.cell? ⟨p, q + j, none⟩ = some (.slice bA bn bc) ∧ w'.cell? ⟨w.heap.size, 0, none⟩ = some (.slice x.r.A x.r.n x.r.c) := fun w' hb => ⟨(hb.cell (p := ⟨g, j, none⟩) hgl).trans d3, (hb.cell (p := ⟨p2, q2 + k, none⟩) hp2l).trans d4, (hb.cell (p := ⟨w.heap.size, 1, none⟩) hcl).trans d1, (hb.cell (p := ⟨p, q + j, none⟩) hpl).trans d2, (hb.cell (p := ⟨w.heap.size, 0, none⟩) hcl).trans d0⟩
            clear hu0 hc0 hw hgd hA2
            rcases (show (zk ≤ -1 ∧ max (-1) zk = -1) ∨ (¬ zk ≤ -1 ∧ max (-1) zk = zk) by omega) with ⟨hz1, hmx⟩ | ⟨hz1, hmx⟩
            all_goals
              rw [hmx] at hwo
              clear hmx
              go_wp2_with fail
              refine wp_region_ord (S := fun w' => w'.cell? ⟨g, j, none⟩ = some (.slice (some ⟨p2, q2, none⟩) x.r.n uc) ∧ w'.cell? ⟨p2, q2 + k, none⟩ = some (.int .i64 zk) ∧ w'.cell? ⟨w.heap.size, 1, none⟩ = some (.slice (some ⟨p, q, none⟩) x.n x.c) ∧ w'.cell? ⟨p, q + j, none⟩ = some (.slice bA bn bc) ∧ w'.cell? ⟨w.heap.size, 0, none⟩ = some (.slice x.r.A x.r.n x.r.c)) [(0, true), (1, true), (2, true), (3, true), (4, true), (5, true), (6, true), (7, true), (8, true), (9, true), (10, true), (11, true), (12, true), (13, true), (14, true), (15, true), (16, false), (17, true)] default (by kernel_rfl) (by kernel_rfl) (by kernel_rfl) (hS _ ((Below.refl _ wr).drew)) ?_
              simp only [getOrd, nth]
              repeat (first | (refine ordS (by rfl) ?_; simp only [Act.put, List.setIfInBounds_toArray, List.set_cons_zero, List.set_cons_succ]) | (refine ordN (by rfl) ?_; simp only [Act.put, List.setIfInBounds_toArray, List.set_cons_zero, List.set_cons_succ]) | (refine ordQ (v := ?_) (by rfl) (fun _ hSw => ?_) ?_; rotate_left; (focus ((have hS1 := hSw.1); (have hS2 := hSw.2.1); (have hS3 := hSw.2.2.1); (have hS4 := hSw.2.2.2.1); (have hS5 := hSw.2.2.2.2); clear hSw; go_simp; (first | done | with_reducible rfl))); simp only [Act.put, List.setIfInBounds_toArray, List.set_cons_zero, List.set_cons_succ]))
              refine ordD (by rfl) ?_
              intro K hK
              go_simp
              refine hwo.mono ?_
              rintro e w4 ⟨rfl, hb4⟩
              have hb4 : Below wr.heap.size wr w4 := ((Below.refl _ wr).drew).trans hb4
              go_wp2_with fail
              refine hK _ _ (hS _ hb4) ?_
              clear hK K
              try simp only [Act.put, List.setIfInBounds_toArray, List.set_cons_zero, List.set_cons_succ]
              repeat (first | (refine ordS (by rfl) ?_; simp only [Act.put, List.setIfInBounds_toArray, List.set_cons_zero, List.set_cons_succ]) | (refine ordN (by rfl) ?_; simp only [Act.put, List.setIfInBounds_toArray, List.set_cons_zero, List.set_cons_succ]) | (refine ordQ (v := ?_) (by rfl) (fun _ hSw => ?_) ?_; rotate_left; (focus ((have hS1 := hSw.1); (have hS2 := hSw.2.1); (have hS3 := hSw.2.2.1); (have hS4 := hSw.2.2.2.1); (have hS5 := hSw.2.2.2.2); clear hSw; go_simp; (first | done | with_reducible rfl))); simp only [Act.put, List.setIfInBounds_toArray, List.set_cons_zero, List.set_cons_succ]))
              refine ordE ?_
              have hbk4 := hbk.trans (hb4.mono hbk.size)
              clear hS hwo d0 d1 d2 d3 d4
              go_wp2
              go_roundw
              case rel => exact ⟨k + 1, by omega, by go_num, hbk4⟩
              case measure => simp [intOf]; omega
          · obtain rfl : k = x.r.n := by omega
            have hbel2 := hbel.trans (hbk.mono hbel.size)
            go_wp2
            go_roundw
            case rel => exact ⟨j + 1, by omega, by go_num, hbel2⟩
            case measure => simp [intOf]; omega
      · obtain rfl : j = x.n := by omega
        go_wp2_with fail
        refine (alive5_any wo).mono ?_
        rintro e w2 ⟨rfl, hb2⟩
        have hB2 := hBo.trans (hb2.mono hBo.size)
        go_wp2
        go_ret
        exact ⟨rfl, hB2⟩
  · have herr : x.err = 1 := by rw [Mk.err, if_neg hm]
    have hmf := Bool.eq_false_iff.2 hm
    rw [herr, hxv] at hg
    have HMF := Lib.hid hmf
    clear herr hm hxv hmf
    go_enter Try.func7, Try.ntmps7
    go_wp2_with fail
    refine hg.mono ?_
    rintro e w1 ⟨A1, n1, c1, rfl, t, hout, hall, hb1⟩
    have hB1 := hBW.trans (hb1.mono hBW.size)
    have hbox1 := hbox.below hb1
    clear hg hb1 hbox hBW hout hall
    go_wp2_with fail
    refine (alive5_any w1).mono ?_
    rintro e w2 ⟨rfl, hb2⟩
    have hB2 := hB1.trans (hb2.mono hB1.size)
    have ⟨c0, c1', c2', clt⟩ := hbox1.below hb2
    have hc := mcheckC x w2 (h.below hB2)
    rw [HMF.out, Vx.out] at hc
    go_wp2_with fail
    refine hc.mono ?_
    rintro e w3 ⟨rfl, hb3⟩
    have hB3 := hB2.trans (hb3.mono hB2.size)
    clear hc c0 c1' c2'
    go_wp2
    go_ret
    exact ⟨rfl, hB3⟩

theorem own : ownKnob Try.prog.godebug = none := by kernel_rfl
theorem laidOut : laidOutB Try.prog = true := by kernel_rfl

set_option maxRecDepth 100000 in
theorem lifted (os : Os) (started : os.Started) (H : Type) (enc : TypeId × Value → H) :
    ReturnsInHanded {} Try.checked os 7 .any (Rows.marketsGainsSpec.pre6 enc Try.prog Try.f7 Rows.marketsGainsRow.domain false) (Rows.marketsGainsSpec.post enc Try.prog Try.f7 false true false false) := by
  refine returnsInHanded_of_change (C := Try.checked) own started (by kernel_rfl) Try.func7
    (ChangeSpec.witness6 (enc := enc) (C := Try.checked) false ⟨#[], #[.agg #[.slice none 0 0, .slice none 0 0, .slice none 0 0]], []⟩ 8 (by kernel_rfl) (by kernel_rfl) (by kernel_rfl) (by kernel_rfl)) ?_
  intro W base args ds gs before hval0 hW hcnd _
  have hval : ∀ (j : Nat) t v, Try.f7.params[j]? = some t → args[j]? = some v → Value.okWide Try.prog W .any base t v := hval0
  have hW' := hW
  obtain ⟨p, q, hA0, hV, rfl, hfz, hnd⟩ := hW
  have hA : DataW.TrodAll enc Try.prog W 0 (fun _ => true) true Try.f7.params.toList args.toList ds p := hA0
  rw [Try.params7] at hA hval
  obtain ⟨v0, vs0, d0, ds0, p0, q0, hargs, rfl, rfl, h0, r0⟩ := trodAll_cons hA
  obtain ⟨rfl, rfl, rfl⟩ := trodAll_nil r0
  obtain rfl : args = #[v0] := by cases args; simp_all
  obtain ⟨u0, rfl, k0⟩ := arg_mk Try.underlying25 (by kernel_rfl) (by kernel_rfl) Try.underlying22 Try.underlying23 Try.underlying22 Try.underlying22 (by kernel_rfl) Try.underlying3 (by kernel_rfl) (hval 0 25 v0 rfl rfl) h0
  have hwalk : Calls Try.prog 7 #[u0.v] W fun e w' => e = .returned (.bool true) ∧ Below W.heap.size W w' := walk u0 W k0
  refine hwalk.mono fun e W' ⟨he, hg⟩ => ?_
  subst he
  exact ⟨_, rfl, law_post laidOut (by kernel_rfl) hW' rfl rfl (by kernel_rfl) Try.underlying4 hg⟩

theorem over : Rows.marketsGainsRow.holds Try.pinned (OpenSpec.ofChange Rows.marketsGainsSpec) :=
  OpenClaim.holds_of_wide 7 Try.f7 rfl rfl rfl rfl rfl rfl rfl ⟨rfl, rfl, rfl, rfl, rfl⟩ rfl rfl rfl rfl rfl (by kernel_rfl) Try.func7 (by kernel_rfl)
    (of_decide_eq_true (by kernel_rfl)) (by unfold Func.isWrapper; first | (rw [if_pos (by decide +kernel)]; kernel_rfl) | (rw [if_neg (by decide +kernel)]; exact ⟨rfl, rfl⟩))
    (fun os started H enc _ => lifted os started H enc)

theorem proved : Rows.MarketsGainsSaid :=
  over

end Go.Proofs.Ytoogldllcgbmdaa.marketsGains
