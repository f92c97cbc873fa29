/-
  Proved: salesroomlaw07.PathsOthers answers true, for any lists, any items, any matching and any number of a bidder, in whatever memory. No conditions.
-/
import Derived.Test.YtojpdmhccodckaaRows
import Derived.Test.YtojpdmhccodckaaLift
import Derived.Test.YtojpdmhccodckaaAlive7
import Derived.Test.YtojpdmhccodckaaPaH
import Derived.Test.YtojpdmhccodckaaPaG
import Derived.Test.YtojpdmhccodckaaGrN
import Derived.Deep.CutRange
import Derived.Test.YtojpdmhccodckaaReg
namespace Go.Proofs.Ytojpdmhccodckaa.pathsOthers
open Go.ChangeShapes Go.WideShapes Go.ChangeAt Go.RowKit
set_option linter.unusedVariables false

theorem info6_int : (Try.prog.info? 3).map (fun i => (i.zero, i.size, i.bytes)) = some (some (.int .i64 0), 1, 8) := by kernel_rfl

set_option maxRecDepth 100000 in
set_option maxHeartbeats 4000000 in
theorem walk (x : Gr) (m : Int) (A1 : Option Addr) (n1 c1 : Nat) (zs : List Int) (z : Int) (w : World) (h : x.Ok w) (hm1 : -9223372036854775808 ≤ m) (hm2 : m ≤ 9223372036854775807) (h1 : Ls.Ok w ⟨A1, n1, c1, zs⟩) (hz1 : -9223372036854775808 ≤ z) (hz2 : z ≤ 9223372036854775807) :
    Calls Try.prog 6 #[.agg #[x.v, .int .i64 m], .slice A1 n1 c1, .int .i64 z] w fun e w' => e = .returned (.bool true) ∧ Below w.heap.size w w' := by
  have hx := h
  have hB := Below.refl w.heap.size w
  have hxv : x.v = .slice x.A x.n x.c := rfl
  have Vx := Lib.hid hxv
  rw [hxv]
  have hgl := h.glen
  have HGL := Lib.hid hgl
  have htop := Nat.le_trans h.cap h.top
  unfold maxLen at htop
  obtain ⟨B, hB0⟩ : ∃ B, mayP x.g m zs z = B := ⟨_, rfl⟩
  clear hxv hgl h
  have HZL : Hid (zs.length = n1) := Lib.hid h1.len
  have h1c := Nat.le_trans h1.cap h1.top
  unfold maxLen at h1c
  go_enter Try.func6, Try.ntmps6
  have bg := GBox.new w x m
  have hbx : Below w.heap.size w (w.alloc (.cells #[.slice x.A x.n x.c, .int .i64 m] 24)) := (Below.refl _ w).alloc (Nat.le_refl _) _
  replace hx := hx.below hbx
  replace h1 := h1.below hbx
  replace hB := hB.trans (hbx.mono hB.size)
  clear hbx
  cases B
  · obtain ⟨e1, e2, e3, e4, e5⟩ := path_bad hB0
    have E1 := Lib.hid e1
    have E2 := Lib.hid e2
    have E3 := Lib.hid e3
    have E4 := Lib.hid e4
    have E5 := Lib.hid e5
    clear e1 e2 e3 e4 e5 hB0
    have eg0 := bg.c0
    have eg1 := bg.c1
    have hc := pmoreC x m ⟨A1, n1, c1, zs⟩ z (w.alloc (.cells #[.slice x.A x.n x.c, .int .i64 m] 24)) hx h1 hm1 hm2 hz1 hz2
    rw [Vx.out, E1.out, E2.out, E3.out] at hc
    go_wp2_with fail
    clear eg0 eg1
    generalize w.alloc (.cells #[.slice x.A x.n x.c, .int .i64 m] 24) = W1 at *
    refine hc.mono ?_
    rintro e v2 ⟨A2, n2, c2, rfl, h2, hb⟩
    clear hc
    replace hx := hx.below hb
    replace h1 := h1.below hb
    replace bg := bg.below hb
    replace hB := hB.trans (hb.mono hB.size)
    clear hb
    clear h2
    have eg0 := bg.c0
    have eg1 := bg.c1
    have hc := preachC x m ⟨A1, n1, c1, zs⟩ z v2 hx h1 hm1 hm2 hz1 hz2
    rw [Vx.out, E1.out, E4.out, E5.out] at hc
    go_wp2_with fail
    clear eg0 eg1
    refine hc.mono ?_
    rintro e v3 ⟨A3, n3, c3, A4, n4, c4, rfl, h3, h4, h34, hb⟩
    clear hc
    replace hx := hx.below hb
    replace h1 := h1.below hb
    replace bg := bg.below hb
    replace hB := hB.trans (hb.mono hB.size)
    clear hb
    clear h3 h4 h34
    have eg0 := bg.c0
    have eg1 := bg.c1
    have hc := alive7_any v3
    go_wp2_with fail
    clear eg0 eg1
    refine hc.mono ?_
    rintro e v4 ⟨rfl, hb⟩
    clear hc
    replace hx := hx.below hb
    replace h1 := h1.below hb
    replace bg := bg.below hb
    replace hB := hB.trans (hb.mono hB.size)
    clear hb
    have eg0 := bg.c0
    have eg1 := bg.c1
    go_wp2
    go_ret
    exact ⟨rfl, hB⟩
  · obtain ⟨M, rfl, hM8, hg8, hzl, i, rfl, hif⟩ := may_nat hB0
    rw [HZL.out, HGL.out] at hzl
    subst hzl
    rw [HGL.out] at hif hg8
    obtain ⟨e1, e2, e3, e4, e5⟩ := path_ok hB0
    have E1 := Lib.hid e1
    have E2 := Lib.hid e2
    have E3 := Lib.hid e3
    have E4 := Lib.hid e4
    have E5 := Lib.hid e5
    have HMY := Lib.hid hB0
    clear e1 e2 e3 e4 e5 hB0 hm1 hm2 hz1 hz2
    have hom := others_may HMY.out x.n
    obtain ⟨f1, f2, f3, _, _⟩ := path_ok hom
    obtain ⟨o1, o2⟩ := others_is HMY.out x.n
    rw [o1] at f3
    rw [o2] at f2
    have hml : foundP x.g M zs i = true → (moreP x.g M zs i).length = x.n ∧ ∀ j : Nat, (j : Int) ∉ whoP x.g M zs i → (moreP x.g M zs i).getD j (-1) = zs.getD j (-1) := fun hf => by
      have mo := more_fits HMY.out hf
      exact ⟨by rw [mo.fit.len, HGL.out], fun j hj => mo.rest j fun hq => hj (more_q HMY.out hq)⟩
    obtain ⟨D, hD⟩ : ∃ D, foundP x.g M zs i = D := ⟨_, rfl⟩
    obtain ⟨l, hl⟩ : ∃ l, moreP x.g M zs i = l := ⟨_, rfl⟩
    obtain ⟨q, hq⟩ : ∃ q, whoP x.g M zs i = q := ⟨_, rfl⟩
    rw [hD] at E2 f2 hml
    rw [hl] at E3 f3 hml
    rw [hq] at E4 f1 f2 f3 hml
    have F1 := Lib.hid f1
    have F2 := Lib.hid f2
    have F3 := Lib.hid f3
    have HML := Lib.hid hml
    have htw : Hid (∀ u ∈ x.t, u.n ≤ 1000000000) := Lib.hid (fun u hu => by
      have hzs : u.zs ∈ x.g := List.mem_map_of_mem hu
      have := rises_len ((checkG_iff.1 (may_check HMY.out)).2.2.2 _ hzs)
      rw [(hx.lss.ok u hu).len] at this
      omega)
    clear hom f1 f2 f3 o1 o2 hml hD hl hq
    have eg0 := bg.c0
    have eg1 := bg.c1
    have hc := pmoreC x M ⟨A1, x.n, c1, zs⟩ i (w.alloc (.cells #[.slice x.A x.n x.c, .int .i64 (M : Int)] 24)) hx h1 (by omega) (by omega) (by omega) (by omega)
    rw [Vx.out, E1.out, E2.out, E3.out] at hc
    go_wp2_with fail
    clear eg0 eg1
    generalize w.alloc (.cells #[.slice x.A x.n x.c, .int .i64 (M : Int)] 24) = W1 at *
    refine hc.mono ?_
    rintro e v2 ⟨A2, n2, c2, rfl, h2, hb⟩
    clear hc
    replace hx := hx.below hb
    replace h1 := h1.below hb
    replace bg := bg.below hb
    replace hB := hB.trans (hb.mono hB.size)
    clear hb
    have hn2 : Hid (D = true → n2 = x.n) := Lib.hid (fun hd => by
      have h5 := h2.len
      simp only at h5
      rw [← h5]; exact (HML.out hd).1)
    have eg0 := bg.c0
    have eg1 := bg.c1
    have hc := preachC x M ⟨A1, x.n, c1, zs⟩ i v2 hx h1 (by omega) (by omega) (by omega) (by omega)
    rw [Vx.out, E1.out, E4.out] at hc
    go_wp2_with fail
    clear eg0 eg1
    refine hc.mono ?_
    rintro e v3 ⟨A3, n3, c3, A4, n4, c4, rfl, h3, h4, h34, hb⟩
    clear hc
    replace hx := hx.below hb
    replace h1 := h1.below hb
    replace h2 := h2.below hb
    replace bg := bg.below hb
    replace hB := hB.trans (hb.mono hB.size)
    clear hb
    clear h4 h34
    have h3c := Nat.le_trans h3.own.le h3.own.cap
    have hxne : ((x.n : Int) != (x.n : Int)) = false := by simp
    obtain ⟨ν, hν⟩ : ∃ ν, ((n2 : Int) != (x.n : Int)) = ν := ⟨_, rfl⟩
    have hDν : (D && ν) = false := by
      cases D
      · rfl
      · rw [← hν, hn2.out rfl]; simp
    have HNU := Lib.hid hDν
    clear hDν
    have eg0 := bg.c0
    have eg1 := bg.c1
    have hall : ∀ b : Bool, b = D → True := fun _ _ => trivial
    clear hall
    cases D
    · clear HML hn2
      have hc := twin_gr x v3 hx (by omega) htw.out
      rw [Vx.out] at hc
      go_wp2_with fail
      refine hc.mono ?_
      rintro e v9 ⟨y, rfl, hy, hyg, hyn, hb⟩
      clear hc eg0 eg1
      have hyv : y.v = .slice y.A y.n y.c := rfl
      rw [hyv, hyn]
      clear hyv
      obtain ⟨mk, hown, _⟩ := hy.own
      have hlen := hy.ok.len
      have heach : ∀ u ∈ y.t, OwnI v9 v3.heap.size u := fun u hu => ⟨by
        have h5 := (hy.each u hu).own.less (m := u.n) (by omega)
        have h6 := (hy.each u hu).ok.len
        rw [ci64_take, List.take_append_of_le_length (by omega), List.take_of_length_le (by omega)] at h5
        exact h5, (hy.each u hu).fit⟩
      rw [hyn] at hown hlen
      have hcy := hown.le
      have hcap := hown.cap
      obtain ⟨g9, hgA, hg9, hg9'⟩ := hown.lt (by omega)
      rw [hgA] at hown ⊢
      have HYG := Lib.hid hyg
      have HLEN := Lib.hid hlen
      obtain ⟨yc, hyc⟩ : ∃ c, y.c = c := ⟨_, rfl⟩
      rw [hyc] at hown hcy hcap ⊢
      clear hgA hyc hyn hyg hy hlen hg9'
      go_wp2_with fail
      go_loopw [14] (fun v wr => ∃ (j : Nat) (t : List Ls), j ≤ x.n ∧ v = .int .i64 j ∧ Own wr v3.heap.size 25 (some ⟨g9, 0, none⟩) (x.n + 1) yc (t.map Ls.v ++ [.slice (some ⟨mk, 0, none⟩) 1 1]) ∧ Hid (t.length = x.n ∧ (∀ u ∈ t, OwnI wr v3.heap.size u) ∧ Ls.all t = othersG x.g q zs j) ∧ Below v3.heap.size v3 wr) (fun v _ => x.n - (intOf v).toNat)
      case atStart => exact ⟨0, y.t, Nat.zero_le _, rfl, hown, Lib.hid ⟨HLEN.out, heach, by rw [othersG_zero]; exact HYG.out⟩, hb⟩
      case round =>
        obtain ⟨j, t, hj, rfl, ho, hin, hbel⟩ := hrel
        clear hown heach hb
        by_cases hjn : j < x.n
        · have hjn' : (j : Int) < x.n := by omega
          have hj0 : (0 : Int) ≤ j := by omega
          have hh := lhas7_any A3 n3 c3 q (j : Int) wr (h3.own.rd.below hbel) h3c
          by_cases hjq : (j : Int) ∈ q
          · rw [show decide ((j : Int) ∈ q) = true from decide_eq_true hjq] at hh
            have HN : Hid (t.length = x.n ∧ (∀ u ∈ t, OwnI wr v3.heap.size u) ∧ Ls.all t = othersG x.g q zs (j + 1)) := Lib.hid ⟨hin.out.1, hin.out.2.1, by rw [othersG_in hjq]; exact hin.out.2.2⟩
            clear hjq
            go_wp2_with fail
            refine hh.mono ?_
            rintro e w2 ⟨rfl, rfl⟩
            clear hh
            go_wp2
            go_roundw
            case rel => exact ⟨j + 1, t, by omega, by go_num, ho, HN, hbel⟩
            case measure => simp [intOf]; omega
          · rw [show decide ((j : Int) ∈ q) = false from decide_eq_false hjq] at hh
            have hjz : j < zs.length := by rw [HZL.out]; exact hjn
            obtain ⟨p1, q1, rfl, hp1, y0, hy0, hcz⟩ := h1.rd.get hjn
            rw [ci64_get _ _ hjz] at hy0
            obtain rfl : iV zs[j] = y0 := Option.some.inj hy0
            unfold iV at hcz
            have hgz : zs.getD j (-1) = zs[j] := by rw [List.getD_eq_getElem?_getD, List.getElem?_eq_getElem hjz]; rfl
            obtain ⟨a, ha⟩ : ∃ a, zs[j] = a := ⟨_, rfl⟩
            rw [ha] at hcz hgz
            have hfa : -9223372036854775808 ≤ a ∧ a ≤ 9223372036854775807 := h1.fit a (by rw [← ha]; exact List.getElem_mem hjz)
            have HGZ := Lib.hid hgz
            have hst := othersG_out (g := x.g) (q := q) (zs := zs) (j := j) (by rw [HGL.out]; exact hjn) hjq
            rw [hgz] at hst
            have HST := Lib.hid hst
            have hw1 : wr.cell? ⟨p1, q1 + j, none⟩ = some (.int .i64 a) := (hbel.cell (p := ⟨p1, q1 + j, none⟩) hp1).trans hcz
            clear hy0 ha hgz hst hjz hcz hjq
            go_wp2_with fail
            refine hh.mono ?_
            rintro e w2 ⟨rfl, rfl⟩
            clear hh
            go_wp2_with fail
            refine wp_region_ord (S := fun w' => True) [(0, true), (1, true), (2, true), (3, true), (4, true), (5, true), (6, true), (7, true), (8, true), (9, true), (10, true), (11, true)] default (by kernel_rfl) (by kernel_rfl) (by kernel_rfl) trivial ?_
            simp only [getOrd, nth]
            repeat (first | (refine ordS (by rfl) ?_; simp only [Act.put, List.setIfInBounds_toArray, List.set_cons_zero, List.set_cons_succ]) | (refine ordN (by rfl) ?_; simp only [Act.put, List.setIfInBounds_toArray, List.set_cons_zero, List.set_cons_succ]) | (refine ordQ (v := ?_) (by rfl) (fun _ hSw => ?_) ?_; rotate_left; (focus ((have hS1 := hSw); clear hSw; go_simp; (first | done | with_reducible rfl))); simp only [Act.put, List.setIfInBounds_toArray, List.set_cons_zero, List.set_cons_succ]))
            refine ordE ?_
            have hod := ho.drew
            have hbd := hbel.drew
            have hfr := hod.free (by omega) j
            have htl := hin.out.1
            obtain ⟨vo, hvo⟩ : ∃ v, wr.drew.cell? ⟨g9, j, none⟩ = some v := by
              have h5 := hod.cell (j := j) (by omega)
              rw [List.getElem?_eq_getElem (by rw [hod.len]; omega)] at h5
              exact ⟨_, h5⟩
            have hset : Own ((wr.setCell ⟨g9, j, none⟩ (.slice none 0 0)).drew) v3.heap.size 25 (some ⟨g9, 0, none⟩) (x.n + 1) yc ((t.map Ls.v ++ [Value.slice (some ⟨mk, 0, none⟩) 1 1]).set j (.slice none 0 0)) := hod.set (by omega) j (.slice none 0 0)
            have hmap : ∀ u : Ls, (t.map Ls.v ++ [Value.slice (some ⟨mk, 0, none⟩) 1 1]).set j u.v = (t.set j u).map Ls.v ++ [Value.slice (some ⟨mk, 0, none⟩) 1 1] := fun u => by
              rw [List.set_append_left _ _ (by rw [List.length_map]; omega), List.map_set]
            have hset : Own ((wr.setCell ⟨g9, j, none⟩ (.slice none 0 0)).drew) v3.heap.size 25 (some ⟨g9, 0, none⟩) (x.n + 1) yc ((t.set j Ls.nil).map Ls.v ++ [.slice (some ⟨mk, 0, none⟩) 1 1]) := by
              rw [← hmap]; exact hset
            have hbs : Below v3.heap.size v3 ((wr.setCell ⟨g9, j, none⟩ (.slice none 0 0)).drew) := hbd.setCell (p := ⟨g9, j, none⟩) hg9 (.slice none 0 0)
            have hea : ∀ u ∈ t, OwnI ((wr.setCell ⟨g9, j, none⟩ (.slice none 0 0)).drew) v3.heap.size u := fun u hu => OwnI.setO (show OwnI wr.drew v3.heap.size u from ⟨(hin.out.2.1 u hu).own.drew, (hin.out.2.1 u hu).fit⟩) hod (by omega) (by decide) j _
            have hall := hin.out.2.2
            have HEA := Lib.hid hea
            have HAL := Lib.hid hall
            have HTL := Lib.hid htl
            have HMP := Lib.hid hmap
            have hw3 : ((wr.setCell ⟨g9, j, none⟩ (.slice none 0 0)).drew).cell? ⟨p1, q1 + j, none⟩ = some (.int .i64 a) := (hbs.cell (p := ⟨p1, q1 + j, none⟩) hp1).trans ((hbel.cell (p := ⟨p1, q1 + j, none⟩) hp1).symm.trans hw1)
            clear hea hall htl hmap hin ho hw1
            go_upto_region 15 with fail
            clear hfr hvo
            generalize (wr.setCell ⟨g9, j, none⟩ (.slice none 0 0)).drew = ws at *
            by_cases ha1 : a = -1
            · have k1 : (a != -1) = false := by rw [ha1]; rfl
              have HN : Hid ((t.set j Ls.nil).length = x.n ∧ (∀ u ∈ t.set j Ls.nil, OwnI ws v3.heap.size u) ∧ Ls.all (t.set j Ls.nil) = othersG x.g q zs (j + 1)) := Lib.hid ⟨by rw [List.length_set]; exact HTL.out, fun u hu => by
                rcases List.mem_or_eq_of_mem_set hu with hu | rfl
                · exact HEA.out u hu
                · exact OwnI.nil _ _, by rw [HST.out, if_pos ha1, ← HAL.out, Ls.all, Ls.all, List.map_set]; rfl⟩
              clear ha1
              go_wp2
              go_roundw
              case rel => exact ⟨j + 1, _, by omega, by go_num, hset, HN, hbs⟩
              case measure => simp [intOf]; omega
            · have k1 : (a != -1) = true := by rw [bne_iff_ne]; exact ha1
              have hlit : OwnI (ws.alloc (.cells #[.int .i64 a] 3)) ws.heap.size ⟨some ⟨ws.heap.size, 0, none⟩, 1, 1, [a]⟩ := ⟨Own.lit ws 3 #[.int .i64 a] 1 (Nat.le_refl _) rfl (by unfold maxLen; omega), fun z hz => by rw [List.mem_singleton.1 hz]; exact hfa⟩
              have hset3 := hset.alloc (.cells #[.int .i64 a] 3)
              have hbs3 := hbs.alloc hbs.size (.cells #[.int .i64 a] 3)
              have hfr2 := hset3.free (by omega) j
              obtain ⟨vo2, hvo2⟩ : ∃ v, (ws.alloc (.cells #[.int .i64 a] 3)).cell? ⟨g9, j, none⟩ = some v := by
                have h5 := hset3.cell (j := j) (by omega)
                rw [List.getElem?_eq_getElem (by rw [hset3.len]; omega)] at h5
                exact ⟨_, h5⟩
              have hset4 := hset3.set (by omega) j (.slice (some ⟨ws.heap.size, 0, none⟩) 1 1)
              have hset5 : Own ((ws.alloc (.cells #[.int .i64 a] 3)).setCell ⟨g9, j, none⟩ (.slice (some ⟨ws.heap.size, 0, none⟩) 1 1)) v3.heap.size 25 (some ⟨g9, 0, none⟩) (x.n + 1) yc ((t.set j ⟨some ⟨ws.heap.size, 0, none⟩, 1, 1, [a]⟩).map Ls.v ++ [.slice (some ⟨mk, 0, none⟩) 1 1]) := by
                rw [← HMP.out]
                have e5 : ((t.set j Ls.nil).map Ls.v ++ [Value.slice (some ⟨mk, 0, none⟩) 1 1]).set j (.slice (some ⟨ws.heap.size, 0, none⟩) 1 1) = (t.map Ls.v ++ [Value.slice (some ⟨mk, 0, none⟩) 1 1]).set j (.slice (some ⟨ws.heap.size, 0, none⟩) 1 1) := by
                  rw [← HMP.out, List.set_set]
                rw [e5] at hset4
                exact hset4
              have hbs4 := hbs3.setCell (p := ⟨g9, j, none⟩) hg9 (.slice (some ⟨ws.heap.size, 0, none⟩) 1 1)
              have HN : Hid ((t.set j ⟨some ⟨ws.heap.size, 0, none⟩, 1, 1, [a]⟩).length = x.n ∧ (∀ u ∈ t.set j ⟨some ⟨ws.heap.size, 0, none⟩, 1, 1, [a]⟩, OwnI ((ws.alloc (.cells #[.int .i64 a] 3)).setCell ⟨g9, j, none⟩ (.slice (some ⟨ws.heap.size, 0, none⟩) 1 1)) v3.heap.size u) ∧ Ls.all (t.set j ⟨some ⟨ws.heap.size, 0, none⟩, 1, 1, [a]⟩) = othersG x.g q zs (j + 1)) := Lib.hid ⟨by rw [List.length_set]; exact HTL.out, fun u hu => by
                rcases List.mem_or_eq_of_mem_set hu with hu | rfl
                · exact OwnI.setO ((HEA.out u hu).below (lit_below _ _)) hset3 (by omega) (by decide) j _
                · exact OwnI.setO (hlit.mono hbs.size) hset3 (by omega) (by decide) j _, by rw [HST.out, if_neg ha1, ← HAL.out, Ls.all, Ls.all, List.map_set]⟩
              clear ha1 hset hset3 hset4 hbs3 hlit
              go_wp2
              go_roundw
              case rel => exact ⟨j + 1, _, by omega, by go_num, hset5, HN, hbs4⟩
              case measure => simp [intOf]; omega
        · obtain rfl : j = x.n := by omega
          have hless := ho.less (m := x.n) (by omega)
          rw [List.take_append_of_le_length (by rw [List.length_map, hin.out.1]; exact Nat.le_refl _), List.take_of_length_le (by rw [List.length_map, hin.out.1]; exact Nat.le_refl _)] at hless
          have hgr : Gr.Ok wr ⟨some ⟨g9, 0, none⟩, x.n, yc, t⟩ := ⟨⟨outs_at hless, fun u hu => (hin.out.2.1 u hu).ok⟩, by simp only; omega, hcap⟩
          have hgg : Gr.g ⟨some ⟨g9, 0, none⟩, x.n, yc, t⟩ = othersG x.g q zs x.n := hin.out.2.2
          have hc := pmoreC ⟨some ⟨g9, 0, none⟩, x.n, yc, t⟩ M ⟨A1, x.n, c1, zs⟩ i wr hgr (h1.below hbel) (by omega) (by omega) (by omega) (by omega)
          rw [hgg] at hc
          rw [F1.out, F2.out, F3.out] at hc
          have hgb := bg.below hbel
          have eg0 := hgb.c0
          have eg1 := hgb.c1
          clear hless hgr hgg ho hin
          go_wp2_with fail
          refine hc.mono ?_
          rintro e w4 ⟨A5, n5, c5, rfl, h5, hb5⟩
          have hb6 := hbel.trans (hb5.mono hbel.size)
          clear hc eg0 eg1
          have hal := alive7_any w4
          go_wp2_with fail
          refine hal.mono ?_
          rintro e w5 ⟨rfl, hb7⟩
          have hb8 := hb6.trans (hb7.mono hb6.size)
          have hsm := sameints_b ⟨A5, n5, c5, l⟩ ⟨A2, n2, c2, l⟩ w5 (h5.below hb7).ok (h2.below hb8).ok
          rw [show (l == l) = true by simp] at hsm
          clear hal
          go_wp2_with fail
          refine hsm.mono ?_
          rintro e w6 ⟨rfl, hb9⟩
          have hB9 := hB.trans ((hb8.trans (hb9.mono hb8.size)).mono hB.size)
          go_wp2
          go_ret
          exact ⟨rfl, hB9⟩
    · obtain rfl : n2 = x.n := hn2.out rfl
      have HMT := Lib.hid (HML.out rfl)
      clear HML
      have hc := twin_gr x v3 hx (by omega) htw.out
      rw [Vx.out] at hc
      go_wp2_with fail
      refine hc.mono ?_
      rintro e v9 ⟨y, rfl, hy, hyg, hyn, hb⟩
      clear hc eg0 eg1
      have hyv : y.v = .slice y.A y.n y.c := rfl
      rw [hyv, hyn]
      clear hyv
      obtain ⟨mk, hown, _⟩ := hy.own
      have hlen := hy.ok.len
      have heach : ∀ u ∈ y.t, OwnI v9 v3.heap.size u := fun u hu => ⟨by
        have h5 := (hy.each u hu).own.less (m := u.n) (by omega)
        have h6 := (hy.each u hu).ok.len
        rw [ci64_take, List.take_append_of_le_length (by omega), List.take_of_length_le (by omega)] at h5
        exact h5, (hy.each u hu).fit⟩
      rw [hyn] at hown hlen
      have hcy := hown.le
      have hcap := hown.cap
      obtain ⟨g9, hgA, hg9, hg9'⟩ := hown.lt (by omega)
      rw [hgA] at hown ⊢
      have HYG := Lib.hid hyg
      have HLEN := Lib.hid hlen
      obtain ⟨yc, hyc⟩ : ∃ c, y.c = c := ⟨_, rfl⟩
      rw [hyc] at hown hcy hcap ⊢
      clear hgA hyc hyn hyg hy hlen hg9'
      go_wp2_with fail
      go_loopw [14] (fun v wr => ∃ (j : Nat) (t : List Ls), j ≤ x.n ∧ v = .int .i64 j ∧ Own wr v3.heap.size 25 (some ⟨g9, 0, none⟩) (x.n + 1) yc (t.map Ls.v ++ [.slice (some ⟨mk, 0, none⟩) 1 1]) ∧ Hid (t.length = x.n ∧ (∀ u ∈ t, OwnI wr v3.heap.size u) ∧ Ls.all t = othersG x.g q zs j) ∧ Below v3.heap.size v3 wr) (fun v _ => x.n - (intOf v).toNat)
      case atStart => exact ⟨0, y.t, Nat.zero_le _, rfl, hown, Lib.hid ⟨HLEN.out, heach, by rw [othersG_zero]; exact HYG.out⟩, hb⟩
      case round =>
        obtain ⟨j, t, hj, rfl, ho, hin, hbel⟩ := hrel
        clear hown heach hb
        by_cases hjn : j < x.n
        · have hjn' : (j : Int) < x.n := by omega
          have hj0 : (0 : Int) ≤ j := by omega
          have hh := lhas7_any A3 n3 c3 q (j : Int) wr (h3.own.rd.below hbel) h3c
          by_cases hjq : (j : Int) ∈ q
          · rw [show decide ((j : Int) ∈ q) = true from decide_eq_true hjq] at hh
            have HN : Hid (t.length = x.n ∧ (∀ u ∈ t, OwnI wr v3.heap.size u) ∧ Ls.all t = othersG x.g q zs (j + 1)) := Lib.hid ⟨hin.out.1, hin.out.2.1, by rw [othersG_in hjq]; exact hin.out.2.2⟩
            clear hjq
            go_wp2_with fail
            refine hh.mono ?_
            rintro e w2 ⟨rfl, rfl⟩
            clear hh
            go_wp2
            go_roundw
            case rel => exact ⟨j + 1, t, by omega, by go_num, ho, HN, hbel⟩
            case measure => simp [intOf]; omega
          · rw [show decide ((j : Int) ∈ q) = false from decide_eq_false hjq] at hh
            have hjz : j < zs.length := by rw [HZL.out]; exact hjn
            obtain ⟨p1, q1, rfl, hp1, y0, hy0, hcz⟩ := h1.rd.get hjn
            rw [ci64_get _ _ hjz] at hy0
            obtain rfl : iV zs[j] = y0 := Option.some.inj hy0
            unfold iV at hcz
            have hgz : zs.getD j (-1) = zs[j] := by rw [List.getD_eq_getElem?_getD, List.getElem?_eq_getElem hjz]; rfl
            obtain ⟨a, ha⟩ : ∃ a, zs[j] = a := ⟨_, rfl⟩
            rw [ha] at hcz hgz
            have hfa : -9223372036854775808 ≤ a ∧ a ≤ 9223372036854775807 := h1.fit a (by rw [← ha]; exact List.getElem_mem hjz)
            have HGZ := Lib.hid hgz
            have hst := othersG_out (g := x.g) (q := q) (zs := zs) (j := j) (by rw [HGL.out]; exact hjn) hjq
            rw [hgz] at hst
            have HST := Lib.hid hst
            have hw1 : wr.cell? ⟨p1, q1 + j, none⟩ = some (.int .i64 a) := (hbel.cell (p := ⟨p1, q1 + j, none⟩) hp1).trans hcz
            have hjl : j < l.length := by rw [HMT.out.1]; exact hjn
            obtain ⟨p2, q2, hA2, hp2, y1, hy1, hcl⟩ := h2.own.rd.get hjn
            rw [ci64_get _ _ hjl] at hy1
            obtain rfl : iV l[j] = y1 := Option.some.inj hy1
            unfold iV at hcl
            have hla : l[j] = a := by
              have h5 := HMT.out.2 j hjq
              rw [HGZ.out, List.getD_eq_getElem?_getD, List.getElem?_eq_getElem hjl] at h5
              exact h5
            rw [hla] at hcl
            simp only at hA2
            subst hA2
            have hw2 : wr.cell? ⟨p2, q2 + j, none⟩ = some (.int .i64 a) := (hbel.cell (p := ⟨p2, q2 + j, none⟩) hp2).trans hcl
            have haa : (a != a) = false := by simp
            clear hy1 hla hjl hcl
            clear hy0 ha hgz hst hjz hcz hjq
            go_wp2_with fail
            refine hh.mono ?_
            rintro e w2 ⟨rfl, rfl⟩
            clear hh
            go_wp2_with fail
            refine wp_region_ord (S := fun w' => w'.cell? ⟨p2, q2 + j, none⟩ = some (.int .i64 a) ∧ w'.cell? ⟨p1, q1 + j, none⟩ = some (.int .i64 a)) [(0, true), (1, true), (2, true), (3, true), (4, true), (5, true), (6, true), (7, true), (8, true), (9, true), (10, true), (11, true)] default (by kernel_rfl) (by kernel_rfl) (by kernel_rfl) ⟨hw2, hw1⟩ ?_
            simp only [getOrd, nth]
            repeat (first | (refine ordS (by rfl) ?_; simp only [Act.put, List.setIfInBounds_toArray, List.set_cons_zero, List.set_cons_succ]) | (refine ordN (by rfl) ?_; simp only [Act.put, List.setIfInBounds_toArray, List.set_cons_zero, List.set_cons_succ]) | (refine ordQ (v := ?_) (by rfl) (fun _ hSw => ?_) ?_; rotate_left; (focus ((have hS1 := hSw.1); (have hS2 := hSw.2); clear hSw; go_simp; (first | done | with_reducible rfl))); simp only [Act.put, List.setIfInBounds_toArray, List.set_cons_zero, List.set_cons_succ]))
            refine ordE ?_
            have hod := ho.drew
            have hbd := hbel.drew
            have hfr := hod.free (by omega) j
            have htl := hin.out.1
            obtain ⟨vo, hvo⟩ : ∃ v, wr.drew.cell? ⟨g9, j, none⟩ = some v := by
              have h5 := hod.cell (j := j) (by omega)
              rw [List.getElem?_eq_getElem (by rw [hod.len]; omega)] at h5
              exact ⟨_, h5⟩
            have hset : Own ((wr.setCell ⟨g9, j, none⟩ (.slice none 0 0)).drew) v3.heap.size 25 (some ⟨g9, 0, none⟩) (x.n + 1) yc ((t.map Ls.v ++ [Value.slice (some ⟨mk, 0, none⟩) 1 1]).set j (.slice none 0 0)) := hod.set (by omega) j (.slice none 0 0)
            have hmap : ∀ u : Ls, (t.map Ls.v ++ [Value.slice (some ⟨mk, 0, none⟩) 1 1]).set j u.v = (t.set j u).map Ls.v ++ [Value.slice (some ⟨mk, 0, none⟩) 1 1] := fun u => by
              rw [List.set_append_left _ _ (by rw [List.length_map]; omega), List.map_set]
            have hset : Own ((wr.setCell ⟨g9, j, none⟩ (.slice none 0 0)).drew) v3.heap.size 25 (some ⟨g9, 0, none⟩) (x.n + 1) yc ((t.set j Ls.nil).map Ls.v ++ [.slice (some ⟨mk, 0, none⟩) 1 1]) := by
              rw [← hmap]; exact hset
            have hbs : Below v3.heap.size v3 ((wr.setCell ⟨g9, j, none⟩ (.slice none 0 0)).drew) := hbd.setCell (p := ⟨g9, j, none⟩) hg9 (.slice none 0 0)
            have hea : ∀ u ∈ t, OwnI ((wr.setCell ⟨g9, j, none⟩ (.slice none 0 0)).drew) v3.heap.size u := fun u hu => OwnI.setO (show OwnI wr.drew v3.heap.size u from ⟨(hin.out.2.1 u hu).own.drew, (hin.out.2.1 u hu).fit⟩) hod (by omega) (by decide) j _
            have hall := hin.out.2.2
            have HEA := Lib.hid hea
            have HAL := Lib.hid hall
            have HTL := Lib.hid htl
            have HMP := Lib.hid hmap
            have hw3 : ((wr.setCell ⟨g9, j, none⟩ (.slice none 0 0)).drew).cell? ⟨p1, q1 + j, none⟩ = some (.int .i64 a) := (hbs.cell (p := ⟨p1, q1 + j, none⟩) hp1).trans ((hbel.cell (p := ⟨p1, q1 + j, none⟩) hp1).symm.trans hw1)
            clear hea hall htl hmap hin ho hw1 hw2
            go_upto_region 15 with fail
            clear hfr hvo
            generalize (wr.setCell ⟨g9, j, none⟩ (.slice none 0 0)).drew = ws at *
            by_cases ha1 : a = -1
            · have k1 : (a != -1) = false := by rw [ha1]; rfl
              have HN : Hid ((t.set j Ls.nil).length = x.n ∧ (∀ u ∈ t.set j Ls.nil, OwnI ws v3.heap.size u) ∧ Ls.all (t.set j Ls.nil) = othersG x.g q zs (j + 1)) := Lib.hid ⟨by rw [List.length_set]; exact HTL.out, fun u hu => by
                rcases List.mem_or_eq_of_mem_set hu with hu | rfl
                · exact HEA.out u hu
                · exact OwnI.nil _ _, by rw [HST.out, if_pos ha1, ← HAL.out, Ls.all, Ls.all, List.map_set]; rfl⟩
              clear ha1
              go_wp2
              go_roundw
              case rel => exact ⟨j + 1, _, by omega, by go_num, hset, HN, hbs⟩
              case measure => simp [intOf]; omega
            · have k1 : (a != -1) = true := by rw [bne_iff_ne]; exact ha1
              have hlit : OwnI (ws.alloc (.cells #[.int .i64 a] 3)) ws.heap.size ⟨some ⟨ws.heap.size, 0, none⟩, 1, 1, [a]⟩ := ⟨Own.lit ws 3 #[.int .i64 a] 1 (Nat.le_refl _) rfl (by unfold maxLen; omega), fun z hz => by rw [List.mem_singleton.1 hz]; exact hfa⟩
              have hset3 := hset.alloc (.cells #[.int .i64 a] 3)
              have hbs3 := hbs.alloc hbs.size (.cells #[.int .i64 a] 3)
              have hfr2 := hset3.free (by omega) j
              obtain ⟨vo2, hvo2⟩ : ∃ v, (ws.alloc (.cells #[.int .i64 a] 3)).cell? ⟨g9, j, none⟩ = some v := by
                have h5 := hset3.cell (j := j) (by omega)
                rw [List.getElem?_eq_getElem (by rw [hset3.len]; omega)] at h5
                exact ⟨_, h5⟩
              have hset4 := hset3.set (by omega) j (.slice (some ⟨ws.heap.size, 0, none⟩) 1 1)
              have hset5 : Own ((ws.alloc (.cells #[.int .i64 a] 3)).setCell ⟨g9, j, none⟩ (.slice (some ⟨ws.heap.size, 0, none⟩) 1 1)) v3.heap.size 25 (some ⟨g9, 0, none⟩) (x.n + 1) yc ((t.set j ⟨some ⟨ws.heap.size, 0, none⟩, 1, 1, [a]⟩).map Ls.v ++ [.slice (some ⟨mk, 0, none⟩) 1 1]) := by
                rw [← HMP.out]
                have e5 : ((t.set j Ls.nil).map Ls.v ++ [Value.slice (some ⟨mk, 0, none⟩) 1 1]).set j (.slice (some ⟨ws.heap.size, 0, none⟩) 1 1) = (t.map Ls.v ++ [Value.slice (some ⟨mk, 0, none⟩) 1 1]).set j (.slice (some ⟨ws.heap.size, 0, none⟩) 1 1) := by
                  rw [← HMP.out, List.set_set]
                rw [e5] at hset4
                exact hset4
              have hbs4 := hbs3.setCell (p := ⟨g9, j, none⟩) hg9 (.slice (some ⟨ws.heap.size, 0, none⟩) 1 1)
              have HN : Hid ((t.set j ⟨some ⟨ws.heap.size, 0, none⟩, 1, 1, [a]⟩).length = x.n ∧ (∀ u ∈ t.set j ⟨some ⟨ws.heap.size, 0, none⟩, 1, 1, [a]⟩, OwnI ((ws.alloc (.cells #[.int .i64 a] 3)).setCell ⟨g9, j, none⟩ (.slice (some ⟨ws.heap.size, 0, none⟩) 1 1)) v3.heap.size u) ∧ Ls.all (t.set j ⟨some ⟨ws.heap.size, 0, none⟩, 1, 1, [a]⟩) = othersG x.g q zs (j + 1)) := Lib.hid ⟨by rw [List.length_set]; exact HTL.out, fun u hu => by
                rcases List.mem_or_eq_of_mem_set hu with hu | rfl
                · exact OwnI.setO ((HEA.out u hu).below (lit_below _ _)) hset3 (by omega) (by decide) j _
                · exact OwnI.setO (hlit.mono hbs.size) hset3 (by omega) (by decide) j _, by rw [HST.out, if_neg ha1, ← HAL.out, Ls.all, Ls.all, List.map_set]⟩
              clear ha1 hset hset3 hset4 hbs3 hlit
              go_wp2
              go_roundw
              case rel => exact ⟨j + 1, _, by omega, by go_num, hset5, HN, hbs4⟩
              case measure => simp [intOf]; omega
        · obtain rfl : j = x.n := by omega
          have hless := ho.less (m := x.n) (by omega)
          rw [List.take_append_of_le_length (by rw [List.length_map, hin.out.1]; exact Nat.le_refl _), List.take_of_length_le (by rw [List.length_map, hin.out.1]; exact Nat.le_refl _)] at hless
          have hgr : Gr.Ok wr ⟨some ⟨g9, 0, none⟩, x.n, yc, t⟩ := ⟨⟨outs_at hless, fun u hu => (hin.out.2.1 u hu).ok⟩, by simp only; omega, hcap⟩
          have hgg : Gr.g ⟨some ⟨g9, 0, none⟩, x.n, yc, t⟩ = othersG x.g q zs x.n := hin.out.2.2
          have hc := pmoreC ⟨some ⟨g9, 0, none⟩, x.n, yc, t⟩ M ⟨A1, x.n, c1, zs⟩ i wr hgr (h1.below hbel) (by omega) (by omega) (by omega) (by omega)
          rw [hgg] at hc
          rw [F1.out, F2.out, F3.out] at hc
          have hgb := bg.below hbel
          have eg0 := hgb.c0
          have eg1 := hgb.c1
          clear hless hgr hgg ho hin
          go_wp2_with fail
          refine hc.mono ?_
          rintro e w4 ⟨A5, n5, c5, rfl, h5, hb5⟩
          have hb6 := hbel.trans (hb5.mono hbel.size)
          clear hc eg0 eg1
          have hal := alive7_any w4
          go_wp2_with fail
          refine hal.mono ?_
          rintro e w5 ⟨rfl, hb7⟩
          have hb8 := hb6.trans (hb7.mono hb6.size)
          have hsm := sameints_b ⟨A5, n5, c5, l⟩ ⟨A2, x.n, c2, l⟩ w5 (h5.below hb7).ok (h2.below hb8).ok
          rw [show (l == l) = true by simp] at hsm
          clear hal
          go_wp2_with fail
          refine hsm.mono ?_
          rintro e w6 ⟨rfl, hb9⟩
          have hB9 := hB.trans ((hb8.trans (hb9.mono hb8.size)).mono hB.size)
          go_wp2
          go_ret
          exact ⟨rfl, hB9⟩

theorem own : ownKnob Try.prog.godebug = none := by kernel_rfl
theorem laidOut : laidOutB Try.prog = true := by kernel_rfl

set_option maxRecDepth 100000 in
theorem lifted (os : Os) (started : os.Started) (H : Type) (enc : TypeId × Value → H) :
    ReturnsInHanded {} Try.checked os 6 .any (Rows.pathsOthersSpec.pre6 enc Try.prog Try.f6 Rows.pathsOthersRow.domain false) (Rows.pathsOthersSpec.post enc Try.prog Try.f6 false true false false) := by
  refine returnsInHanded_of_change (C := Try.checked) own started (by kernel_rfl) Try.func6
    (ChangeSpec.witness6 (enc := enc) (C := Try.checked) false ⟨#[], #[.agg #[.slice none 0 0, .int .i64 0], .slice none 0 0, .int .i64 0], []⟩ 8 (by kernel_rfl) (by kernel_rfl) (by kernel_rfl) (by kernel_rfl)) ?_
  intro W base args ds gs before hval0 hW hcnd _
  have hval : ∀ (j : Nat) t v, Try.f6.params[j]? = some t → args[j]? = some v → Value.okWide Try.prog W .any base t v := hval0
  have hW' := hW
  obtain ⟨p, q, hA0, hV, rfl, hfz, hnd⟩ := hW
  have hA : DataW.TrodAll enc Try.prog W 0 (fun _ => true) true Try.f6.params.toList args.toList ds p := hA0
  rw [Try.params6] at hA hval
  obtain ⟨v0, vs0, d0, ds0, p0, q0, hargs, rfl, rfl, h0, r0⟩ := trodAll_cons hA
  obtain ⟨v1, vs1, d1, ds1, p1, q1, rfl, rfl, rfl, h1, r1⟩ := trodAll_cons r0
  obtain ⟨v2, vs2, d2, ds2, p2, q2, rfl, rfl, rfl, h2, r2⟩ := trodAll_cons r1
  obtain ⟨rfl, rfl, rfl⟩ := trodAll_nil r2
  obtain rfl : args = #[v0, v1, v2] := by cases args; simp_all
  obtain ⟨u0, m0, rfl, k0, a0, b0⟩ := arg_gr Try.underlying24 (by kernel_rfl) (by kernel_rfl) Try.underlying22 Try.underlying3 Try.underlying25 (by kernel_rfl) Try.underlying3 (by kernel_rfl) (hval 0 24 v0 rfl rfl) h0
  obtain ⟨A1, n1, c1, l1, rfl, a1, b1, e1, g1⟩ := arg_i64s Try.underlying25 Try.underlying3 (by kernel_rfl) (hval 1 25 v1 rfl rfl) h1
  obtain ⟨x2, rfl, rfl, rfl, w2⟩ := open_int Try.underlying3 (hval 2 3 v2 rfl rfl) h2
  have y2 := bounds_i64 w2
  have hwalk : Calls Try.prog 6 #[.agg #[u0.v, .int .i64 m0], .slice A1 n1 c1, .int .i64 x2] W fun e w' => e = .returned (.bool true) ∧ Below W.heap.size W w' := walk u0 m0 A1 n1 c1 l1 x2 W k0 a0 b0 ⟨a1, b1, e1, g1⟩ y2.1 y2.2
  refine hwalk.mono fun e W' ⟨he, hg⟩ => ?_
  subst he
  exact ⟨_, rfl, law_post laidOut (by kernel_rfl) hW' rfl rfl (by kernel_rfl) Try.underlying4 hg⟩

theorem over : Rows.pathsOthersRow.holds Try.pinned (OpenSpec.ofChange Rows.pathsOthersSpec) :=
  OpenClaim.holds_of_wide 6 Try.f6 rfl rfl rfl rfl rfl rfl rfl ⟨rfl, rfl, rfl, rfl, rfl⟩ rfl rfl rfl rfl rfl (by kernel_rfl) Try.func6 (by kernel_rfl)
    (of_decide_eq_true (by kernel_rfl)) (by unfold Func.isWrapper; first | (rw [if_pos (by decide +kernel)]; kernel_rfl) | (rw [if_neg (by decide +kernel)]; exact ⟨rfl, rfl⟩))
    (fun os started H enc _ => lifted os started H enc)

theorem proved : Rows.PathsOthersSaid :=
  over

end Go.Proofs.Ytojpdmhccodckaa.pathsOthers
