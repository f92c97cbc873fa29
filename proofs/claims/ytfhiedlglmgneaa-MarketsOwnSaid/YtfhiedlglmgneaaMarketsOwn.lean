/-
  Proved: salesroomlaw05.MarketsOwn answers true, for any market, any bid and any number, in whatever memory. No conditions.
-/
import Derived.Test.YtfhiedlglmgneaaRows
import Derived.Test.YtfhiedlglmgneaaLift
import Derived.Test.YtfhiedlglmgneaaAlive5
import Derived.Test.YtfhiedlglmgneaaOwnD
import Derived.Test.YtfhiedlglmgneaaReg2
import Derived.Deep.CutRange
namespace Go.Proofs.Ytfhiedlglmgneaa.marketsOwn
open Go.ChangeShapes Go.WideShapes Go.ChangeAt Go.RowKit
set_option linter.unusedVariables false

theorem info8_int : (Try.prog.info? 3).map (fun i => (i.zero, i.size, i.bytes)) = some (some (.int .i64 0), 1, 8) := by kernel_rfl
theorem may_has {x : Mk} (hm : x.may = true) {i : Nat} (hi : i < x.n) : x.has (i : Int) = true := by rw [Mk.has, hm]; simp; omega
theorem less_of {x : Mk} (hm : x.may = true) {i : Nat} (hi : i < x.n) : x.less (i : Int) = (x.r.zs, less (Ls.all x.b) i, x.o.zs) ∧ x.lessErr (i : Int) = 0 := by
  have h := may_has hm hi
  refine ⟨by rw [Mk.less, if_pos h, Int.toNat_natCast], by rw [Mk.lessErr, if_pos h]⟩
/-- What is without one may be, has as many bidders, and these parts. -/
theorem less_fact {x y : Mk} {w w' : World} (hm : x.may = true) (hx : x.Ok w) (hy : y.Ok w') {i : Nat} (hi : i < x.n) (hp : y.parts = x.less (i : Int)) : y.may = true ∧ y.n = x.n ∧ y.r.zs = x.r.zs ∧ Ls.all y.b = less (Ls.all x.b) i ∧ y.o.zs = x.o.zs := by
  rw [(less_of hm hi).1] at hp
  simp only [Mk.parts, Prod.mk.injEq] at hp
  refine ⟨by rw [Mk.may, hp.1, hp.2.1, hp.2.2]; exact mayM_less hm i, ?_, hp⟩
  have h1 := congrArg List.length hp.2.1
  rw [less_len, Ls.all, Ls.all, List.length_map, List.length_map, hy.len, hx.len] at h1
  exact h1
/-- A twin in which another one's bid stands. -/
theorem twn_set {w : World} {B g k : Nat} {y : Mk} (h : TwnM w B y) (hA : y.A = some ⟨g, 0, none⟩) (hk : k < y.n) (bl : Ls) (hbl : bl.Ok (w.setCell ⟨g, k, none⟩ bl.v)) :
    Mk.Ok (w.setCell ⟨g, k, none⟩ bl.v) ⟨y.r, y.A, y.n, y.c, y.b.set k bl, y.o⟩ := by
  have hok := h.ok
  obtain ⟨m, hm, _⟩ := h.b
  have hl := hok.len
  have hc := hm.le
  rw [hA] at hm
  have ht : ∀ u, Twn w B u → u.Ok (w.setCell ⟨g, k, none⟩ bl.v) := fun u hu => by
    have h1 : Twn (w.setCell ⟨g, k, none⟩ bl.v) B u := ⟨hu.own.setO hm (by omega) (by decide) k bl.v, hu.fit⟩
    exact h1.ok
  have hset := hm.set (by omega) k bl.v
  have hgs : g < (w.setCell ⟨g, k, none⟩ bl.v).heap.size := by
    obtain ⟨g', hA', _, hg⟩ := hset.lt (by omega)
    cases hA'
    exact hg
  refine ⟨ht _ h.r, ht _ h.o, ⟨by rw [List.length_map, List.length_set]; exact hl, fun hn => ⟨g, 0, hA, fun j r hj i hi => ?_⟩⟩, fun u hu => ?_, hok.cap, hok.top, fun _ => ⟨g, 0, hA, hgs⟩⟩
  · obtain rfl : i = 0 := by omega
    rw [List.getElem?_map] at hj
    obtain ⟨u, hu, rfl⟩ := Option.map_eq_some_iff.1 hj
    have hjl := (List.getElem?_eq_some_iff.1 hu).1
    rw [List.length_set] at hjl
    have h3 := hset.cell (j := j) (by omega)
    rw [Nat.mul_one, Nat.zero_add, Nat.add_zero, h3, List.getElem?_set]
    by_cases hkj : k = j
    · subst hkj
      rw [List.getElem?_set_self hjl] at hu
      cases hu
      simp
      omega
    · rw [List.getElem?_set_ne hkj] at hu
      rw [if_neg hkj, List.getElem?_append_left (by rw [List.length_map]; exact hjl), List.getElem?_map, hu]
      rfl
  · rcases List.mem_or_eq_of_mem_set hu with hu | rfl
    · exact ht u (h.bs u hu)
    · exact hbl

set_option maxRecDepth 100000 in
set_option maxHeartbeats 4000000 in
theorem walk (x : Mk) (bl : Ls) (z : Int) (w : World) (h : x.Ok w) (hbl : bl.Ok w) (hz : 0 ≤ z ∧ z ≤ 255) :
    Calls Try.prog 3 #[x.v, .slice bl.A bl.n bl.c, .int .u8 z] w fun e w' => e = .returned (.bool true) ∧ Below w.heap.size w w' := by
  by_cases hm : x.may = true
  · have M1 := Lib.hid (show x.err = 0 by rw [Mk.err, if_pos hm])
    have M2 := Lib.hid (show x.gains = gains x.r.zs (Ls.all x.b) by rw [Mk.gains, if_pos hm])
    have HM := Lib.hid hm
    obtain ⟨l1, l2, l3, l4, l5, l6, l7, l8⟩ := mk_len h hm
    by_cases hn : 100 < bl.n
    · have hn' : decide (100 < (bl.n : Int)) = true := decide_eq_true (by omega)
      have hn2 : decide (100 < bl.n) = true := decide_eq_true hn
      clear hm l1 l2 l3 l4 l5 l6 l7 l8
      have hx := h
      have hB := Below.refl w.heap.size w
      have hxv : x.v = .agg #[.slice x.r.A x.r.n x.r.c, .slice x.A x.n x.c, .slice x.o.A x.o.n x.o.c] := rfl
      have Vx := Lib.hid hxv
      rw [hxv]
      clear hxv
      go_enter Try.func3, Try.ntmps3
      have bx := InBox.new w x
      have hbx : Below w.heap.size w (w.alloc (.cells #[.slice x.r.A x.r.n x.r.c, .slice x.A x.n x.c, .slice x.o.A x.o.n x.o.c] 25)) := (Below.refl _ w).alloc (Nat.le_refl _) _
      replace hx := hx.below hbx
      replace hB := hB.trans (hbx.mono hB.size)
      clear hbx
      have ex0 := bx.c0
      have ex1 := bx.c1
      have ex2 := bx.c2
      have hc := mgainsC x (w.alloc (.cells #[.slice x.r.A x.r.n x.r.c, .slice x.A x.n x.c, .slice x.o.A x.o.n x.o.c] 25)) hx
      rw [M1.out, M2.out, Vx.out] at hc
      go_wp2_with fail
      clear ex0 ex1 ex2
      generalize w.alloc (.cells #[.slice x.r.A x.r.n x.r.c, .slice x.A x.n x.c, .slice x.o.A x.o.n x.o.c] 25) = W4 at *
      refine hc.mono ?_
      rintro e v5 ⟨A1, n1, c1, rfl, ta, hta, hga, hb⟩
      clear hc
      replace hx := hx.below hb
      replace bx := bx.below hb
      replace hB := hB.trans (hb.mono hB.size)
      clear hb
      clear hta hga
      have ex0 := bx.c0
      have ex1 := bx.c1
      have ex2 := bx.c2
      have hc := alive5_any v5
      go_wp2_with fail
      clear ex0 ex1 ex2
      refine hc.mono ?_
      rintro e v6 ⟨rfl, hb⟩
      clear hc
      replace hx := hx.below hb
      replace bx := bx.below hb
      replace hB := hB.trans (hb.mono hB.size)
      clear hb
      go_wp2
      go_ret
      exact ⟨rfl, hB⟩
    · have hn' : decide (100 < (bl.n : Int)) = false := decide_eq_false (by omega)
      have hn2 : decide (100 < bl.n) = false := decide_eq_false hn
      have HBL := Lib.hid (show (Ls.all x.b).length = x.n by rw [Ls.all, List.length_map]; exact h.len)
      have H6a : Hid (∀ u ∈ x.b, u.n ≤ 1000000000) := Lib.hid (fun u hu => by have := l6 u hu; omega)
      have lo : x.o.n = x.n := l5
      have HLO := Lib.hid lo
      have lo8 : x.o.n ≤ 8 := by omega
      obtain ⟨k, hk, hkz⟩ : ∃ k : Nat, k < x.n ∧ Int.tmod z x.n = (k : Int) := ⟨(z % x.n).toNat, by have := Int.emod_lt_of_pos z (show (0 : Int) < x.n by omega); have := Int.emod_nonneg z (show (x.n : Int) ≠ 0 by omega); omega, by rw [Int.tmod_eq_emod_of_nonneg hz.1]; have := Int.emod_nonneg z (show (x.n : Int) ≠ 0 by omega); omega⟩
      have hn0 : ((x.n : Int) == 0) = false := by rw [beq_eq_false_iff_ne]; omega
      clear hm l5 l6 l7 l8 lo
      have hx := h
      have hB := Below.refl w.heap.size w
      have hxv : x.v = .agg #[.slice x.r.A x.r.n x.r.c, .slice x.A x.n x.c, .slice x.o.A x.o.n x.o.c] := rfl
      have Vx := Lib.hid hxv
      rw [hxv]
      clear hxv
      go_enter Try.func3, Try.ntmps3
      have bx := InBox.new w x
      have hbx : Below w.heap.size w (w.alloc (.cells #[.slice x.r.A x.r.n x.r.c, .slice x.A x.n x.c, .slice x.o.A x.o.n x.o.c] 25)) := (Below.refl _ w).alloc (Nat.le_refl _) _
      replace hx := hx.below hbx
      replace hB := hB.trans (hbx.mono hB.size)
      clear hbx
      have ex0 := bx.c0
      have ex1 := bx.c1
      have ex2 := bx.c2
      have hc := mgainsC x (w.alloc (.cells #[.slice x.r.A x.r.n x.r.c, .slice x.A x.n x.c, .slice x.o.A x.o.n x.o.c] 25)) hx
      rw [M1.out, M2.out, Vx.out] at hc
      go_wp2_with fail
      clear ex0 ex1 ex2
      generalize w.alloc (.cells #[.slice x.r.A x.r.n x.r.c, .slice x.A x.n x.c, .slice x.o.A x.o.n x.o.c] 25) = W7 at *
      refine hc.mono ?_
      rintro e v8 ⟨A1, n1, c1, rfl, ta, hta, hga, hb⟩
      clear hc
      replace hx := hx.below hb
      replace bx := bx.below hb
      replace hB := hB.trans (hb.mono hB.size)
      clear hb
      have hn1 : n1 = x.n := by
        have h3 := congrArg List.length hga
        rw [Ls.all, List.length_map, gains, List.length_map, HBL.out, hta.len] at h3
        exact h3
      subst hn1
      have HGA := Lib.hid hga
      clear hga
      have ex0 := bx.c0
      have ex1 := bx.c1
      have ex2 := bx.c2
      have hc := twinmarket_any x v8 hx (by omega) (by omega) (by omega) H6a.out
      rw [Vx.out] at hc
      go_wp2_with fail
      clear ex0 ex1 ex2
      refine hc.mono ?_
      rintro e v9 ⟨y, rfl, hy, hyr, hyb, hyo, hyn, hb8⟩
      clear hc
      have HYR := Lib.hid hyr
      have HYB := Lib.hid hyb
      have HYO := Lib.hid hyo
      clear hyr hyb hyo
      obtain ⟨g, hyA, hgB, hgl⟩ : ∃ g, y.A = some ⟨g, 0, none⟩ ∧ v8.heap.size ≤ g ∧ g < v9.heap.size := by
        obtain ⟨m, hm, _⟩ := hy.b
        obtain ⟨g, hA, hB', hg⟩ := hm.lt (by have := hm.le; omega)
        exact ⟨g, hA, hB', hg⟩
      have HYA := Lib.hid hyA
      have HYN := Lib.hid hyn
      have v_y : y.v = .agg #[.slice y.r.A y.r.n y.r.c, .slice (some ⟨g, 0, none⟩) x.n y.c, .slice y.o.A y.o.n y.o.c] := by rw [← hyA, ← hyn]; rfl
      rw [v_y]
      clear hyA hyn v_y
      have by1 := Own.lit (B := v9.heap.size) v9 25 #[.slice y.r.A y.r.n y.r.c, .slice y.A y.n y.c, .slice y.o.A y.o.n y.o.c] 3 (Nat.le_refl _) rfl (by unfold maxLen; omega)
      have hbx : Below v9.heap.size v9 (v9.alloc (.cells #[.slice y.r.A y.r.n y.r.c, .slice y.A y.n y.c, .slice y.o.A y.o.n y.o.c] 25)) := (Below.refl _ v9).alloc (Nat.le_refl _) _
      have hb8t : Below v8.heap.size v8 (v9.setCell ⟨g, k, none⟩ bl.v) := hb8.setCell (p := ⟨g, k, none⟩) hgB _
      have hyT := twn_set hy HYA.out (by rw [HYN.out]; exact hk) bl (hbl.below (hB.trans (hb8t.mono hB.size)))
      have hV1 : Below v9.heap.size (v9.setCell ⟨g, k, none⟩ bl.v) ((v9.alloc (.cells #[.slice y.r.A y.r.n y.r.c, .slice y.A y.n y.c, .slice y.o.A y.o.n y.o.c] 25)).setCell ⟨g, k, none⟩ bl.v) := below_set hbx hgl _
      have hVs : (v9.setCell ⟨g, k, none⟩ bl.v).heap.size = v9.heap.size := by simp only [World.setCell, Array.size_modify]
      clear hb8t
      generalize v9.setCell ⟨g, k, none⟩ bl.v = vT at hyT hV1 hVs
      replace hy := hy.below hbx
      replace hb8 := hb8.trans (hbx.mono hb8.size)
      have hgz : g < (v9.alloc (.cells #[.slice y.r.A y.r.n y.r.c, .slice y.A y.n y.c, .slice y.o.A y.o.n y.o.c] 25)).heap.size := Nat.lt_of_lt_of_le hgl hbx.size
      clear hbx
      rw [show v9.alloc (.cells #[.slice y.r.A y.r.n y.r.c, .slice y.A y.n y.c, .slice y.o.A y.o.n y.o.c] 25) = v9.alloc (.cells #[.slice y.r.A y.r.n y.r.c, .slice (some ⟨g, 0, none⟩) x.n y.c, .slice y.o.A y.o.n y.o.c] 25) by rw [HYA.out, HYN.out]] at *
      go_upto_region 6 with fail
      generalize v9.alloc (.cells #[.slice y.r.A y.r.n y.r.c, .slice (some ⟨g, 0, none⟩) x.n y.c, .slice y.o.A y.o.n y.o.c] 25) = W9 at *
      obtain ⟨gy, hgy⟩ : ∃ gy, gy = v9.heap.size := ⟨_, rfl⟩
      rw [← hgy] at by1 hgl hV1 hVs ⊢
      have by1 : Own W9 gy 25 (some ⟨gy, 0, none⟩) 3 3 [.slice y.r.A y.r.n y.r.c, .slice (some ⟨g, 0, none⟩) x.n y.c, .slice y.o.A y.o.n y.o.c] := by
        have h1 := by1
        simp only [HYA.out, HYN.out] at h1
        exact h1
      have ey0 := by1.cell (j := 0) (by omega)
      have ey1 := by1.cell (j := 1) (by omega)
      have ey2 := by1.cell (j := 2) (by omega)
      simp only [List.getElem?_cons_zero, List.getElem?_cons_succ] at ey0 ey1 ey2
      clear hgy
      have hk' : (k : Int) < x.n := by omega
      obtain ⟨mk0, hrow, _⟩ := hy.b
      rw [HYA.out, HYN.out] at hrow
      have hfr := hrow.free (by have := hrow.le; omega) k
      obtain ⟨vo, hvo⟩ : ∃ v, W9.cell? ⟨g, k, none⟩ = some v := by
        have h1 := hrow.cell (j := k) (by omega)
        rw [List.getElem?_eq_getElem (by rw [hrow.len]; omega)] at h1
        exact ⟨_, h1⟩
      have hb8s : Below v8.heap.size v8 (W9.setCell ⟨g, k, none⟩ (.slice bl.A bl.n bl.c)) := hb8.setCell (p := ⟨g, k, none⟩) hgB _
      have hx0 := hx
      have hne : ∀ q, q ≠ g → (W9.setCell ⟨g, k, none⟩ (.slice bl.A bl.n bl.c)).heap[q]? = W9.heap[q]? := fun q hq => setCell_ne' hq
      have hby2 := by1.keep (w' := W9.setCell ⟨g, k, none⟩ (.slice bl.A bl.n bl.c)) fun q hA _ hq _ => hne q (by omega)
      have hgysz : gy < (W9.setCell ⟨g, k, none⟩ (.slice bl.A bl.n bl.c)).heap.size := by
        obtain ⟨g', hA', _, hlt'⟩ := hby2.lt (by omega)
        cases hA'
        exact hlt'
      have hm8 : gy ≥ v8.heap.size := by omega
      clear hrow hne by1
      go_upto_region 7 with fail
      clear ey0 ey1 ey2 hfr hvo
      generalize hw10 : W9.setCell ⟨g, k, none⟩ (.slice bl.A bl.n bl.c) = w10 at *
      have hw10' : W9.setCell ⟨g, k, none⟩ bl.v = w10 := hw10
      rw [hw10'] at hV1
      clear hw10 hw10' hy hb8
      have bx10 := bx.below hb8s
      have hB10 := hB.trans (hb8s.mono hB.size)
      have hlo1 : 1 ≤ x.o.n := by rw [HLO.out]; omega
      go_cut [9] from 62 (fun v wx => v = .int .i64 (k : Int) ∧ ∃ A' c', OwnI wx w10.heap.size ⟨A', x.o.n, c', rot x.o.zs⟩ ∧ Below w10.heap.size (w10.setCell ⟨gy, 2, none⟩ (.slice A' x.o.n c')) wx)
      case first =>
        have hx10 := hx.below hb8s
        obtain ⟨po, qo, hoA, hpo8, uo, huo, hco8⟩ := hx.o.rd.get (k := 0) (by omega)
        have hco := (hb8s.cell (p := ⟨po, qo + 0, none⟩) hpo8).trans hco8
        have hpo := Nat.lt_of_lt_of_le hpo8 hb8s.size
        have hlt8 := bx.lt
        clear hco8
        have hol := hx10.o.len
        have hol0 : 0 < x.o.zs.length := by omega
        rw [ci64_get _ _ hol0] at huo
        obtain rfl : iV x.o.zs[0] = uo := Option.some.inj huo
        have hc10 : w10.cell? ⟨po, qo, none⟩ = some (.int .i64 x.o.zs[0]) := hco
        have hrot : Hid (ci64 (x.o.zs.drop 1) ++ [.int .i64 x.o.zs[0]] = ci64 (rot x.o.zs)) := Lib.hid (by
          rw [rot, ci64_app, List.getD_eq_getElem?_getD, List.getElem?_eq_getElem hol0]
          rfl)
        have hfit : Hid (∀ z ∈ rot x.o.zs, -9223372036854775808 ≤ z ∧ z ≤ 9223372036854775807) := Lib.hid (fun z hz => by
          unfold rot at hz
          rcases List.mem_append.1 hz with hz | hz
          · exact hx10.o.fit z (List.mem_of_mem_drop hz)
          · rw [List.mem_singleton.1 hz, List.getD_eq_getElem?_getD, List.getElem?_eq_getElem hol0]
            exact hx10.o.fit _ (List.getElem_mem hol0))
        have hcut := hx10.o.rd.cut (lo := 1) (hi := x.o.n) (cap := x.o.c) (by omega) (Nat.le_refl _) hx10.o.cap
        rw [hoA] at hcut
        have hcc : (ci64 x.o.zs).drop 1 = ci64 (x.o.zs.drop 1) := by simp [ci64]
        rw [hcc, List.take_of_length_le (by rw [ci64_len, List.length_drop]; omega)] at hcut
        obtain ⟨Aq, hAq⟩ : ∃ Aq, (if x.o.c = 1 then some ⟨po, qo, none⟩ else some (⟨po, qo + 1, none⟩ : Addr)) = Aq := ⟨_, rfl⟩
        have hcut : Rd w10 Aq (x.o.n - 1) (ci64 (x.o.zs.drop 1)) := by
          rw [← hAq]
          simpa [Addr.add] using hcut
        have d2 := bx10.c2
        have dlt := bx10.lt
        rw [hoA] at d2
        have hocap := hx10.o.cap
        have hotop := hx10.o.top
        unfold maxLen at hotop
        obtain ⟨i0, hi0, hz0, hz1, hz2⟩ := info_parts info8_int
        generalize x.o.zs[0] = zo at *
        have i1 : (1 : Int) ≤ x.o.n := by omega
        have i2 : (x.o.n : Int) ≤ x.o.c := by omega
        have i3 : (0 : Int) < x.o.n := by omega
        have i4 : 0 < x.o.n := by omega
        clear hoA huo hco hcc hol hol0 hx10
        have hS : ∀ w', Below w10.heap.size w10 w' → w'.cell? ⟨w.heap.size, 2, none⟩ = some (.slice (some ⟨po, qo, none⟩) x.o.n x.o.c) ∧ w'.cell? ⟨po, qo, none⟩ = some (.int .i64 zo) := fun w' hb => ⟨(hb.cell (p := ⟨w.heap.size, 2, none⟩) dlt).trans d2, (hb.cell (p := ⟨po, qo, none⟩) hpo).trans hc10⟩
        refine wp_region_tr (S := (fun w' => w'.cell? ⟨w.heap.size, 2, none⟩ = some (.slice (some ⟨po, qo, none⟩) x.o.n x.o.c) ∧ w'.cell? ⟨po, qo, none⟩ = some (.int .i64 zo))) (.q 0 (.q 1 (.q 2 (.q 4 (.q 5 (.q 6 (.q 7 (.b 3 8 (.d 8 (.d 9 (.q 10 (.d 11 .nil)))) (.d 3 (.d 9 (.q 10 (.d 11 .nil)))))))))))) default (by kernel_rfl) (by kernel_rfl) (by kernel_rfl) (hS _ ((Below.refl _ w10).drew)) ?_
        simp only [getTr, nth]
        obtain ⟨v0, hv0⟩ : ∃ v0, v0 = w10.drew := ⟨_, rfl⟩
        have vW0 : Below w10.heap.size w10 v0 := by rw [hv0]; exact (Below.refl _ w10).drew
        rw [← hv0]
        have z0 : w10.heap.size = v0.heap.size := by rw [hv0]; rfl
        clear hv0
        repeat (first | (refine trS (by rfl) ?_; simp only [Act.put, List.setIfInBounds_toArray, List.set_cons_zero, List.set_cons_succ]) | (refine trN (by rfl) ?_; simp only [Act.put, List.setIfInBounds_toArray, List.set_cons_zero, List.set_cons_succ]) | (refine trQ (v := ?_) (by rfl) (fun _ hSw => ?_) ?_; rotate_left; (focus ((have hS1 := hSw.1); (have hS2 := hSw.2); clear hSw; go_simp; (first | done | with_reducible rfl))); simp only [Act.put, List.setIfInBounds_toArray, List.set_cons_zero, List.set_cons_succ]))
        refine trB ?_ ?_
        · refine trD (by rfl) ?_
          intro K hK
          refine wp_app _ _ _ _ rfl 3 i0 _ 8 Try.underlying22 hi0 hz0 hz1 hz2 rfl w10.heap.size none 0 0 [] (by rfl) (Own.none_ _ _ _ _) _ _ _ (ci64 (x.o.zs.drop 1)) (by rfl) (hcut.below vW0) (ci64_one _) (by simp only [maxLen]; omega) (by omega) (Nat.le_of_eq z0) ?_
          intro A2 k2 v1 ho1 vb1 _ _
          have vW1 : Below w10.heap.size w10 v1 := vW0.trans vb1
          have ho1 : Own v1 w10.heap.size 3 A2 (x.o.n - 1) k2 (ci64 (x.o.zs.drop 1)) := by simpa using ho1
          refine hK _ _ (hS _ vW1) ?_
          clear hK K
          try simp only [Act.put, List.setIfInBounds_toArray, List.set_cons_zero, List.set_cons_succ]
          try simp only [Nat.zero_add]
          refine trD (by rfl) ?_
          intro K hK
          go_simp
          have wz : w10.heap.size ≤ v1.heap.size := vW1.size
          have vW2 : Below w10.heap.size w10 (v1.alloc (.cells #[.int .i64 zo] 3)) := vW1.alloc wz _
          refine hK _ _ (hS _ vW2) ?_
          clear hK K
          try simp only [Act.put, List.setIfInBounds_toArray, List.set_cons_zero, List.set_cons_succ]
          refine trD (by rfl) ?_
          intro K hK
          refine wp_app _ _ _ _ rfl 3 i0 _ 8 Try.underlying22 hi0 hz0 hz1 hz2 rfl w10.heap.size A2 (x.o.n - 1) k2 _ (by rfl) (ho1.alloc _) _ _ _ [.int .i64 zo] (by rfl) ?ra (by simp; rfl) (by simp only [maxLen]; omega) (by omega) vW2.size ?_
          case ra =>
            refine ⟨rfl, fun _ => ⟨v1.heap.size, 0, rfl, fun jj hj => ?_⟩⟩
            obtain rfl : jj = 0 := by omega
            show (v1.alloc _).cell? ⟨v1.heap.size, 0 + 0, none⟩ = _
            rw [cell_of_row _ _ _ _ _ _ (heap_alloc_new v1 _)]
            rfl
          intro A3 k3 v3 ho2 vb3 _ _
          have vW3 := vW2.trans vb3
          have ho2 : OwnI v3 w10.heap.size ⟨A3, x.o.n, k3, rot x.o.zs⟩ := ⟨by rw [← hrot.out]; rw [show x.o.n = x.o.n - 1 + 1 by omega]; exact ho2, hfit.out⟩
          refine hK _ _ (hS _ vW3) ?_
          clear hK K
          try simp only [Act.put, List.setIfInBounds_toArray, List.set_cons_zero, List.set_cons_succ]
          try simp only [show x.o.n - 1 + 1 = x.o.n by omega]
          repeat (first | (refine trS (by rfl) ?_; simp only [Act.put, List.setIfInBounds_toArray, List.set_cons_zero, List.set_cons_succ]) | (refine trN (by rfl) ?_; simp only [Act.put, List.setIfInBounds_toArray, List.set_cons_zero, List.set_cons_succ]) | (refine trQ (v := ?_) (by rfl) (fun _ hSw => ?_) ?_; rotate_left; (focus ((have hS1 := hSw.1); (have hS2 := hSw.2); clear hSw; go_simp; (first | done | with_reducible rfl))); simp only [Act.put, List.setIfInBounds_toArray, List.set_cons_zero, List.set_cons_succ]))
          have hbm := hby2.below vW3
          have fr2 := hbm.free (by omega) 2
          have em2 := hbm.cell (j := 2) (by omega)
          simp only [List.getElem?_cons_zero, List.getElem?_cons_succ] at em2
          refine trD (by rfl) ?_
          intro K hK
          go_simp
          have hbe := below_set (j := 2) vW3 hgysz (.slice A3 x.o.n k3)
          have hbw : Below w10.heap.size w10 (v3.setCell ⟨gy, 2, none⟩ (.slice A3 x.o.n k3)) → True := fun _ => trivial
          have hne2 : ∀ q, q ≠ gy → (v3.setCell ⟨gy, 2, none⟩ (.slice A3 x.o.n k3)).heap[q]? = v3.heap[q]? := fun q hq => setCell_ne' hq
          refine hK _ _ ⟨(World.cell?_of_block (hne2 w.heap.size (by omega))).trans (hS _ vW3).1, (World.cell?_of_block (hne2 po (by omega))).trans (hS _ vW3).2⟩ ?_
          clear hK K
          try simp only [Act.put, List.setIfInBounds_toArray, List.set_cons_zero, List.set_cons_succ]
          refine trE ?_
          go_wp2_with fail
          go_meet
          case rel => exact ⟨rfl, A3, k3, ho2.keepB fun q hq => hne2 q (by omega), hbe⟩
        · refine trD (by rfl) ?_
          intro K hK
          go_simp
          have wz : w10.heap.size ≤ v0.heap.size := vW0.size
          have vW1 : Below w10.heap.size w10 (v0.alloc (.cells #[.int .i64 zo] 3)) := vW0.alloc wz _
          have hnew := heap_alloc_new v0 (.cells #[.int .i64 zo] 3)
          have hcellz : (v0.alloc (.cells #[.int .i64 zo] 3)).cell? ⟨v0.heap.size, 0, none⟩ = some (.int .i64 zo) := by rw [cell_of_row _ _ _ _ _ _ hnew]; rfl
          have hlt0 : v0.heap.size < (v0.alloc (.cells #[.int .i64 zo] 3)).heap.size := by rw [show (v0.alloc (.cells #[.int .i64 zo] 3)).heap.size = v0.heap.size + 1 from Array.size_push ..]; omega
          refine hK _ _ (hS _ vW1) ?_
          clear hK K hnew
          try simp only [Act.put, List.setIfInBounds_toArray, List.set_cons_zero, List.set_cons_succ]
          generalize v0.alloc (.cells #[.int .i64 zo] 3) = v1 at *
          generalize v0.heap.size = gz at *
          refine trD (by rfl) ?_
          intro K hK
          refine wp_app _ _ _ _ rfl 3 i0 _ 8 Try.underlying22 hi0 hz0 hz1 hz2 rfl v1.heap.size none 0 0 [] (by rfl) (Own.none_ _ _ _ _) _ _ _ (ci64 (x.o.zs.drop 1)) (by rfl) (hcut.below vW1) (ci64_one _) (by simp only [maxLen]; omega) (by omega) (Nat.le_refl _) ?_
          intro A2 k2 v2 ho1 vb1 _ _
          have vW2 : Below w10.heap.size w10 v2 := vW1.trans (vb1.mono vW1.size)
          have ho1 : Own v2 w10.heap.size 3 A2 (x.o.n - 1) k2 (ci64 (x.o.zs.drop 1)) := by simpa using ho1.mono vW1.size
          have hcellz2 := (vb1.cell (p := ⟨gz, 0, none⟩) hlt0).trans hcellz
          refine hK _ _ (hS _ vW2) ?_
          clear hK K
          try simp only [Act.put, List.setIfInBounds_toArray, List.set_cons_zero, List.set_cons_succ]
          try simp only [Nat.zero_add]
          refine trD (by rfl) ?_
          intro K hK
          refine wp_app _ _ _ _ rfl 3 i0 _ 8 Try.underlying22 hi0 hz0 hz1 hz2 rfl w10.heap.size A2 (x.o.n - 1) k2 _ (by rfl) ho1 _ _ _ [.int .i64 zo] (by rfl) ?rb (by simp; rfl) (by simp only [maxLen]; omega) (by omega) vW2.size ?_
          case rb =>
            refine ⟨rfl, fun _ => ⟨gz, 0, rfl, fun jj hj => ?_⟩⟩
            obtain rfl : jj = 0 := by omega
            exact hcellz2
          intro A3 k3 v3 ho2 vb3 _ _
          have vW3 := vW2.trans vb3
          have ho2 : OwnI v3 w10.heap.size ⟨A3, x.o.n, k3, rot x.o.zs⟩ := ⟨by rw [← hrot.out]; rw [show x.o.n = x.o.n - 1 + 1 by omega]; exact ho2, hfit.out⟩
          refine hK _ _ (hS _ vW3) ?_
          clear hK K
          try simp only [Act.put, List.setIfInBounds_toArray, List.set_cons_zero, List.set_cons_succ]
          try simp only [show x.o.n - 1 + 1 = x.o.n by omega]
          repeat (first | (refine trS (by rfl) ?_; simp only [Act.put, List.setIfInBounds_toArray, List.set_cons_zero, List.set_cons_succ]) | (refine trN (by rfl) ?_; simp only [Act.put, List.setIfInBounds_toArray, List.set_cons_zero, List.set_cons_succ]) | (refine trQ (v := ?_) (by rfl) (fun _ hSw => ?_) ?_; rotate_left; (focus ((have hS1 := hSw.1); (have hS2 := hSw.2); clear hSw; go_simp; (first | done | with_reducible rfl))); simp only [Act.put, List.setIfInBounds_toArray, List.set_cons_zero, List.set_cons_succ]))
          have hbm := hby2.below vW3
          have fr2 := hbm.free (by omega) 2
          have em2 := hbm.cell (j := 2) (by omega)
          simp only [List.getElem?_cons_zero, List.getElem?_cons_succ] at em2
          refine trD (by rfl) ?_
          intro K hK
          go_simp
          have hbe := below_set (j := 2) vW3 hgysz (.slice A3 x.o.n k3)
          have hbw : Below w10.heap.size w10 (v3.setCell ⟨gy, 2, none⟩ (.slice A3 x.o.n k3)) → True := fun _ => trivial
          have hne2 : ∀ q, q ≠ gy → (v3.setCell ⟨gy, 2, none⟩ (.slice A3 x.o.n k3)).heap[q]? = v3.heap[q]? := fun q hq => setCell_ne' hq
          refine hK _ _ ⟨(World.cell?_of_block (hne2 w.heap.size (by omega))).trans (hS _ vW3).1, (World.cell?_of_block (hne2 po (by omega))).trans (hS _ vW3).2⟩ ?_
          clear hK K
          try simp only [Act.put, List.setIfInBounds_toArray, List.set_cons_zero, List.set_cons_succ]
          refine trE ?_
          go_wp2_with fail
          go_meet
          case rel => exact ⟨rfl, A3, k3, ho2.keepB fun q hq => hne2 q (by omega), hbe⟩
      case rest =>
        obtain ⟨rfl, A3, k3, hord, hb10⟩ := hcut
        have hs10 : (w10.setCell ⟨gy, 2, none⟩ (.slice A3 x.o.n k3)).heap.size = w10.heap.size := by simp only [World.setCell, Array.size_modify]
        have hb10' : Below (w10.setCell ⟨gy, 2, none⟩ (.slice A3 x.o.n k3)).heap.size (w10.setCell ⟨gy, 2, none⟩ (.slice A3 x.o.n k3)) wc := by rw [hs10]; exact hb10
        have hm11 := (hby2.set (by omega) 2 (.slice A3 x.o.n k3)).below hb10'
        simp only [List.set_cons_zero, List.set_cons_succ] at hm11
        have hV2 : Below gy vT wc := hV1.trans (((Below.refl gy w10).setCell (p := ⟨gy, 2, none⟩) (Nat.le_refl _) _).trans (hb10.mono (by omega)))
        have hyU := hyT.below (by rw [hVs]; exact hV2)
        have hy3 : Mk.Ok wc ⟨y.r, y.A, y.n, y.c, y.b.set k bl, ⟨A3, x.o.n, k3, rot x.o.zs⟩⟩ := ⟨hyU.r, hord.ok, hyU.b, hyU.bs, hyU.cap, hyU.top, hyU.at_⟩
        have hb8c : Below v8.heap.size v8 wc := hb8s.trans (((Below.refl v8.heap.size w10).setCell (p := ⟨gy, 2, none⟩) hm8 _).trans (hb10.mono hb8s.size))
        have hBc := hB.trans (hb8c.mono hB.size)
        have hxc := hx.below hb8c
        have bxc := bx.below hb8c
        have htac := hta.below hb8c
        obtain ⟨γ, hγ⟩ : ∃ γ, bidB bl.zs x.r.zs.length = γ := ⟨_, rfl⟩
        have h2a : Ls.all (y.b.set k bl) = (Ls.all x.b).set k bl.zs := by rw [Ls.all, List.map_set]; exact congrArg (fun l => List.set l k bl.zs) HYB.out
        have hmay3 : (Mk.mk y.r y.A y.n y.c (y.b.set k bl) ⟨A3, x.o.n, k3, rot x.o.zs⟩).may = γ := by
          have h1 := mayM_own (show mayM x.r.zs (Ls.all x.b) x.o.zs = true from HM.out) (k := k) (by rw [HBL.out]; exact hk) bl.zs
          rw [hγ] at h1
          rw [← h1, Mk.may, h2a, HYR.out]
        have hg3 : (Mk.mk y.r y.A y.n y.c (y.b.set k bl) ⟨A3, x.o.n, k3, rot x.o.zs⟩).gains = if γ = true then (gains x.r.zs (Ls.all x.b)).set k (gain x.r.zs bl.zs) else [] := by
          rw [Mk.gains, hmay3, h2a, HYR.out, gains_set]
        have he3 : (Mk.mk y.r y.A y.n y.c (y.b.set k bl) ⟨A3, x.o.n, k3, rot x.o.zs⟩).err = if γ = true then 0 else 1 := by rw [Mk.err, hmay3]
        have hgc := mgainsC _ wc hy3
        rw [he3, hg3] at hgc
        unfold Mk.v Ls.v at hgc
        simp only [HYA.out, HYN.out] at hgc
        have n0 := hm11.cell (j := 0) (by omega)
        have n1' := hm11.cell (j := 1) (by omega)
        have n2' := hm11.cell (j := 2) (by omega)
        simp only [List.getElem?_cons_zero, List.getElem?_cons_succ] at n0 n1' n2'
        have HGAM := Lib.hid hγ
        clear he3 hg3 hmay3 hγ h2a hyU hyT hV1 hV2 hVs hb10' hb10 hs10 hord hby2 hb8s hB10 bx10 hx hta hB
        obtain ⟨Ef, hEf⟩ : ∃ Ef : Int, (if γ = true then 0 else 1) = Ef := ⟨_, rfl⟩
        have HEF := Lib.hid hEf
        rw [hEf] at hgc
        clear hEf
        go_wp2_with fail
        refine hgc.mono ?_
        rintro e w11 ⟨A4, n4, c4, rfl, tb, htb, hgb, hb11⟩
        clear hgc n0 n1' n2'
        have hxd := hxc.below hb11
        have bxd := bxc.below hb11
        have htad := htac.below hb11
        have hBd := hBc.trans (hb11.mono hBc.size)
        have HGB := Lib.hid hgb
        clear hgb hxc bxc htac hBc
        have d0 := bxd.c0
        have d1 := bxd.c1
        have d2 := bxd.c2
        have hcw := mwithoutC x k w11 hxd (by omega) (by omega)
        rw [(less_of HM.out hk).2, Vx.out] at hcw
        go_wp2_with fail
        refine hcw.mono ?_
        rintro e w12 ⟨y4, rfl, hy4, hq4, hb12⟩
        clear hcw d0 d1 d2
        have hy4w : y4.v = .agg #[.slice y4.r.A y4.r.n y4.r.c, .slice y4.A y4.n y4.c, .slice y4.o.A y4.o.n y4.o.c] := rfl
        obtain ⟨m4, e4, p4, q4, _⟩ := less_fact HM.out hxd hy4.ok hk hq4
        have hxe := hxd.below hb12
        have bxe := bxd.below hb12
        have htae := htad.below hb12
        have htbe := htb.below hb12
        have hBe := hBd.trans (hb12.mono hBd.size)
        rw [hy4w]
        have b4 := InBox.new w12 y4
        have hbx4 : Below w12.heap.size w12 (w12.alloc (.cells #[.slice y4.r.A y4.r.n y4.r.c, .slice y4.A y4.n y4.c, .slice y4.o.A y4.o.n y4.o.c] 25)) := (Below.refl _ w12).alloc (Nat.le_refl _) _
        have d0 := b4.c0
        have d1 := b4.c1
        have d2 := b4.c2
        have hgc := mgainsC y4 _ (hy4.ok.below hbx4)
        have ge4 : y4.err = 0 := by rw [Mk.err, if_pos m4]
        have gg4 : y4.gains = (gains x.r.zs (Ls.all x.b)).set k (List.replicate x.r.n (-1)) := by
          rw [Mk.gains, if_pos m4, p4, q4, gains_less, hxd.r.len]
        rw [ge4, gg4, hy4w] at hgc
        clear ge4 gg4 hy4w e4 q4 p4 m4 hq4 hxd bxd htad htb hBd hb11 hb12
        go_wp2_with fail
        refine hgc.mono ?_
        rintro e w13 ⟨A5, n5, c5, rfl, tc, htc, hgcc, hb13⟩
        have hb13 := hbx4.trans (hb13.mono hbx4.size)
        have hx := hxe.below hb13
        have bx := bxe.below hb13
        have hta := htae.below hb13
        have htb := htbe.below hb13
        have hB := hBe.trans (hb13.mono hBe.size)
        have HGC := Lib.hid hgcc
        have hn5 : n5 = x.n := by
          have h3 := congrArg List.length hgcc
          rw [Ls.all, List.length_map, List.length_set, gains, List.length_map, HBL.out, htc.len] at h3
          exact h3
        subst hn5
        clear hgc hgcc d0 d1 d2 b4 hbx4 hxe bxe htae htbe hBe hb13
        have hblw := hbl.below hB
        have hrl := hx.r.len
        have hbll := hbl.len
        have d0 := bx.c0
        have d1 := bx.c1
        have d2 := bx.c2
        have hxn' : ((x.n : Int) != (x.n : Int)) = false := by simp
        have hxn2 : (x.n != x.n) = false := by simp
        cases γ
        · have hEf : Ef = 1 := HEF.out.symm
          have hn4 : n4 = 0 := by
            have h3 := congrArg List.length HGB.out
            rw [Ls.all, List.length_map, htb.len] at h3
            exact h3
          subst hEf
          have hbn : ¬ bl.n = 0 := by
            intro h0
            have h1 := HGAM.out
            rw [List.eq_nil_of_length_eq_zero (hbll.trans h0)] at h1
            simp [bidB] at h1
          have hbn' : ((bl.n : Int) == 0) = false := by rw [beq_eq_false_iff_ne]; omega
          have hmb : mayB bl.zs x.r.n = false := by
            have h1 := HGAM.out
            unfold bidB at h1
            rw [Bool.or_eq_false_iff, hrl] at h1
            exact h1.2
          have hck := check_of bl.A bl.n bl.c bl.zs x.r.n w13 hblw.rd false hmb
          clear hmb hbn hbll hrl HEF
          go_wp2_with fail
          refine hck.mono ?_
          rintro e w14 ⟨rfl, hb14⟩
          clear hck d0 d1 d2
          have hta := hta.below hb14
          have htc := htc.below hb14
          have hB := hB.trans (hb14.mono hB.size)
          go_wp2_with fail
          go_loopw [17] (fun v wr => ∃ i : Nat, i ≤ x.n ∧ v = .int .i64 i ∧ Below w14.heap.size w14 wr) (fun v _ => x.n - (intOf v).toNat)
          case atStart => exact ⟨0, Nat.zero_le _, rfl, Below.refl _ _⟩
          case round =>
            obtain ⟨i, hi, rfl, hbel⟩ := hrel
            obtain ⟨wo, rfl⟩ : ∃ wo, wo = wr := ⟨_, rfl⟩
            have hBo := hB.trans (hbel.mono hB.size)
            by_cases hlt : i < x.n
            · obtain ⟨pa, qa, ua, hAa, hua, hpa, hca, hka⟩ := hta.lss.get hlt
              obtain ⟨pc, qc, uc, hAc, huc, hpc, hcc, hkc⟩ := htc.lss.get hlt
              have ea : (Ls.all ta)[i]? = some ua.zs := by rw [Ls.all, List.getElem?_map, hua]; rfl
              have ec : (Ls.all tc)[i]? = some uc.zs := by rw [Ls.all, List.getElem?_map, huc]; rfl
              rw [HGA.out] at ea
              rw [HGC.out, List.getElem?_set] at ec
              have hea : w14.cell? ⟨pa, qa + i, none⟩ = some (.slice ua.A ua.n ua.c) := hca
              have hec : w14.cell? ⟨pc, qc + i, none⟩ = some (.slice uc.A uc.n uc.c) := hcc
              have hwa := (hbel.cell (p := ⟨pa, qa + i, none⟩) hpa).trans hea
              have hwc := (hbel.cell (p := ⟨pc, qc + i, none⟩) hpc).trans hec
              have hpa2 := Nat.lt_of_lt_of_le hpa hbel.size
              have hpc2 := Nat.lt_of_lt_of_le hpc hbel.size
              have hra := hka.rd
              have hrc := hkc.rd
              have hta1 := Nat.le_trans hka.cap hka.top
              have htc1 := Nat.le_trans hkc.cap hkc.top
              have hlc := hkc.len
              have HAa := Lib.hid hAa
              have HAc := Lib.hid hAc
              have hin : (i : Int) < x.n := by omega
              obtain ⟨aA, an, ac, az⟩ := ua
              obtain ⟨cA, cn, cx, cz⟩ := uc
              simp only at hwa hwc hra hrc hta1 htc1 ea ec hlc
              subst hAa
              subst hAc
              clear hua huc hca hcc hka hkc hea hec
              by_cases hik : i = k
              · have hik1 : ((i : Int) != (k : Int)) = false := by rw [hik]; simp
                have hik2 : ((i : Int) == (k : Int)) = true := by rw [hik]; simp
                have hcz : cz = List.replicate x.r.n (-1) := by
                  rw [if_pos hik.symm, if_pos (by rw [gains, List.length_map, HBL.out]; exact hk)] at ec
                  exact (Option.some.inj ec).symm
                have hcn : cn = x.r.n := by rw [← hlc, hcz, List.length_replicate]
                have HCZ := Lib.hid hcz
                clear ea ec hik hcz
                go_wp2_with fail
                refine wp_region_ord (S := fun w' => w'.cell? ⟨pa, qa + i, none⟩ = some (.slice aA an ac) ∧ w'.cell? ⟨pc, qc + i, none⟩ = some (.slice cA cn cx)) [(0, true), (1, true), (2, true), (3, true), (4, true), (5, true), (6, true), (7, true), (8, true), (9, true), (10, true), (11, true), (12, false), (13, true), (14, true), (15, true), (16, true), (17, true), (18, true), (19, true), (20, true), (21, true), (22, true), (23, true), (24, true), (25, true), (26, false), (27, true), (28, true), (29, true), (30, true)] default (by kernel_rfl) (by kernel_rfl) (by kernel_rfl) ⟨hwa, hwc⟩ ?_
                simp only [getOrd, nth]
                repeat (first | (refine ordS (by rfl) ?_; simp only [Act.put, List.setIfInBounds_toArray, List.set_cons_zero, List.set_cons_succ]) | (refine ordN (by rfl) ?_; simp only [Act.put, List.setIfInBounds_toArray, List.set_cons_zero, List.set_cons_succ]) | (refine ordQ (v := ?_) (by rfl) (fun _ hSw => ?_) ?_; rotate_left; (focus ((have hS1 := hSw.1); (have hS2 := hSw.2); clear hSw; go_simp; (first | done | with_reducible rfl))); simp only [Act.put, List.setIfInBounds_toArray, List.set_cons_zero, List.set_cons_succ]))
                refine ordE ?_
                have hdr : Below wo.heap.size wo wo.drew := (Below.refl _ wo).drew
                go_wp2_with fail
                go_loopw [18] (fun v wr => ∃ j : Nat, j ≤ cn ∧ v = .int .i64 j ∧ Below wo.heap.size wo wr) (fun v _ => cn - (intOf v).toNat)
                case atStart => exact ⟨0, Nat.zero_le _, rfl, hdr⟩
                case round =>
                  obtain ⟨j, hj, rfl, hbj⟩ := hrel
                  have hwj := (hbj.cell (p := ⟨pc, qc + i, none⟩) hpc2).trans hwc
                  by_cases hjc : j < cn
                  · obtain ⟨p2, q2, hA2, hp2, u2, hu2, hc2⟩ := hrc.get hjc
                    have hjl : j < cz.length := by rw [hlc]; exact hjc
                    rw [ci64_get _ _ hjl] at hu2
                    have hm1 : cz[j] = -1 := by
                      have h1 : cz[j]? = some (-1) := by rw [HCZ.out, List.getElem?_replicate, if_pos (by omega)]
                      rw [List.getElem?_eq_getElem hjl] at h1
                      exact Option.some.inj h1
                    rw [hm1] at hu2
                    obtain rfl : iV (-1) = u2 := Option.some.inj hu2
                    have hcj : wr.cell? ⟨p2, q2 + j, none⟩ = some (.int .i64 (-1)) := (hbj.cell (p := ⟨p2, q2 + j, none⟩) (Nat.lt_of_lt_of_le hp2 hbel.size)).trans ((hbel.cell (p := ⟨p2, q2 + j, none⟩) hp2).trans hc2)
                    rw [hA2] at hwj
                    have hjc' : (j : Int) < cn := by omega
                    clear hu2 hc2 hm1 hA2
                    go_wp2
                    go_roundw
                    case rel => exact ⟨j + 1, by omega, by go_num, hbj⟩
                    case measure => simp [intOf]; omega
                  · obtain rfl : j = cn := by omega
                    have hbel2 := hbel.trans (hbj.mono hbel.size)
                    go_wp2
                    go_roundw
                    case rel => exact ⟨i + 1, by omega, by go_num, hbel2⟩
                    case measure => simp [intOf]; omega
              · have hik1 : ((i : Int) != (k : Int)) = true := by rw [bne_iff_ne]; omega
                have hik2 : ((i : Int) == (k : Int)) = false := by rw [beq_eq_false_iff_ne]; omega
                have hac : az = cz := by
                  rw [if_neg (fun h => hik h.symm), ea] at ec
                  exact Option.some.inj ec
                subst hac
                have hS : ∀ w', Below wo.heap.size wo w' → w'.cell? ⟨pa, qa + i, none⟩ = some (.slice aA an ac) ∧ w'.cell? ⟨pc, qc + i, none⟩ = some (.slice cA cn cx) := fun w' hb => ⟨(hb.cell (p := ⟨pa, qa + i, none⟩) hpa2).trans hwa, (hb.cell (p := ⟨pc, qc + i, none⟩) hpc2).trans hwc⟩
                have hsm := sameintsq aA an ac az cA cn cx az wo.drew ((hra.below hbel).drew) ((hrc.below hbel).drew) hta1
                rw [show (az == az) = true by simp] at hsm
                clear ea ec hik
                go_wp2_with fail
                refine wp_region_ord (S := fun w' => w'.cell? ⟨pa, qa + i, none⟩ = some (.slice aA an ac) ∧ w'.cell? ⟨pc, qc + i, none⟩ = some (.slice cA cn cx)) [(0, true), (1, true), (2, true), (3, true), (4, true), (5, true), (6, true), (7, true), (8, true), (9, true), (10, true), (11, true), (12, false), (13, true), (14, true), (15, true), (16, true), (17, true), (18, true), (19, true), (20, true), (21, true), (22, true), (23, true), (24, true), (25, true), (26, false), (27, true), (28, true), (29, true), (30, true)] default (by kernel_rfl) (by kernel_rfl) (by kernel_rfl) (hS _ ((Below.refl _ wo).drew)) ?_
                simp only [getOrd, nth]
                repeat (first | (refine ordS (by rfl) ?_; simp only [Act.put, List.setIfInBounds_toArray, List.set_cons_zero, List.set_cons_succ]) | (refine ordN (by rfl) ?_; simp only [Act.put, List.setIfInBounds_toArray, List.set_cons_zero, List.set_cons_succ]) | (refine ordQ (v := ?_) (by rfl) (fun _ hSw => ?_) ?_; rotate_left; (focus ((have hS1 := hSw.1); (have hS2 := hSw.2); clear hSw; go_simp; (first | done | with_reducible rfl))); simp only [Act.put, List.setIfInBounds_toArray, List.set_cons_zero, List.set_cons_succ]))
                refine ordD (by rfl) ?_
                intro K hK
                go_simp
                refine hsm.mono ?_
                rintro e w20 ⟨rfl, q20, rfl⟩
                have hbq : ∀ q, Below wo.heap.size wo (wo.drewN q) := fun q => belowN (Below.refl _ wo) q
                go_wp2_with fail
                refine hK _ _ (hS _ (hbq _)) ?_
                clear hK K hsm
                try simp only [Act.put, List.setIfInBounds_toArray, List.set_cons_zero, List.set_cons_succ]
                repeat (first | (refine ordS (by rfl) ?_; simp only [Act.put, List.setIfInBounds_toArray, List.set_cons_zero, List.set_cons_succ]) | (refine ordN (by rfl) ?_; simp only [Act.put, List.setIfInBounds_toArray, List.set_cons_zero, List.set_cons_succ]) | (refine ordQ (v := ?_) (by rfl) (fun _ hSw => ?_) ?_; rotate_left; (focus ((have hS1 := hSw.1); (have hS2 := hSw.2); clear hSw; go_simp; (first | done | with_reducible rfl))); simp only [Act.put, List.setIfInBounds_toArray, List.set_cons_zero, List.set_cons_succ]))
                refine ordE ?_
                clear hS
                go_wp2_with fail
                go_loopw [18] (fun v wr => v = .int .i64 (0 : Nat) ∧ Below wo.heap.size wo wr) (fun v _ => 1)
                case atStart => exact ⟨rfl, hbq _⟩
                case round =>
                  obtain ⟨rfl, hbj⟩ := hrel
                  have hwj := (hbj.cell (p := ⟨pc, qc + i, none⟩) hpc2).trans hwc
                  have hbel2 := hbel.trans (hbj.mono hbel.size)
                  by_cases h0 : 0 < cn
                  · have h0' : decide ((0 : Int) < (cn : Int)) = true := decide_eq_true (by omega)
                    go_wp2
                    go_roundw
                    case rel => exact ⟨i + 1, by omega, by go_num, hbel2⟩
                    case measure => simp [intOf]; omega
                  · have h0' : decide ((0 : Int) < (cn : Int)) = false := decide_eq_false (by omega)
                    go_wp2
                    go_roundw
                    case rel => exact ⟨i + 1, by omega, by go_num, hbel2⟩
                    case measure => simp [intOf]; omega
            · obtain rfl : i = x.n := by omega
              go_wp2_with fail
              refine (alive5_any wo).mono ?_
              rintro e w30 ⟨rfl, hb30⟩
              have hB30 := hBo.trans (hb30.mono hBo.size)
              go_wp2
              go_ret
              exact ⟨rfl, hB30⟩
        · have hEf : Ef = 0 := HEF.out.symm
          have hn4 : n4 = x.n := by
            have h3 := congrArg List.length HGB.out
            rw [Ls.all, List.length_map, htb.len, if_pos rfl, List.length_set, gains, List.length_map, HBL.out] at h3
            exact h3
          have HGB2 : Hid (Ls.all tb = (gains x.r.zs (Ls.all x.b)).set k (gain x.r.zs bl.zs)) := Lib.hid (by have h := HGB.out; rw [if_pos rfl] at h; exact h)
          clear HGB
          subst hEf
          subst hn4
          by_cases hbn : bl.n = 0
          · have hbn' : ((bl.n : Int) == 0) = true := by rw [hbn]; rfl
            clear hbn hbll hrl HEF
            go_wp2_with fail
            clear d0 d1 d2
            go_loopw [17] (fun v wr => ∃ i : Nat, i ≤ x.n ∧ v = .int .i64 i ∧ Below w13.heap.size w13 wr) (fun v _ => x.n - (intOf v).toNat)
            case atStart => exact ⟨0, Nat.zero_le _, rfl, Below.refl _ _⟩
            case round =>
              obtain ⟨i, hi, rfl, hbel⟩ := hrel
              obtain ⟨wo, rfl⟩ : ∃ wo, wo = wr := ⟨_, rfl⟩
              have hBo := hB.trans (hbel.mono hB.size)
              by_cases hlt : i < x.n
              · obtain ⟨pa, qa, ua, hAa, hua, hpa, hca, hka⟩ := hta.lss.get hlt
                obtain ⟨pc, qc, uc, hAc, huc, hpc, hcc, hkc⟩ := htc.lss.get hlt
                have ea : (Ls.all ta)[i]? = some ua.zs := by rw [Ls.all, List.getElem?_map, hua]; rfl
                have ec : (Ls.all tc)[i]? = some uc.zs := by rw [Ls.all, List.getElem?_map, huc]; rfl
                rw [HGA.out] at ea
                rw [HGC.out, List.getElem?_set] at ec
                obtain ⟨pb, qb, ub, hAb, hub, hpb, hcb, hkb⟩ := htb.lss.get hlt
                have eb : (Ls.all tb)[i]? = some ub.zs := by rw [Ls.all, List.getElem?_map, hub]; rfl
                rw [HGB2.out, List.getElem?_set] at eb
                have hea : w13.cell? ⟨pa, qa + i, none⟩ = some (.slice ua.A ua.n ua.c) := hca
                have hec : w13.cell? ⟨pc, qc + i, none⟩ = some (.slice uc.A uc.n uc.c) := hcc
                have hwa := (hbel.cell (p := ⟨pa, qa + i, none⟩) hpa).trans hea
                have hwc := (hbel.cell (p := ⟨pc, qc + i, none⟩) hpc).trans hec
                have hpa2 := Nat.lt_of_lt_of_le hpa hbel.size
                have hpc2 := Nat.lt_of_lt_of_le hpc hbel.size
                have hra := hka.rd
                have hrc := hkc.rd
                have hta1 := Nat.le_trans hka.cap hka.top
                have htc1 := Nat.le_trans hkc.cap hkc.top
                have hlc := hkc.len
                have heb : w13.cell? ⟨pb, qb + i, none⟩ = some (.slice ub.A ub.n ub.c) := hcb
                have hwb := (hbel.cell (p := ⟨pb, qb + i, none⟩) hpb).trans heb
                have hpb2 := Nat.lt_of_lt_of_le hpb hbel.size
                have hrb := hkb.rd
                have HAa := Lib.hid hAa
                have HAc := Lib.hid hAc
                have hin : (i : Int) < x.n := by omega
                obtain ⟨aA, an, ac, az⟩ := ua
                obtain ⟨cA, cn, cx, cz⟩ := uc
                obtain ⟨bA, bn, bx', bz⟩ := ub
                simp only at hwb hrb eb
                simp only at hwa hwc hra hrc hta1 htc1 ea ec hlc
                subst hAa
                subst hAc
                subst hAb
                clear hua huc hca hcc hka hkc hea hec hub hcb hkb heb
                by_cases hik : i = k
                · have hik1 : ((i : Int) != (k : Int)) = false := by rw [hik]; simp
                  have hik2 : ((i : Int) == (k : Int)) = true := by rw [hik]; simp
                  have hcz : cz = List.replicate x.r.n (-1) := by
                    rw [if_pos hik.symm, if_pos (by rw [gains, List.length_map, HBL.out]; exact hk)] at ec
                    exact (Option.some.inj ec).symm
                  have hcn : cn = x.r.n := by rw [← hlc, hcz, List.length_replicate]
                  have HCZ := Lib.hid hcz
                  clear ea ec hik hcz eb
                  go_wp2_with fail
                  refine wp_region_ord (S := fun w' => w'.cell? ⟨pa, qa + i, none⟩ = some (.slice aA an ac) ∧ w'.cell? ⟨pc, qc + i, none⟩ = some (.slice cA cn cx)) [(0, true), (1, true), (2, true), (3, true), (4, true), (5, true), (6, true), (7, true), (8, true), (9, true), (10, true), (11, true), (12, false), (13, true), (14, true), (15, true), (16, true), (17, true), (18, true), (19, true), (20, true), (21, true), (22, true), (23, true), (24, true), (25, true), (26, false), (27, true), (28, true), (29, true), (30, true)] default (by kernel_rfl) (by kernel_rfl) (by kernel_rfl) ⟨hwa, hwc⟩ ?_
                  simp only [getOrd, nth]
                  repeat (first | (refine ordS (by rfl) ?_; simp only [Act.put, List.setIfInBounds_toArray, List.set_cons_zero, List.set_cons_succ]) | (refine ordN (by rfl) ?_; simp only [Act.put, List.setIfInBounds_toArray, List.set_cons_zero, List.set_cons_succ]) | (refine ordQ (v := ?_) (by rfl) (fun _ hSw => ?_) ?_; rotate_left; (focus ((have hS1 := hSw.1); (have hS2 := hSw.2); clear hSw; go_simp; (first | done | with_reducible rfl))); simp only [Act.put, List.setIfInBounds_toArray, List.set_cons_zero, List.set_cons_succ]))
                  refine ordE ?_
                  have hdr : Below wo.heap.size wo wo.drew := (Below.refl _ wo).drew
                  go_wp2_with fail
                  go_loopw [18] (fun v wr => ∃ j : Nat, j ≤ cn ∧ v = .int .i64 j ∧ Below wo.heap.size wo wr) (fun v _ => cn - (intOf v).toNat)
                  case atStart => exact ⟨0, Nat.zero_le _, rfl, hdr⟩
                  case round =>
                    obtain ⟨j, hj, rfl, hbj⟩ := hrel
                    have hwj := (hbj.cell (p := ⟨pc, qc + i, none⟩) hpc2).trans hwc
                    by_cases hjc : j < cn
                    · obtain ⟨p2, q2, hA2, hp2, u2, hu2, hc2⟩ := hrc.get hjc
                      have hjl : j < cz.length := by rw [hlc]; exact hjc
                      rw [ci64_get _ _ hjl] at hu2
                      have hm1 : cz[j] = -1 := by
                        have h1 : cz[j]? = some (-1) := by rw [HCZ.out, List.getElem?_replicate, if_pos (by omega)]
                        rw [List.getElem?_eq_getElem hjl] at h1
                        exact Option.some.inj h1
                      rw [hm1] at hu2
                      obtain rfl : iV (-1) = u2 := Option.some.inj hu2
                      have hcj : wr.cell? ⟨p2, q2 + j, none⟩ = some (.int .i64 (-1)) := (hbj.cell (p := ⟨p2, q2 + j, none⟩) (Nat.lt_of_lt_of_le hp2 hbel.size)).trans ((hbel.cell (p := ⟨p2, q2 + j, none⟩) hp2).trans hc2)
                      rw [hA2] at hwj
                      have hjc' : (j : Int) < cn := by omega
                      clear hu2 hc2 hm1 hA2
                      go_wp2
                      go_roundw
                      case rel => exact ⟨j + 1, by omega, by go_num, hbj⟩
                      case measure => simp [intOf]; omega
                    · obtain rfl : j = cn := by omega
                      have hbel2 := hbel.trans (hbj.mono hbel.size)
                      go_wp2
                      go_roundw
                      case rel => exact ⟨i + 1, by omega, by go_num, hbel2⟩
                      case measure => simp [intOf]; omega
                · have hik1 : ((i : Int) != (k : Int)) = true := by rw [bne_iff_ne]; omega
                  have hik2 : ((i : Int) == (k : Int)) = false := by rw [beq_eq_false_iff_ne]; omega
                  have hac : az = cz := by
                    rw [if_neg (fun h => hik h.symm), ea] at ec
                    exact Option.some.inj ec
                  subst hac
                  have hS : ∀ w', Below wo.heap.size wo w' → w'.cell? ⟨pa, qa + i, none⟩ = some (.slice aA an ac) ∧ w'.cell? ⟨pc, qc + i, none⟩ = some (.slice cA cn cx) ∧ w'.cell? ⟨pb, qb + i, none⟩ = some (.slice bA bn bx') := fun w' hb => ⟨(hb.cell (p := ⟨pa, qa + i, none⟩) hpa2).trans hwa, (hb.cell (p := ⟨pc, qc + i, none⟩) hpc2).trans hwc, (hb.cell (p := ⟨pb, qb + i, none⟩) hpb2).trans hwb⟩
                  have hsm := sameintsq aA an ac az cA cn cx az wo.drew ((hra.below hbel).drew) ((hrc.below hbel).drew) hta1
                  rw [show (az == az) = true by simp] at hsm
                  have hab : az = bz := by
                    rw [if_neg (fun h => hik h.symm), ea] at eb
                    exact Option.some.inj eb
                  subst hab
                  clear ea ec hik eb
                  go_wp2_with fail
                  refine wp_region_ord (S := fun w' => w'.cell? ⟨pa, qa + i, none⟩ = some (.slice aA an ac) ∧ w'.cell? ⟨pc, qc + i, none⟩ = some (.slice cA cn cx) ∧ w'.cell? ⟨pb, qb + i, none⟩ = some (.slice bA bn bx')) [(0, true), (1, true), (2, true), (3, true), (4, true), (5, true), (6, true), (7, true), (8, true), (9, true), (10, true), (11, true), (12, false), (13, true), (14, true), (15, true), (16, true), (17, true), (18, true), (19, true), (20, true), (21, true), (22, true), (23, true), (24, true), (25, true), (26, false), (27, true), (28, true), (29, true), (30, true)] default (by kernel_rfl) (by kernel_rfl) (by kernel_rfl) (hS _ ((Below.refl _ wo).drew)) ?_
                  simp only [getOrd, nth]
                  repeat (first | (refine ordS (by rfl) ?_; simp only [Act.put, List.setIfInBounds_toArray, List.set_cons_zero, List.set_cons_succ]) | (refine ordN (by rfl) ?_; simp only [Act.put, List.setIfInBounds_toArray, List.set_cons_zero, List.set_cons_succ]) | (refine ordQ (v := ?_) (by rfl) (fun _ hSw => ?_) ?_; rotate_left; (focus ((have hS1 := hSw.1); (have hS2 := hSw.2.1); (have hS3 := hSw.2.2); clear hSw; go_simp; (first | done | with_reducible rfl))); simp only [Act.put, List.setIfInBounds_toArray, List.set_cons_zero, List.set_cons_succ]))
                  refine ordD (by rfl) ?_
                  intro K hK
                  go_simp
                  refine hsm.mono ?_
                  rintro e w20 ⟨rfl, q20, rfl⟩
                  have hbq : ∀ q, Below wo.heap.size wo (wo.drewN q) := fun q => belowN (Below.refl _ wo) q
                  go_wp2_with fail
                  refine hK _ _ (hS _ (hbq _)) ?_
                  clear hK K hsm
                  try simp only [Act.put, List.setIfInBounds_toArray, List.set_cons_zero, List.set_cons_succ]
                  repeat (first | (refine ordS (by rfl) ?_; simp only [Act.put, List.setIfInBounds_toArray, List.set_cons_zero, List.set_cons_succ]) | (refine ordN (by rfl) ?_; simp only [Act.put, List.setIfInBounds_toArray, List.set_cons_zero, List.set_cons_succ]) | (refine ordQ (v := ?_) (by rfl) (fun _ hSw => ?_) ?_; rotate_left; (focus ((have hS1 := hSw.1); (have hS2 := hSw.2.1); (have hS3 := hSw.2.2); clear hSw; go_simp; (first | done | with_reducible rfl))); simp only [Act.put, List.setIfInBounds_toArray, List.set_cons_zero, List.set_cons_succ]))
                  have hsm2 := sameintsq aA an ac az bA bn bx' az (wo.drewN (1 + q20)) ((hra.below hbel).drewN (1 + q20)) ((hrb.below hbel).drewN (1 + q20)) hta1
                  rw [show (az == az) = true by simp] at hsm2
                  refine ordD (by rfl) ?_
                  intro K hK
                  go_simp
                  refine hsm2.mono ?_
                  rintro e w21 ⟨rfl, q21, rfl⟩
                  go_wp2_with fail
                  refine hK _ _ (hS _ (hbq _)) ?_
                  clear hK K hsm2
                  try simp only [Act.put, List.setIfInBounds_toArray, List.set_cons_zero, List.set_cons_succ]
                  repeat (first | (refine ordS (by rfl) ?_; simp only [Act.put, List.setIfInBounds_toArray, List.set_cons_zero, List.set_cons_succ]) | (refine ordN (by rfl) ?_; simp only [Act.put, List.setIfInBounds_toArray, List.set_cons_zero, List.set_cons_succ]) | (refine ordQ (v := ?_) (by rfl) (fun _ hSw => ?_) ?_; rotate_left; (focus ((have hS1 := hSw.1); (have hS2 := hSw.2.1); (have hS3 := hSw.2.2); clear hSw; go_simp; (first | done | with_reducible rfl))); simp only [Act.put, List.setIfInBounds_toArray, List.set_cons_zero, List.set_cons_succ]))
                  refine ordE ?_
                  clear hS
                  go_wp2_with fail
                  go_loopw [18] (fun v wr => v = .int .i64 (0 : Nat) ∧ Below wo.heap.size wo wr) (fun v _ => 1)
                  case atStart => exact ⟨rfl, hbq _⟩
                  case round =>
                    obtain ⟨rfl, hbj⟩ := hrel
                    have hwj := (hbj.cell (p := ⟨pc, qc + i, none⟩) hpc2).trans hwc
                    have hbel2 := hbel.trans (hbj.mono hbel.size)
                    by_cases h0 : 0 < cn
                    · have h0' : decide ((0 : Int) < (cn : Int)) = true := decide_eq_true (by omega)
                      go_wp2
                      go_roundw
                      case rel => exact ⟨i + 1, by omega, by go_num, hbel2⟩
                      case measure => simp [intOf]; omega
                    · have h0' : decide ((0 : Int) < (cn : Int)) = false := decide_eq_false (by omega)
                      go_wp2
                      go_roundw
                      case rel => exact ⟨i + 1, by omega, by go_num, hbel2⟩
                      case measure => simp [intOf]; omega
              · obtain rfl : i = x.n := by omega
                go_wp2_with fail
                refine (alive5_any wo).mono ?_
                rintro e w30 ⟨rfl, hb30⟩
                have hB30 := hBo.trans (hb30.mono hBo.size)
                go_wp2
                go_ret
                exact ⟨rfl, hB30⟩
          · have hbn' : ((bl.n : Int) == 0) = false := by rw [beq_eq_false_iff_ne]; omega
            have hmb : mayB bl.zs x.r.n = true := by
              have h1 := HGAM.out
              unfold bidB at h1
              rw [Bool.or_eq_true, decide_eq_true_eq, hrl] at h1
              rcases h1 with h1 | h1
              · exact absurd (by rw [← hbll, h1]; rfl) hbn
              · exact h1
            have hck := check_of bl.A bl.n bl.c bl.zs x.r.n w13 hblw.rd true hmb
            clear hmb hbn hbll hrl HEF
            go_wp2_with fail
            refine hck.mono ?_
            rintro e w14 ⟨rfl, hb14⟩
            clear hck d0 d1 d2
            have hta := hta.below hb14
            have htb := htb.below hb14
            have htc := htc.below hb14
            have hB := hB.trans (hb14.mono hB.size)
            go_wp2_with fail
            go_loopw [17] (fun v wr => ∃ i : Nat, i ≤ x.n ∧ v = .int .i64 i ∧ Below w14.heap.size w14 wr) (fun v _ => x.n - (intOf v).toNat)
            case atStart => exact ⟨0, Nat.zero_le _, rfl, Below.refl _ _⟩
            case round =>
              obtain ⟨i, hi, rfl, hbel⟩ := hrel
              obtain ⟨wo, rfl⟩ : ∃ wo, wo = wr := ⟨_, rfl⟩
              have hBo := hB.trans (hbel.mono hB.size)
              by_cases hlt : i < x.n
              · obtain ⟨pa, qa, ua, hAa, hua, hpa, hca, hka⟩ := hta.lss.get hlt
                obtain ⟨pc, qc, uc, hAc, huc, hpc, hcc, hkc⟩ := htc.lss.get hlt
                have ea : (Ls.all ta)[i]? = some ua.zs := by rw [Ls.all, List.getElem?_map, hua]; rfl
                have ec : (Ls.all tc)[i]? = some uc.zs := by rw [Ls.all, List.getElem?_map, huc]; rfl
                rw [HGA.out] at ea
                rw [HGC.out, List.getElem?_set] at ec
                obtain ⟨pb, qb, ub, hAb, hub, hpb, hcb, hkb⟩ := htb.lss.get hlt
                have eb : (Ls.all tb)[i]? = some ub.zs := by rw [Ls.all, List.getElem?_map, hub]; rfl
                rw [HGB2.out, List.getElem?_set] at eb
                have hea : w14.cell? ⟨pa, qa + i, none⟩ = some (.slice ua.A ua.n ua.c) := hca
                have hec : w14.cell? ⟨pc, qc + i, none⟩ = some (.slice uc.A uc.n uc.c) := hcc
                have hwa := (hbel.cell (p := ⟨pa, qa + i, none⟩) hpa).trans hea
                have hwc := (hbel.cell (p := ⟨pc, qc + i, none⟩) hpc).trans hec
                have hpa2 := Nat.lt_of_lt_of_le hpa hbel.size
                have hpc2 := Nat.lt_of_lt_of_le hpc hbel.size
                have hra := hka.rd
                have hrc := hkc.rd
                have hta1 := Nat.le_trans hka.cap hka.top
                have htc1 := Nat.le_trans hkc.cap hkc.top
                have hlc := hkc.len
                have heb : w14.cell? ⟨pb, qb + i, none⟩ = some (.slice ub.A ub.n ub.c) := hcb
                have hwb := (hbel.cell (p := ⟨pb, qb + i, none⟩) hpb).trans heb
                have hpb2 := Nat.lt_of_lt_of_le hpb hbel.size
                have hrb := hkb.rd
                have HAa := Lib.hid hAa
                have HAc := Lib.hid hAc
                have hin : (i : Int) < x.n := by omega
                obtain ⟨aA, an, ac, az⟩ := ua
                obtain ⟨cA, cn, cx, cz⟩ := uc
                obtain ⟨bA, bn, bx', bz⟩ := ub
                simp only at hwb hrb eb
                simp only at hwa hwc hra hrc hta1 htc1 ea ec hlc
                subst hAa
                subst hAc
                subst hAb
                clear hua huc hca hcc hka hkc hea hec hub hcb hkb heb
                by_cases hik : i = k
                · have hik1 : ((i : Int) != (k : Int)) = false := by rw [hik]; simp
                  have hik2 : ((i : Int) == (k : Int)) = true := by rw [hik]; simp
                  have hcz : cz = List.replicate x.r.n (-1) := by
                    rw [if_pos hik.symm, if_pos (by rw [gains, List.length_map, HBL.out]; exact hk)] at ec
                    exact (Option.some.inj ec).symm
                  have hcn : cn = x.r.n := by rw [← hlc, hcz, List.length_replicate]
                  have HCZ := Lib.hid hcz
                  clear ea ec hik hcz eb
                  go_wp2_with fail
                  refine wp_region_ord (S := fun w' => w'.cell? ⟨pa, qa + i, none⟩ = some (.slice aA an ac) ∧ w'.cell? ⟨pc, qc + i, none⟩ = some (.slice cA cn cx)) [(0, true), (1, true), (2, true), (3, true), (4, true), (5, true), (6, true), (7, true), (8, true), (9, true), (10, true), (11, true), (12, false), (13, true), (14, true), (15, true), (16, true), (17, true), (18, true), (19, true), (20, true), (21, true), (22, true), (23, true), (24, true), (25, true), (26, false), (27, true), (28, true), (29, true), (30, true)] default (by kernel_rfl) (by kernel_rfl) (by kernel_rfl) ⟨hwa, hwc⟩ ?_
                  simp only [getOrd, nth]
                  repeat (first | (refine ordS (by rfl) ?_; simp only [Act.put, List.setIfInBounds_toArray, List.set_cons_zero, List.set_cons_succ]) | (refine ordN (by rfl) ?_; simp only [Act.put, List.setIfInBounds_toArray, List.set_cons_zero, List.set_cons_succ]) | (refine ordQ (v := ?_) (by rfl) (fun _ hSw => ?_) ?_; rotate_left; (focus ((have hS1 := hSw.1); (have hS2 := hSw.2); clear hSw; go_simp; (first | done | with_reducible rfl))); simp only [Act.put, List.setIfInBounds_toArray, List.set_cons_zero, List.set_cons_succ]))
                  refine ordE ?_
                  have hdr : Below wo.heap.size wo wo.drew := (Below.refl _ wo).drew
                  go_wp2_with fail
                  go_loopw [18] (fun v wr => ∃ j : Nat, j ≤ cn ∧ v = .int .i64 j ∧ Below wo.heap.size wo wr) (fun v _ => cn - (intOf v).toNat)
                  case atStart => exact ⟨0, Nat.zero_le _, rfl, hdr⟩
                  case round =>
                    obtain ⟨j, hj, rfl, hbj⟩ := hrel
                    have hwj := (hbj.cell (p := ⟨pc, qc + i, none⟩) hpc2).trans hwc
                    by_cases hjc : j < cn
                    · obtain ⟨p2, q2, hA2, hp2, u2, hu2, hc2⟩ := hrc.get hjc
                      have hjl : j < cz.length := by rw [hlc]; exact hjc
                      rw [ci64_get _ _ hjl] at hu2
                      have hm1 : cz[j] = -1 := by
                        have h1 : cz[j]? = some (-1) := by rw [HCZ.out, List.getElem?_replicate, if_pos (by omega)]
                        rw [List.getElem?_eq_getElem hjl] at h1
                        exact Option.some.inj h1
                      rw [hm1] at hu2
                      obtain rfl : iV (-1) = u2 := Option.some.inj hu2
                      have hcj : wr.cell? ⟨p2, q2 + j, none⟩ = some (.int .i64 (-1)) := (hbj.cell (p := ⟨p2, q2 + j, none⟩) (Nat.lt_of_lt_of_le hp2 hbel.size)).trans ((hbel.cell (p := ⟨p2, q2 + j, none⟩) hp2).trans hc2)
                      rw [hA2] at hwj
                      have hjc' : (j : Int) < cn := by omega
                      clear hu2 hc2 hm1 hA2
                      go_wp2
                      go_roundw
                      case rel => exact ⟨j + 1, by omega, by go_num, hbj⟩
                      case measure => simp [intOf]; omega
                    · obtain rfl : j = cn := by omega
                      have hbel2 := hbel.trans (hbj.mono hbel.size)
                      go_wp2
                      go_roundw
                      case rel => exact ⟨i + 1, by omega, by go_num, hbel2⟩
                      case measure => simp [intOf]; omega
                · have hik1 : ((i : Int) != (k : Int)) = true := by rw [bne_iff_ne]; omega
                  have hik2 : ((i : Int) == (k : Int)) = false := by rw [beq_eq_false_iff_ne]; omega
                  have hac : az = cz := by
                    rw [if_neg (fun h => hik h.symm), ea] at ec
                    exact Option.some.inj ec
                  subst hac
                  have hS : ∀ w', Below wo.heap.size wo w' → w'.cell? ⟨pa, qa + i, none⟩ = some (.slice aA an ac) ∧ w'.cell? ⟨pc, qc + i, none⟩ = some (.slice cA cn cx) ∧ w'.cell? ⟨pb, qb + i, none⟩ = some (.slice bA bn bx') := fun w' hb => ⟨(hb.cell (p := ⟨pa, qa + i, none⟩) hpa2).trans hwa, (hb.cell (p := ⟨pc, qc + i, none⟩) hpc2).trans hwc, (hb.cell (p := ⟨pb, qb + i, none⟩) hpb2).trans hwb⟩
                  have hsm := sameintsq aA an ac az cA cn cx az wo.drew ((hra.below hbel).drew) ((hrc.below hbel).drew) hta1
                  rw [show (az == az) = true by simp] at hsm
                  have hab : az = bz := by
                    rw [if_neg (fun h => hik h.symm), ea] at eb
                    exact Option.some.inj eb
                  subst hab
                  clear ea ec hik eb
                  go_wp2_with fail
                  refine wp_region_ord (S := fun w' => w'.cell? ⟨pa, qa + i, none⟩ = some (.slice aA an ac) ∧ w'.cell? ⟨pc, qc + i, none⟩ = some (.slice cA cn cx) ∧ w'.cell? ⟨pb, qb + i, none⟩ = some (.slice bA bn bx')) [(0, true), (1, true), (2, true), (3, true), (4, true), (5, true), (6, true), (7, true), (8, true), (9, true), (10, true), (11, true), (12, false), (13, true), (14, true), (15, true), (16, true), (17, true), (18, true), (19, true), (20, true), (21, true), (22, true), (23, true), (24, true), (25, true), (26, false), (27, true), (28, true), (29, true), (30, true)] default (by kernel_rfl) (by kernel_rfl) (by kernel_rfl) (hS _ ((Below.refl _ wo).drew)) ?_
                  simp only [getOrd, nth]
                  repeat (first | (refine ordS (by rfl) ?_; simp only [Act.put, List.setIfInBounds_toArray, List.set_cons_zero, List.set_cons_succ]) | (refine ordN (by rfl) ?_; simp only [Act.put, List.setIfInBounds_toArray, List.set_cons_zero, List.set_cons_succ]) | (refine ordQ (v := ?_) (by rfl) (fun _ hSw => ?_) ?_; rotate_left; (focus ((have hS1 := hSw.1); (have hS2 := hSw.2.1); (have hS3 := hSw.2.2); clear hSw; go_simp; (first | done | with_reducible rfl))); simp only [Act.put, List.setIfInBounds_toArray, List.set_cons_zero, List.set_cons_succ]))
                  refine ordD (by rfl) ?_
                  intro K hK
                  go_simp
                  refine hsm.mono ?_
                  rintro e w20 ⟨rfl, q20, rfl⟩
                  have hbq : ∀ q, Below wo.heap.size wo (wo.drewN q) := fun q => belowN (Below.refl _ wo) q
                  go_wp2_with fail
                  refine hK _ _ (hS _ (hbq _)) ?_
                  clear hK K hsm
                  try simp only [Act.put, List.setIfInBounds_toArray, List.set_cons_zero, List.set_cons_succ]
                  repeat (first | (refine ordS (by rfl) ?_; simp only [Act.put, List.setIfInBounds_toArray, List.set_cons_zero, List.set_cons_succ]) | (refine ordN (by rfl) ?_; simp only [Act.put, List.setIfInBounds_toArray, List.set_cons_zero, List.set_cons_succ]) | (refine ordQ (v := ?_) (by rfl) (fun _ hSw => ?_) ?_; rotate_left; (focus ((have hS1 := hSw.1); (have hS2 := hSw.2.1); (have hS3 := hSw.2.2); clear hSw; go_simp; (first | done | with_reducible rfl))); simp only [Act.put, List.setIfInBounds_toArray, List.set_cons_zero, List.set_cons_succ]))
                  have hsm2 := sameintsq aA an ac az bA bn bx' az (wo.drewN (1 + q20)) ((hra.below hbel).drewN (1 + q20)) ((hrb.below hbel).drewN (1 + q20)) hta1
                  rw [show (az == az) = true by simp] at hsm2
                  refine ordD (by rfl) ?_
                  intro K hK
                  go_simp
                  refine hsm2.mono ?_
                  rintro e w21 ⟨rfl, q21, rfl⟩
                  go_wp2_with fail
                  refine hK _ _ (hS _ (hbq _)) ?_
                  clear hK K hsm2
                  try simp only [Act.put, List.setIfInBounds_toArray, List.set_cons_zero, List.set_cons_succ]
                  repeat (first | (refine ordS (by rfl) ?_; simp only [Act.put, List.setIfInBounds_toArray, List.set_cons_zero, List.set_cons_succ]) | (refine ordN (by rfl) ?_; simp only [Act.put, List.setIfInBounds_toArray, List.set_cons_zero, List.set_cons_succ]) | (refine ordQ (v := ?_) (by rfl) (fun _ hSw => ?_) ?_; rotate_left; (focus ((have hS1 := hSw.1); (have hS2 := hSw.2.1); (have hS3 := hSw.2.2); clear hSw; go_simp; (first | done | with_reducible rfl))); simp only [Act.put, List.setIfInBounds_toArray, List.set_cons_zero, List.set_cons_succ]))
                  refine ordE ?_
                  clear hS
                  go_wp2_with fail
                  go_loopw [18] (fun v wr => v = .int .i64 (0 : Nat) ∧ Below wo.heap.size wo wr) (fun v _ => 1)
                  case atStart => exact ⟨rfl, hbq _⟩
                  case round =>
                    obtain ⟨rfl, hbj⟩ := hrel
                    have hwj := (hbj.cell (p := ⟨pc, qc + i, none⟩) hpc2).trans hwc
                    have hbel2 := hbel.trans (hbj.mono hbel.size)
                    by_cases h0 : 0 < cn
                    · have h0' : decide ((0 : Int) < (cn : Int)) = true := decide_eq_true (by omega)
                      go_wp2
                      go_roundw
                      case rel => exact ⟨i + 1, by omega, by go_num, hbel2⟩
                      case measure => simp [intOf]; omega
                    · have h0' : decide ((0 : Int) < (cn : Int)) = false := decide_eq_false (by omega)
                      go_wp2
                      go_roundw
                      case rel => exact ⟨i + 1, by omega, by go_num, hbel2⟩
                      case measure => simp [intOf]; omega
              · obtain rfl : i = x.n := by omega
                go_wp2_with fail
                refine (alive5_any wo).mono ?_
                rintro e w30 ⟨rfl, hb30⟩
                have hB30 := hBo.trans (hb30.mono hBo.size)
                go_wp2
                go_ret
                exact ⟨rfl, hB30⟩
  · have M1 := Lib.hid (show x.err = 1 by rw [Mk.err, if_neg hm])
    have M2 := Lib.hid (show x.gains = [] by rw [Mk.gains, if_neg hm])
    clear hm
    have hx := h
    have hB := Below.refl w.heap.size w
    have hxv : x.v = .agg #[.slice x.r.A x.r.n x.r.c, .slice x.A x.n x.c, .slice x.o.A x.o.n x.o.c] := rfl
    have Vx := Lib.hid hxv
    rw [hxv]
    clear hxv
    go_enter Try.func3, Try.ntmps3
    have bx := InBox.new w x
    have hbx : Below w.heap.size w (w.alloc (.cells #[.slice x.r.A x.r.n x.r.c, .slice x.A x.n x.c, .slice x.o.A x.o.n x.o.c] 25)) := (Below.refl _ w).alloc (Nat.le_refl _) _
    replace hx := hx.below hbx
    replace hB := hB.trans (hbx.mono hB.size)
    clear hbx
    have ex0 := bx.c0
    have ex1 := bx.c1
    have ex2 := bx.c2
    have hc := mgainsC x (w.alloc (.cells #[.slice x.r.A x.r.n x.r.c, .slice x.A x.n x.c, .slice x.o.A x.o.n x.o.c] 25)) hx
    rw [M1.out, M2.out, Vx.out] at hc
    go_wp2_with fail
    clear ex0 ex1 ex2
    generalize w.alloc (.cells #[.slice x.r.A x.r.n x.r.c, .slice x.A x.n x.c, .slice x.o.A x.o.n x.o.c] 25) = W1 at *
    refine hc.mono ?_
    rintro e v2 ⟨A1, n1, c1, rfl, ta, hta, hga, hb⟩
    clear hc
    replace hx := hx.below hb
    replace bx := bx.below hb
    replace hB := hB.trans (hb.mono hB.size)
    clear hb
    clear hta hga
    have ex0 := bx.c0
    have ex1 := bx.c1
    have ex2 := bx.c2
    have hc := alive5_any v2
    go_wp2_with fail
    clear ex0 ex1 ex2
    refine hc.mono ?_
    rintro e v3 ⟨rfl, hb⟩
    clear hc
    replace hx := hx.below hb
    replace bx := bx.below hb
    replace hB := hB.trans (hb.mono hB.size)
    clear hb
    go_wp2
    go_ret
    exact ⟨rfl, hB⟩

theorem own : ownKnob Try.prog.godebug = none := by kernel_rfl
theorem laidOut : laidOutB Try.prog = true := by kernel_rfl

set_option maxRecDepth 100000 in
theorem lifted (os : Os) (started : os.Started) (H : Type) (enc : TypeId × Value → H) :
    ReturnsInHanded {} Try.checked os 3 .any (Rows.marketsOwnSpec.pre6 enc Try.prog Try.f3 Rows.marketsOwnRow.domain false) (Rows.marketsOwnSpec.post enc Try.prog Try.f3 false true false false) := by
  refine returnsInHanded_of_change (C := Try.checked) own started (by kernel_rfl) Try.func3
    (ChangeSpec.witness6 (enc := enc) (C := Try.checked) false ⟨#[], #[.agg #[.slice none 0 0, .slice none 0 0, .slice none 0 0], .slice none 0 0, .int .u8 0], []⟩ 8 (by kernel_rfl) (by kernel_rfl) (by kernel_rfl) (by kernel_rfl)) ?_
  intro W base args ds gs before hval0 hW hcnd _
  have hval : ∀ (j : Nat) t v, Try.f3.params[j]? = some t → args[j]? = some v → Value.okWide Try.prog W .any base t v := hval0
  have hW' := hW
  obtain ⟨p, q, hA0, hV, rfl, hfz, hnd⟩ := hW
  have hA : DataW.TrodAll enc Try.prog W 0 (fun _ => true) true Try.f3.params.toList args.toList ds p := hA0
  rw [Try.params3] at hA hval
  obtain ⟨v0, vs0, d0, ds0, p0, q0, hargs, rfl, rfl, h0, r0⟩ := trodAll_cons hA
  obtain ⟨v1, vs1, d1, ds1, p1, q1, rfl, rfl, rfl, h1, r1⟩ := trodAll_cons r0
  obtain ⟨v2, vs2, d2, ds2, p2, q2, rfl, rfl, rfl, h2, r2⟩ := trodAll_cons r1
  obtain ⟨rfl, rfl, rfl⟩ := trodAll_nil r2
  obtain rfl : args = #[v0, v1, v2] := by cases args; simp_all
  obtain ⟨u0, rfl, k0⟩ := arg_mk Try.underlying25 (by kernel_rfl) (by kernel_rfl) Try.underlying22 Try.underlying23 Try.underlying22 Try.underlying22 (by kernel_rfl) Try.underlying3 (by kernel_rfl) (hval 0 25 v0 rfl rfl) h0
  obtain ⟨A1, n1, c1, l1, rfl, a1, b1, e1, g1⟩ := arg_i64s Try.underlying22 Try.underlying3 (by kernel_rfl) (hval 1 22 v1 rfl rfl) h1
  obtain ⟨x2, rfl, rfl, rfl, w2⟩ := open_int Try.underlying5 (hval 2 5 v2 rfl rfl) h2
  obtain ⟨y2, rfl, z2⟩ := fit_u8 w2
  have hwalk : Calls Try.prog 3 #[u0.v, .slice A1 n1 c1, .int .u8 y2] W fun e w' => e = .returned (.bool true) ∧ Below W.heap.size W w' := walk u0 ⟨A1, n1, c1, l1⟩ y2 W k0 ⟨a1, b1, e1, g1⟩ ⟨by omega, by omega⟩
  refine hwalk.mono fun e W' ⟨he, hg⟩ => ?_
  subst he
  exact ⟨_, rfl, law_post laidOut (by kernel_rfl) hW' rfl rfl (by kernel_rfl) Try.underlying4 hg⟩

theorem over : Rows.marketsOwnRow.holds Try.pinned (OpenSpec.ofChange Rows.marketsOwnSpec) :=
  OpenClaim.holds_of_wide 3 Try.f3 rfl rfl rfl rfl rfl rfl rfl ⟨rfl, rfl, rfl, rfl, rfl⟩ rfl rfl rfl rfl rfl (by kernel_rfl) Try.func3 (by kernel_rfl)
    (of_decide_eq_true (by kernel_rfl)) (by unfold Func.isWrapper; first | (rw [if_pos (by decide +kernel)]; kernel_rfl) | (rw [if_neg (by decide +kernel)]; exact ⟨rfl, rfl⟩))
    (fun os started H enc _ => lifted os started H enc)

theorem proved : Rows.MarketsOwnSaid :=
  over

end Go.Proofs.Ytfhiedlglmgneaa.marketsOwn
