/-
  Proved: salesroomlaw12.DemandsLower answers true, for any bid, any prices, any item, by however much, in whatever memory. No other conditions.
-/
import Derived.Test.YtjjaajmjcdihoaaRows
import Derived.Test.YtjjaajmjcdihoaaLift
import Derived.Test.YtjjaajmjcdihoaaAlive12
import Derived.Test.YtjjaajmjcdihoaaZeros
import Derived.Test.YtjjaajmjcdihoaaVecArgs
import Derived.Test.YtjjaajmjcdihoaaReg
import Derived.Lib.MinMax
namespace Go.Proofs.Ytjjaajmjcdihoaa.demandsLower
open Go.ChangeShapes Go.WideShapes Go.ChangeAt Go.RowKit
set_option linter.unusedVariables false

theorem info6_int : (Try.prog.info? 3).map (fun i => (i.zero, i.size, i.bytes)) = some (some (.int .i64 0), 1, 8) := by kernel_rfl
section
open Go.ChangeShapes Go.WideShapes Go.ChangeAt
variable {H : Type} {enc : TypeId × Value → H} {P : Program} {w : World} {base : Nat} {held : Bool} {r : Reach} {b0 : Nat} {t e : TypeId} {v : Value} {d : DataW H} {ps : List MemPlace} {k : IntKind}
/-- Two numbers that came in. -/
theorem arg_two (ht : P.underlying t = some (.array 2 e)) (he : P.underlying e = some (.int k)) (hc : P.cellsOf e = 1) (hC : P.cellsOf t = 2) (hval : Value.okWide P w r b0 t v) (h : DataW.Trod enc P w base (fun _ => true) held t v d ps) :
    ∃ z0 z1 : Int, v = .agg #[.int k z0, .int k z1] ∧ (Lit.int k z0).wf = true ∧ (Lit.int k z1).wf = true := by
  obtain ⟨cs, rfl, hsz⟩ : ∃ cs, v = .agg cs ∧ cs.size = P.cellsOf t := by
    simp only [Value.okWide, ht] at hval
    obtain ⟨cs, h1, h2, _⟩ := hval
    exact ⟨cs, h1, h2⟩
  obtain ⟨fuel, hf⟩ := h
  obtain ⟨c0, c1, rfl⟩ := Go.Joins.array2 (hsz.trans hC)
  obtain ⟨xs, m', _, _, hl, hlen, hx⟩ := DataW.trod_array ht hf
  have h0 := hx 0 (by omega)
  have h1 := hx 1 (by omega)
  rw [hc, List.getElem?_eq_getElem (by omega)] at h0 h1
  obtain ⟨z0, e0, w0⟩ := open_kc (c := c0) he h0
  obtain ⟨z1, e1, w1⟩ := open_kc (c := c1) he h1
  exact ⟨z0, z1, by rw [e0, e1], w0, w1⟩
end
structure Box2 (w : World) (b : Nat) (v0 v1 : Value) : Prop where
  c0 : w.cell? ⟨b, 0, none⟩ = some v0
  c1 : w.cell? ⟨b, 1, none⟩ = some v1
  lt : b < w.heap.size
theorem Box2.below {w w' : World} {b : Nat} {v0 v1 : Value} (h : Box2 w b v0 v1) (hb : Below w.heap.size w w') : Box2 w' b v0 v1 :=
  ⟨(hb.cell (p := ⟨b, 0, none⟩) h.lt).trans h.c0, (hb.cell (p := ⟨b, 1, none⟩) h.lt).trans h.c1, Nat.lt_of_lt_of_le h.lt hb.size⟩
theorem Box2.new (w : World) (v0 v1 : Value) (t : TypeId) : Box2 (w.alloc (.cells #[v0, v1] t)) w.heap.size v0 v1 := by
  have h := heap_alloc_new w (.cells #[v0, v1] t)
  exact ⟨by rw [cell_of_row _ _ 0 _ _ _ h]; rfl, by rw [cell_of_row _ _ 1 _ _ _ h]; rfl, by simp⟩
theorem OwnI.put12 {w : World} {B g n c k : Nat} {zs : List Int} {z : Int} (h : OwnI w B ⟨some ⟨g, 0, none⟩, n, c, zs⟩) (hc : 0 < c) (hz : -9223372036854775808 ≤ z ∧ z ≤ 9223372036854775807) : OwnI (w.setCell ⟨g, k, none⟩ (.int .i64 z)) B ⟨some ⟨g, 0, none⟩, n, c, zs.set k z⟩ := by
  refine ⟨?_, fun y hy => ?_⟩
  · have h1 := h.own.set hc k (.int .i64 z)
    have h2 : ci64 (zs.set k z) = (ci64 zs).set k (.int .i64 z) := by simp [ci64, iV]
    show Own _ B _ _ n c (ci64 (zs.set k z))
    rw [h2]; exact h1
  · rcases List.mem_or_eq_of_mem_set hy with h1 | h1
    · exact h.fit y h1
    · rw [h1]; exact hz
theorem mayD_set {b p : List Int} {k : Nat} {v : Int} (h : mayD b p = true) (hv : 0 ≤ v ∧ v ≤ 2000000) : mayD b (p.set k v) = true := by
  obtain ⟨h1, h2⟩ := mayD_iff.1 h
  obtain ⟨h3, h4, h5⟩ := mayPr_iff.1 h1
  refine mayD_iff.2 ⟨mayPr_iff.2 ⟨by rw [List.length_set]; exact h3, by rw [List.length_set]; exact h4, fun z hz => ?_⟩, by rw [List.length_set]; exact h2⟩
  rcases List.mem_or_eq_of_mem_set hz with hz | rfl
  · exact h5 z hz
  · exact hv
theorem filterD (l : List Nat) (k : Nat) : (l.filter fun j => decide (j ≠ k)).map (fun (k : Nat) => (k : Int)) = (l.map fun (k : Nat) => (k : Int)).filter fun z => decide (z ≠ (k : Int)) := by
  rw [List.filter_map]
  congr 1
  exact List.filter_congr fun j _ => by simp only [Function.comp]; rw [decide_eq_decide]; omega

set_option maxRecDepth 100000 in
set_option maxHeartbeats 4000000 in
theorem walk (x y : Ls) (y1 y2 : Nat) (w : World) (h : x.Ok w) (h1' : y.Ok w) (hy1 : y1 < 65536) (hy2 : y2 < 65536) :
    Calls Try.prog 7 #[x.v, y.v, .agg #[.int .u16 y1, .int .u16 y2]] w fun e w' => e = .returned (.bool true) ∧ Below w.heap.size w w' := by
  have hx := h
  have hy := h1'
  have hB := Below.refl w.heap.size w
  have hxv : x.v = .slice x.A x.n x.c := rfl
  have hyv : y.v = .slice y.A y.n y.c := rfl
  have Vx := Lib.hid hxv
  have Vy := Lib.hid hyv
  rw [hxv, hyv]
  have HXL := Lib.hid hx.len
  have HYL := Lib.hid hy.len
  have htop := Nat.le_trans hx.cap hx.top
  have ttop := Nat.le_trans hy.cap hy.top
  unfold maxLen at htop ttop
  obtain ⟨B, hB0⟩ : ∃ B, mayD x.zs y.zs = B := ⟨_, rfl⟩
  clear hxv hyv h h1'
  go_enter Try.func7, Try.ntmps7
  have ab := Box2.new w (.int .u16 y1) (.int .u16 y2) 31
  have hbx : Below w.heap.size w (w.alloc (.cells #[.int .u16 y1, .int .u16 y2] 31)) := (Below.refl _ w).alloc (Nat.le_refl _) _
  replace hx := hx.below hbx
  replace hy := hy.below hbx
  replace hB := hB.trans (hbx.mono hB.size)
  clear hbx
  cases B
  · have E1 := Lib.hid (de_bad hB0)
    clear hB0
    have ea0 := ab.c0
    have ea1 := ab.c1
    have hc := pofC x y (w.alloc (.cells #[.int .u16 y1, .int .u16 y2] 31)) hx hy
    rw [Vx.out, Vy.out, E1.out.1, E1.out.2.1, E1.out.2.2.1, E1.out.2.2.2] at hc
    go_wp2_with fail
    clear ea0 ea1
    generalize w.alloc (.cells #[.int .u16 y1, .int .u16 y2] 31) = W1 at *
    refine hc.mono ?_
    rintro e v2 ⟨A1, n1, c1, rfl, h1, hb⟩
    clear hc
    replace hx := hx.below hb
    replace hy := hy.below hb
    replace ab := ab.below hb
    replace hB := hB.trans (hb.mono hB.size)
    clear hb
    clear h1
    have ea0 := ab.c0
    have ea1 := ab.c1
    have hc := alive12_any v2
    go_wp2_with fail
    clear ea0 ea1
    refine hc.mono ?_
    rintro e v3 ⟨rfl, hb⟩
    clear hc
    replace hx := hx.below hb
    replace hy := hy.below hb
    replace ab := ab.below hb
    replace hB := hB.trans (hb.mono hB.size)
    clear hb
    have ea0 := ab.c0
    have ea1 := ab.c1
    go_wp2
    go_ret
    exact ⟨rfl, hB⟩
  · have HB0 := Lib.hid hB0
    obtain ⟨hM1, hM8, hbl, hbz, hpz⟩ := mayD_len hB0
    rw [HYL.out] at hM1 hM8
    have hxy : x.n = 0 ∨ x.n = y.n := by
      rcases hbl with h | h
      · left; rw [← HXL.out, h]; rfl
      · right; rw [← HXL.out, ← HYL.out]; exact h
    have hx8 : x.n ≤ y.n := by omega
    have hx9 : x.n ≤ 8 := by omega
    have HXY := Lib.hid hxy
    have HBZ := Lib.hid hbz
    have HPZ := Lib.hid hpz
    have EE := Lib.hid (de_ok hB0).1
    obtain ⟨ga, hga⟩ : ∃ a, gainD x.zs y.zs = a := ⟨_, rfl⟩
    obtain ⟨il, hil⟩ : ∃ a, itemsD x.zs y.zs = a := ⟨_, rfl⟩
    obtain ⟨nb, hnb⟩ : ∃ a, decide (ga = 0) = a := ⟨_, rfl⟩
    have EI : Hid (itemsE x.zs y.zs = il) := Lib.hid ((de_ok hB0).2.1.trans hil)
    have EG : Hid (gainE x.zs y.zs = ga) := Lib.hid ((de_ok hB0).2.2.1.trans hga)
    have EN : Hid (noneE x.zs y.zs = nb) := Lib.hid ((de_ok hB0).2.2.2.trans (by rw [hga]; exact hnb))
    have HGA := Lib.hid hga
    have HIL := Lib.hid hil
    have HNB := Lib.hid hnb
    have hgb : 0 ≤ ga ∧ ga ≤ 1000000 := by rw [← hga]; exact gain_bound hB0
    have hill : il.length ≤ x.n := by rw [← hil, ← HXL.out]; exact itemsD_len
    clear hB0 hbl hbz hpz hxy hga hil hnb
    have ea0 := ab.c0
    have ea1 := ab.c1
    have hc := pofC x y (w.alloc (.cells #[.int .u16 y1, .int .u16 y2] 31)) hx hy
    rw [Vx.out, Vy.out, EN.out, EG.out, EE.out, EI.out] at hc
    go_wp2_with fail
    clear ea0 ea1
    generalize w.alloc (.cells #[.int .u16 y1, .int .u16 y2] 31) = W1 at *
    refine hc.mono ?_
    rintro e v2 ⟨A1, n1, c1, rfl, h1, hb⟩
    clear hc
    replace hx := hx.below hb
    replace hy := hy.below hb
    replace ab := ab.below hb
    replace hB := hB.trans (hb.mono hB.size)
    clear hb
    obtain rfl : n1 = il.length := h1.len.symm
    by_cases hi0l : il.length = 0
    · have gn0 : ((il.length : Int) == 0) = true := by rw [beq_iff_eq]; omega
      have gn1 : (il.length == 0) = true := by rw [beq_iff_eq]; exact hi0l
      clear hi0l
      have ea0 := ab.c0
      have ea1 := ab.c1
      have hc := alive12_any v2
      go_wp2_with fail
      clear ea0 ea1
      refine hc.mono ?_
      rintro e v3 ⟨rfl, hb⟩
      clear hc
      replace hx := hx.below hb
      replace hy := hy.below hb
      replace h1 := h1.below hb
      replace ab := ab.below hb
      replace hB := hB.trans (hb.mono hB.size)
      clear hb
      have ea0 := ab.c0
      have ea1 := ab.c1
      go_wp2
      go_ret
      exact ⟨rfl, hB⟩
    · have gn0 : ((il.length : Int) == 0) = false := by rw [beq_eq_false_iff_ne]; omega
      have gn1 : (il.length == 0) = false := by rw [beq_eq_false_iff_ne]; exact hi0l
      obtain ⟨q, hq⟩ : ∃ k : Nat, y1 % il.length = k := ⟨_, rfl⟩
      have hqn : q < il.length := by rw [← hq]; exact Nat.mod_lt _ (by omega)
      have hqn' : (q : Int) < il.length := by omega
      have hq0 : (0 : Int) ≤ q := by omega
      have t1 : ((y1 : Int)).tmod (il.length : Int) = (q : Int) := by rw [Int.tmod_eq_emod_of_nonneg (by omega), ← hq]; simp
      have s1 : IntKind.i64.wrap (y1 : Int) = (y1 : Int) := by rw [IntKind.wrap_i64]; omega
      have s2 : IntKind.i64.wrap (y2 : Int) = (y2 : Int) := by rw [IntKind.wrap_i64]; omega
      have s3 : IntKind.i64.wrap (q : Int) = (q : Int) := by rw [IntKind.wrap_i64]; omega
      clear hq
      obtain ⟨kk, hkk⟩ : ∃ k : Nat, (itemsN x.zs y.zs)[q]? = some k := by
        refine ⟨_, List.getElem?_eq_getElem ?_⟩
        have h5 := congrArg List.length HIL.out
        rw [itemsD, List.length_map] at h5
        omega
      have hkm := List.mem_of_getElem? hkk
      have hilq : il[q]? = some (kk : Int) := by rw [← HIL.out, itemsD, List.getElem?_map, hkk]; rfl
      have hkx : kk < x.n := by rw [← HXL.out]; exact (mem_itemsN.1 hkm).1
      have hkyn : kk < y.n := by omega
      have HKM := Lib.hid hkm
      obtain ⟨pq, qq, hAq, hpq, yq, hyq, hcq⟩ := h1.ok.rd.get hqn
      simp only at hAq
      rw [show ci64 il = il.map iV from rfl, List.getElem?_map, hilq] at hyq
      obtain rfl := Option.some.inj hyq
      unfold iV at hcq
      subst hAq
      have gk0 : decide ((kk : Int) < 0) = false := decide_eq_false (by omega)
      have gk1 : decide ((y.n : Int) ≤ (kk : Int)) = false := decide_eq_false (by omega)
      have gk2 : decide (y.n ≤ kk) = false := decide_eq_false (by omega)
      clear hkk hkm hilq hyq
      obtain ⟨v, hv⟩ : ∃ v, max 0 (y.zs.getD kk 0 - 1 - (y2 : Int)) = v := ⟨_, rfl⟩
      have hvb : 0 ≤ v ∧ v ≤ 2000000 ∧ v ≤ y.zs.getD kk 0 := by
        have h5 : 0 ≤ y.zs.getD kk 0 ∧ y.zs.getD kk 0 ≤ 2000000 := by
          rw [List.getD_eq_getElem?_getD, List.getElem?_eq_getElem (by rw [HYL.out]; exact hkyn)]; exact HPZ.out _ (List.getElem_mem _)
        omega
      obtain ⟨i0, hi0, hz0, hz1, hz2⟩ := info_parts info6_int
      have hky : kk < y.n := by omega
      have hky' : (kk : Int) < y.n := by omega
      have hkk0 : (0 : Int) ≤ kk := by omega
      have hkl : kk < y.zs.length := by rw [HYL.out]; exact hky
      have hgk : y.zs.getD kk 0 = y.zs[kk] := by rw [List.getD_eq_getElem?_getD, List.getElem?_eq_getElem hkl]; rfl
      have hpk := HPZ.out _ (List.getElem_mem hkl)
      have hyg : y.zs[kk]? = some y.zs[kk] := List.getElem?_eq_getElem hkl
      obtain ⟨pk, hpk'⟩ : ∃ q, y.zs[kk] = q := ⟨_, rfl⟩
      rw [hpk'] at hgk hpk hyg
      have HGK := Lib.hid hgk
      have HYG := Lib.hid hyg
      have hyrd := hy.rd
      have hyfit := hy.fit
      clear hgk hpk' hyg

      have ea0 := ab.c0
      have ea1 := ab.c1
      go_wp2_with (at_builtin; go_must (refine wpList_app v2 rfl _ _ 22 rfl 3 i0 _ 8 Try.underlying22 hi0 hz0 hz1 hz2 rfl v2.heap.size none 0 0 [] rfl (Own.none_ _ _ _ _) y.A y.n y.c (ci64 y.zs) rfl hyrd ?e1 ?e2 ?e3 ?e4 ?_))
      case e1 => intro u hu; obtain ⟨z, _, rfl⟩ := List.mem_map.1 hu; rfl
      case e2 => simp only [maxLen]; omega
      case e3 => omega
      try case e4 => exact Nat.le_refl _
      intro Ap cp wp hownp hbelp _ _
      have hP : OwnI wp v2.heap.size ⟨Ap, y.n, cp, y.zs⟩ := ⟨by simpa using hownp, hyfit⟩
      have hlep := hP.own.le
      simp only at hlep
      obtain ⟨gp, hAp, hgp, hgpl⟩ := hP.own.lt (show 0 < cp by omega)
      simp only at hAp
      subst hAp
      have hownP : Own wp v2.heap.size 3 (some ⟨gp, 0, none⟩) y.n cp (ci64 y.zs) := hP.own
      have hfrp := hownP.free (show 0 < cp by omega) kk
      have hcp := hownP.cell (j := kk) hky
      rw [show ci64 y.zs = y.zs.map iV from rfl, List.getElem?_map, HYG.out] at hcp
      replace hcp : wp.cell? ⟨gp, kk, none⟩ = some (.int .i64 pk) := hcp
      have hcpd : wp.drew.cell? ⟨gp, kk, none⟩ = some (.int .i64 pk) := hcp
      have hPs := OwnI.put12 hP (k := kk) (z := v) (show 0 < cp by omega) (by omega)
      have hbs : Below v2.heap.size v2 (wp.setCell ⟨gp, kk, none⟩ (.int .i64 v)).drew := (hbelp.setCell (p := ⟨gp, kk, none⟩) hgp _).drew
      clear hownp hyrd hyfit ea0 ea1
      rw [HGK.out] at hv hvb
      have s4 : IntKind.i64.wrap (pk - 1) = pk - 1 := by rw [IntKind.wrap_i64]; omega
      have s5 : IntKind.i64.wrap (pk - 1 - (y2 : Int)) = pk - 1 - (y2 : Int) := by rw [IntKind.wrap_i64]; omega
      have s7 : IntKind.i64.wrap (pk - v) = pk - v := by rw [IntKind.wrap_i64]; omega
      have HMX := Lib.hid hv
      clear hv
      have hS : ∀ w', Below v2.heap.size v2 w' → w'.cell? ⟨w.heap.size, 1, none⟩ = some (.int .u16 y2) := fun w' hb => (ab.below hb).c1
      go_wp2_with fail
      refine wp_region_ord (S := fun w' => w'.cell? ⟨w.heap.size, 1, none⟩ = some (.int .u16 y2)) [(0, true), (1, true), (2, true), (3, true), (4, true), (7, true), (8, true), (9, true), (5, false), (6, true), (10, true), (11, true), (12, true), (13, false)] default (by kernel_rfl) (by kernel_rfl) (by kernel_rfl) (hS _ hbelp.drew) ?_
      simp only [getOrd, nth]
      repeat (first | (refine ordS (by rfl) ?_; simp only [Act.put, List.setIfInBounds_toArray, List.set_cons_zero, List.set_cons_succ]) | (refine ordN (by rfl) ?_; simp only [Act.put, List.setIfInBounds_toArray, List.set_cons_zero, List.set_cons_succ]) | (refine ordQ (v := ?_) (by rfl) (fun _ hSw => ?_) ?_; rotate_left; (focus ((have hS1 := hSw); clear hSw; go_simp; (first | done | with_reducible rfl))); simp only [Act.put, List.setIfInBounds_toArray, List.set_cons_zero, List.set_cons_succ]))
      refine ordD (by rfl) ?_
      intro K hK
      go_simp
      refine hK _ _ (hS _ hbelp.drew) ?_
      clear hK K
      try simp only [Act.put, List.setIfInBounds_toArray, List.set_cons_zero, List.set_cons_succ]
      repeat (first | (refine ordS (by rfl) ?_; simp only [Act.put, List.setIfInBounds_toArray, List.set_cons_zero, List.set_cons_succ]) | (refine ordN (by rfl) ?_; simp only [Act.put, List.setIfInBounds_toArray, List.set_cons_zero, List.set_cons_succ]) | (refine ordQ (v := ?_) (by rfl) (fun _ hSw => ?_) ?_; rotate_left; (focus ((have hS1 := hSw); clear hSw; go_simp; (first | done | with_reducible rfl))); simp only [Act.put, List.setIfInBounds_toArray, List.set_cons_zero, List.set_cons_succ]))
      try rw [HMX.out]
      refine ordD (by rfl) ?_
      intro K hK
      go_simp
      refine hK _ _ (hS _ hbs) ?_
      clear hK K
      try simp only [Act.put, List.setIfInBounds_toArray, List.set_cons_zero, List.set_cons_succ]
      refine ordE ?_
      obtain ⟨ws, hws⟩ : ∃ q, q = (wp.setCell ⟨gp, kk, none⟩ (.int .i64 v)).drew := ⟨_, rfl⟩
      have hPw : OwnI ws v2.heap.size ⟨some ⟨gp, 0, none⟩, y.n, cp, y.zs.set kk v⟩ := by rw [hws]; exact ⟨hPs.own.drew, hPs.fit⟩
      rw [← hws] at hbs ⊢
      clear hws hPs hS hP hownP hcp hcpd hfrp hbelp hgpl
      replace ab := ab.below hbs
      replace hx := hx.below hbs
      replace hy := hy.below hbs
      replace h1 := h1.below hbs
      replace hB := hB.trans (hbs.mono hB.size)
      clear hbs
      have hcf := hPw.own.cell (j := kk) hky
      rw [show ci64 (y.zs.set kk v) = (y.zs.set kk v).map iV from rfl, List.getElem?_map, List.getElem?_set, if_pos rfl, if_pos hkl] at hcf
      replace hcf : ws.cell? ⟨gp, kk, none⟩ = some (.int .i64 v) := hcf
      obtain ⟨py, qy, hAy, hpy, yy, hyy, hcy⟩ := hy.rd.get hky
      rw [ci64_get _ _ hkl] at hyy
      obtain rfl : iV y.zs[kk] = yy := Option.some.inj hyy
      unfold iV at hcy
      rw [show y.zs[kk] = pk from by have h5 := HYG.out; rw [List.getElem?_eq_getElem hkl] at h5; exact Option.some.inj h5] at hcy
      rw [hAy]
      have HAY := Lib.hid hAy
      clear hyy hAy
      go_wp2_with fail
      refine wp_region_ord (S := fun w' => w'.cell? ⟨gp, kk, none⟩ = some (.int .i64 v) ∧ w'.cell? ⟨py, qy + kk, none⟩ = some (.int .i64 pk)) [(0, true), (1, true), (2, true), (3, true), (4, true), (5, true), (6, true), (7, true), (8, true), (9, true)] default (by kernel_rfl) (by kernel_rfl) (by kernel_rfl) ⟨hcf, hcy⟩ ?_
      simp only [getOrd, nth]
      repeat (first | (refine ordS (by rfl) ?_; simp only [Act.put, List.setIfInBounds_toArray, List.set_cons_zero, List.set_cons_succ]) | (refine ordN (by rfl) ?_; simp only [Act.put, List.setIfInBounds_toArray, List.set_cons_zero, List.set_cons_succ]) | (refine ordQ (v := ?_) (by rfl) (fun _ hSw => ?_) ?_; rotate_left; (focus ((have hS1 := hSw.1); (have hS2 := hSw.2); clear hSw; go_simp; (first | done | with_reducible rfl))); simp only [Act.put, List.setIfInBounds_toArray, List.set_cons_zero, List.set_cons_succ]))
      refine ordE ?_
      obtain ⟨wt, hwt⟩ : ∃ q, q = ws.drew := ⟨_, rfl⟩
      have hbt : Below ws.heap.size ws wt := by rw [hwt]; exact (Below.refl _ ws).drew
      rw [← hwt]
      clear hwt hcf hcy
      replace ab := ab.below hbt
      replace hx := hx.below hbt
      replace hy := hy.below hbt
      replace h1 := h1.below hbt
      replace hPw := hPw.below hbt
      replace hB := hB.trans (hbt.mono hB.size)
      clear hbt
      have hB2 := mayD_set (k := kk) (v := v) HB0.out ⟨hvb.1, hvb.2.1⟩
      have E2 := Lib.hid (de_ok hB2)
      clear hB2
      by_cases hby : v = pk
      · subst hby
        have hsame : y.zs.set kk v = y.zs := by
          refine List.ext_getElem? fun j => ?_
          rw [List.getElem?_set]
          by_cases e : kk = j
          · subst e
            rw [if_pos rfl, if_pos hkl, HYG.out]
          · rw [if_neg e]
        have HSM := Lib.hid hsame
        have gb : ((v - v) == 0) = true := by simp
        have gga : (ga == ga) = true := by simp
        clear hsame
        have ea0 := ab.c0
        have ea1 := ab.c1
        have hc := pofC x ⟨some ⟨gp, 0, none⟩, y.n, cp, y.zs.set kk v⟩ wt hx hPw.ok
        rw [Vx.out, show Ls.v ⟨some ⟨gp, 0, none⟩, y.n, cp, y.zs.set kk v⟩ = .slice (some ⟨gp, 0, none⟩) y.n cp from rfl, HSM.out, EN.out, EG.out, EE.out, EI.out] at hc
        go_wp2_with fail
        clear ea0 ea1
        refine hc.mono ?_
        rintro e v3 ⟨A7, n7, c7, rfl, h7, hb⟩
        clear hc
        replace hx := hx.below hb
        replace h1 := h1.below hb
        replace hPw := hPw.below hb
        replace ab := ab.below hb
        replace hB := hB.trans (hb.mono hB.size)
        clear hb
        obtain rfl : n7 = il.length := h7.len.symm
        have ea0 := ab.c0
        have ea1 := ab.c1
        have hc := alive12_any v3
        go_wp2_with fail
        clear ea0 ea1
        refine hc.mono ?_
        rintro e v4 ⟨rfl, hb⟩
        clear hc
        replace hx := hx.below hb
        replace h1 := h1.below hb
        replace hPw := hPw.below hb
        replace h7 := h7.below hb
        replace ab := ab.below hb
        replace hB := hB.trans (hb.mono hB.size)
        clear hb
        have ea0 := ab.c0
        have ea1 := ab.c1
        have hc := sameints_b ⟨A7, il.length, c7, il⟩ ⟨some ⟨pq, qq, none⟩, il.length, c1, il⟩ v4 h7.ok h1.ok
        rw [show (il == il) = true by simp] at hc
        go_wp2_with fail
        clear ea0 ea1
        refine hc.mono ?_
        rintro e v5 ⟨rfl, hb⟩
        clear hc
        replace hx := hx.below hb
        replace h1 := h1.below hb
        replace hPw := hPw.below hb
        replace h7 := h7.below hb
        replace ab := ab.below hb
        replace hB := hB.trans (hb.mono hB.size)
        clear hb
        have ea0 := ab.c0
        have ea1 := ab.c1
        go_wp2
        go_ret
        exact ⟨rfl, hB⟩
      · have hvp : v < pk := by omega
        obtain ⟨e1, e2⟩ := lower_one HKM.out hkl (by rw [HGK.out]; exact hvp)
        rw [HGA.out, HGK.out] at e1
        obtain ⟨by_, hby2⟩ : ∃ d, pk - v = d := ⟨_, rfl⟩
        rw [hby2] at e1 s7
        have hbyp : 0 < by_ ∧ by_ ≤ 2000000 := by omega
        have F3 : Hid (gainE x.zs (y.zs.set kk v) = ga + by_) := Lib.hid (E2.out.2.2.1.trans e1)
        have F4 : Hid (noneE x.zs (y.zs.set kk v) = false) := Lib.hid (E2.out.2.2.2.trans (by rw [e1]; exact decide_eq_false (by omega)))
        have F2 : Hid (itemsE x.zs (y.zs.set kk v) = [(kk : Int)]) := Lib.hid (E2.out.2.1.trans (by rw [itemsD, e2]; rfl))
        have gb : ((pk - v) == 0) = false := by rw [beq_eq_false_iff_ne]; omega
        have gb2 : (by_ == 0) = false := by rw [beq_eq_false_iff_ne]; omega
        have sg : IntKind.i64.wrap (ga + by_) = ga + by_ := by rw [IntKind.wrap_i64]; omega
        have gg : ((ga + by_) == (ga + by_)) = true := by simp
        rw [hby2]
        have HBY := Lib.hid hby2
        clear e1 e2 hby2
        have ea0 := ab.c0
        have ea1 := ab.c1
        have hc := pofC x ⟨some ⟨gp, 0, none⟩, y.n, cp, y.zs.set kk v⟩ wt hx hPw.ok
        rw [Vx.out, show Ls.v ⟨some ⟨gp, 0, none⟩, y.n, cp, y.zs.set kk v⟩ = .slice (some ⟨gp, 0, none⟩) y.n cp from rfl, F4.out, F3.out, E2.out.1, F2.out] at hc
        go_wp2_with fail
        clear ea0 ea1
        refine hc.mono ?_
        rintro e v3 ⟨A7, n7, c7, rfl, h7, hb⟩
        clear hc
        replace hx := hx.below hb
        replace h1 := h1.below hb
        replace hPw := hPw.below hb
        replace ab := ab.below hb
        replace hB := hB.trans (hb.mono hB.size)
        clear hb
        obtain rfl : n7 = 1 := h7.len.symm
        have ea0 := ab.c0
        have ea1 := ab.c1
        have hc := alive12_any v3
        go_wp2_with fail
        clear ea0 ea1
        refine hc.mono ?_
        rintro e v4 ⟨rfl, hb⟩
        clear hc
        replace hx := hx.below hb
        replace h1 := h1.below hb
        replace hPw := hPw.below hb
        replace h7 := h7.below hb
        replace ab := ab.below hb
        replace hB := hB.trans (hb.mono hB.size)
        clear hb
        have hlt := Own.lit (B := 0) v4 3 #[.int .i64 (kk : Int)] 1 (Nat.zero_le _) rfl (by unfold maxLen; omega)
        have hlk : Ls.Ok (v4.alloc (.cells #[.int .i64 (kk : Int)] 3)) ⟨some ⟨v4.heap.size, 0, none⟩, 1, 1, [(kk : Int)]⟩ := ⟨hlt.rd, Nat.le_refl _, by simp [maxLen], fun z hz => by rw [List.mem_singleton.1 hz]; omega⟩
        have hbl : Below v4.heap.size v4 (v4.alloc (.cells #[.int .i64 (kk : Int)] 3)) := (Below.refl _ v4).alloc (Nat.le_refl _) _
        replace h7 := h7.below hbl
        replace hB := hB.trans (hbl.mono hB.size)
        have hc := sameints_b ⟨A7, 1, c7, [(kk : Int)]⟩ ⟨some ⟨v4.heap.size, 0, none⟩, 1, 1, [(kk : Int)]⟩ (v4.alloc (.cells #[.int .i64 (kk : Int)] 3)) h7.ok hlk
        rw [show (([(kk : Int)] : List Int) == [(kk : Int)]) = true by simp] at hc
        go_wp2_with fail
        refine hc.mono ?_
        rintro e w99 ⟨rfl, hb⟩
        clear hc
        replace hB := hB.trans (hb.mono hB.size)
        clear hb
        go_wp2
        go_ret
        exact ⟨rfl, hB⟩

theorem own : ownKnob Try.prog.godebug = none := by kernel_rfl
theorem laidOut : laidOutB Try.prog = true := by kernel_rfl

set_option maxRecDepth 100000 in
theorem lifted (os : Os) (started : os.Started) (H : Type) (enc : TypeId × Value → H) :
    ReturnsInHanded {} Try.checked os 7 .any (Rows.demandsLowerSpec.pre6 enc Try.prog Try.f7 Rows.demandsLowerRow.domain false) (Rows.demandsLowerSpec.post enc Try.prog Try.f7 false true false false) := by
  refine returnsInHanded_of_change (C := Try.checked) own started (by kernel_rfl) Try.func7
    (ChangeSpec.witness6 (enc := enc) (C := Try.checked) false ⟨#[], #[.slice none 0 0, .slice none 0 0, .agg #[.int .u16 0, .int .u16 0]], []⟩ 8 (by kernel_rfl) (by kernel_rfl) (by kernel_rfl) (by kernel_rfl)) ?_
  intro W base args ds gs before hval0 hW hcnd _
  have hval : ∀ (j : Nat) t v, Try.f7.params[j]? = some t → args[j]? = some v → Value.okWide Try.prog W .any base t v := hval0
  have hW' := hW
  obtain ⟨p, q, hA0, hV, rfl, hfz, hnd⟩ := hW
  have hA : DataW.TrodAll enc Try.prog W 0 (fun _ => true) true Try.f7.params.toList args.toList ds p := hA0
  rw [Try.params7] at hA hval
  obtain ⟨v0, vs0, d0, ds0, p0, q0, hargs, rfl, rfl, h0, r0⟩ := trodAll_cons hA
  obtain ⟨v1, vs1, d1, ds1, p1, q1, rfl, rfl, rfl, h1, r1⟩ := trodAll_cons r0
  obtain ⟨v2, vs2, d2, ds2, p2, q2, rfl, rfl, rfl, h2, r2⟩ := trodAll_cons r1
  obtain ⟨rfl, rfl, rfl⟩ := trodAll_nil r2
  obtain rfl : args = #[v0, v1, v2] := by cases args; simp_all
  obtain ⟨A0, n0, c0, l0, rfl, a0, b0, e0, g0⟩ := arg_i64s Try.underlying22 Try.underlying3 (by kernel_rfl) (hval 0 22 v0 rfl rfl) h0
  obtain ⟨A1, n1, c1, l1, rfl, a1, b1, e1, g1⟩ := arg_i64s Try.underlying22 Try.underlying3 (by kernel_rfl) (hval 1 22 v1 rfl rfl) h1
  obtain ⟨p2a, p2b, rfl, q2a, q2b⟩ := arg_two Try.underlying31 Try.underlying29 (by kernel_rfl) (by kernel_rfl) (hval 2 31 v2 rfl rfl) h2
  obtain ⟨y2a, rfl, z2a⟩ := fit_u16 q2a
  obtain ⟨y2b, rfl, z2b⟩ := fit_u16 q2b
  have hwalk : Calls Try.prog 7 #[.slice A0 n0 c0, .slice A1 n1 c1, .agg #[.int .u16 y2a, .int .u16 y2b]] W fun e w' => e = .returned (.bool true) ∧ Below W.heap.size W w' := walk ⟨A0, n0, c0, l0⟩ ⟨A1, n1, c1, l1⟩ y2a y2b W ⟨a0, b0, e0, g0⟩ ⟨a1, b1, e1, g1⟩ z2a z2b
  refine hwalk.mono fun e W' ⟨he, hg⟩ => ?_
  subst he
  exact ⟨_, rfl, law_post laidOut (by kernel_rfl) hW' rfl rfl (by kernel_rfl) Try.underlying4 hg⟩

theorem over : Rows.demandsLowerRow.holds Try.pinned (OpenSpec.ofChange Rows.demandsLowerSpec) :=
  OpenClaim.holds_of_wide 7 Try.f7 rfl rfl rfl rfl rfl rfl rfl ⟨rfl, rfl, rfl, rfl, rfl⟩ rfl rfl rfl rfl rfl (by kernel_rfl) Try.func7 (by kernel_rfl)
    (of_decide_eq_true (by kernel_rfl)) (by unfold Func.isWrapper; first | (rw [if_pos (by decide +kernel)]; kernel_rfl) | (rw [if_neg (by decide +kernel)]; exact ⟨rfl, rfl⟩))
    (fun os started H enc _ => lifted os started H enc)

theorem proved : Rows.DemandsLowerSaid :=
  over

end Go.Proofs.Ytjjaajmjcdihoaa.demandsLower
