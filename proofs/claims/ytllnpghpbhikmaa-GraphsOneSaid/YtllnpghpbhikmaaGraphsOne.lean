/-
  Proved: salesroomlaw06.GraphsOne answers true, for any lists, any items and any number, in whatever memory. No conditions.
-/
import Derived.Test.YtllnpghpbhikmaaRows
import Derived.Test.YtllnpghpbhikmaaLift
import Derived.Test.YtllnpghpbhikmaaAlive6
import Derived.Test.YtllnpghpbhikmaaGrM
import Derived.Test.YtllnpghpbhikmaaGrH
import Derived.Test.YtllnpghpbhikmaaReg
namespace Go.Proofs.Ytllnpghpbhikmaa.graphsOne
open Go.ChangeShapes Go.WideShapes Go.ChangeAt Go.RowKit
set_option linter.unusedVariables false

theorem info6_int : (Try.prog.info? 3).map (fun i => (i.zero, i.size, i.bytes)) = some (some (.int .i64 0), 1, 8) := by kernel_rfl

set_option maxRecDepth 100000 in
set_option maxHeartbeats 4000000 in
theorem walk (x : Gr) (m z : Int) (w : World) (h : x.Ok w) (hm1 : -9223372036854775808 ≤ m) (hm2 : m ≤ 9223372036854775807) (hz : 0 ≤ z ∧ z ≤ 255) :
    Calls Try.prog 7 #[.agg #[x.v, .int .i64 m], .int .u8 z] w fun e w' => e = .returned (.bool true) ∧ Below w.heap.size w w' := by
  have hx := h
  have hB := Below.refl w.heap.size w
  have hxv : x.v = .slice x.A x.n x.c := rfl
  have Vx := Lib.hid hxv
  rw [hxv]
  have hgl := h.glen
  have HGL := Lib.hid hgl
  have htop := Nat.le_trans h.cap h.top
  unfold maxLen at htop
  obtain ⟨B, hB0⟩ : ∃ B, checkG x.g m = B := ⟨_, rfl⟩
  clear hxv hgl h
  cases B
  · have E1 := Lib.hid (turned_err_bad hB0)
    have E2 := Lib.hid (turned_bad hB0)
    clear hB0
    go_enter Try.func7, Try.ntmps7
    have bg := GBox.new w x m
    have hbx : Below w.heap.size w (w.alloc (.cells #[.slice x.A x.n x.c, .int .i64 m] 24)) := (Below.refl _ w).alloc (Nat.le_refl _) _
    replace hx := hx.below hbx
    replace hB := hB.trans (hbx.mono hB.size)
    clear hbx
    have eg0 := bg.c0
    have eg1 := bg.c1
    have hc := gturnedC x m (w.alloc (.cells #[.slice x.A x.n x.c, .int .i64 m] 24)) hx hm1 hm2
    rw [Vx.out, E1.out, E2.out] at hc
    go_wp2_with fail
    clear eg0 eg1
    generalize w.alloc (.cells #[.slice x.A x.n x.c, .int .i64 m] 24) = W1 at *
    refine hc.mono ?_
    rintro e v2 ⟨A1, n1, c1, rfl, t, ht, hq, hb⟩
    clear hc
    replace hx := hx.below hb
    replace bg := bg.below hb
    replace hB := hB.trans (hb.mono hB.size)
    clear hb
    have hn1 : n1 = 0 := outs_zs ht hq
    subst hn1
    clear ht hq
    have eg0 := bg.c0
    have eg1 := bg.c1
    have hc := alive6_any v2
    go_wp2_with fail
    clear eg0 eg1
    refine hc.mono ?_
    rintro e v3 ⟨rfl, hb⟩
    clear hc
    replace hx := hx.below hb
    replace bg := bg.below hb
    replace hB := hB.trans (hb.mono hB.size)
    clear hb
    have eg0 := bg.c0
    have eg1 := bg.c1
    go_wp2
    go_ret
    exact ⟨rfl, hB⟩
  · obtain ⟨q1, q2, q3, _⟩ := checkG_iff.1 hB0
    rw [HGL.out] at q3
    obtain ⟨M, rfl⟩ : ∃ M : Nat, m = M := ⟨m.toNat, by omega⟩
    have HC := Lib.hid hB0
    have E1 := Lib.hid (turned_err hB0)
    have E2 := Lib.hid (turned_ans hB0)
    have hn8 : nearOk x.g M [] = true := nearOk_of hB0 (rises_nil _)
    have F1 := Lib.hid (near_err (m := M) hn8)
    have F2 := Lib.hid ((near_ans hn8).trans (nearG_nil _ _))
    have ha8 : nearOk x.g M (upto x.n fun _ => true) = true := nearOk_of hB0 (by rw [HGL.out]; exact upto_rises _ _)
    have K1 := Lib.hid (near_err (m := M) ha8)
    have K2 := Lib.hid (near_ans ha8)
    obtain ⟨i0, hi0, hz0, hz1, hz2⟩ := info_parts info6_int
    have hM8 : M ≤ 8 := by omega
    clear hB0 q1 q2 hn8 ha8 hm1 hm2
    go_enter Try.func7, Try.ntmps7
    have bg := GBox.new w x (M : Int)
    have hbx : Below w.heap.size w (w.alloc (.cells #[.slice x.A x.n x.c, .int .i64 (M : Int)] 24)) := (Below.refl _ w).alloc (Nat.le_refl _) _
    replace hx := hx.below hbx
    replace hB := hB.trans (hbx.mono hB.size)
    clear hbx
    have eg0 := bg.c0
    have eg1 := bg.c1
    have hc := gturnedC x M (w.alloc (.cells #[.slice x.A x.n x.c, .int .i64 (M : Int)] 24)) hx (by omega) (by omega)
    rw [Vx.out, E1.out, E2.out] at hc
    go_wp2_with fail
    clear eg0 eg1
    generalize w.alloc (.cells #[.slice x.A x.n x.c, .int .i64 (M : Int)] 24) = W1 at *
    refine hc.mono ?_
    rintro e v2 ⟨A1, n1, c1, rfl, t, ht, hq, hb⟩
    clear hc
    replace hx := hx.below hb
    replace bg := bg.below hb
    replace hB := hB.trans (hb.mono hB.size)
    clear hb
    have hn1 : n1 = M := by rw [outs_zs ht hq, turnedG_len]
    subst hn1
    have HQ := Lib.hid hq
    clear hq
    have hne : ((n1 : Int) != (n1 : Int)) = false := by simp
    obtain ⟨nl, vnl, znl, hnl⟩ := nil_ls v2
    have Vnl := Lib.hid vnl
    have Znl := Lib.hid znl
    clear vnl znl
    have eg0 := bg.c0
    have eg1 := bg.c1
    have hc := gnearC x n1 nl v2 hx hnl (by omega) (by omega)
    rw [Vx.out, Vnl.out, Znl.out, F1.out, F2.out] at hc
    go_wp2_with fail
    clear eg0 eg1
    refine hc.mono ?_
    rintro e v3 ⟨A2, n2, c2, rfl, h2, hb⟩
    clear hc
    replace hx := hx.below hb
    replace ht := ht.below hb
    replace hnl := hnl.below hb
    replace bg := bg.below hb
    replace hB := hB.trans (hb.mono hB.size)
    clear hb
    obtain rfl : n2 = 0 := h2.len.symm
    clear h2 hnl Vnl Znl
    have eg0 := bg.c0
    have eg1 := bg.c1
    go_wp2_with fail
    clear eg0 eg1
    go_loopw [9, 10] (fun o i wr => ∃ (j : Nat) (A' : Option Addr) (c' : Nat), j ≤ x.n ∧ i = .int .i64 j ∧ o = .slice A' j c' ∧ Own wr v3.heap.size 3 A' j c' (ci64 (upto j fun _ => true)) ∧ Below v3.heap.size v3 wr) (fun _ i _ => x.n - (intOf i).toNat)
    case atStart => exact ⟨0, none, 0, Nat.zero_le _, rfl, rfl, Own.none_ _ _ _ _, Below.refl _ _⟩
    case round =>
      obtain ⟨j, A', c', hj, rfl, rfl, hown, hbel⟩ := hrel
      have hgr := bg.below hbel
      have eg0 := hgr.c0
      have eg1 := hgr.c1
      have hwo := hbel.size
      by_cases hlt : j < x.n
      · have hst : upto (j + 1) (fun _ => true) = upto j (fun _ => true) ++ [(j : Int)] := by rw [upto_succ]; rfl
        have HST := Lib.hid hst
        clear hst
        go_wp2_with (at_builtin; go_must (refine wpList_app1 wr rfl _ _ 33 rfl 3 i0 _ 8 Try.underlying33 hi0 hz0 hz1 hz2 rfl v3.heap.size A' j c' _ rfl hown 1 rfl rfl ?c3 ?c4 ?c5 ?_))
        case c3 => simp only [maxLen]; omega
        case c4 => omega
        try case c5 => exact hwo
        intro A3 c3 w3 hown3 hbel3 hfr3 hat3
        have hown4 : Own w3 v3.heap.size 3 A3 (j + 1) c3 (ci64 (upto (j + 1) fun _ => true)) := by
          rw [HST.out, ci64_snoc6]
          exact hown3
        have hbk3 := hbel.trans hbel3
        clear hown3 hbel3 hfr3 hat3 hown eg0 eg1
        go_wp2
        go_roundw
        case rel => exact ⟨j + 1, A3, c3, by omega, by go_num, rfl, hown4, hbk3⟩
        case measure => simp [intOf]; omega
      · obtain rfl : j = x.n := by omega
        have hall : OwnI wr v3.heap.size ⟨A', x.n, c', upto x.n fun _ => true⟩ := ⟨hown, fun z hz => by have := mem_all.1 hz; omega⟩
        clear hown hwo hgr eg0 eg1
        obtain ⟨wq, hwq⟩ : ∃ wq, wq = wr := ⟨_, rfl⟩
        rw [← hwq] at hall hbel ⊢
        clear hwq
        replace hx := hx.below hbel
        replace ht := ht.below hbel
        replace bg := bg.below hbel
        replace hB := hB.trans (hbel.mono hB.size)
        clear hbel
        have eg0 := bg.c0
        have eg1 := bg.c1
        have hc := gnearC x n1 ⟨A', x.n, c', _⟩ wq hx hall.ok (by omega) (by omega)
        rw [Vx.out, K1.out, K2.out] at hc
        go_wp2_with fail
        clear eg0 eg1
        refine hc.mono ?_
        rintro e v4 ⟨A4, n4, c4, rfl, h4, hb⟩
        clear hc
        replace hx := hx.below hb
        replace ht := ht.below hb
        replace hall := hall.below hb
        replace bg := bg.below hb
        replace hB := hB.trans (hb.mono hB.size)
        clear hb
        have h4n : n4 ≤ maxLen := Nat.le_trans h4.own.le h4.own.cap
        have eg0 := bg.c0
        have eg1 := bg.c1
        go_wp2_with fail
        clear eg0 eg1
        go_loopw [13] (fun i wr => ∃ (j : Nat), j ≤ n1 ∧ i = .int .i64 j ∧ Below v4.heap.size v4 wr) (fun i _ => n1 - (intOf i).toNat)
        case atStart => exact ⟨0, Nat.zero_le _, rfl, Below.refl _ _⟩
        case round =>
          obtain ⟨j, hj, rfl, hbel⟩ := hrel
          have hgr := bg.below hbel
          have eg0 := hgr.c0
          have eg1 := hgr.c1
          by_cases hlt : j < n1
          · obtain ⟨p, q, u, rfl, hu, hp, hcl, hk⟩ := ht.lss.get hlt
            have hlt' : (j : Int) < n1 := by omega
            have hcell : wr.cell? ⟨p, q + j, none⟩ = some (.slice u.A u.n u.c) := (hbel.cell (p := ⟨p, q + j, none⟩) hp).trans hcl
            have huz : rowT x.g j = u.zs := by
              have h5 := all_get HQ.out hu
              rw [turnedG_get? hlt] at h5
              exact Option.some.inj h5
            obtain ⟨β, hβ⟩ : ∃ β, decide ((j : Int) ∈ nearG x.g n1 (upto x.n fun _ => true)) = β := ⟨_, rfl⟩
            have hβ2 : decide (0 < u.n) = β := by
              rw [← hβ, ← HGL.out, nearG_all hlt, huz, hk.len]
            have hβ3 : decide (0 < (u.n : Int)) = β := by
              rw [← hβ2, decide_eq_decide]; omega
            have hh := lhas_any A4 n4 c4 (nearG x.g n1 (upto x.n fun _ => true)) (j : Int) wr.drew ((h4.own.rd.below hbel).drew) h4n
            rw [hβ] at hh
            have hutop := Nat.le_trans hk.cap hk.top
            unfold maxLen at hutop
            clear hu hcl hk huz hβ
            go_wp2_with fail
            refine wp_region_ord (S := fun w' => w'.cell? ⟨p, q + j, none⟩ = some (.slice u.A u.n u.c)) [(0, true), (1, true), (3, true), (4, true), (5, true), (6, true), (7, true), (8, true), (2, false), (9, true)] default (by kernel_rfl) (by kernel_rfl) (by kernel_rfl) hcell ?_
            simp only [getOrd, nth]
            repeat (first | (refine ordS (by rfl) ?_; simp only [Act.put, List.setIfInBounds_toArray, List.set_cons_zero, List.set_cons_succ]) | (refine ordN (by rfl) ?_; simp only [Act.put, List.setIfInBounds_toArray, List.set_cons_zero, List.set_cons_succ]) | (refine ordQ (v := ?_) (by rfl) (fun _ hSw => ?_) ?_; rotate_left; (focus ((have hS1 := hSw); clear hSw; go_simp; (first | done | with_reducible rfl))); simp only [Act.put, List.setIfInBounds_toArray, List.set_cons_zero, List.set_cons_succ]))
            refine ordD (by rfl) ?_
            intro K hK
            go_simp
            refine hh.mono ?_
            rintro e w2 ⟨rfl, rfl⟩
            go_wp2_with fail
            refine hK _ _ hcell ?_
            clear hK K hh
            try simp only [Act.put, List.setIfInBounds_toArray, List.set_cons_zero, List.set_cons_succ]
            repeat (first | (refine ordS (by rfl) ?_; simp only [Act.put, List.setIfInBounds_toArray, List.set_cons_zero, List.set_cons_succ]) | (refine ordN (by rfl) ?_; simp only [Act.put, List.setIfInBounds_toArray, List.set_cons_zero, List.set_cons_succ]) | (refine ordQ (v := ?_) (by rfl) (fun _ hSw => ?_) ?_; rotate_left; (focus ((have hS1 := hSw); clear hSw; go_simp; (first | done | with_reducible rfl))); simp only [Act.put, List.setIfInBounds_toArray, List.set_cons_zero, List.set_cons_succ]))
            refine ordE ?_
            have hbd := hbel.drew
            have hbb : (β != β) = false := by simp
            go_wp2
            go_roundw
            case rel => exact ⟨j + 1, by omega, by go_num, hbd⟩
            case measure => simp [intOf]; omega
          · obtain rfl : j = n1 := by omega
            clear hgr eg0 eg1
            obtain ⟨wp, hwp⟩ : ∃ wp, wp = wr := ⟨_, rfl⟩
            rw [← hwp] at hbel ⊢
            clear hwp
            replace hx := hx.below hbel
            replace ht := ht.below hbel
            replace hall := hall.below hbel
            replace h4 := h4.below hbel
            replace bg := bg.below hbel
            replace hB := hB.trans (hbel.mono hB.size)
            clear hbel
            by_cases hx0 : x.n = 0
            · have hx1 : ((x.n : Int) == 0) = true := by rw [hx0]; rfl
              clear hx0
              have eg0 := bg.c0
              have eg1 := bg.c1
              have hc := alive6_any wp
              go_wp2_with fail
              clear eg0 eg1
              refine hc.mono ?_
              rintro e v5 ⟨rfl, hb⟩
              clear hc
              replace hx := hx.below hb
              replace ht := ht.below hb
              replace hall := hall.below hb
              replace h4 := h4.below hb
              replace bg := bg.below hb
              replace hB := hB.trans (hb.mono hB.size)
              clear hb
              have eg0 := bg.c0
              have eg1 := bg.c1
              go_wp2
              go_ret
              exact ⟨rfl, hB⟩
            · have hx1 : ((x.n : Int) == 0) = false := by rw [beq_eq_false_iff_ne]; omega
              obtain ⟨k, hk, hkz⟩ : ∃ k : Nat, k < x.n ∧ Int.tmod z x.n = (k : Int) := ⟨(z % x.n).toNat, by have := Int.emod_lt_of_pos z (show (0 : Int) < x.n by omega); have := Int.emod_nonneg z (show (x.n : Int) ≠ 0 by omega); omega, by rw [Int.tmod_eq_emod_of_nonneg hz.1]; have := Int.emod_nonneg z (show (x.n : Int) ≠ 0 by omega); omega⟩
              have hk' : (k : Int) < x.n := by omega
              have hko : nearOk x.g j [(k : Int)] = true := nearOk_of HC.out (by rw [HGL.out]; exact rises_one hk)
              have L1 := Lib.hid (near_err (m := j) hko)
              have L2 := Lib.hid ((near_ans hko).trans (nearG_one HC.out (show k < x.g.length by rw [HGL.out]; exact hk)))
              clear hko hx0
              have eg0 := bg.c0
              have eg1 := bg.c1
              go_wp2_with fail
              clear eg0 eg1
              obtain ⟨s, vs, zs, hs, hbl⟩ : ∃ u : Ls, u.v = .slice (some ⟨wp.heap.size, 0, none⟩) 1 1 ∧ u.zs = [(k : Int)] ∧ u.Ok (wp.alloc (.cells #[.int .i64 (k : Int)] 3)) ∧ Below wp.heap.size wp (wp.alloc (.cells #[.int .i64 (k : Int)] 3)) := lit_ls wp [(k : Int)] (by simp) (by intro z hz; simp at hz; omega)
              have Vs := Lib.hid vs
              have Zs := Lib.hid zs
              clear vs zs
              replace hx := hx.below hbl
              replace ht := ht.below hbl
              replace hall := hall.below hbl
              replace h4 := h4.below hbl
              replace bg := bg.below hbl
              replace hB := hB.trans (hbl.mono hB.size)
              clear hbl
              have eg0 := bg.c0
              have eg1 := bg.c1
              have hc := gnearC x j s (wp.alloc (.cells #[.int .i64 (k : Int)] 3)) hx hs (by omega) (by omega)
              rw [Vx.out, Vs.out, Zs.out, L1.out, L2.out] at hc
              go_wp2_with fail
              clear eg0 eg1
              generalize wp.alloc (.cells #[.int .i64 (k : Int)] 3) = W5 at *
              refine hc.mono ?_
              rintro e v6 ⟨A5, n5, c5, rfl, h5, hb⟩
              clear hc
              replace hx := hx.below hb
              replace ht := ht.below hb
              replace hall := hall.below hb
              replace h4 := h4.below hb
              replace hs := hs.below hb
              replace bg := bg.below hb
              replace hB := hB.trans (hb.mono hB.size)
              clear hb
              have eg0 := bg.c0
              have eg1 := bg.c1
              have hc := alive6_any v6
              go_wp2_with fail
              clear eg0 eg1
              refine hc.mono ?_
              rintro e v7 ⟨rfl, hb⟩
              clear hc
              replace hx := hx.below hb
              replace ht := ht.below hb
              replace hall := hall.below hb
              replace h4 := h4.below hb
              replace hs := hs.below hb
              replace h5 := h5.below hb
              replace bg := bg.below hb
              replace hB := hB.trans (hb.mono hB.size)
              clear hb
              obtain ⟨p, q, u, hA, hu, hg, hp, hcl, hku⟩ := hx.get hk
              have hcell : v7.cell? ⟨p, q + k, none⟩ = some (.slice u.A u.n u.c) := hcl
              have hsm := sameints_b ⟨A5, n5, c5, x.g.getD k []⟩ u v7 h5.ok hku
              rw [show (x.g.getD k [] == u.zs) = true by rw [hg]; simp] at hsm
              have eg0 := bg.c0
              have eg1 := bg.c1
              rw [hA] at eg0
              clear hu hg hcl hku hA
              go_wp2_with fail
              refine hsm.mono ?_
              rintro e w9 ⟨rfl, hb⟩
              have hB9 := hB.trans (hb.mono hB.size)
              go_wp2
              go_ret
              exact ⟨rfl, hB9⟩

theorem own : ownKnob Try.prog.godebug = none := by kernel_rfl
theorem laidOut : laidOutB Try.prog = true := by kernel_rfl

set_option maxRecDepth 100000 in
theorem lifted (os : Os) (started : os.Started) (H : Type) (enc : TypeId × Value → H) :
    ReturnsInHanded {} Try.checked os 7 .any (Rows.graphsOneSpec.pre6 enc Try.prog Try.f7 Rows.graphsOneRow.domain false) (Rows.graphsOneSpec.post enc Try.prog Try.f7 false true false false) := by
  refine returnsInHanded_of_change (C := Try.checked) own started (by kernel_rfl) Try.func7
    (ChangeSpec.witness6 (enc := enc) (C := Try.checked) false ⟨#[], #[.agg #[.slice none 0 0, .int .i64 0], .int .u8 0], []⟩ 8 (by kernel_rfl) (by kernel_rfl) (by kernel_rfl) (by kernel_rfl)) ?_
  intro W base args ds gs before hval0 hW hcnd _
  have hval : ∀ (j : Nat) t v, Try.f7.params[j]? = some t → args[j]? = some v → Value.okWide Try.prog W .any base t v := hval0
  have hW' := hW
  obtain ⟨p, q, hA0, hV, rfl, hfz, hnd⟩ := hW
  have hA : DataW.TrodAll enc Try.prog W 0 (fun _ => true) true Try.f7.params.toList args.toList ds p := hA0
  rw [Try.params7] at hA hval
  obtain ⟨v0, vs0, d0, ds0, p0, q0, hargs, rfl, rfl, h0, r0⟩ := trodAll_cons hA
  obtain ⟨v1, vs1, d1, ds1, p1, q1, rfl, rfl, rfl, h1, r1⟩ := trodAll_cons r0
  obtain ⟨rfl, rfl, rfl⟩ := trodAll_nil r1
  obtain rfl : args = #[v0, v1] := by cases args; simp_all
  obtain ⟨u0, m0, rfl, k0, a0, b0⟩ := arg_gr Try.underlying24 (by kernel_rfl) (by kernel_rfl) Try.underlying22 Try.underlying3 Try.underlying33 (by kernel_rfl) Try.underlying3 (by kernel_rfl) (hval 0 24 v0 rfl rfl) h0
  obtain ⟨x1, rfl, rfl, rfl, w1⟩ := open_int Try.underlying5 (hval 1 5 v1 rfl rfl) h1
  obtain ⟨y1, rfl, z1⟩ := fit_u8 w1
  have hwalk : Calls Try.prog 7 #[.agg #[u0.v, .int .i64 m0], .int .u8 y1] W fun e w' => e = .returned (.bool true) ∧ Below W.heap.size W w' := walk u0 m0 y1 W k0 a0 b0 ⟨by omega, by omega⟩
  refine hwalk.mono fun e W' ⟨he, hg⟩ => ?_
  subst he
  exact ⟨_, rfl, law_post laidOut (by kernel_rfl) hW' rfl rfl (by kernel_rfl) Try.underlying4 hg⟩

theorem over : Rows.graphsOneRow.holds Try.pinned (OpenSpec.ofChange Rows.graphsOneSpec) :=
  OpenClaim.holds_of_wide 7 Try.f7 rfl rfl rfl rfl rfl rfl rfl ⟨rfl, rfl, rfl, rfl, rfl⟩ rfl rfl rfl rfl rfl (by kernel_rfl) Try.func7 (by kernel_rfl)
    (of_decide_eq_true (by kernel_rfl)) (by unfold Func.isWrapper; first | (rw [if_pos (by decide +kernel)]; kernel_rfl) | (rw [if_neg (by decide +kernel)]; exact ⟨rfl, rfl⟩))
    (fun os started H enc _ => lifted os started H enc)

theorem proved : Rows.GraphsOneSaid :=
  over

end Go.Proofs.Ytllnpghpbhikmaa.graphsOne
