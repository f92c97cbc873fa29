/-
  Proved: Of all bidders of a market each one would have what it would have by itself, and whatever another one bids makes no difference (any market, any prices, who has no bid).
-/
import Derived.Test.YtjjaajmjcdihoaaRows
import Derived.Test.YtjjaajmjcdihoaaLift
import Derived.Test.YtjjaajmjcdihoaaAlive12
import Derived.Test.YtjjaajmjcdihoaaZeros
import Derived.Test.YtjjaajmjcdihoaaDeEach
import Derived.Test.YtjjaajmjcdihoaaMarkWc
import Derived.Test.YtjjaajmjcdihoaaReg
namespace Go.Proofs.Ytjjaajmjcdihoaa.demandsEach
open Go.ChangeShapes Go.WideShapes Go.ChangeAt Go.RowKit
set_option linter.unusedVariables false

theorem info6_int : (Try.prog.info? 3).map (fun i => (i.zero, i.size, i.bytes)) = some (some (.int .i64 0), 1, 8) := by kernel_rfl
theorem less_ofE {x : Mk} (hm : x.may = true) {i : Nat} (hi : i < x.n) : x.lessErr (i : Int) = 0 := by
  have h : x.has (i : Int) = true := by rw [Mk.has, hm]; simp; omega
  rw [Mk.lessErr, if_pos h]
theorem own_at {w : World} {B : Nat} {e : TypeId} {A : Option Addr} {n c i : Nat} {xs : List Value} {v : Value} (h : Own w B e A n c xs) (hi : xs[i]? = some v) (hin : i < n) : ∃ g, A = some ⟨g, 0, none⟩ ∧ g < w.heap.size ∧ w.cell? ⟨g, i, none⟩ = some v := by
  have hle := h.le
  obtain ⟨g, rfl, _, hg⟩ := h.lt (show 0 < c by omega)
  exact ⟨g, rfl, hg, (h.cell hin).trans hi⟩

set_option maxRecDepth 100000 in
set_option maxHeartbeats 1000000 in
theorem walk (x : Mk) (y : Ls) (k0 : Nat) (w : World) (h : x.Ok w) (h1' : y.Ok w) (hk0 : k0 < 256) :
    Calls Try.prog 6 #[x.v, y.v, .int .u8 k0] w fun e w' => e = .returned (.bool true) ∧ Below w.heap.size w w' := by
  have hx := h
  have hy := h1'
  have hB := Below.refl w.heap.size w
  have hxv : x.v = .agg #[.slice x.r.A x.r.n x.r.c, .slice x.A x.n x.c, .slice x.o.A x.o.n x.o.c] := rfl
  have hyv : y.v = .slice y.A y.n y.c := rfl
  have Vx := Lib.hid hxv
  have Vy := Lib.hid hyv
  rw [hxv, hyv]
  have hblen := hx.len
  have HBL : Hid ((Ls.all x.b).length = x.n) := Lib.hid (by rw [Ls.all, List.length_map, hx.len])
  have btop := Nat.le_trans hx.cap hx.top
  unfold maxLen at btop
  obtain ⟨B, hB0⟩ : ∃ B, mayA x.r.zs (Ls.all x.b) x.o.zs y.zs = B := ⟨_, rfl⟩
  clear hxv hyv h h1' hblen
  go_enter Try.func6, Try.ntmps6
  have bx := InBox.new w x
  have hbx : Below w.heap.size w (w.alloc (.cells #[.slice x.r.A x.r.n x.r.c, .slice x.A x.n x.c, .slice x.o.A x.o.n x.o.c] 35)) := (Below.refl _ w).alloc (Nat.le_refl _) _
  replace hx := hx.below hbx
  replace hy := hy.below hbx
  replace hB := hB.trans (hbx.mono hB.size)
  clear hbx
  cases B
  · have E1 := Lib.hid (show allErr x y.zs = 1 ∧ allI x y.zs = [] ∧ allN x y.zs = [] by simp [allErr, allI, allN, hB0])
    clear hB0
    have ex0 := bx.c0
    have ex1 := bx.c1
    have ex2 := bx.c2
    have hc := pallDC x y (w.alloc (.cells #[.slice x.r.A x.r.n x.r.c, .slice x.A x.n x.c, .slice x.o.A x.o.n x.o.c] 35)) hx hy
    rw [Vx.out, Vy.out, E1.out.1, E1.out.2.1, E1.out.2.2] at hc
    go_wp2_with fail
    clear ex0 ex1 ex2
    generalize w.alloc (.cells #[.slice x.r.A x.r.n x.r.c, .slice x.A x.n x.c, .slice x.o.A x.o.n x.o.c] 35) = W1 at *
    refine hc.mono ?_
    rintro e v2 ⟨A1, n1, c1, A2, m1, d1, ta, rfl, hta, hga, hoa, hb⟩
    clear hc
    replace hx := hx.below hb
    replace hy := hy.below hb
    replace bx := bx.below hb
    replace hB := hB.trans (hb.mono hB.size)
    clear hb
    clear hta hga hoa
    clear hx hy bx
    have hc := alive12_any v2
    go_wp2_with fail
    refine hc.mono ?_
    rintro e v3 ⟨rfl, hb⟩
    clear hc
    replace hB := hB.trans (hb.mono hB.size)
    clear hb
    go_wp2
    go_ret
    exact ⟨rfl, hB⟩
  · have HB0 := Lib.hid hB0
    have hmm := (mayA_iff.1 hB0).1
    have hM : x.may = true := hmm
    have HM := Lib.hid hM
    obtain ⟨hn1, hn8⟩ : 1 ≤ x.n ∧ x.n ≤ 8 := ⟨(mk_len hx hM).2.2.1, (mk_len hx hM).2.2.2.1⟩
    obtain ⟨e1, e2, e3⟩ := all_here hB0
    have E1 := Lib.hid e1
    have E2 := Lib.hid e2
    have E3 := Lib.hid e3
    clear hB0 hmm hM e1 e2 e3
    have ex0 := bx.c0
    have ex1 := bx.c1
    have ex2 := bx.c2
    have hc := pallDC x y (w.alloc (.cells #[.slice x.r.A x.r.n x.r.c, .slice x.A x.n x.c, .slice x.o.A x.o.n x.o.c] 35)) hx hy
    rw [Vx.out, Vy.out, E1.out, E2.out, E3.out] at hc
    go_wp2_with fail
    clear ex0 ex1 ex2
    generalize w.alloc (.cells #[.slice x.r.A x.r.n x.r.c, .slice x.A x.n x.c, .slice x.o.A x.o.n x.o.c] 35) = W1 at *
    refine hc.mono ?_
    rintro e v2 ⟨A1, n1, c1, A2, m1, d1, ta, rfl, hta, hga, hoa, hb⟩
    clear hc
    replace hx := hx.below hb
    replace hy := hy.below hb
    replace bx := bx.below hb
    replace hB := hB.trans (hb.mono hB.size)
    clear hb
    have HGA := Lib.hid hga
    obtain rfl : n1 = x.n := by
      have h1 := hta.len
      have h2 := congrArg List.length hga
      rw [Ls.all, List.length_map, List.length_map, HBL.out] at h2
      omega
    obtain rfl : m1 = x.n := by
      have h1 := hoa.len
      rw [List.length_map, List.length_map, HBL.out] at h1
      omega
    clear hga
    have gn1 : ((x.n : Int) != (x.n : Int)) = false := by simp
    have gn2 : (x.n != x.n) = false := by simp
    have gn3 : ((x.n : Int) == 0) = false := by rw [beq_eq_false_iff_ne]; omega
    have gn4 : (x.n == 0) = false := by rw [beq_eq_false_iff_ne]; omega
    obtain ⟨k, hk, hkk⟩ : ∃ k : Nat, k < x.n ∧ Int.tmod k0 x.n = (k : Int) := ⟨k0 % x.n, Nat.mod_lt _ (by omega), by rw [Int.tmod_eq_emod_of_nonneg (by omega)]; rfl⟩
    have s1 : IntKind.i64.wrap (k0 : Int) = k0 := by rw [IntKind.wrap_i64]; omega
    have s2 : IntKind.i64.wrap (k : Int) = k := by rw [IntKind.wrap_i64]; omega
    have E4 := Lib.hid (less_ofE HM.out hk)
    have ex0 := bx.c0
    have ex1 := bx.c1
    have ex2 := bx.c2
    have hc := mwithoutC x k v2 hx (by omega) (by omega)
    rw [E4.out, Vx.out] at hc
    go_wp2_with fail
    clear ex0 ex1 ex2
    refine hc.mono ?_
    rintro e v3 ⟨v, rfl, hv0, hq, hb⟩
    clear hc
    replace hx := hx.below hb
    replace hy := hy.below hb
    replace hta := hta.below hb
    replace hoa := hoa.below hb
    replace bx := bx.below hb
    replace hB := hB.trans (hb.mono hB.size)
    clear hb
    have hv := hv0.ok
    obtain ⟨e1, e2, e3⟩ := all_less HB0.out hk hq
    have E5 := Lib.hid e1
    have E6 := Lib.hid e2
    have E7 := Lib.hid e3
    have v_v : v.v = .agg #[.slice v.r.A v.r.n v.r.c, .slice v.A v.n v.c, .slice v.o.A v.o.n v.o.c] := rfl
    have Vv := Lib.hid v_v
    clear v_v hv0 hq e1 e2 e3
    rw [Vv.out]
    have bv := InBox.new v3 v
    have hbx : Below v3.heap.size v3 (v3.alloc (.cells #[.slice v.r.A v.r.n v.r.c, .slice v.A v.n v.c, .slice v.o.A v.o.n v.o.c] 35)) := (Below.refl _ v3).alloc (Nat.le_refl _) _
    replace hx := hx.below hbx
    replace hy := hy.below hbx
    replace hta := hta.below hbx
    replace hoa := hoa.below hbx
    replace hv := hv.below hbx
    replace bx := bx.below hbx
    replace hB := hB.trans (hbx.mono hB.size)
    clear hbx
    have ex0 := bx.c0
    have ex1 := bx.c1
    have ex2 := bx.c2
    have ev0 := bv.c0
    have ev1 := bv.c1
    have ev2 := bv.c2
    have hc := pallDC v y (v3.alloc (.cells #[.slice v.r.A v.r.n v.r.c, .slice v.A v.n v.c, .slice v.o.A v.o.n v.o.c] 35)) hv hy
    rw [Vv.out, Vy.out, E5.out, E6.out, E7.out] at hc
    go_wp2_with fail
    clear ex0 ex1 ex2
    clear ev0 ev1 ev2
    generalize v3.alloc (.cells #[.slice v.r.A v.r.n v.r.c, .slice v.A v.n v.c, .slice v.o.A v.o.n v.o.c] 35) = W4 at *
    refine hc.mono ?_
    rintro e v5 ⟨A3, n3, c3, A4, m3, d3, tb, rfl, htb, hgb, hob, hb⟩
    clear hc
    replace hx := hx.below hb
    replace hy := hy.below hb
    replace hta := hta.below hb
    replace hoa := hoa.below hb
    replace hv := hv.below hb
    replace bx := bx.below hb
    replace bv := bv.below hb
    replace hB := hB.trans (hb.mono hB.size)
    clear hb
    have HGB := Lib.hid hgb
    obtain rfl : n3 = x.n := by
      have h1 := htb.len
      have h2 := congrArg List.length hgb
      rw [Ls.all, List.length_map, List.length_map, List.length_set, HBL.out] at h2
      omega
    obtain rfl : m3 = x.n := by
      have h1 := hob.len
      rw [List.length_map, List.length_map, List.length_set, HBL.out] at h1
      omega
    clear hgb bv hv
    have ex0 := bx.c0
    have ex1 := bx.c1
    have ex2 := bx.c2
    go_wp2_with fail
    clear ex0 ex1 ex2
    go_loopw [16] (fun v wr => ∃ i : Nat, i ≤ x.n ∧ v = .int .i64 i ∧ Below v5.heap.size v5 wr) (fun v _ => x.n - (intOf v).toNat)
    case atStart => exact ⟨0, Nat.zero_le _, rfl, Below.refl _ _⟩
    case round =>
      obtain ⟨i, hi, rfl, hbel⟩ := hrel
      by_cases hin : i < x.n
      · have hin' : (i : Int) < x.n := by omega
        have hi0' : (0 : Int) ≤ i := by omega
        have hiL : i < (Ls.all x.b).length := by rw [HBL.out]; exact hin
        obtain ⟨p1, q1, u, hA1, hu, hub, hp1, hcx, hku⟩ := (hx.below hbel).get hin
        obtain ⟨p2, q2, ua, hA2, hga2, hp2, hca, hka⟩ := gr_get (hta.below hbel).gr HGA.out hin
        obtain ⟨p4, q4, ub, hA4, hgb2, hp4, hcb, hkb⟩ := gr_get (htb.below hbel).gr HGB.out hin
        have hui : (Ls.all x.b)[i] = u.zs := by
          have h0 : (Ls.all x.b)[i]? = some u.zs := by rw [Ls.all, List.getElem?_map, hu]; rfl
          rw [List.getElem?_eq_getElem hiL] at h0
          exact Option.some.inj h0
        have hmem : u.zs ∈ Ls.all x.b := by rw [← hui]; exact List.getElem_mem hiL
        obtain ⟨o1, o2, o3, o4⟩ := de_ok (mayA_each HB0.out u.zs hmem)
        have hza : ua.zs = itemsD u.zs y.zs := by
          rw [← hga2, List.getD_eq_getElem?_getD, List.getElem?_map, List.getElem?_eq_getElem hiL, hui]; rfl
        have hzb : ub.zs = if i = k then [] else itemsD u.zs y.zs := by
          rw [← hgb2, List.getD_eq_getElem?_getD, set_here hiL (fun b => itemsD b y.zs), hui]
          show (if i = k then itemsD [] y.zs else itemsD u.zs y.zs) = _
          rw [items_none]
        obtain ⟨β, hβ⟩ : ∃ β, decide (gainD u.zs y.zs = 0) = β := ⟨_, rfl⟩
        obtain ⟨g3, rfl, hg3, hco⟩ := own_at (hoa.below hbel) (i := i) (v := .bool β) (by rw [List.getElem?_map, List.getElem?_map, List.getElem?_eq_getElem hiL, hui, ← hβ]; rfl) hin
        obtain ⟨g5, rfl, hg5, hct⟩ := own_at (hob.below hbel) (i := i) (v := .bool (if i = k then true else β)) (by
          rw [List.getElem?_map, set_here hiL (fun b => decide (gainD b y.zs = 0)), hui, ← hβ]
          by_cases e : i = k
          · rw [if_pos e, if_pos e, gain_none]; rfl
          · rw [if_neg e, if_neg e]; rfl) hin
        rw [hβ] at o4
        have O := Lib.hid (And.intro o1 (And.intro o2 (And.intro o3 o4)))
        have HZA := Lib.hid hza
        have HZB := Lib.hid hzb
        have hyr := hy.below hbel
        have bxr := bx.below hbel
        obtain ⟨uA, un, uc, uz⟩ := u
        obtain ⟨aA, an, ac, az⟩ := ua
        obtain ⟨bA, bn, bc, bz⟩ := ub
        simp only at HZA HZB O
        replace hcx : wr.cell? ⟨p1, q1 + i, none⟩ = some (.slice uA un uc) := hcx
        replace hca : wr.cell? ⟨p2, q2 + i, none⟩ = some (.slice aA an ac) := hca
        replace hcb : wr.cell? ⟨p4, q4 + i, none⟩ = some (.slice bA bn bc) := hcb
        subst hA2
        subst hA4
        have ex0 := bxr.c0
        have ex1 := bxr.c1
        have ex2 := bxr.c2
        rw [hA1] at ex1
        have HA1 := Lib.hid hA1
        have hpr0 := bxr.lt
        obtain ⟨wo, rfl⟩ : ∃ wo, wo = wr := ⟨_, rfl⟩
        have hc := pofC ⟨uA, un, uc, uz⟩ y wo hku hyr
        rw [O.out.1, O.out.2.2.1, O.out.2.2.2, Vy.out, show Ls.v ⟨uA, un, uc, uz⟩ = .slice uA un uc from rfl] at hc
        clear hu hub hui hmem o1 o2 o3 o4 hza hzb hβ hga2 hgb2 hA1
        go_wp2_with fail
        refine hc.mono ?_
        rintro e w1 ⟨A8, n8, c8, rfl, h8, hb1⟩
        clear hc ex0 ex1 ex2

        have gb : (β != β) = false := by simp
        by_cases hik : i = k
        · have gk1 : ((i : Int) != (k : Int)) = false := by rw [hik]; simp
          have gk2 : ((i : Int) == (k : Int)) = true := by rw [hik]; simp
          have gk3 : (i != k) = false := by rw [hik]; simp
          have gk4 : (i == k) = true := by rw [hik]; simp
          rw [if_pos hik] at hct
          have hz0 : bz = [] := by rw [HZB.out, if_pos hik]
          obtain rfl : bn = 0 := by
            have h1 := hkb.len
            rw [hz0] at h1
            exact h1.symm
          clear hik hz0
          have hS : ∀ w', Below wo.heap.size wo w' → w'.cell? ⟨p2, q2 + i, none⟩ = some (.slice aA an ac) ∧ w'.cell? ⟨g3, i, none⟩ = some (.bool β) ∧ w'.cell? ⟨p4, q4 + i, none⟩ = some (.slice bA 0 bc) ∧ w'.cell? ⟨g5, i, none⟩ = some (.bool true) := fun w' hb => ⟨(hb.cell (p := ⟨p2, q2 + i, none⟩) hp2).trans hca, (hb.cell (p := ⟨g3, i, none⟩) hg3).trans hco, (hb.cell (p := ⟨p4, q4 + i, none⟩) hp4).trans hcb, (hb.cell (p := ⟨g5, i, none⟩) hg5).trans hct⟩
          go_wp2_with fail
          refine wp_region_ord (S := fun w' => w'.cell? ⟨p2, q2 + i, none⟩ = some (.slice aA an ac) ∧ w'.cell? ⟨g3, i, none⟩ = some (.bool β) ∧ w'.cell? ⟨p4, q4 + i, none⟩ = some (.slice bA 0 bc) ∧ w'.cell? ⟨g5, i, none⟩ = some (.bool true)) [(0, true), (1, true), (2, true), (3, true), (4, true), (5, true), (6, true), (7, true), (8, false), (9, true), (10, true), (11, true), (12, true), (13, true), (14, true), (15, true), (16, true), (17, true), (18, true), (19, true), (20, true), (21, true), (22, true), (23, true), (24, true), (25, true), (26, true), (27, true), (28, true), (29, true), (30, true), (31, true), (32, false), (33, true), (34, true), (35, true), (36, true), (37, true), (38, true), (39, true), (40, true), (41, true), (42, true), (43, true), (44, true), (45, true), (46, true), (47, true), (48, true), (49, true), (50, true), (51, true), (52, true), (53, true), (54, true), (55, true), (56, true), (57, true), (58, true), (59, true), (60, true), (61, true), (62, true), (63, true), (64, true), (65, true), (66, true)] default (by kernel_rfl) (by kernel_rfl) (by kernel_rfl) (hS _ (hb1.drew)) ?_
          simp only [List.append_eq, List.cons_append, List.nil_append, getOrd, nth]
          obtain ⟨q1_0, hu0⟩ : ∃ q1_0, q1_0 = w1.drew := ⟨_, rfl⟩
          have b0 : Below wo.heap.size wo q1_0 := by rw [hu0]; exact (hb1.drew)
          rw [← hu0]
          replace h8 : OwnI w1.drew wo.heap.size ⟨A8, n8, c8, itemsE uz y.zs⟩ := ⟨h8.own.drew, h8.fit⟩
          rw [← hu0] at h8
          clear hu0
          repeat (first | (refine ordS (by rfl) ?_; simp only [Act.put, List.setIfInBounds_toArray, List.set_cons_zero, List.set_cons_succ]) | (refine ordN (by rfl) ?_; simp only [Act.put, List.setIfInBounds_toArray, List.set_cons_zero, List.set_cons_succ]) | (refine ordQ (v := ?_) (by rfl) (fun _ hSw => ?_) ?_; rotate_left; (focus ((have hS1 := hSw.1); (have hS2 := hSw.2.1); (have hS3 := hSw.2.2.1); (have hS4 := hSw.2.2.2); clear hSw; go_simp; (first | done | with_reducible rfl))); simp only [Act.put, List.setIfInBounds_toArray, List.set_cons_zero, List.set_cons_succ]))
          refine ordD (by rfl) ?_
          intro K hK
          go_simp
          have hc := sameints_b ⟨A8, n8, c8, itemsE uz y.zs⟩ ⟨aA, an, ac, az⟩ q1_0 h8.ok (hka.below b0)
          rw [show (itemsE uz y.zs == az) = true by rw [O.out.2.1, HZA.out]; simp] at hc
          refine hc.mono ?_
          rintro e q1_1 ⟨rfl, hb⟩
          have b1 : Below wo.heap.size wo q1_1 := b0.trans (hb.mono b0.size)
          go_wp2_with fail
          refine hK _ _ (hS _ b1) ?_
          clear hK K hc hb
          try simp only [Act.put, List.setIfInBounds_toArray, List.set_cons_zero, List.set_cons_succ]
          repeat (first | (refine ordS (by rfl) ?_; simp only [Act.put, List.setIfInBounds_toArray, List.set_cons_zero, List.set_cons_succ]) | (refine ordN (by rfl) ?_; simp only [Act.put, List.setIfInBounds_toArray, List.set_cons_zero, List.set_cons_succ]) | (refine ordQ (v := ?_) (by rfl) (fun _ hSw => ?_) ?_; rotate_left; (focus ((have hS1 := hSw.1); (have hS2 := hSw.2.1); (have hS3 := hSw.2.2.1); (have hS4 := hSw.2.2.2); clear hSw; go_simp; (first | done | with_reducible rfl))); simp only [Act.put, List.setIfInBounds_toArray, List.set_cons_zero, List.set_cons_succ]))
          refine ordE ?_
          replace hb1 := b1
          clear hS b0 b1
          have hbe := hbel.trans (hb1.mono hbel.size)
          clear h8 hb1
          go_wp2
          go_roundw
          case rel => exact ⟨i + 1, by omega, by go_num, hbe⟩
          case measure => simp [intOf]; omega
        · have gk1 : ((i : Int) != (k : Int)) = true := by rw [bne_iff_ne]; omega
          have gk2 : ((i : Int) == (k : Int)) = false := by rw [beq_eq_false_iff_ne]; omega
          have gk3 : (i != k) = true := by rw [bne_iff_ne]; exact hik
          have gk4 : (i == k) = false := by rw [beq_eq_false_iff_ne]; exact hik
          rw [if_neg hik] at hct
          have HZB2 : Hid (bz = itemsD uz y.zs) := Lib.hid (by rw [HZB.out, if_neg hik])
          clear hik
          have hS : ∀ w', Below wo.heap.size wo w' → w'.cell? ⟨p2, q2 + i, none⟩ = some (.slice aA an ac) ∧ w'.cell? ⟨g3, i, none⟩ = some (.bool β) ∧ w'.cell? ⟨p4, q4 + i, none⟩ = some (.slice bA bn bc) ∧ w'.cell? ⟨g5, i, none⟩ = some (.bool β) := fun w' hb => ⟨(hb.cell (p := ⟨p2, q2 + i, none⟩) hp2).trans hca, (hb.cell (p := ⟨g3, i, none⟩) hg3).trans hco, (hb.cell (p := ⟨p4, q4 + i, none⟩) hp4).trans hcb, (hb.cell (p := ⟨g5, i, none⟩) hg5).trans hct⟩
          go_wp2_with fail
          refine wp_region_ord (S := fun w' => w'.cell? ⟨p2, q2 + i, none⟩ = some (.slice aA an ac) ∧ w'.cell? ⟨g3, i, none⟩ = some (.bool β) ∧ w'.cell? ⟨p4, q4 + i, none⟩ = some (.slice bA bn bc) ∧ w'.cell? ⟨g5, i, none⟩ = some (.bool β)) [(0, true), (1, true), (2, true), (3, true), (4, true), (5, true), (6, true), (7, true), (8, false), (9, true), (10, true), (11, true), (12, true), (13, true), (14, true), (15, true), (16, true), (17, true), (18, true), (19, true), (20, true), (21, true), (22, true), (23, true), (24, true), (25, true), (26, true), (27, true), (28, true), (29, true), (30, true), (31, true), (32, false), (33, true), (34, true), (35, true), (36, true), (37, true), (38, true), (39, true), (40, true), (41, true), (42, true), (43, true), (44, true), (45, true), (46, true), (47, true), (48, true), (49, true), (50, true), (51, true), (52, true), (53, true), (54, true), (55, true), (56, true), (57, true), (58, true), (59, true), (60, true), (61, true), (62, true), (63, true), (64, true), (65, true), (66, true)] default (by kernel_rfl) (by kernel_rfl) (by kernel_rfl) (hS _ (hb1.drew)) ?_
          simp only [List.append_eq, List.cons_append, List.nil_append, getOrd, nth]
          obtain ⟨q2_0, hu0⟩ : ∃ q2_0, q2_0 = w1.drew := ⟨_, rfl⟩
          have b0 : Below wo.heap.size wo q2_0 := by rw [hu0]; exact (hb1.drew)
          rw [← hu0]
          replace h8 : OwnI w1.drew wo.heap.size ⟨A8, n8, c8, itemsE uz y.zs⟩ := ⟨h8.own.drew, h8.fit⟩
          rw [← hu0] at h8
          clear hu0
          repeat (first | (refine ordS (by rfl) ?_; simp only [Act.put, List.setIfInBounds_toArray, List.set_cons_zero, List.set_cons_succ]) | (refine ordN (by rfl) ?_; simp only [Act.put, List.setIfInBounds_toArray, List.set_cons_zero, List.set_cons_succ]) | (refine ordQ (v := ?_) (by rfl) (fun _ hSw => ?_) ?_; rotate_left; (focus ((have hS1 := hSw.1); (have hS2 := hSw.2.1); (have hS3 := hSw.2.2.1); (have hS4 := hSw.2.2.2); clear hSw; go_simp; (first | done | with_reducible rfl))); simp only [Act.put, List.setIfInBounds_toArray, List.set_cons_zero, List.set_cons_succ]))
          refine ordD (by rfl) ?_
          intro K hK
          go_simp
          have hc := sameints_b ⟨A8, n8, c8, itemsE uz y.zs⟩ ⟨aA, an, ac, az⟩ q2_0 h8.ok (hka.below b0)
          rw [show (itemsE uz y.zs == az) = true by rw [O.out.2.1, HZA.out]; simp] at hc
          refine hc.mono ?_
          rintro e q2_1 ⟨rfl, hb⟩
          have b1 : Below wo.heap.size wo q2_1 := b0.trans (hb.mono b0.size)
          go_wp2_with fail
          refine hK _ _ (hS _ b1) ?_
          clear hK K hc hb
          try simp only [Act.put, List.setIfInBounds_toArray, List.set_cons_zero, List.set_cons_succ]
          repeat (first | (refine ordS (by rfl) ?_; simp only [Act.put, List.setIfInBounds_toArray, List.set_cons_zero, List.set_cons_succ]) | (refine ordN (by rfl) ?_; simp only [Act.put, List.setIfInBounds_toArray, List.set_cons_zero, List.set_cons_succ]) | (refine ordQ (v := ?_) (by rfl) (fun _ hSw => ?_) ?_; rotate_left; (focus ((have hS1 := hSw.1); (have hS2 := hSw.2.1); (have hS3 := hSw.2.2.1); (have hS4 := hSw.2.2.2); clear hSw; go_simp; (first | done | with_reducible rfl))); simp only [Act.put, List.setIfInBounds_toArray, List.set_cons_zero, List.set_cons_succ]))
          refine ordD (by rfl) ?_
          intro K hK
          go_simp
          have hc := sameints_b ⟨bA, bn, bc, bz⟩ ⟨aA, an, ac, az⟩ q2_1 (hkb.below b1) (hka.below b1)
          rw [show (bz == az) = true by rw [HZB2.out, HZA.out]; simp] at hc
          refine hc.mono ?_
          rintro e q2_2 ⟨rfl, hb⟩
          have b2 : Below wo.heap.size wo q2_2 := b1.trans (hb.mono b1.size)
          go_wp2_with fail
          refine hK _ _ (hS _ b2) ?_
          clear hK K hc hb
          try simp only [Act.put, List.setIfInBounds_toArray, List.set_cons_zero, List.set_cons_succ]
          repeat (first | (refine ordS (by rfl) ?_; simp only [Act.put, List.setIfInBounds_toArray, List.set_cons_zero, List.set_cons_succ]) | (refine ordN (by rfl) ?_; simp only [Act.put, List.setIfInBounds_toArray, List.set_cons_zero, List.set_cons_succ]) | (refine ordQ (v := ?_) (by rfl) (fun _ hSw => ?_) ?_; rotate_left; (focus ((have hS1 := hSw.1); (have hS2 := hSw.2.1); (have hS3 := hSw.2.2.1); (have hS4 := hSw.2.2.2); clear hSw; go_simp; (first | done | with_reducible rfl))); simp only [Act.put, List.setIfInBounds_toArray, List.set_cons_zero, List.set_cons_succ]))
          refine ordE ?_
          replace hb1 := b2
          clear hS b0 b1 b2
          have hbe := hbel.trans (hb1.mono hbel.size)
          clear h8 hb1
          go_wp2
          go_roundw
          case rel => exact ⟨i + 1, by omega, by go_num, hbe⟩
          case measure => simp [intOf]; omega
      · obtain rfl : i = x.n := by omega
        have hc := alive12_any wr
        go_wp2_with fail
        refine hc.mono ?_
        rintro e w1 ⟨rfl, hb⟩
        have hB9 := (hB.trans (hbel.mono hB.size)).trans (hb.mono (Nat.le_trans hB.size hbel.size))
        go_wp2
        go_ret
        exact ⟨rfl, hB9⟩

theorem own : ownKnob Try.prog.godebug = none := by kernel_rfl
theorem laidOut : laidOutB Try.prog = true := by kernel_rfl

set_option maxRecDepth 100000 in
theorem lifted (os : Os) (started : os.Started) (H : Type) (enc : TypeId × Value → H) :
    ReturnsInHanded {} Try.checked os 6 .any (Rows.demandsEachSpec.pre6 enc Try.prog Try.f6 Rows.demandsEachRow.domain false) (Rows.demandsEachSpec.post enc Try.prog Try.f6 false true false false) := by
  refine returnsInHanded_of_change (C := Try.checked) own started (by kernel_rfl) Try.func6
    (ChangeSpec.witness6 (enc := enc) (C := Try.checked) false ⟨#[], #[.agg #[.slice none 0 0, .slice none 0 0, .slice none 0 0], .slice none 0 0, .int .u8 0], []⟩ 8 (by kernel_rfl) (by kernel_rfl) (by kernel_rfl) (by kernel_rfl)) ?_
  intro W base args ds gs before hval0 hW hcnd _
  have hval : ∀ (j : Nat) t v, Try.f6.params[j]? = some t → args[j]? = some v → Value.okWide Try.prog W .any base t v := hval0
  have hW' := hW
  obtain ⟨p, q, hA0, hV, rfl, hfz, hnd⟩ := hW
  have hA : DataW.TrodAll enc Try.prog W 0 (fun _ => true) true Try.f6.params.toList args.toList ds p := hA0
  rw [Try.params6] at hA hval
  obtain ⟨v0, vs0, d0, ds0, p0, q0, hargs, rfl, rfl, h0, r0⟩ := trodAll_cons hA
  obtain ⟨v1, vs1, d1, ds1, p1, q1, rfl, rfl, rfl, h1, r1⟩ := trodAll_cons r0
  obtain ⟨v2, vs2, d2, ds2, p2, q2, rfl, rfl, rfl, h2, r2⟩ := trodAll_cons r1
  obtain ⟨rfl, rfl, rfl⟩ := trodAll_nil r2
  obtain rfl : args = #[v0, v1, v2] := by cases args; simp_all
  obtain ⟨u0, rfl, k0⟩ := arg_mk Try.underlying35 (by kernel_rfl) (by kernel_rfl) Try.underlying22 Try.underlying33 Try.underlying22 Try.underlying22 (by kernel_rfl) Try.underlying3 (by kernel_rfl) (hval 0 35 v0 rfl rfl) h0
  obtain ⟨A1, n1, c1, l1, rfl, a1, b1, e1, g1⟩ := arg_i64s Try.underlying22 Try.underlying3 (by kernel_rfl) (hval 1 22 v1 rfl rfl) h1
  obtain ⟨x2, rfl, rfl, rfl, w2⟩ := open_int Try.underlying5 (hval 2 5 v2 rfl rfl) h2
  obtain ⟨y2, rfl, z2⟩ := fit_u8 w2
  have hwalk : Calls Try.prog 6 #[u0.v, .slice A1 n1 c1, .int .u8 y2] W fun e w' => e = .returned (.bool true) ∧ Below W.heap.size W w' := walk u0 ⟨A1, n1, c1, l1⟩ y2 W k0 ⟨a1, b1, e1, g1⟩ z2
  refine hwalk.mono fun e W' ⟨he, hg⟩ => ?_
  subst he
  exact ⟨_, rfl, law_post laidOut (by kernel_rfl) hW' rfl rfl (by kernel_rfl) Try.underlying4 hg⟩

theorem over : Rows.demandsEachRow.holds Try.pinned (OpenSpec.ofChange Rows.demandsEachSpec) :=
  OpenClaim.holds_of_wide 6 Try.f6 rfl rfl rfl rfl rfl rfl rfl ⟨rfl, rfl, rfl, rfl, rfl⟩ rfl rfl rfl rfl rfl (by kernel_rfl) Try.func6 (by kernel_rfl)
    (of_decide_eq_true (by kernel_rfl)) (by unfold Func.isWrapper; first | (rw [if_pos (by decide +kernel)]; kernel_rfl) | (rw [if_neg (by decide +kernel)]; exact ⟨rfl, rfl⟩))
    (fun os started H enc _ => lifted os started H enc)

theorem proved : Rows.DemandsEachSaid :=
  over

end Go.Proofs.Ytjjaajmjcdihoaa.demandsEach
