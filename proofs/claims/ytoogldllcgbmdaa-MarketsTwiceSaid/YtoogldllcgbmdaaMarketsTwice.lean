/-
  Proved: salesroomlaw05.MarketsTwice answers true, for any market and any two bidders, in whatever memory. No conditions.
-/
import Derived.Test.YtoogldllcgbmdaaRows
import Derived.Test.YtoogldllcgbmdaaLift
import Derived.Test.YtoogldllcgbmdaaAlive5
namespace Go.Proofs.Ytoogldllcgbmdaa.marketsTwice
open Go.ChangeShapes Go.WideShapes Go.ChangeAt Go.RowKit
set_option linter.unusedVariables false

theorem may_has {x : Mk} (hm : x.may = true) {i : Nat} (hi : i < x.n) : x.has (i : Int) = true := by rw [Mk.has, hm]; simp; omega
theorem less_of {x : Mk} (hm : x.may = true) {i : Nat} (hi : i < x.n) : x.less (i : Int) = (x.r.zs, less (Ls.all x.b) i, x.o.zs) ∧ x.lessErr (i : Int) = 0 := by
  have h := may_has hm hi
  refine ⟨by rw [Mk.less, if_pos h, Int.toNat_natCast], by rw [Mk.lessErr, if_pos h]⟩
/-- What is without one may be, has as many bidders, and these parts. -/
theorem less_fact {x y : Mk} {w w' : World} (hm : x.may = true) (hx : x.Ok w) (hy : y.Ok w') {i : Nat} (hi : i < x.n) (hp : y.parts = x.less (i : Int)) : y.may = true ∧ y.n = x.n ∧ y.r.zs = x.r.zs ∧ Ls.all y.b = less (Ls.all x.b) i ∧ y.o.zs = x.o.zs := by
  rw [(less_of hm hi).1] at hp
  simp only [Mk.parts, Prod.mk.injEq] at hp
  refine ⟨by rw [Mk.may, hp.1, hp.2.1, hp.2.2]; exact mayM_less hm i, ?_, hp⟩
  have h1 := congrArg List.length hp.2.1
  rw [less_len, Ls.all, Ls.all, List.length_map, List.length_map, hy.len, hx.len] at h1
  exact h1

set_option maxRecDepth 100000 in
set_option maxHeartbeats 2000000 in
theorem walk (x : Mk) (a b : Int) (w : World) (h : x.Ok w) (ha : 0 ≤ a ∧ a ≤ 255) (hb0 : 0 ≤ b ∧ b ≤ 255) :
    Calls Try.prog 8 #[x.v, .int .u8 a, .int .u8 b] w fun e w' => e = .returned (.bool true) ∧ Below w.heap.size w w' := by
  by_cases hm : x.may = true
  · obtain ⟨l1, l2, l3, l4, l5, l6, l7, l8⟩ := mk_len h hm
    have HM := Lib.hid hm
    obtain ⟨i, hi, hai⟩ : ∃ i : Nat, i < x.n ∧ Int.tmod a x.n = (i : Int) := ⟨(a % x.n).toNat, by have := Int.emod_lt_of_pos a (show (0 : Int) < x.n by omega); have := Int.emod_nonneg a (show (x.n : Int) ≠ 0 by omega); omega, by rw [Int.tmod_eq_emod_of_nonneg ha.1]; have := Int.emod_nonneg a (show (x.n : Int) ≠ 0 by omega); omega⟩
    obtain ⟨k, hk, hbk⟩ : ∃ k : Nat, k < x.n ∧ Int.tmod b x.n = (k : Int) := ⟨(b % x.n).toNat, by have := Int.emod_lt_of_pos b (show (0 : Int) < x.n by omega); have := Int.emod_nonneg b (show (x.n : Int) ≠ 0 by omega); omega, by rw [Int.tmod_eq_emod_of_nonneg hb0.1]; have := Int.emod_nonneg b (show (x.n : Int) ≠ 0 by omega); omega⟩
    have E1 := Lib.hid (less_of hm hi).2
    have E2 := Lib.hid (less_of hm hk).2
    have hn0 : ((x.n : Int) == 0) = false := by rw [beq_eq_false_iff_ne]; omega
    clear l1 l2 l5 l6 l7 l8 hm
    have hx := h
    have hB := Below.refl w.heap.size w
    have hxv : x.v = .agg #[.slice x.r.A x.r.n x.r.c, .slice x.A x.n x.c, .slice x.o.A x.o.n x.o.c] := rfl
    have Vx := Lib.hid hxv
    rw [hxv]
    clear hxv
    go_enter Try.func8, Try.ntmps8
    have bx := InBox.new w x
    have hbx : Below w.heap.size w (w.alloc (.cells #[.slice x.r.A x.r.n x.r.c, .slice x.A x.n x.c, .slice x.o.A x.o.n x.o.c] 25)) := (Below.refl _ w).alloc (Nat.le_refl _) _
    replace hx := hx.below hbx
    replace hB := hB.trans (hbx.mono hB.size)
    clear hbx
    have ex0 := bx.c0
    have ex1 := bx.c1
    have ex2 := bx.c2
    have hc := mcheckC x (w.alloc (.cells #[.slice x.r.A x.r.n x.r.c, .slice x.A x.n x.c, .slice x.o.A x.o.n x.o.c] 25)) hx
    rw [HM.out, Vx.out] at hc
    go_wp2_with fail
    clear ex0 ex1 ex2
    generalize w.alloc (.cells #[.slice x.r.A x.r.n x.r.c, .slice x.A x.n x.c, .slice x.o.A x.o.n x.o.c] 25) = W1 at *
    refine hc.mono ?_
    rintro e v2 ⟨rfl, hb⟩
    clear hc
    replace hx := hx.below hb
    replace bx := bx.below hb
    replace hB := hB.trans (hb.mono hB.size)
    clear hb
    have ex0 := bx.c0
    have ex1 := bx.c1
    have ex2 := bx.c2
    have hc := mwithoutC x i v2 hx (by omega) (by omega)
    rw [E1.out, Vx.out] at hc
    go_wp2_with fail
    clear ex0 ex1 ex2
    refine hc.mono ?_
    rintro e v3 ⟨y1, rfl, hy1, hq1, hb⟩
    clear hc
    replace hx := hx.below hb
    replace bx := bx.below hb
    replace hB := hB.trans (hb.mono hB.size)
    clear hb
    obtain ⟨m1, n1, r1, b1', o1⟩ := less_fact HM.out hx hy1.ok hi hq1
    have M1 := Lib.hid m1
    have N1 := Lib.hid n1
    have P1 := Lib.hid (And.intro r1 (And.intro b1' o1))
    clear m1 n1 r1 b1' o1 hq1
    have v_y1 : y1.v = .agg #[.slice y1.r.A y1.r.n y1.r.c, .slice y1.A y1.n y1.c, .slice y1.o.A y1.o.n y1.o.c] := rfl
    have Vy1 := Lib.hid v_y1
    clear v_y1
    rw [Vy1.out]
    have b1 := InBox.new v3 y1
    have hbx : Below v3.heap.size v3 (v3.alloc (.cells #[.slice y1.r.A y1.r.n y1.r.c, .slice y1.A y1.n y1.c, .slice y1.o.A y1.o.n y1.o.c] 25)) := (Below.refl _ v3).alloc (Nat.le_refl _) _
    replace hx := hx.below hbx
    replace hy1 := hy1.below hbx
    replace bx := bx.below hbx
    replace hB := hB.trans (hbx.mono hB.size)
    clear hbx
    have ex0 := bx.c0
    have ex1 := bx.c1
    have ex2 := bx.c2
    have ea0 := b1.c0
    have ea1 := b1.c1
    have ea2 := b1.c2
    have hc := mwithoutC x k (v3.alloc (.cells #[.slice y1.r.A y1.r.n y1.r.c, .slice y1.A y1.n y1.c, .slice y1.o.A y1.o.n y1.o.c] 25)) hx (by omega) (by omega)
    rw [E2.out, Vx.out] at hc
    go_wp2_with fail
    clear ex0 ex1 ex2
    clear ea0 ea1 ea2
    generalize v3.alloc (.cells #[.slice y1.r.A y1.r.n y1.r.c, .slice y1.A y1.n y1.c, .slice y1.o.A y1.o.n y1.o.c] 25) = W4 at *
    refine hc.mono ?_
    rintro e v5 ⟨y2, rfl, hy2, hq2, hb⟩
    clear hc
    replace hx := hx.below hb
    replace hy1 := hy1.below hb
    replace bx := bx.below hb
    replace b1 := b1.below hb
    replace hB := hB.trans (hb.mono hB.size)
    clear hb
    obtain ⟨m2, n2, r2, b2', o2⟩ := less_fact HM.out hx hy2.ok hk hq2
    have M2 := Lib.hid m2
    have N2 := Lib.hid n2
    have P2 := Lib.hid (And.intro r2 (And.intro b2' o2))
    clear m2 n2 r2 b2' o2 hq2
    have v_y2 : y2.v = .agg #[.slice y2.r.A y2.r.n y2.r.c, .slice y2.A y2.n y2.c, .slice y2.o.A y2.o.n y2.o.c] := rfl
    have Vy2 := Lib.hid v_y2
    clear v_y2
    rw [Vy2.out]
    have b2 := InBox.new v5 y2
    have hbx : Below v5.heap.size v5 (v5.alloc (.cells #[.slice y2.r.A y2.r.n y2.r.c, .slice y2.A y2.n y2.c, .slice y2.o.A y2.o.n y2.o.c] 25)) := (Below.refl _ v5).alloc (Nat.le_refl _) _
    replace hx := hx.below hbx
    replace hy1 := hy1.below hbx
    replace hy2 := hy2.below hbx
    replace bx := bx.below hbx
    replace b1 := b1.below hbx
    replace hB := hB.trans (hbx.mono hB.size)
    clear hbx
    have hia : k < y1.n := by rw [N1.out]; exact hk
    have ea_y3 := Lib.hid (less_of M1.out hia).2
    have ex0 := bx.c0
    have ex1 := bx.c1
    have ex2 := bx.c2
    have ea0 := b1.c0
    have ea1 := b1.c1
    have ea2 := b1.c2
    have eb0 := b2.c0
    have eb1 := b2.c1
    have eb2 := b2.c2
    have hc := mwithoutC y1 k (v5.alloc (.cells #[.slice y2.r.A y2.r.n y2.r.c, .slice y2.A y2.n y2.c, .slice y2.o.A y2.o.n y2.o.c] 25)) hy1.ok (by omega) (by omega)
    rw [ea_y3.out, Vy1.out] at hc
    go_wp2_with fail
    clear ex0 ex1 ex2
    clear ea0 ea1 ea2
    clear eb0 eb1 eb2
    generalize v5.alloc (.cells #[.slice y2.r.A y2.r.n y2.r.c, .slice y2.A y2.n y2.c, .slice y2.o.A y2.o.n y2.o.c] 25) = W6 at *
    refine hc.mono ?_
    rintro e v7 ⟨y3, rfl, hy3, hq, hb⟩
    clear hc
    replace hx := hx.below hb
    replace hy1 := hy1.below hb
    replace hy2 := hy2.below hb
    replace bx := bx.below hb
    replace b1 := b1.below hb
    replace b2 := b2.below hb
    replace hB := hB.trans (hb.mono hB.size)
    clear hb
    obtain ⟨m3, n3, r3, b3', o3⟩ := less_fact M1.out hy1.ok hy3.ok hia hq
    have P3 := Lib.hid (And.intro r3 (And.intro b3' o3))
    clear m3 n3 r3 b3' o3 hq hia
    have v_y3 : y3.v = .agg #[.slice y3.r.A y3.r.n y3.r.c, .slice y3.A y3.n y3.c, .slice y3.o.A y3.o.n y3.o.c] := rfl
    have Vy3 := Lib.hid v_y3
    clear v_y3
    rw [Vy3.out]
    have b3 := InBox.new v7 y3
    have hbx : Below v7.heap.size v7 (v7.alloc (.cells #[.slice y3.r.A y3.r.n y3.r.c, .slice y3.A y3.n y3.c, .slice y3.o.A y3.o.n y3.o.c] 25)) := (Below.refl _ v7).alloc (Nat.le_refl _) _
    replace hx := hx.below hbx
    replace hy1 := hy1.below hbx
    replace hy2 := hy2.below hbx
    replace hy3 := hy3.below hbx
    replace bx := bx.below hbx
    replace b1 := b1.below hbx
    replace b2 := b2.below hbx
    replace hB := hB.trans (hbx.mono hB.size)
    clear hbx
    have hia : i < y2.n := by rw [N2.out]; exact hi
    have ea_y4 := Lib.hid (less_of M2.out hia).2
    have ex0 := bx.c0
    have ex1 := bx.c1
    have ex2 := bx.c2
    have ea0 := b1.c0
    have ea1 := b1.c1
    have ea2 := b1.c2
    have eb0 := b2.c0
    have eb1 := b2.c1
    have eb2 := b2.c2
    have ec0 := b3.c0
    have ec1 := b3.c1
    have ec2 := b3.c2
    have hc := mwithoutC y2 i (v7.alloc (.cells #[.slice y3.r.A y3.r.n y3.r.c, .slice y3.A y3.n y3.c, .slice y3.o.A y3.o.n y3.o.c] 25)) hy2.ok (by omega) (by omega)
    rw [ea_y4.out, Vy2.out] at hc
    go_wp2_with fail
    clear ex0 ex1 ex2
    clear ea0 ea1 ea2
    clear eb0 eb1 eb2
    clear ec0 ec1 ec2
    generalize v7.alloc (.cells #[.slice y3.r.A y3.r.n y3.r.c, .slice y3.A y3.n y3.c, .slice y3.o.A y3.o.n y3.o.c] 25) = W8 at *
    refine hc.mono ?_
    rintro e v9 ⟨y4, rfl, hy4, hq, hb⟩
    clear hc
    replace hx := hx.below hb
    replace hy1 := hy1.below hb
    replace hy2 := hy2.below hb
    replace hy3 := hy3.below hb
    replace bx := bx.below hb
    replace b1 := b1.below hb
    replace b2 := b2.below hb
    replace b3 := b3.below hb
    replace hB := hB.trans (hb.mono hB.size)
    clear hb
    obtain ⟨m4, n4, r4, b4', o4⟩ := less_fact M2.out hy2.ok hy4.ok hia hq
    have P4 := Lib.hid (And.intro r4 (And.intro b4' o4))
    clear m4 n4 r4 b4' o4 hq hia
    have v_y4 : y4.v = .agg #[.slice y4.r.A y4.r.n y4.r.c, .slice y4.A y4.n y4.c, .slice y4.o.A y4.o.n y4.o.c] := rfl
    have Vy4 := Lib.hid v_y4
    clear v_y4
    rw [Vy4.out]
    have b4 := InBox.new v9 y4
    have hbx : Below v9.heap.size v9 (v9.alloc (.cells #[.slice y4.r.A y4.r.n y4.r.c, .slice y4.A y4.n y4.c, .slice y4.o.A y4.o.n y4.o.c] 25)) := (Below.refl _ v9).alloc (Nat.le_refl _) _
    replace hx := hx.below hbx
    replace hy1 := hy1.below hbx
    replace hy2 := hy2.below hbx
    replace hy3 := hy3.below hbx
    replace hy4 := hy4.below hbx
    replace bx := bx.below hbx
    replace b1 := b1.below hbx
    replace b2 := b2.below hbx
    replace b3 := b3.below hbx
    replace hB := hB.trans (hbx.mono hB.size)
    clear hbx
    have hia : i < y1.n := by rw [N1.out]; exact hi
    have ea_y5 := Lib.hid (less_of M1.out hia).2
    have ex0 := bx.c0
    have ex1 := bx.c1
    have ex2 := bx.c2
    have ea0 := b1.c0
    have ea1 := b1.c1
    have ea2 := b1.c2
    have eb0 := b2.c0
    have eb1 := b2.c1
    have eb2 := b2.c2
    have ec0 := b3.c0
    have ec1 := b3.c1
    have ec2 := b3.c2
    have ed0 := b4.c0
    have ed1 := b4.c1
    have ed2 := b4.c2
    have hc := mwithoutC y1 i (v9.alloc (.cells #[.slice y4.r.A y4.r.n y4.r.c, .slice y4.A y4.n y4.c, .slice y4.o.A y4.o.n y4.o.c] 25)) hy1.ok (by omega) (by omega)
    rw [ea_y5.out, Vy1.out] at hc
    go_wp2_with fail
    clear ex0 ex1 ex2
    clear ea0 ea1 ea2
    clear eb0 eb1 eb2
    clear ec0 ec1 ec2
    clear ed0 ed1 ed2
    generalize v9.alloc (.cells #[.slice y4.r.A y4.r.n y4.r.c, .slice y4.A y4.n y4.c, .slice y4.o.A y4.o.n y4.o.c] 25) = W10 at *
    refine hc.mono ?_
    rintro e v11 ⟨y5, rfl, hy5, hq, hb⟩
    clear hc
    replace hx := hx.below hb
    replace hy1 := hy1.below hb
    replace hy2 := hy2.below hb
    replace hy3 := hy3.below hb
    replace hy4 := hy4.below hb
    replace bx := bx.below hb
    replace b1 := b1.below hb
    replace b2 := b2.below hb
    replace b3 := b3.below hb
    replace b4 := b4.below hb
    replace hB := hB.trans (hb.mono hB.size)
    clear hb
    obtain ⟨m5, n5, r5, b5', o5⟩ := less_fact M1.out hy1.ok hy5.ok hia hq
    have P5 := Lib.hid (And.intro r5 (And.intro b5' o5))
    clear m5 n5 r5 b5' o5 hq hia
    have v_y5 : y5.v = .agg #[.slice y5.r.A y5.r.n y5.r.c, .slice y5.A y5.n y5.c, .slice y5.o.A y5.o.n y5.o.c] := rfl
    have Vy5 := Lib.hid v_y5
    clear v_y5
    rw [Vy5.out]
    have b5 := InBox.new v11 y5
    have hbx : Below v11.heap.size v11 (v11.alloc (.cells #[.slice y5.r.A y5.r.n y5.r.c, .slice y5.A y5.n y5.c, .slice y5.o.A y5.o.n y5.o.c] 25)) := (Below.refl _ v11).alloc (Nat.le_refl _) _
    replace hx := hx.below hbx
    replace hy1 := hy1.below hbx
    replace hy2 := hy2.below hbx
    replace hy3 := hy3.below hbx
    replace hy4 := hy4.below hbx
    replace hy5 := hy5.below hbx
    replace bx := bx.below hbx
    replace b1 := b1.below hbx
    replace b2 := b2.below hbx
    replace b3 := b3.below hbx
    replace b4 := b4.below hbx
    replace hB := hB.trans (hbx.mono hB.size)
    clear hbx
    have ex0 := bx.c0
    have ex1 := bx.c1
    have ex2 := bx.c2
    have ea0 := b1.c0
    have ea1 := b1.c1
    have ea2 := b1.c2
    have eb0 := b2.c0
    have eb1 := b2.c1
    have eb2 := b2.c2
    have ec0 := b3.c0
    have ec1 := b3.c1
    have ec2 := b3.c2
    have ed0 := b4.c0
    have ed1 := b4.c1
    have ed2 := b4.c2
    have ee0 := b5.c0
    have ee1 := b5.c1
    have ee2 := b5.c2
    have hc := alive5_any (v11.alloc (.cells #[.slice y5.r.A y5.r.n y5.r.c, .slice y5.A y5.n y5.c, .slice y5.o.A y5.o.n y5.o.c] 25))
    go_wp2_with fail
    clear ex0 ex1 ex2
    clear ea0 ea1 ea2
    clear eb0 eb1 eb2
    clear ec0 ec1 ec2
    clear ed0 ed1 ed2
    clear ee0 ee1 ee2
    generalize v11.alloc (.cells #[.slice y5.r.A y5.r.n y5.r.c, .slice y5.A y5.n y5.c, .slice y5.o.A y5.o.n y5.o.c] 25) = W12 at *
    refine hc.mono ?_
    rintro e v13 ⟨rfl, hb⟩
    clear hc
    replace hx := hx.below hb
    replace hy1 := hy1.below hb
    replace hy2 := hy2.below hb
    replace hy3 := hy3.below hb
    replace hy4 := hy4.below hb
    replace hy5 := hy5.below hb
    replace bx := bx.below hb
    replace b1 := b1.below hb
    replace b2 := b2.below hb
    replace b3 := b3.below hb
    replace b4 := b4.below hb
    replace b5 := b5.below hb
    replace hB := hB.trans (hb.mono hB.size)
    clear hb
    have ex0 := bx.c0
    have ex1 := bx.c1
    have ex2 := bx.c2
    have ea0 := b1.c0
    have ea1 := b1.c1
    have ea2 := b1.c2
    have eb0 := b2.c0
    have eb1 := b2.c1
    have eb2 := b2.c2
    have ec0 := b3.c0
    have ec1 := b3.c1
    have ec2 := b3.c2
    have ed0 := b4.c0
    have ed1 := b4.c1
    have ed2 := b4.c2
    have ee0 := b5.c0
    have ee1 := b5.c1
    have ee2 := b5.c2
    have hc := samemarket y3 y4 v13 hy3.ok hy4.ok
    rw [show (y3.r.zs == y4.r.zs && (Ls.all y3.b == Ls.all y4.b && y3.o.zs == y4.o.zs)) = true by rw [P3.out.1, P4.out.1, P3.out.2.1, P4.out.2.1, P3.out.2.2, P4.out.2.2, P1.out.1, P2.out.1, P1.out.2.1, P2.out.2.1, P1.out.2.2, P2.out.2.2, less_comm]; simp, Vy3.out, Vy4.out] at hc
    go_wp2_with fail
    clear ex0 ex1 ex2
    clear ea0 ea1 ea2
    clear eb0 eb1 eb2
    clear ec0 ec1 ec2
    clear ed0 ed1 ed2
    clear ee0 ee1 ee2
    refine hc.mono ?_
    rintro e v14 ⟨rfl, hb⟩
    clear hc
    replace hx := hx.below hb
    replace hy1 := hy1.below hb
    replace hy2 := hy2.below hb
    replace hy3 := hy3.below hb
    replace hy4 := hy4.below hb
    replace hy5 := hy5.below hb
    replace bx := bx.below hb
    replace b1 := b1.below hb
    replace b2 := b2.below hb
    replace b3 := b3.below hb
    replace b4 := b4.below hb
    replace b5 := b5.below hb
    replace hB := hB.trans (hb.mono hB.size)
    clear hb
    have ex0 := bx.c0
    have ex1 := bx.c1
    have ex2 := bx.c2
    have ea0 := b1.c0
    have ea1 := b1.c1
    have ea2 := b1.c2
    have eb0 := b2.c0
    have eb1 := b2.c1
    have eb2 := b2.c2
    have ec0 := b3.c0
    have ec1 := b3.c1
    have ec2 := b3.c2
    have ed0 := b4.c0
    have ed1 := b4.c1
    have ed2 := b4.c2
    have ee0 := b5.c0
    have ee1 := b5.c1
    have ee2 := b5.c2
    have hc := samemarket y1 y5 v14 hy1.ok hy5.ok
    rw [show (y1.r.zs == y5.r.zs && (Ls.all y1.b == Ls.all y5.b && y1.o.zs == y5.o.zs)) = true by rw [P5.out.1, P5.out.2.1, P5.out.2.2, P1.out.2.1, less_twice]; simp, Vy1.out, Vy5.out] at hc
    go_wp2_with fail
    clear ex0 ex1 ex2
    clear ea0 ea1 ea2
    clear eb0 eb1 eb2
    clear ec0 ec1 ec2
    clear ed0 ed1 ed2
    clear ee0 ee1 ee2
    refine hc.mono ?_
    rintro e v15 ⟨rfl, hb⟩
    clear hc
    replace hx := hx.below hb
    replace hy1 := hy1.below hb
    replace hy2 := hy2.below hb
    replace hy3 := hy3.below hb
    replace hy4 := hy4.below hb
    replace hy5 := hy5.below hb
    replace bx := bx.below hb
    replace b1 := b1.below hb
    replace b2 := b2.below hb
    replace b3 := b3.below hb
    replace b4 := b4.below hb
    replace b5 := b5.below hb
    replace hB := hB.trans (hb.mono hB.size)
    clear hb
    have ex0 := bx.c0
    have ex1 := bx.c1
    have ex2 := bx.c2
    have ea0 := b1.c0
    have ea1 := b1.c1
    have ea2 := b1.c2
    have eb0 := b2.c0
    have eb1 := b2.c1
    have eb2 := b2.c2
    have ec0 := b3.c0
    have ec1 := b3.c1
    have ec2 := b3.c2
    have ed0 := b4.c0
    have ed1 := b4.c1
    have ed2 := b4.c2
    have ee0 := b5.c0
    have ee1 := b5.c1
    have ee2 := b5.c2
    obtain ⟨p, q, u, hA, hu, hub, hpl, hcu, hku⟩ := hx.get hi
    have hcell : v15.cell? ⟨p, q + i, none⟩ = some (.slice u.A u.n u.c) := hcu
    rw [hA] at ex1
    have hil : (i : Int) < x.n := by omega
    have hul := hku.len
    have HA := Lib.hid hA
    clear hcu hA
    by_cases hu0 : u.n = 0
    · have hun : x.b[i]? = some u := hu
      have hz : decide (0 < u.n) = false := by simp; omega
      have hz' : decide (0 < (u.n : Int)) = false := by simp; omega
      have hil2 : i < (Ls.all x.b).length := by rw [Ls.all, List.length_map, hx.len]; exact hi
      have hnil : (Ls.all x.b)[i] = [] := by
        have h0 : (Ls.all x.b)[i]? = some u.zs := by rw [Ls.all, List.getElem?_map, hun]; rfl
        rw [List.getElem?_eq_getElem hil2] at h0
        rw [Option.some.inj h0]
        exact List.eq_nil_of_length_eq_zero (by omega)
      have hln := Lib.hid (less_none hil2 hnil)
      have hc := samemarket y1 x v15 hy1.ok hx
      rw [show (y1.r.zs == x.r.zs && (Ls.all y1.b == Ls.all x.b && y1.o.zs == x.o.zs)) = true by rw [P1.out.1, P1.out.2.1, P1.out.2.2, hln.out]; simp, Vy1.out, Vx.out] at hc
      rw [HA.out] at hc
      rw [hu0] at hcell
      clear hun hil2 hnil hub hu hul
      go_wp2_with fail
      refine hc.mono ?_
      rintro e vz ⟨rfl, hb⟩
      replace hB := hB.trans (hb.mono hB.size)
      go_wp2
      go_ret
      exact ⟨rfl, hB⟩
    · have hz : decide (0 < u.n) = true := by simp; omega
      clear hub hu hul
      go_wp2
      go_ret
      exact ⟨rfl, hB⟩
  · have hm := Bool.eq_false_iff.2 hm
    have hxv : x.v = .agg #[.slice x.r.A x.r.n x.r.c, .slice x.A x.n x.c, .slice x.o.A x.o.n x.o.c] := rfl
    have hbx : Below w.heap.size w (w.alloc (.cells #[.slice x.r.A x.r.n x.r.c, .slice x.A x.n x.c, .slice x.o.A x.o.n x.o.c] 25)) := (Below.refl _ w).alloc (Nat.le_refl _) _
    have hc := mcheckC x _ (h.below hbx)
    rw [hm, hxv] at hc
    rw [hxv]
    clear hm hxv
    go_enter Try.func8, Try.ntmps8
    go_wp2_with fail
    refine hc.mono ?_
    rintro e w1 ⟨rfl, hb1⟩
    have hB := hbx.trans (hb1.mono hbx.size)
    go_wp2_with fail
    refine (alive5_any w1).mono ?_
    rintro e w2 ⟨rfl, hb2⟩
    have hB2 := hB.trans (hb2.mono hB.size)
    go_wp2
    go_ret
    exact ⟨rfl, hB2⟩

theorem own : ownKnob Try.prog.godebug = none := by kernel_rfl
theorem laidOut : laidOutB Try.prog = true := by kernel_rfl

set_option maxRecDepth 100000 in
theorem lifted (os : Os) (started : os.Started) (H : Type) (enc : TypeId × Value → H) :
    ReturnsInHanded {} Try.checked os 8 .any (Rows.marketsTwiceSpec.pre6 enc Try.prog Try.f8 Rows.marketsTwiceRow.domain false) (Rows.marketsTwiceSpec.post enc Try.prog Try.f8 false true false false) := by
  refine returnsInHanded_of_change (C := Try.checked) own started (by kernel_rfl) Try.func8
    (ChangeSpec.witness6 (enc := enc) (C := Try.checked) false ⟨#[], #[.agg #[.slice none 0 0, .slice none 0 0, .slice none 0 0], .int .u8 0, .int .u8 0], []⟩ 8 (by kernel_rfl) (by kernel_rfl) (by kernel_rfl) (by kernel_rfl)) ?_
  intro W base args ds gs before hval0 hW hcnd _
  have hval : ∀ (j : Nat) t v, Try.f8.params[j]? = some t → args[j]? = some v → Value.okWide Try.prog W .any base t v := hval0
  have hW' := hW
  obtain ⟨p, q, hA0, hV, rfl, hfz, hnd⟩ := hW
  have hA : DataW.TrodAll enc Try.prog W 0 (fun _ => true) true Try.f8.params.toList args.toList ds p := hA0
  rw [Try.params8] at hA hval
  obtain ⟨v0, vs0, d0, ds0, p0, q0, hargs, rfl, rfl, h0, r0⟩ := trodAll_cons hA
  obtain ⟨v1, vs1, d1, ds1, p1, q1, rfl, rfl, rfl, h1, r1⟩ := trodAll_cons r0
  obtain ⟨v2, vs2, d2, ds2, p2, q2, rfl, rfl, rfl, h2, r2⟩ := trodAll_cons r1
  obtain ⟨rfl, rfl, rfl⟩ := trodAll_nil r2
  obtain rfl : args = #[v0, v1, v2] := by cases args; simp_all
  obtain ⟨u0, rfl, k0⟩ := arg_mk Try.underlying25 (by kernel_rfl) (by kernel_rfl) Try.underlying22 Try.underlying23 Try.underlying22 Try.underlying22 (by kernel_rfl) Try.underlying3 (by kernel_rfl) (hval 0 25 v0 rfl rfl) h0
  obtain ⟨x1, rfl, rfl, rfl, w1⟩ := open_int Try.underlying5 (hval 1 5 v1 rfl rfl) h1
  obtain ⟨y1, rfl, z1⟩ := fit_u8 w1
  obtain ⟨x2, rfl, rfl, rfl, w2⟩ := open_int Try.underlying5 (hval 2 5 v2 rfl rfl) h2
  obtain ⟨y2, rfl, z2⟩ := fit_u8 w2
  have hwalk : Calls Try.prog 8 #[u0.v, .int .u8 y1, .int .u8 y2] W fun e w' => e = .returned (.bool true) ∧ Below W.heap.size W w' := walk u0 y1 y2 W k0 ⟨by omega, by omega⟩ ⟨by omega, by omega⟩
  refine hwalk.mono fun e W' ⟨he, hg⟩ => ?_
  subst he
  exact ⟨_, rfl, law_post laidOut (by kernel_rfl) hW' rfl rfl (by kernel_rfl) Try.underlying4 hg⟩

theorem over : Rows.marketsTwiceRow.holds Try.pinned (OpenSpec.ofChange Rows.marketsTwiceSpec) :=
  OpenClaim.holds_of_wide 8 Try.f8 rfl rfl rfl rfl rfl rfl rfl ⟨rfl, rfl, rfl, rfl, rfl⟩ rfl rfl rfl rfl rfl (by kernel_rfl) Try.func8 (by kernel_rfl)
    (of_decide_eq_true (by kernel_rfl)) (by unfold Func.isWrapper; first | (rw [if_pos (by decide +kernel)]; kernel_rfl) | (rw [if_neg (by decide +kernel)]; exact ⟨rfl, rfl⟩))
    (fun os started H enc _ => lifted os started H enc)

theorem proved : Rows.MarketsTwiceSaid :=
  over

end Go.Proofs.Ytoogldllcgbmdaa.marketsTwice
