/-
  Proved: salesroomlaw05.MarketsBack answers true, for any market, any byte and any place where its bytes are cut, in whatever memory. No conditions.
-/
import Derived.Test.YtoogldllcgbmdaaRows
import Derived.Test.YtoogldllcgbmdaaLift
import Derived.Test.YtoogldllcgbmdaaAlive5
namespace Go.Proofs.Ytoogldllcgbmdaa.marketsBack
open Go.ChangeShapes Go.WideShapes Go.ChangeAt Go.RowKit
set_option linter.unusedVariables false

theorem info7_u8 : (Try.prog.info? 5).map (fun i => (i.zero, i.size, i.bytes)) = some (some (.int .u8 0), 1, 1) := by kernel_rfl

set_option maxRecDepth 100000 in
set_option maxHeartbeats 2000000 in
theorem walk (x : Mk) (m : UInt8) (z : Nat) (w : World) (h : x.Ok w) (hz : z < 65536) :
    Calls Try.prog 3 #[x.v, .int .u8 m.toNat, .int .u16 z] w fun e w' => e = .returned (.bool true) ∧ Below w.heap.size w w' := by
  by_cases hm : x.may = true
  · have hmm : mayM x.r.zs (Ls.all x.b) x.o.zs = true := hm
    obtain ⟨bs, hbs⟩ : ∃ bs, bs = putM x.r.zs (Ls.all x.b) x.o.zs := ⟨_, rfl⟩
    obtain ⟨l1, l2, l3, l4, l5, l6, l7, l8⟩ := mk_len h hm
    obtain ⟨i0, hi0, hz0, hz1, hz2⟩ := info_parts info7_u8
    obtain ⟨L, hL⟩ : ∃ L, bs.length = L := ⟨_, rfl⟩
    have hL3 : 3 ≤ L ∧ L ≤ 400 := by
      have h1 := putM_len hmm
      have h2 : ((Ls.all x.b).map fun l => 1 + 4 * l.length).sum ≤ 33 * x.n := by
        have h3 : ∀ l : List Ls, (∀ u ∈ l, u.zs.length ≤ 8) → ((Ls.all l).map fun l => 1 + 4 * l.length).sum ≤ 33 * l.length := by
          intro l
          induction l with
          | nil => intro _; exact Nat.le_refl _
          | cons a l ih =>
            intro hh
            have := hh a (by simp)
            have := ih fun u hu => hh u (by simp [hu])
            simp only [Ls.all, List.map_cons, List.sum_cons, List.length_cons] at *
            omega
        have h4 := h3 x.b fun u hu => by
          have := (h.bs u hu).len
          have := l6 u hu
          omega
        rw [h.len] at h4
        exact h4
      rw [← hbs, hL, h.r.len, h.o.len] at h1
      omega
    have M1 := Lib.hid (show x.err = 0 by rw [Mk.err, if_pos hm])
    have M2 := Lib.hid (show x.bytes = bs by rw [Mk.bytes, if_pos hm, hbs])
    have HL := Lib.hid hL
    have g0 : getME bs = 0 := by rw [hbs]; exact getME_put hmm
    have G0 := Lib.hid g0
    have P0 := Lib.hid (show getM bs = x.parts by
      have h1 := readM_put hmm []
      rw [List.append_nil, ← hbs] at h1
      exact getM_good g0 h1)
    have G1 := Lib.hid (show getME (bs ++ [m]) = 4 by rw [hbs]; exact getME_more hmm m)
    obtain ⟨k, hk, hkz⟩ : ∃ k : Nat, k < L ∧ Int.tmod (z : Int) L = (k : Int) := ⟨z % L, Nat.mod_lt _ (by omega), by rw [Int.tmod_eq_emod_of_nonneg (Int.natCast_nonneg _)]; exact (Int.natCast_emod _ _).symm⟩
    have G2 := Lib.hid (show getME (bs.take k) = 5 by rw [hbs]; exact getME_cut hmm k (by rw [← hbs, hL]; exact hk))
    have hn0 : ((L : Int) == 0) = false := by rw [beq_eq_false_iff_ne]; omega
    clear hbs g0 hmm l1 l2 l3 l4 l5 l6 l7 l8 hL hm
    have hx := h
    have hB := Below.refl w.heap.size w
    have hxv : x.v = .agg #[.slice x.r.A x.r.n x.r.c, .slice x.A x.n x.c, .slice x.o.A x.o.n x.o.c] := rfl
    have Vx := Lib.hid hxv
    rw [hxv]
    clear hxv
    go_enter Try.func3, Try.ntmps3
    have bx := InBox.new w x
    have hbx : Below w.heap.size w (w.alloc (.cells #[.slice x.r.A x.r.n x.r.c, .slice x.A x.n x.c, .slice x.o.A x.o.n x.o.c] 25)) := (Below.refl _ w).alloc (Nat.le_refl _) _
    replace hx := hx.below hbx
    replace hB := hB.trans (hbx.mono hB.size)
    clear hbx
    have ex0 := bx.c0
    have ex1 := bx.c1
    have ex2 := bx.c2
    have hc := mputC x (w.alloc (.cells #[.slice x.r.A x.r.n x.r.c, .slice x.A x.n x.c, .slice x.o.A x.o.n x.o.c] 25)) hx
    rw [M1.out, M2.out, Vx.out] at hc
    go_wp2_with fail
    clear ex0 ex1 ex2
    generalize w.alloc (.cells #[.slice x.r.A x.r.n x.r.c, .slice x.A x.n x.c, .slice x.o.A x.o.n x.o.c] 25) = W4 at *
    refine hc.mono ?_
    rintro e v5 ⟨A1, n1, c1, rfl, ho1, hb⟩
    clear hc
    replace hx := hx.below hb
    replace bx := bx.below hb
    replace hB := hB.trans (hb.mono hB.size)
    clear hb
    have h1n : n1 = L := by
      have h := ho1.len
      rw [cu8_len, HL.out] at h
      exact h.symm
    subst h1n
    have hc1 := ho1.le
    have hcm1 := ho1.cap
    have hcm1' := hcm1
    unfold maxLen at hcm1' 
    have ex0 := bx.c0
    have ex1 := bx.c1
    have ex2 := bx.c2
    have hc := mgetC A1 n1 c1 bs v5 ho1.rd hc1 hcm1 (by omega)
    rw [G0.out] at hc
    go_wp2_with fail
    clear ex0 ex1 ex2
    refine hc.mono ?_
    rintro e v6 ⟨y, rfl, hy, hq, hb⟩
    clear hc
    replace hx := hx.below hb
    replace ho1 := ho1.below hb
    replace bx := bx.below hb
    replace hB := hB.trans (hb.mono hB.size)
    clear hb
    have v_y : y.v = .agg #[.slice y.r.A y.r.n y.r.c, .slice y.A y.n y.c, .slice y.o.A y.o.n y.o.c] := rfl
    have Vy := Lib.hid v_y
    clear v_y
    rw [Vy.out]
    rw [P0.out] at hq
    have HQ := Lib.hid hq
    clear hq
    have by1 := InBox.new v6 y
    have hbx : Below v6.heap.size v6 (v6.alloc (.cells #[.slice y.r.A y.r.n y.r.c, .slice y.A y.n y.c, .slice y.o.A y.o.n y.o.c] 25)) := (Below.refl _ v6).alloc (Nat.le_refl _) _
    replace hx := hx.below hbx
    replace ho1 := ho1.below hbx
    replace hy := hy.below hbx
    replace bx := bx.below hbx
    replace hB := hB.trans (hbx.mono hB.size)
    clear hbx
    have ex0 := bx.c0
    have ex1 := bx.c1
    have ex2 := bx.c2
    have ey0 := by1.c0
    have ey1 := by1.c1
    have ey2 := by1.c2
    go_wp2_with (at_builtin; go_must (refine wpList_app _ rfl _ _ 27 rfl 5 i0 _ 1 Try.underlying27 hi0 hz0 hz1 hz2 rfl (v6.alloc (.cells #[.slice y.r.A y.r.n y.r.c, .slice y.A y.n y.c, .slice y.o.A y.o.n y.o.c] 25)).heap.size none 0 0 [] rfl (Own.none_ _ _ _ _) A1 n1 c1 _ rfl ho1.rd (cu8_one _) ?c3 ?c4 ?c5 ?_))
    case c3 => simp only [maxLen]; omega
    case c4 => omega
    case c5 => exact Nat.le_refl _
    intro A2 c2 w2 hown2 hbel2 hfr2 hat2
    have hsz : (v6.alloc (.cells #[.slice y.r.A y.r.n y.r.c, .slice y.A y.n y.c, .slice y.o.A y.o.n y.o.c] 25)).heap.size = v6.heap.size + 1 := Array.size_push ..
    rw [← hsz] at hown2 hbel2
    clear ex0 ex1 ex2
    clear ey0 ey1 ey2
    go_wp2_with (at_builtin; go_must (refine wpList_app1 w2 rfl _ _ 27 rfl 5 i0 _ 1 Try.underlying27 hi0 hz0 hz1 hz2 rfl (v6.alloc (.cells #[.slice y.r.A y.r.n y.r.c, .slice y.A y.n y.c, .slice y.o.A y.o.n y.o.c] 25)).heap.size A2 n1 c2 _ rfl hown2 1 rfl rfl ?d3 ?d4 ?d5 ?_))
    case d3 => simp only [maxLen]; omega
    case d4 => omega
    case d5 => exact hbel2.size
    intro A3 c3 w3 hown3 hbel3 hfr3 hat3
    rw [← hsz] at hown3 hbel3
    have hb := hbel2.trans hbel3
    have ho3 : Own w3 (v6.alloc (.cells #[.slice y.r.A y.r.n y.r.c, .slice y.A y.n y.c, .slice y.o.A y.o.n y.o.c] 25)).heap.size 5 A3 (n1 + 1) c3 (cu8 (bs ++ [m])) := by
      have e1 : cu8 (bs ++ [m]) = cu8 bs ++ [.int .u8 m.toNat] := by simp [cu8, bV]
      rw [e1]
      exact hown3
    clear hown2 hbel2 hfr2 hat2 hown3 hbel3 hfr3 hat3
    have hb0 := hb
    replace hx := hx.below hb
    replace ho1 := ho1.below hb
    replace hy := hy.below hb
    replace bx := bx.below hb
    replace by1 := by1.below hb
    replace hB := hB.trans (hb.mono hB.size)
    clear hb
    clear hb0
    have hc3 := ho3.le
    have hcm3 := ho3.cap
    have ex0 := bx.c0
    have ex1 := bx.c1
    have ex2 := bx.c2
    have ey0 := by1.c0
    have ey1 := by1.c1
    have ey2 := by1.c2
    have hc := mgetC A3 (n1 + 1) c3 (bs ++ [m]) w3 ho3.rd hc3 hcm3 (by omega)
    rw [G1.out] at hc
    go_wp2_with fail
    clear ex0 ex1 ex2
    clear ey0 ey1 ey2
    refine hc.mono ?_
    rintro e v7 ⟨y2, rfl, hy2, hq2, hb⟩
    clear hc
    replace hx := hx.below hb
    replace ho1 := ho1.below hb
    replace hy := hy.below hb
    replace bx := bx.below hb
    replace by1 := by1.below hb
    replace hB := hB.trans (hb.mono hB.size)
    clear hb
    have v_y2 : y2.v = .agg #[.slice y2.r.A y2.r.n y2.r.c, .slice y2.A y2.n y2.c, .slice y2.o.A y2.o.n y2.o.c] := rfl
    have Vy2 := Lib.hid v_y2
    clear v_y2
    rw [Vy2.out]
    clear hq2
    have by2 := InBox.new v7 y2
    have hbx : Below v7.heap.size v7 (v7.alloc (.cells #[.slice y2.r.A y2.r.n y2.r.c, .slice y2.A y2.n y2.c, .slice y2.o.A y2.o.n y2.o.c] 25)) := (Below.refl _ v7).alloc (Nat.le_refl _) _
    replace hx := hx.below hbx
    replace ho1 := ho1.below hbx
    replace hy := hy.below hbx
    replace hy2 := hy2.below hbx
    replace bx := bx.below hbx
    replace by1 := by1.below hbx
    replace hB := hB.trans (hbx.mono hB.size)
    clear hbx
    have hcut := ho1.rd.take (hi := k) (by omega)
    rw [cu8_take] at hcut
    have hkc : k ≤ c1 := by omega
    have ex0 := bx.c0
    have ex1 := bx.c1
    have ex2 := bx.c2
    have ey0 := by1.c0
    have ey1 := by1.c1
    have ey2 := by1.c2
    have ez0 := by2.c0
    have ez1 := by2.c1
    have ez2 := by2.c2
    have hc := mgetC A1 k c1 (bs.take k) (v7.alloc (.cells #[.slice y2.r.A y2.r.n y2.r.c, .slice y2.A y2.n y2.c, .slice y2.o.A y2.o.n y2.o.c] 25)) hcut hkc hcm1 (by omega)
    rw [G2.out] at hc
    go_wp2_with fail
    clear ex0 ex1 ex2
    clear ey0 ey1 ey2
    clear ez0 ez1 ez2
    generalize v7.alloc (.cells #[.slice y2.r.A y2.r.n y2.r.c, .slice y2.A y2.n y2.c, .slice y2.o.A y2.o.n y2.o.c] 25) = W8 at *
    refine hc.mono ?_
    rintro e v9 ⟨y3, rfl, hy3, hq3, hb⟩
    clear hc
    replace hx := hx.below hb
    replace ho1 := ho1.below hb
    replace hy := hy.below hb
    replace hy2 := hy2.below hb
    replace bx := bx.below hb
    replace by1 := by1.below hb
    replace by2 := by2.below hb
    replace hB := hB.trans (hb.mono hB.size)
    clear hb
    clear hcut
    have v_y3 : y3.v = .agg #[.slice y3.r.A y3.r.n y3.r.c, .slice y3.A y3.n y3.c, .slice y3.o.A y3.o.n y3.o.c] := rfl
    have Vy3 := Lib.hid v_y3
    clear v_y3
    rw [Vy3.out]
    clear hq3
    have by3 := InBox.new v9 y3
    have hbx : Below v9.heap.size v9 (v9.alloc (.cells #[.slice y3.r.A y3.r.n y3.r.c, .slice y3.A y3.n y3.c, .slice y3.o.A y3.o.n y3.o.c] 25)) := (Below.refl _ v9).alloc (Nat.le_refl _) _
    replace hx := hx.below hbx
    replace ho1 := ho1.below hbx
    replace hy := hy.below hbx
    replace hy2 := hy2.below hbx
    replace hy3 := hy3.below hbx
    replace bx := bx.below hbx
    replace by1 := by1.below hbx
    replace by2 := by2.below hbx
    replace hB := hB.trans (hbx.mono hB.size)
    clear hbx
    have ex0 := bx.c0
    have ex1 := bx.c1
    have ex2 := bx.c2
    have ey0 := by1.c0
    have ey1 := by1.c1
    have ey2 := by1.c2
    have ez0 := by2.c0
    have ez1 := by2.c1
    have ez2 := by2.c2
    have ew0 := by3.c0
    have ew1 := by3.c1
    have ew2 := by3.c2
    have hc := alive5_any (v9.alloc (.cells #[.slice y3.r.A y3.r.n y3.r.c, .slice y3.A y3.n y3.c, .slice y3.o.A y3.o.n y3.o.c] 25))
    go_wp2_with fail
    clear ex0 ex1 ex2
    clear ey0 ey1 ey2
    clear ez0 ez1 ez2
    clear ew0 ew1 ew2
    generalize v9.alloc (.cells #[.slice y3.r.A y3.r.n y3.r.c, .slice y3.A y3.n y3.c, .slice y3.o.A y3.o.n y3.o.c] 25) = W10 at *
    refine hc.mono ?_
    rintro e v11 ⟨rfl, hb⟩
    clear hc
    replace hx := hx.below hb
    replace ho1 := ho1.below hb
    replace hy := hy.below hb
    replace hy2 := hy2.below hb
    replace hy3 := hy3.below hb
    replace bx := bx.below hb
    replace by1 := by1.below hb
    replace by2 := by2.below hb
    replace by3 := by3.below hb
    replace hB := hB.trans (hb.mono hB.size)
    clear hb
    have ex0 := bx.c0
    have ex1 := bx.c1
    have ex2 := bx.c2
    have ey0 := by1.c0
    have ey1 := by1.c1
    have ey2 := by1.c2
    have ez0 := by2.c0
    have ez1 := by2.c1
    have ez2 := by2.c2
    have ew0 := by3.c0
    have ew1 := by3.c1
    have ew2 := by3.c2
    have hc := samemarket x y v11 hx hy.ok
    rw [show (x.r.zs == y.r.zs && (Ls.all x.b == Ls.all y.b && x.o.zs == y.o.zs)) = true by have h := HQ.out; simp only [Mk.parts, Prod.mk.injEq] at h; rw [h.1, h.2.1, h.2.2]; simp, Vx.out, Vy.out] at hc
    go_wp2_with fail
    clear ex0 ex1 ex2
    clear ey0 ey1 ey2
    clear ez0 ez1 ez2
    clear ew0 ew1 ew2
    refine hc.mono ?_
    rintro e v12 ⟨rfl, hb⟩
    clear hc
    replace hx := hx.below hb
    replace ho1 := ho1.below hb
    replace hy := hy.below hb
    replace hy2 := hy2.below hb
    replace hy3 := hy3.below hb
    replace bx := bx.below hb
    replace by1 := by1.below hb
    replace by2 := by2.below hb
    replace by3 := by3.below hb
    replace hB := hB.trans (hb.mono hB.size)
    clear hb
    go_wp2
    go_ret
    exact ⟨rfl, hB⟩
  · have M1 := Lib.hid (show x.err = 1 by rw [Mk.err, if_neg hm])
    have M2 := Lib.hid (show x.bytes = [] by rw [Mk.bytes, if_neg hm])
    clear hm
    have hx := h
    have hB := Below.refl w.heap.size w
    have hxv : x.v = .agg #[.slice x.r.A x.r.n x.r.c, .slice x.A x.n x.c, .slice x.o.A x.o.n x.o.c] := rfl
    have Vx := Lib.hid hxv
    rw [hxv]
    clear hxv
    go_enter Try.func3, Try.ntmps3
    have bx := InBox.new w x
    have hbx : Below w.heap.size w (w.alloc (.cells #[.slice x.r.A x.r.n x.r.c, .slice x.A x.n x.c, .slice x.o.A x.o.n x.o.c] 25)) := (Below.refl _ w).alloc (Nat.le_refl _) _
    replace hx := hx.below hbx
    replace hB := hB.trans (hbx.mono hB.size)
    clear hbx
    have ex0 := bx.c0
    have ex1 := bx.c1
    have ex2 := bx.c2
    have hc := mputC x (w.alloc (.cells #[.slice x.r.A x.r.n x.r.c, .slice x.A x.n x.c, .slice x.o.A x.o.n x.o.c] 25)) hx
    rw [M1.out, M2.out, Vx.out] at hc
    go_wp2_with fail
    clear ex0 ex1 ex2
    generalize w.alloc (.cells #[.slice x.r.A x.r.n x.r.c, .slice x.A x.n x.c, .slice x.o.A x.o.n x.o.c] 25) = W1 at *
    refine hc.mono ?_
    rintro e v2 ⟨A1, n1, c1, rfl, ho1, hb⟩
    clear hc
    replace hx := hx.below hb
    replace bx := bx.below hb
    replace hB := hB.trans (hb.mono hB.size)
    clear hb
    have ex0 := bx.c0
    have ex1 := bx.c1
    have ex2 := bx.c2
    have hc := alive5_any v2
    go_wp2_with fail
    clear ex0 ex1 ex2
    refine hc.mono ?_
    rintro e v3 ⟨rfl, hb⟩
    clear hc
    replace hx := hx.below hb
    replace bx := bx.below hb
    replace hB := hB.trans (hb.mono hB.size)
    clear hb
    go_wp2
    go_ret
    exact ⟨rfl, hB⟩

theorem own : ownKnob Try.prog.godebug = none := by kernel_rfl
theorem laidOut : laidOutB Try.prog = true := by kernel_rfl

set_option maxRecDepth 100000 in
theorem lifted (os : Os) (started : os.Started) (H : Type) (enc : TypeId × Value → H) :
    ReturnsInHanded {} Try.checked os 3 .any (Rows.marketsBackSpec.pre6 enc Try.prog Try.f3 Rows.marketsBackRow.domain false) (Rows.marketsBackSpec.post enc Try.prog Try.f3 false true false false) := by
  refine returnsInHanded_of_change (C := Try.checked) own started (by kernel_rfl) Try.func3
    (ChangeSpec.witness6 (enc := enc) (C := Try.checked) false ⟨#[], #[.agg #[.slice none 0 0, .slice none 0 0, .slice none 0 0], .int .u8 0, .int .u16 0], []⟩ 8 (by kernel_rfl) (by kernel_rfl) (by kernel_rfl) (by kernel_rfl)) ?_
  intro W base args ds gs before hval0 hW hcnd _
  have hval : ∀ (j : Nat) t v, Try.f3.params[j]? = some t → args[j]? = some v → Value.okWide Try.prog W .any base t v := hval0
  have hW' := hW
  obtain ⟨p, q, hA0, hV, rfl, hfz, hnd⟩ := hW
  have hA : DataW.TrodAll enc Try.prog W 0 (fun _ => true) true Try.f3.params.toList args.toList ds p := hA0
  rw [Try.params3] at hA hval
  obtain ⟨v0, vs0, d0, ds0, p0, q0, hargs, rfl, rfl, h0, r0⟩ := trodAll_cons hA
  obtain ⟨v1, vs1, d1, ds1, p1, q1, rfl, rfl, rfl, h1, r1⟩ := trodAll_cons r0
  obtain ⟨v2, vs2, d2, ds2, p2, q2, rfl, rfl, rfl, h2, r2⟩ := trodAll_cons r1
  obtain ⟨rfl, rfl, rfl⟩ := trodAll_nil r2
  obtain rfl : args = #[v0, v1, v2] := by cases args; simp_all
  obtain ⟨u0, rfl, k0⟩ := arg_mk Try.underlying25 (by kernel_rfl) (by kernel_rfl) Try.underlying22 Try.underlying23 Try.underlying22 Try.underlying22 (by kernel_rfl) Try.underlying3 (by kernel_rfl) (hval 0 25 v0 rfl rfl) h0
  obtain ⟨x1, rfl, rfl, rfl, w1⟩ := open_int Try.underlying5 (hval 1 5 v1 rfl rfl) h1
  obtain ⟨y1, rfl, z1⟩ := fit_u8 w1
  obtain ⟨x2, rfl, rfl, rfl, w2⟩ := open_int Try.underlying26 (hval 2 26 v2 rfl rfl) h2
  obtain ⟨y2, rfl, z2⟩ := fit_u16 w2
  have hwalk : Calls Try.prog 3 #[u0.v, .int .u8 y1, .int .u16 y2] W fun e w' => e = .returned (.bool true) ∧ Below W.heap.size W w' := by have hw := walk u0 (UInt8.ofNat y1) y2 W k0 z2; rw [show (UInt8.ofNat y1).toNat = y1 by rw [UInt8.toNat_ofNat']; omega] at hw; exact hw
  refine hwalk.mono fun e W' ⟨he, hg⟩ => ?_
  subst he
  exact ⟨_, rfl, law_post laidOut (by kernel_rfl) hW' rfl rfl (by kernel_rfl) Try.underlying4 hg⟩

theorem over : Rows.marketsBackRow.holds Try.pinned (OpenSpec.ofChange Rows.marketsBackSpec) :=
  OpenClaim.holds_of_wide 3 Try.f3 rfl rfl rfl rfl rfl rfl rfl ⟨rfl, rfl, rfl, rfl, rfl⟩ rfl rfl rfl rfl rfl (by kernel_rfl) Try.func3 (by kernel_rfl)
    (of_decide_eq_true (by kernel_rfl)) (by unfold Func.isWrapper; first | (rw [if_pos (by decide +kernel)]; kernel_rfl) | (rw [if_neg (by decide +kernel)]; exact ⟨rfl, rfl⟩))
    (fun os started H enc _ => lifted os started H enc)

theorem proved : Rows.MarketsBackSaid :=
  over

end Go.Proofs.Ytoogldllcgbmdaa.marketsBack
