/-
  Proved: WeightsRaised holds of all gains: where one gains more by one item all together gain no less and at most as much more, and where it gains less no more and at most as much less.
-/
import Derived.Test.YtiaoplghaigclaaRows
import Derived.Test.YtiaoplghaigclaaLift
import Derived.Test.YtiaoplghaigclaaAlive10
import Derived.Test.YtiaoplghaigclaaZeros
import Derived.Test.YtiaoplghaigclaaReg
import Derived.Test.YtiaoplghaigclaaVecArgs
import Derived.Lib.MinMax
namespace Go.Proofs.Ytiaoplghaigclaa.weightsRaised
open Go.ChangeShapes Go.WideShapes Go.ChangeAt Go.RowKit
set_option linter.unusedVariables false

theorem info6_int : (Try.prog.info? 3).map (fun i => (i.zero, i.size, i.bytes)) = some (some (.int .i64 0), 1, 8) := by kernel_rfl
section
variable {H : Type} {enc : TypeId × Value → H} {P : Program} {w : World} {base : Nat} {held : Bool} {r : Reach} {b0 : Nat} {t e : TypeId} {v : Value} {d : DataW H} {ps : List MemPlace} {k : IntKind}
/-- Two numbers that came in. -/
theorem arg_two (ht : P.underlying t = some (.array 2 e)) (he : P.underlying e = some (.int k)) (hc : P.cellsOf e = 1) (hC : P.cellsOf t = 2) (hval : Value.okWide P w r b0 t v) (h : DataW.Trod enc P w base (fun _ => true) held t v d ps) :
    ∃ z0 z1 : Int, v = .agg #[.int k z0, .int k z1] ∧ (Lit.int k z0).wf = true ∧ (Lit.int k z1).wf = true := by
  obtain ⟨cs, rfl, hsz⟩ : ∃ cs, v = .agg cs ∧ cs.size = P.cellsOf t := by
    simp only [Value.okWide, ht] at hval
    obtain ⟨cs, h1, h2, _⟩ := hval
    exact ⟨cs, h1, h2⟩
  obtain ⟨fuel, hf⟩ := h
  obtain ⟨c0, c1, rfl⟩ := Go.Joins.array2 (hsz.trans hC)
  obtain ⟨xs, m', _, _, hl, hlen, hx⟩ := DataW.trod_array ht hf
  have h0 := hx 0 (by omega)
  have h1 := hx 1 (by omega)
  rw [hc, List.getElem?_eq_getElem (by omega)] at h0 h1
  obtain ⟨z0, e0, w0⟩ := open_kc (c := c0) he h0
  obtain ⟨z1, e1, w1⟩ := open_kc (c := c1) he h1
  exact ⟨z0, z1, by rw [e0, e1], w0, w1⟩
end
theorem lt_of_cellR {w : World} {p : Addr} {v : Value} (h : w.cell? p = some v) : p.block < w.heap.size := by
  rcases Nat.lt_or_ge p.block w.heap.size with h1 | h1
  · exact h1
  · rw [World.cell?, Array.getElem?_eq_none h1] at h
    cases h
structure Cells2 (w : World) (g i : Nat) (v : Value) (q k : Nat) (u : Value) : Prop where
  c0 : w.cell? ⟨g, i, none⟩ = some v
  c1 : w.cell? ⟨q, k, none⟩ = some u
theorem Cells2.below {w w' : World} {g i q k : Nat} {v u : Value} (h : Cells2 w g i v q k u) (hb : Below w.heap.size w w') : Cells2 w' g i v q k u :=
  ⟨(hb.cell (p := ⟨g, i, none⟩) (lt_of_cellR h.c0)).trans h.c0, (hb.cell (p := ⟨q, k, none⟩) (lt_of_cellR h.c1)).trans h.c1⟩
theorem outs_drew {w : World} {B : Nat} {A : Option Addr} {n c : Nat} {t : List Ls} (h : Outs w B A n c t) : Outs w.drew B A n c t := ⟨h.own.drew, fun u hu => ⟨(h.each u hu).own.drew, (h.each u hu).fit⟩, h.apt⟩
/-- Two numbers in a box. -/
structure Box2 (w : World) (b : Nat) (v0 v1 : Value) : Prop where
  c0 : w.cell? ⟨b, 0, none⟩ = some v0
  c1 : w.cell? ⟨b, 1, none⟩ = some v1
  lt : b < w.heap.size
theorem Box2.below {w w' : World} {b : Nat} {v0 v1 : Value} (h : Box2 w b v0 v1) (hb : Below w.heap.size w w') : Box2 w' b v0 v1 :=
  ⟨(hb.cell (p := ⟨b, 0, none⟩) h.lt).trans h.c0, (hb.cell (p := ⟨b, 1, none⟩) h.lt).trans h.c1, Nat.lt_of_lt_of_le h.lt hb.size⟩
theorem Box2.new (w : World) (v0 v1 : Value) (t : TypeId) : Box2 (w.alloc (.cells #[v0, v1] t)) w.heap.size v0 v1 := by
  have h := heap_alloc_new w (.cells #[v0, v1] t)
  exact ⟨by rw [cell_of_row _ _ 0 _ _ _ h]; rfl, by rw [cell_of_row _ _ 1 _ _ _ h]; rfl, by simp⟩
/-- Gains, one of which is another one. -/
def setW (g : List (List Int)) (i k : Nat) (v : Int) : List (List Int) := g.set i ((g.getD i []).set k v)
def setG (G : Nat → Nat → Int) (i k : Nat) (v : Int) (b c : Nat) : Int := if b = i ∧ c = k then v else G b c
theorem setW_len (g : List (List Int)) (i k : Nat) (v : Int) : (setW g i k v).length = g.length := by rw [setW, List.length_set]
theorem setW_may {g : List (List Int)} {m : Int} {i k : Nat} {v : Int} (h : mayW g m = true) (hi : i < g.length) (hv : -1000000 ≤ v ∧ v ≤ 1000000) : mayW (setW g i k v) m = true := by
  obtain ⟨h1, h2, h3, h4⟩ := mayW_iff.1 h
  refine mayW_iff.2 ⟨h1, h2, by rw [setW_len]; exact h3, fun l hl => ?_⟩
  rcases List.mem_or_eq_of_mem_set hl with e | e
  · exact h4 l e
  · have h5 := h4 _ (List.getElem_mem hi)
    rw [e, List.getD_eq_getElem?_getD, List.getElem?_eq_getElem hi]
    refine ⟨by rw [List.length_set]; exact h5.1, fun z hz => ?_⟩
    rcases List.mem_or_eq_of_mem_set hz with h6 | h6
    · exact h5.2 z h6
    · rw [h6]; exact hv
theorem setW_gG {g : List (List Int)} {m i k b c : Nat} {v : Int} (h : mayW g m = true) (hi : i < g.length) (hk : k < m) : gG (setW g i k v) b c = setG (gG g) i k v b c := by
  have h1 := (may_row h hi).1
  have h2 : g.getD i [] = g[i] := by rw [List.getD_eq_getElem?_getD, List.getElem?_eq_getElem hi]; rfl
  unfold setG
  by_cases e : b = i
  · subst e
    rw [gG_at (l := (g.getD b []).set k v) (by rw [setW, List.getElem?_set, if_pos rfl, if_pos hi]), List.getD_eq_getElem?_getD, List.getElem?_set, h2]
    by_cases e2 : c = k
    · subst e2
      rw [if_pos rfl, if_pos (by omega), if_pos ⟨rfl, rfl⟩]; rfl
    · rw [if_neg (fun e' => e2 e'.symm), if_neg (fun e' => e2 e'.2), gG, h2, List.getD_eq_getElem?_getD]
  · rw [if_neg (fun e' => e e'.1), gG, gG, List.getD_eq_getElem?_getD (l := setW g i k v), setW, List.getElem?_set_ne (by omega), ← List.getD_eq_getElem?_getD]
theorem setW_row {g : List (List Int)} {i k : Nat} {v : Int} (hi : i < g.length) : (setW g i k v)[i]? = some ((g.getD i []).set k v) := by rw [setW, List.getElem?_set, if_pos rfl, if_pos hi]

set_option maxRecDepth 100000 in
set_option maxHeartbeats 4000000 in
theorem walk (x : Gr) (m : Int) (y1 y2 y3 : Nat) (w : World) (h : x.Ok w) (hm1 : -9223372036854775808 ≤ m) (hm2 : m ≤ 9223372036854775807) (hy1 : y1 < 256) (hy2 : y2 < 256) (hy3 : y3 < 65536) :
    Calls Try.prog 12 #[.agg #[x.v, .int .i64 m], .agg #[.int .u8 y1, .int .u8 y2], .int .u16 y3] w fun e w' => e = .returned (.bool true) ∧ Below w.heap.size w w' := by
  have hx := h
  have hB := Below.refl w.heap.size w
  have hxv : x.v = .slice x.A x.n x.c := rfl
  have Vx := Lib.hid hxv
  rw [hxv]
  have hgl := h.glen
  have HGL := Lib.hid hgl
  have htop := Nat.le_trans h.cap h.top
  unfold maxLen at htop
  obtain ⟨B, hB0⟩ : ∃ B, mayW x.g m = B := ⟨_, rfl⟩
  clear hxv hgl h
  go_enter Try.func12, Try.ntmps12
  have bg := WBox.new w x m
  have hbx : Below w.heap.size w (w.alloc (.cells #[.slice x.A x.n x.c, .int .i64 m] 24)) := (Below.refl _ w).alloc (Nat.le_refl _) _
  replace hx := hx.below hbx
  replace hB := hB.trans (hbx.mono hB.size)
  clear hbx
  have ab := Box2.new (w.alloc (.cells #[.slice x.A x.n x.c, .int .i64 m] 24)) (.int .u8 y1) (.int .u8 y2) 43
  have hbx : Below (w.alloc (.cells #[.slice x.A x.n x.c, .int .i64 m] 24)).heap.size (w.alloc (.cells #[.slice x.A x.n x.c, .int .i64 m] 24)) ((w.alloc (.cells #[.slice x.A x.n x.c, .int .i64 m] 24)).alloc (.cells #[.int .u8 y1, .int .u8 y2] 43)) := (Below.refl _ (w.alloc (.cells #[.slice x.A x.n x.c, .int .i64 m] 24))).alloc (Nat.le_refl _) _
  replace hx := hx.below hbx
  replace bg := bg.below hbx
  replace hB := hB.trans (hbx.mono hB.size)
  clear hbx
  rw [World.size_alloc] at ab
  cases B
  · have E1 := Lib.hid (we_bad hB0)
    clear hB0
    have eg0 := bg.c0
    have eg1 := bg.c1
    have ea0 := ab.c0
    have ea1 := ab.c1
    have hc := pbestC x m ((w.alloc (.cells #[.slice x.A x.n x.c, .int .i64 m] 24)).alloc (.cells #[.int .u8 y1, .int .u8 y2] 43)) hx (by omega) (by omega)
    rw [Vx.out, E1.out.1, E1.out.2.1] at hc
    go_wp2_with fail
    clear eg0 eg1
    clear ea0 ea1
    generalize (w.alloc (.cells #[.slice x.A x.n x.c, .int .i64 m] 24)).alloc (.cells #[.int .u8 y1, .int .u8 y2] 43) = W1 at *
    refine hc.mono ?_
    rintro e v2 ⟨rfl, hb⟩
    clear hc
    replace hx := hx.below hb
    replace bg := bg.below hb
    replace ab := ab.below hb
    replace hB := hB.trans (hb.mono hB.size)
    clear hb
    have eg0 := bg.c0
    have eg1 := bg.c1
    have ea0 := ab.c0
    have ea1 := ab.c1
    have hc := alive10_any v2
    go_wp2_with fail
    clear eg0 eg1
    clear ea0 ea1
    refine hc.mono ?_
    rintro e v3 ⟨rfl, hb⟩
    clear hc
    replace hx := hx.below hb
    replace bg := bg.below hb
    replace ab := ab.below hb
    replace hB := hB.trans (hb.mono hB.size)
    clear hb
    have eg0 := bg.c0
    have eg1 := bg.c1
    have ea0 := ab.c0
    have ea1 := ab.c1
    go_wp2
    go_ret
    exact ⟨rfl, hB⟩
  · obtain ⟨M, rfl⟩ : ∃ M : Nat, m = M := ⟨m.toNat, by have := (mayW_iff.1 hB0).1; omega⟩
    have HB0 := Lib.hid hB0
    obtain ⟨hM1, hM8, hx8⟩ := may_m hB0
    rw [HGL.out] at hx8
    have EE := Lib.hid (we_ok hB0).2.1
    obtain ⟨a0, ha0⟩ : ∃ a, bestE x.g M = a := ⟨_, rfl⟩
    obtain ⟨ul, hul⟩ : ∃ a, bidE x.g M = a := ⟨_, rfl⟩
    obtain ⟨pl, hpl⟩ : ∃ a, ofE x.g M = a := ⟨_, rfl⟩
    have EB := Lib.hid ha0
    have EU := Lib.hid hul
    have EP := Lib.hid hpl
    have ULN : Hid (ul.length = x.n) := Lib.hid (by rw [← hul, bidE_len hB0, HGL.out])
    have PLN : Hid (pl.length = M) := Lib.hid (by rw [← hpl, ofE_len hB0])
    have UGET : Hid (∀ i, i < x.n → ul[i]? = some (bidP (gG x.g) M x.n i)) := Lib.hid (fun i hi => by rw [← hul, bidE_get hB0 (by rw [HGL.out]; exact hi), HGL.out])
    have PGET : Hid (∀ k, k < M → pl[k]? = some (numP (gG x.g) M x.n k)) := Lib.hid (fun k hk => by rw [← hpl, ofE_get hB0 hk, HGL.out])
    have BV : Hid (a0 = bestV (gG x.g) M x.n) := Lib.hid (by rw [← ha0, (we_ok hB0).1, HGL.out])
    have hab : 0 ≤ a0 ∧ a0 ≤ 8000000 := by rw [← ha0, (we_ok hB0).1]; exact best_bound hB0
    have HRW : Hid (∀ u ∈ x.t, u.n = M) := Lib.hid (fun u hu => by
      have h1 := (mayW_iff.1 hB0).2.2.2 u.zs (by rw [Gr.g, Ls.all]; exact List.mem_map_of_mem hu)
      have h2 := (hx.lss.ok u hu).len
      omega)
    clear hB0 ha0 hul hpl hm1 hm2
    have eg0 := bg.c0
    have eg1 := bg.c1
    have ea0 := ab.c0
    have ea1 := ab.c1
    have hc := pbestC x M ((w.alloc (.cells #[.slice x.A x.n x.c, .int .i64 (M : Int)] 24)).alloc (.cells #[.int .u8 y1, .int .u8 y2] 43)) hx (by omega) (by omega)
    rw [Vx.out, EB.out, EE.out] at hc
    go_wp2_with fail
    clear eg0 eg1
    clear ea0 ea1
    generalize (w.alloc (.cells #[.slice x.A x.n x.c, .int .i64 (M : Int)] 24)).alloc (.cells #[.int .u8 y1, .int .u8 y2] 43) = W1 at *
    refine hc.mono ?_
    rintro e v2 ⟨rfl, hb⟩
    clear hc
    replace hx := hx.below hb
    replace bg := bg.below hb
    replace ab := ab.below hb
    replace hB := hB.trans (hb.mono hB.size)
    clear hb
    by_cases hn0 : x.n = 0
    · have gn : ((x.n : Int) == 0) = true := by rw [beq_iff_eq]; omega
      have gn2 : (x.n == 0) = true := by rw [beq_iff_eq]; exact hn0
      clear hn0
      have eg0 := bg.c0
      have eg1 := bg.c1
      have ea0 := ab.c0
      have ea1 := ab.c1
      have hc := alive10_any v2
      go_wp2_with fail
      clear eg0 eg1
      clear ea0 ea1
      refine hc.mono ?_
      rintro e v3 ⟨rfl, hb⟩
      clear hc
      replace hx := hx.below hb
      replace bg := bg.below hb
      replace ab := ab.below hb
      replace hB := hB.trans (hb.mono hB.size)
      clear hb
      have eg0 := bg.c0
      have eg1 := bg.c1
      have ea0 := ab.c0
      have ea1 := ab.c1
      go_wp2
      go_ret
      exact ⟨rfl, hB⟩
    · have gn : ((x.n : Int) == 0) = false := by rw [beq_eq_false_iff_ne]; omega
      have gn2 : (x.n == 0) = false := by rw [beq_eq_false_iff_ne]; exact hn0
      have eg0 := bg.c0
      have eg1 := bg.c1
      have ea0 := ab.c0
      have ea1 := ab.c1
      have hc := wmay_any x M v2 hx (by omega) (by omega)
      rw [HB0.out] at hc
      go_wp2_with fail
      clear eg0 eg1
      clear ea0 ea1
      refine hc.mono ?_
      rintro e v3 ⟨rfl, hb⟩
      clear hc
      replace hx := hx.below hb
      replace bg := bg.below hb
      replace ab := ab.below hb
      replace hB := hB.trans (hb.mono hB.size)
      clear hb
      have gM : ((M : Int) == 0) = false := by rw [beq_eq_false_iff_ne]; omega
      have gM2 : (M == 0) = false := by rw [beq_eq_false_iff_ne]; omega
      obtain ⟨i, hi⟩ : ∃ k : Nat, y1 % x.n = k := ⟨_, rfl⟩
      obtain ⟨k, hk⟩ : ∃ k : Nat, y2 % M = k := ⟨_, rfl⟩
      have hin : i < x.n := by rw [← hi]; exact Nat.mod_lt _ (by omega)
      have hkM : k < M := by rw [← hk]; exact Nat.mod_lt _ (by omega)
      have t1 : ((y1 : Int)).tmod (x.n : Int) = (i : Int) := by rw [Int.tmod_eq_emod_of_nonneg (by omega), ← hi]; simp
      have t2 : ((y2 : Int)).tmod (M : Int) = (k : Int) := by rw [Int.tmod_eq_emod_of_nonneg (by omega), ← hk]; simp
      have s1 : IntKind.i64.wrap (y1 : Int) = (y1 : Int) := by rw [IntKind.wrap_i64]; omega
      have s2 : IntKind.i64.wrap (y2 : Int) = (y2 : Int) := by rw [IntKind.wrap_i64]; omega
      have s3 : IntKind.i64.wrap (i : Int) = (i : Int) := by rw [IntKind.wrap_i64]; omega
      have s4 : IntKind.i64.wrap (k : Int) = (k : Int) := by rw [IntKind.wrap_i64]; omega
      have s5 : IntKind.i64.wrap (y3 : Int) = (y3 : Int) := by rw [IntKind.wrap_i64]; omega
      have hin' : (i : Int) < x.n := by omega
      have hi0 : (0 : Int) ≤ i := by omega
      have hk0 : (0 : Int) ≤ k := by omega
      have hil : i < x.g.length := by rw [HGL.out]; exact hin
      have hrow : x.g.getD i [] = x.g[i] := by rw [List.getD_eq_getElem?_getD, List.getElem?_eq_getElem hil]; rfl
      have hrl : (x.g.getD i []).length = M := by rw [hrow]; exact (may_row HB0.out hil).1
      obtain ⟨z, hz⟩ : ∃ z, gG x.g i k = z := ⟨_, rfl⟩
      have hzb := gG_bound HB0.out i k
      rw [hz] at hzb
      have hrz : (x.g.getD i [])[k]? = some z := by rw [← hz, gG, List.getD_eq_getElem?_getD (l := x.g.getD i []), List.getElem?_eq_getElem (by omega)]; rfl
      obtain ⟨v1, hv1⟩ : ∃ v, min 1000000 (z + y3) = v := ⟨_, rfl⟩
      obtain ⟨v2, hv2⟩ : ∃ v, max (-1000000) (z - y3) = v := ⟨_, rfl⟩
      have b1 : z ≤ v1 ∧ -1000000 ≤ v1 ∧ v1 ≤ 1000000 := by omega
      have b2 : v2 ≤ z ∧ -1000000 ≤ v2 ∧ v2 ≤ 1000000 := by omega
      have s6 : IntKind.i64.wrap (z + y3) = z + y3 := by rw [IntKind.wrap_i64]; omega
      have s7 : IntKind.i64.wrap (z - y3) = z - y3 := by rw [IntKind.wrap_i64]; omega
      have mu := setW_may (k := k) HB0.out hil b1.2
      have md := setW_may (k := k) HB0.out hil b2.2
      obtain ⟨au, hau⟩ : ∃ d, bestE (setW x.g i k v1) M = d := ⟨_, rfl⟩
      obtain ⟨ad, had⟩ : ∃ d, bestE (setW x.g i k v2) M = d := ⟨_, rfl⟩
      have e1' : au = bestV (setG (gG x.g) i k v1) M x.n := by rw [← hau, bestE_of mu fun b c _ _ => setW_gG HB0.out hil hkM, setW_len, HGL.out]
      have e2' : ad = bestV (setG (gG x.g) i k v2) M x.n := by rw [← had, bestE_of md fun b c _ _ => setW_gG HB0.out hil hkM, setW_len, HGL.out]
      have ru := best_raised (G := gG x.g) (G' := setG (gG x.g) i k v1) hin hkM (fun b c h => if_neg h) (by rw [setG, if_pos ⟨rfl, rfl⟩, hz]; exact b1.1)
      have rd := best_raised (G := setG (gG x.g) i k v2) (G' := gG x.g) hin hkM (fun b c h => (if_neg h).symm) (by rw [setG, if_pos ⟨rfl, rfl⟩, hz]; exact b2.1)
      rw [← e1', ← BV.out, hz, setG, if_pos ⟨rfl, rfl⟩] at ru
      rw [← e2', ← BV.out, hz, setG, if_pos ⟨rfl, rfl⟩] at rd
      have bu : 0 ≤ au ∧ au ≤ 8000000 := by rw [← hau, (we_ok mu).1]; exact best_bound mu
      have bd : 0 ≤ ad ∧ ad ≤ 8000000 := by rw [← had, (we_ok md).1]; exact best_bound md
      obtain ⟨mz, hmz⟩ : ∃ q, max 0 z = q := ⟨_, rfl⟩
      obtain ⟨m1, hm1'⟩ : ∃ q, max 0 v1 = q := ⟨_, rfl⟩
      obtain ⟨m2, hm2'⟩ : ∃ q, max 0 v2 = q := ⟨_, rfl⟩
      rw [hm1', hmz] at ru
      rw [hm2', hmz] at rd
      have bm : 0 ≤ mz ∧ mz ≤ 1000000 ∧ 0 ≤ m1 ∧ m1 ≤ 1000000 ∧ 0 ≤ m2 ∧ m2 ≤ 1000000 := by omega
      have w1 : IntKind.i64.wrap (a0 + m1) = a0 + m1 := by rw [IntKind.wrap_i64]; omega
      have w2 : IntKind.i64.wrap (a0 + m1 - mz) = a0 + m1 - mz := by rw [IntKind.wrap_i64]; omega
      have w3 : IntKind.i64.wrap (a0 - mz) = a0 - mz := by rw [IntKind.wrap_i64]; omega
      have w4 : IntKind.i64.wrap (a0 - mz + m2) = a0 - mz + m2 := by rw [IntKind.wrap_i64]; omega
      have g1 : decide (a0 ≤ au) = true := decide_eq_true (by omega)
      have g2 : decide (au ≤ a0 + m1 - mz) = true := decide_eq_true (by omega)
      have g3 : decide (ad ≤ a0) = true := decide_eq_true (by omega)
      have g4 : decide (a0 - mz + m2 ≤ ad) = true := decide_eq_true (by omega)
      have HU := Lib.hid hau
      have HD := Lib.hid had
      have FU := Lib.hid (we_ok mu).2.1
      have FD := Lib.hid (we_ok md).2.1
      have HRZ := Lib.hid hrz
      have HRL := Lib.hid hrl
      have HV1 := Lib.hid hv1
      have HV2 := Lib.hid hv2
      have HMZ := Lib.hid hmz
      have HM1 := Lib.hid hm1'
      have HM2 := Lib.hid hm2'
      clear hau had e1' e2' ru rd mu md hi hk hrow hrz hrl hz hmz hm1' hm2' hv1 hv2
      have hxp := hx
      have bgp := bg
      have abp := ab
      have hBp := hB
      have eg0 := bg.c0
      have eg1 := bg.c1
      have ea0 := ab.c0
      have ea1 := ab.c1
      have hc := twin_gr x v3 hx (by omega) (fun u hu => by have := HRW.out u hu; omega)
      rw [Vx.out] at hc
      go_wp2_with fail
      clear eg0 eg1
      clear ea0 ea1
      refine hc.mono ?_
      rintro e v4 ⟨⟨yA5, yn5, yc5, yt5⟩, he, hy5, hyg5, hyn5, hb⟩
      obtain rfl : e = .returned (.slice yA5 yn5 yc5) := he
      have hbt5 := hb
      clear hc
      replace hx := hx.below hb
      replace bg := bg.below hb
      replace ab := ab.below hb
      replace hB := hB.trans (hb.mono hB.size)
      clear hb
      simp only at hyn5
      subst hyn5
      have hO5 := hy5.outs
      simp only at hO5
      have HYG5 := Lib.hid (show Ls.all yt5 = x.g from hyg5)
      clear hy5 hyg5
      obtain ⟨u5, hu5⟩ : ∃ u, yt5[i]? = some u := ⟨_, List.getElem?_eq_getElem (by have := hO5.len; omega)⟩
      have hou := hO5.each u5 (List.mem_of_getElem? hu5)
      have huz : u5.zs = x.g.getD i [] := by
        have h1 : (Ls.all yt5)[i]? = some u5.zs := by rw [Ls.all, List.getElem?_map, hu5]; rfl
        rw [HYG5.out, List.getElem?_eq_getElem hil] at h1
        rw [List.getD_eq_getElem?_getD, List.getElem?_eq_getElem hil]
        exact (Option.some.inj h1).symm
      have hun : u5.n = M := by have h1 := hou.len; rw [huz, HRL.out] at h1; exact h1.symm
      have hkn : k < u5.n := by rw [hun]; exact hkM
      have hkn' : (k : Int) < u5.n := by omega
      obtain ⟨g5, hgA, hgB, _⟩ := hO5.own.lt (by have := hO5.own.le; omega)
      subst hgA
      have hcO := hO5.own.cell (j := i) hin
      rw [List.getElem?_map, hu5] at hcO
      replace hcO : v4.cell? ⟨g5, i, none⟩ = some (.slice u5.A u5.n u5.c) := hcO
      have hule := hou.own.le
      obtain ⟨q5, hA5, hqB, _⟩ := hou.own.lt (by omega)
      have hown2 := hou.own
      rw [hA5] at hown2 hcO
      have hfr := hown2.free (by omega) k
      have hcz : v4.cell? ⟨q5, k, none⟩ = some (.int .i64 z) := by
        rw [hown2.cell hkn, show ci64 u5.zs = u5.zs.map iV from rfl, List.getElem?_map, huz, HRZ.out]; rfl
      have hO5n := hO5.num (z := v1) hu5 hA5 hkn (by omega)
      have HN5 : Hid (Ls.all (yt5.set i ⟨u5.A, u5.n, u5.c, u5.zs.set k v1⟩) = setW x.g i k v1) := Lib.hid (by rw [all_num, HYG5.out, huz]; rfl)
      have hbq := hB.setCell (p := ⟨q5, k, none⟩) (by have := hown2.base (by omega); have := hBp.size; show w.heap.size ≤ q5; omega) (.int .i64 v1)
      have hbs : Below v3.heap.size v3 ((v4.setCell ⟨q5, k, none⟩ (.int .i64 v1)).drew) := (hbt5.setCell (p := ⟨q5, k, none⟩) (hown2.base (by omega)) _).drew
      have cq : ((v4.setCell ⟨q5, k, none⟩ (.int .i64 v1)).drew).cell? ⟨q5, k, none⟩ = some (.int .i64 v1) := World.cell?_setCell_same' v4 ⟨q5, k, none⟩ _ (by rw [hcz]; rfl)
      have hO5d : Outs ((v4.setCell ⟨q5, k, none⟩ (.int .i64 v1)).drew) v3.heap.size (some ⟨g5, 0, none⟩) x.n yc5 (yt5.set i ⟨u5.A, u5.n, u5.c, u5.zs.set k v1⟩) := outs_drew hO5n
      have hgo : ((v4.setCell ⟨q5, k, none⟩ (.int .i64 v1)).drew).cell? ⟨g5, i, none⟩ = some (.slice (some ⟨q5, 0, none⟩) u5.n u5.c) := by
        have h5 := hO5d.own.cell (j := i) hin
        rw [List.getElem?_map, List.getElem?_set, if_pos rfl, if_pos (by have := hO5.len; omega)] at h5
        rw [h5, ← hA5]; rfl
      have hgl5 := hgB
      have HU5 := Lib.hid hun
      clear hou huz hun hule hown2 hbq hO5 hO5n
      go_wp2_with fail
      refine wp_region_ord (S := fun w' => w'.cell? ⟨g5, i, none⟩ = some (.slice (some ⟨q5, 0, none⟩) u5.n u5.c)) [(0, true), (1, true), (2, true), (3, true), (4, true), (5, true), (6, true), (7, true), (8, true), (9, true), (10, true), (12, true), (13, true), (11, false), (14, true), (15, true), (16, true), (17, false)] default (by kernel_rfl) (by kernel_rfl) (by kernel_rfl) hcO ?_
      simp only [getOrd, nth]
      repeat (first | (refine ordS (by rfl) ?_; simp only [Act.put, List.setIfInBounds_toArray, List.set_cons_zero, List.set_cons_succ]) | (refine ordN (by rfl) ?_; simp only [Act.put, List.setIfInBounds_toArray, List.set_cons_zero, List.set_cons_succ]) | (refine ordQ (v := ?_) (by rfl) (fun _ hSw => ?_) ?_; rotate_left; (focus ((have hS1 := hSw); clear hSw; go_simp; (first | done | with_reducible rfl))); simp only [Act.put, List.setIfInBounds_toArray, List.set_cons_zero, List.set_cons_succ]))
      refine ordD (by rfl) ?_
      intro K hK
      go_simp
      refine hK _ _ hcO ?_
      clear hK K
      try simp only [Act.put, List.setIfInBounds_toArray, List.set_cons_zero, List.set_cons_succ]
      repeat (first | (refine ordS (by rfl) ?_; simp only [Act.put, List.setIfInBounds_toArray, List.set_cons_zero, List.set_cons_succ]) | (refine ordN (by rfl) ?_; simp only [Act.put, List.setIfInBounds_toArray, List.set_cons_zero, List.set_cons_succ]) | (refine ordQ (v := ?_) (by rfl) (fun _ hSw => ?_) ?_; rotate_left; (focus ((have hS1 := hSw); clear hSw; go_simp; (first | done | with_reducible rfl))); simp only [Act.put, List.setIfInBounds_toArray, List.set_cons_zero, List.set_cons_succ]))
      try rw [HV1.out]
      refine ordD (by rfl) ?_
      intro K hK
      go_simp
      refine hK _ _ hgo ?_
      clear hK K
      try simp only [Act.put, List.setIfInBounds_toArray, List.set_cons_zero, List.set_cons_succ]
      refine ordE ?_
      clear hcO hfr hcz
      clear hbt5
      generalize (v4.setCell ⟨q5, k, none⟩ (.int .i64 v1)).drew = V5 at *
      clear hx bg ab hB
      have hx := hxp.below hbs
      have bg := bgp.below hbs
      have ab := abp.below hbs
      have hB := hBp.trans (hbs.mono hBp.size)
      clear hbs hxp bgp abp hBp
      have ce5 : Cells2 V5 g5 i (.slice (some ⟨q5, 0, none⟩) u5.n u5.c) q5 k (.int .i64 v1) := ⟨hgo, cq⟩
      clear hgo cq
      have hxp := hx
      have hO5dp := hO5d
      have ce5p := ce5
      have bgp := bg
      have abp := ab
      have hBp := hB
      have eg0 := bg.c0
      have eg1 := bg.c1
      have ea0 := ab.c0
      have ea1 := ab.c1
      have hc := twin_gr x V5 hx (by omega) (fun u hu => by have := HRW.out u hu; omega)
      rw [Vx.out] at hc
      go_wp2_with fail
      clear eg0 eg1
      clear ea0 ea1
      refine hc.mono ?_
      rintro e v6 ⟨⟨yA6, yn6, yc6, yt6⟩, he, hy6, hyg6, hyn6, hb⟩
      obtain rfl : e = .returned (.slice yA6 yn6 yc6) := he
      have hbt6 := hb
      clear hc
      replace hx := hx.below hb
      replace hO5d := hO5d.below hb
      replace ce5 := ce5.below hb
      replace bg := bg.below hb
      replace ab := ab.below hb
      replace hB := hB.trans (hb.mono hB.size)
      clear hb
      simp only at hyn6
      subst hyn6
      have hO6 := hy6.outs
      simp only at hO6
      have HYG6 := Lib.hid (show Ls.all yt6 = x.g from hyg6)
      clear hy6 hyg6
      obtain ⟨u6, hu6⟩ : ∃ u, yt6[i]? = some u := ⟨_, List.getElem?_eq_getElem (by have := hO6.len; omega)⟩
      have hou := hO6.each u6 (List.mem_of_getElem? hu6)
      have huz : u6.zs = x.g.getD i [] := by
        have h1 : (Ls.all yt6)[i]? = some u6.zs := by rw [Ls.all, List.getElem?_map, hu6]; rfl
        rw [HYG6.out, List.getElem?_eq_getElem hil] at h1
        rw [List.getD_eq_getElem?_getD, List.getElem?_eq_getElem hil]
        exact (Option.some.inj h1).symm
      have hun : u6.n = M := by have h1 := hou.len; rw [huz, HRL.out] at h1; exact h1.symm
      have hkn : k < u6.n := by rw [hun]; exact hkM
      have hkn' : (k : Int) < u6.n := by omega
      obtain ⟨g6, hgA, hgB, _⟩ := hO6.own.lt (by have := hO6.own.le; omega)
      subst hgA
      have hcO := hO6.own.cell (j := i) hin
      rw [List.getElem?_map, hu6] at hcO
      replace hcO : v6.cell? ⟨g6, i, none⟩ = some (.slice u6.A u6.n u6.c) := hcO
      have hule := hou.own.le
      obtain ⟨q6, hA6, hqB, _⟩ := hou.own.lt (by omega)
      have hown2 := hou.own
      rw [hA6] at hown2 hcO
      have hfr := hown2.free (by omega) k
      have hcz : v6.cell? ⟨q6, k, none⟩ = some (.int .i64 z) := by
        rw [hown2.cell hkn, show ci64 u6.zs = u6.zs.map iV from rfl, List.getElem?_map, huz, HRZ.out]; rfl
      have hO6n := hO6.num (z := v2) hu6 hA6 hkn (by omega)
      have HN6 : Hid (Ls.all (yt6.set i ⟨u6.A, u6.n, u6.c, u6.zs.set k v2⟩) = setW x.g i k v2) := Lib.hid (by rw [all_num, HYG6.out, huz]; rfl)
      have hbq := hB.setCell (p := ⟨q6, k, none⟩) (by have := hown2.base (by omega); have := hBp.size; show w.heap.size ≤ q6; omega) (.int .i64 v2)
      have hbs : Below V5.heap.size V5 ((v6.setCell ⟨q6, k, none⟩ (.int .i64 v2)).drew) := (hbt6.setCell (p := ⟨q6, k, none⟩) (hown2.base (by omega)) _).drew
      have cq : ((v6.setCell ⟨q6, k, none⟩ (.int .i64 v2)).drew).cell? ⟨q6, k, none⟩ = some (.int .i64 v2) := World.cell?_setCell_same' v6 ⟨q6, k, none⟩ _ (by rw [hcz]; rfl)
      have hO6d : Outs ((v6.setCell ⟨q6, k, none⟩ (.int .i64 v2)).drew) V5.heap.size (some ⟨g6, 0, none⟩) x.n yc6 (yt6.set i ⟨u6.A, u6.n, u6.c, u6.zs.set k v2⟩) := outs_drew hO6n
      have hgo : ((v6.setCell ⟨q6, k, none⟩ (.int .i64 v2)).drew).cell? ⟨g6, i, none⟩ = some (.slice (some ⟨q6, 0, none⟩) u6.n u6.c) := by
        have h5 := hO6d.own.cell (j := i) hin
        rw [List.getElem?_map, List.getElem?_set, if_pos rfl, if_pos (by have := hO6.len; omega)] at h5
        rw [h5, ← hA6]; rfl
      have hgl6 := hgB
      have HU6 := Lib.hid hun
      clear hou huz hun hule hown2 hbq hO6 hO6n
      go_wp2_with fail
      refine wp_region_ord (S := fun w' => w'.cell? ⟨g6, i, none⟩ = some (.slice (some ⟨q6, 0, none⟩) u6.n u6.c)) [(0, true), (1, true), (2, true), (3, true), (4, true), (5, true), (6, true), (7, true), (8, true), (9, true), (10, true), (12, true), (13, true), (11, false), (14, true), (15, true), (16, true), (17, false)] default (by kernel_rfl) (by kernel_rfl) (by kernel_rfl) hcO ?_
      simp only [getOrd, nth]
      repeat (first | (refine ordS (by rfl) ?_; simp only [Act.put, List.setIfInBounds_toArray, List.set_cons_zero, List.set_cons_succ]) | (refine ordN (by rfl) ?_; simp only [Act.put, List.setIfInBounds_toArray, List.set_cons_zero, List.set_cons_succ]) | (refine ordQ (v := ?_) (by rfl) (fun _ hSw => ?_) ?_; rotate_left; (focus ((have hS1 := hSw); clear hSw; go_simp; (first | done | with_reducible rfl))); simp only [Act.put, List.setIfInBounds_toArray, List.set_cons_zero, List.set_cons_succ]))
      refine ordD (by rfl) ?_
      intro K hK
      go_simp
      refine hK _ _ hcO ?_
      clear hK K
      try simp only [Act.put, List.setIfInBounds_toArray, List.set_cons_zero, List.set_cons_succ]
      repeat (first | (refine ordS (by rfl) ?_; simp only [Act.put, List.setIfInBounds_toArray, List.set_cons_zero, List.set_cons_succ]) | (refine ordN (by rfl) ?_; simp only [Act.put, List.setIfInBounds_toArray, List.set_cons_zero, List.set_cons_succ]) | (refine ordQ (v := ?_) (by rfl) (fun _ hSw => ?_) ?_; rotate_left; (focus ((have hS1 := hSw); clear hSw; go_simp; (first | done | with_reducible rfl))); simp only [Act.put, List.setIfInBounds_toArray, List.set_cons_zero, List.set_cons_succ]))
      try rw [HV2.out]
      refine ordD (by rfl) ?_
      intro K hK
      go_simp
      refine hK _ _ hgo ?_
      clear hK K
      try simp only [Act.put, List.setIfInBounds_toArray, List.set_cons_zero, List.set_cons_succ]
      refine ordE ?_
      clear hcO hfr hcz
      clear hbt6
      generalize (v6.setCell ⟨q6, k, none⟩ (.int .i64 v2)).drew = V7 at *
      clear hx hO5d ce5 bg ab hB
      have hx := hxp.below hbs
      have hO5d := hO5dp.below hbs
      have ce5 := ce5p.below hbs
      have bg := bgp.below hbs
      have ab := abp.below hbs
      have hB := hBp.trans (hbs.mono hBp.size)
      clear hbs hxp hO5dp ce5p bgp abp hBp
      have ce6 : Cells2 V7 g6 i (.slice (some ⟨q6, 0, none⟩) u6.n u6.c) q6 k (.int .i64 v2) := ⟨hgo, cq⟩
      clear hgo cq
      have eg0 := bg.c0
      have eg1 := bg.c1
      have ea0 := ab.c0
      have ea1 := ab.c1
      have hc := pbestC ⟨some ⟨g5, 0, none⟩, x.n, yc5, yt5.set i ⟨u5.A, u5.n, u5.c, u5.zs.set k v1⟩⟩ M V7 hO5d.gr (by omega) (by omega)
      rw [show Gr.v ⟨some ⟨g5, 0, none⟩, x.n, yc5, yt5.set i ⟨u5.A, u5.n, u5.c, u5.zs.set k v1⟩⟩ = .slice (some ⟨g5, 0, none⟩) x.n yc5 from rfl, show Gr.g ⟨some ⟨g5, 0, none⟩, x.n, yc5, yt5.set i ⟨u5.A, u5.n, u5.c, u5.zs.set k v1⟩⟩ = setW x.g i k v1 from HN5.out, HU.out, FU.out] at hc
      go_wp2_with fail
      clear eg0 eg1
      clear ea0 ea1
      refine hc.mono ?_
      rintro e v8 ⟨rfl, hb⟩
      clear hc
      replace hx := hx.below hb
      replace hO5d := hO5d.below hb
      replace ce5 := ce5.below hb
      replace hO6d := hO6d.below hb
      replace ce6 := ce6.below hb
      replace bg := bg.below hb
      replace ab := ab.below hb
      replace hB := hB.trans (hb.mono hB.size)
      clear hb
      have eg0 := bg.c0
      have eg1 := bg.c1
      have ea0 := ab.c0
      have ea1 := ab.c1
      have hc := pbestC ⟨some ⟨g6, 0, none⟩, x.n, yc6, yt6.set i ⟨u6.A, u6.n, u6.c, u6.zs.set k v2⟩⟩ M v8 hO6d.gr (by omega) (by omega)
      rw [show Gr.v ⟨some ⟨g6, 0, none⟩, x.n, yc6, yt6.set i ⟨u6.A, u6.n, u6.c, u6.zs.set k v2⟩⟩ = .slice (some ⟨g6, 0, none⟩) x.n yc6 from rfl, show Gr.g ⟨some ⟨g6, 0, none⟩, x.n, yc6, yt6.set i ⟨u6.A, u6.n, u6.c, u6.zs.set k v2⟩⟩ = setW x.g i k v2 from HN6.out, HD.out, FD.out] at hc
      go_wp2_with fail
      clear eg0 eg1
      clear ea0 ea1
      refine hc.mono ?_
      rintro e v9 ⟨rfl, hb⟩
      clear hc
      replace hx := hx.below hb
      replace hO5d := hO5d.below hb
      replace ce5 := ce5.below hb
      replace hO6d := hO6d.below hb
      replace ce6 := ce6.below hb
      replace bg := bg.below hb
      replace ab := ab.below hb
      replace hB := hB.trans (hb.mono hB.size)
      clear hb
      clear hO5d hO6d
      obtain ⟨px, qx, ux, hAx, hgx, hpx, hcx, hkx⟩ := gr_get (A := x.A) (n := x.n) (c := x.c) (t := x.t) hx rfl hin
      have huxz : ux.zs = x.g.getD i [] := hgx.symm
      have huxn : ux.n = M := by have h1 := hkx.len; rw [huxz, HRL.out] at h1; exact h1.symm
      have hkux : k < ux.n := by rw [huxn]; exact hkM
      have hkux' : (k : Int) < ux.n := by omega
      obtain ⟨pz, qz, hAz, hpz, z0, hz0, hcz⟩ := hkx.rd.get hkux
      rw [show ci64 ux.zs = ux.zs.map iV from rfl, List.getElem?_map, huxz, HRZ.out] at hz0
      obtain rfl : iV z = z0 := Option.some.inj hz0
      unfold iV at hcz
      rw [hAz] at hcx
      have HAx := Lib.hid hAx
      have HAz := Lib.hid hAz
      have hu5k : (k : Int) < u5.n := by
        have := hkn'
        have h1 : u5.n = M := HU5.out
        omega
      have hu6k : (k : Int) < u6.n := by
        have h1 : u6.n = M := HU6.out
        omega
      have hmz := HMZ.out
      have hm1 := HM1.out
      have hm2 := HM2.out
      clear hz0 huxz hAx hAz hgx hkx
      have hS : ∀ w', Below v9.heap.size v9 w' → w'.cell? ⟨w.heap.size, 0, none⟩ = some (.slice (some ⟨px, qx, none⟩) x.n x.c) ∧ w'.cell? ⟨px, qx + i, none⟩ = some (.slice (some ⟨pz, qz, none⟩) ux.n ux.c) ∧ w'.cell? ⟨pz, qz + k, none⟩ = some (.int .i64 z) ∧ w'.cell? ⟨g5, i, none⟩ = some (.slice (some ⟨q5, 0, none⟩) u5.n u5.c) ∧ w'.cell? ⟨q5, k, none⟩ = some (.int .i64 v1) ∧ w'.cell? ⟨g6, i, none⟩ = some (.slice (some ⟨q6, 0, none⟩) u6.n u6.c) ∧ w'.cell? ⟨q6, k, none⟩ = some (.int .i64 v2) := fun w' hb => ⟨by have h := (bg.below hb).c0; rw [HAx.out] at h; exact h, (hb.cell (p := ⟨px, qx + i, none⟩) hpx).trans hcx, (hb.cell (p := ⟨pz, qz + k, none⟩) hpz).trans hcz, (ce5.below hb).c0, (ce5.below hb).c1, (ce6.below hb).c0, (ce6.below hb).c1⟩
      go_wp2_with fail
      refine wp_region_ord (S := fun w' => w'.cell? ⟨w.heap.size, 0, none⟩ = some (.slice (some ⟨px, qx, none⟩) x.n x.c) ∧ w'.cell? ⟨px, qx + i, none⟩ = some (.slice (some ⟨pz, qz, none⟩) ux.n ux.c) ∧ w'.cell? ⟨pz, qz + k, none⟩ = some (.int .i64 z) ∧ w'.cell? ⟨g5, i, none⟩ = some (.slice (some ⟨q5, 0, none⟩) u5.n u5.c) ∧ w'.cell? ⟨q5, k, none⟩ = some (.int .i64 v1) ∧ w'.cell? ⟨g6, i, none⟩ = some (.slice (some ⟨q6, 0, none⟩) u6.n u6.c) ∧ w'.cell? ⟨q6, k, none⟩ = some (.int .i64 v2)) [(0, false), (1, true), (2, true), (3, true), (4, true), (5, true), (6, true), (7, true), (8, true), (9, true), (10, true), (11, true), (12, true), (13, true), (14, true), (15, true), (16, true), (17, true), (18, true), (19, true), (20, true), (21, true), (22, true), (23, true), (24, true), (25, true), (26, true), (27, true), (28, true), (29, true), (30, true), (31, true), (32, true), (33, true), (34, true), (35, true), (36, true), (37, true), (38, true), (39, true), (40, true), (41, true), (42, true), (43, true), (44, true), (45, true), (46, true), (47, true), (48, true), (49, true), (50, true), (51, true), (52, true), (53, true), (54, true), (55, true), (56, true), (57, true), (58, true), (59, true), (60, true), (61, true), (62, true), (63, true), (64, true), (65, true), (66, true), (67, true)] default (by kernel_rfl) (by kernel_rfl) (by kernel_rfl) (hS _ ((Below.refl _ v9).drew)) ?_
      simp only [List.append_eq, List.cons_append, List.nil_append, getOrd, nth]
      obtain ⟨q1_0, hu0⟩ : ∃ q1_0, q1_0 = v9.drew := ⟨_, rfl⟩
      have b0 : Below v9.heap.size v9 q1_0 := by rw [hu0]; exact ((Below.refl _ v9).drew)
      rw [← hu0]
      clear hu0
      repeat (first | (refine ordS (by rfl) ?_; simp only [Act.put, List.setIfInBounds_toArray, List.set_cons_zero, List.set_cons_succ]) | (refine ordN (by rfl) ?_; simp only [Act.put, List.setIfInBounds_toArray, List.set_cons_zero, List.set_cons_succ]) | (refine ordQ (v := ?_) (by rfl) (fun _ hSw => ?_) ?_; rotate_left; (focus ((have hS1 := hSw.1); (have hS2 := hSw.2.1); (have hS3 := hSw.2.2.1); (have hS4 := hSw.2.2.2.1); (have hS5 := hSw.2.2.2.2.1); (have hS6 := hSw.2.2.2.2.2.1); (have hS7 := hSw.2.2.2.2.2.2); clear hSw; go_simp; (first | done | with_reducible rfl))); simp only [Act.put, List.setIfInBounds_toArray, List.set_cons_zero, List.set_cons_succ]))
      refine ordD (by rfl) ?_
      intro K hK
      go_simp
      have hc := alive10_any q1_0
      refine hc.mono ?_
      rintro e q1_1 ⟨rfl, hb⟩
      have b1 : Below v9.heap.size v9 q1_1 := b0.trans (hb.mono b0.size)
      go_wp2_with fail
      refine hK _ _ (hS _ b1) ?_
      clear hK K hc hb
      try simp only [Act.put, List.setIfInBounds_toArray, List.set_cons_zero, List.set_cons_succ]
      repeat (first | (refine ordS (by rfl) ?_; simp only [Act.put, List.setIfInBounds_toArray, List.set_cons_zero, List.set_cons_succ]) | (refine ordN (by rfl) ?_; simp only [Act.put, List.setIfInBounds_toArray, List.set_cons_zero, List.set_cons_succ]) | (refine ordQ (v := ?_) (by rfl) (fun _ hSw => ?_) ?_; rotate_left; (focus ((have hS1 := hSw.1); (have hS2 := hSw.2.1); (have hS3 := hSw.2.2.1); (have hS4 := hSw.2.2.2.1); (have hS5 := hSw.2.2.2.2.1); (have hS6 := hSw.2.2.2.2.2.1); (have hS7 := hSw.2.2.2.2.2.2); clear hSw; go_simp; (first | done | with_reducible rfl))); simp only [Act.put, List.setIfInBounds_toArray, List.set_cons_zero, List.set_cons_succ]))
      refine ordE ?_
      replace hx := hx.below b1
      replace bg := bg.below b1
      replace hB := hB.trans (b1.mono hB.size)
      clear hS b0 b1
      go_wp2
      go_ret
      exact ⟨rfl, hB⟩

theorem own : ownKnob Try.prog.godebug = none := by kernel_rfl
theorem laidOut : laidOutB Try.prog = true := by kernel_rfl

set_option maxRecDepth 100000 in
theorem lifted (os : Os) (started : os.Started) (H : Type) (enc : TypeId × Value → H) :
    ReturnsInHanded {} Try.checked os 12 .any (Rows.weightsRaisedSpec.pre6 enc Try.prog Try.f12 Rows.weightsRaisedRow.domain false) (Rows.weightsRaisedSpec.post enc Try.prog Try.f12 false true false false) := by
  refine returnsInHanded_of_change (C := Try.checked) own started (by kernel_rfl) Try.func12
    (ChangeSpec.witness6 (enc := enc) (C := Try.checked) false ⟨#[], #[.agg #[.slice none 0 0, .int .i64 0], .agg #[.int .u8 0, .int .u8 0], .int .u16 0], []⟩ 8 (by kernel_rfl) (by kernel_rfl) (by kernel_rfl) (by kernel_rfl)) ?_
  intro W base args ds gs before hval0 hW hcnd _
  have hval : ∀ (j : Nat) t v, Try.f12.params[j]? = some t → args[j]? = some v → Value.okWide Try.prog W .any base t v := hval0
  have hW' := hW
  obtain ⟨p, q, hA0, hV, rfl, hfz, hnd⟩ := hW
  have hA : DataW.TrodAll enc Try.prog W 0 (fun _ => true) true Try.f12.params.toList args.toList ds p := hA0
  rw [Try.params12] at hA hval
  obtain ⟨v0, vs0, d0, ds0, p0, q0, hargs, rfl, rfl, h0, r0⟩ := trodAll_cons hA
  obtain ⟨v1, vs1, d1, ds1, p1, q1, rfl, rfl, rfl, h1, r1⟩ := trodAll_cons r0
  obtain ⟨v2, vs2, d2, ds2, p2, q2, rfl, rfl, rfl, h2, r2⟩ := trodAll_cons r1
  obtain ⟨rfl, rfl, rfl⟩ := trodAll_nil r2
  obtain rfl : args = #[v0, v1, v2] := by cases args; simp_all
  obtain ⟨u0, m0, rfl, k0, a0, b0⟩ := arg_gr Try.underlying24 (by kernel_rfl) (by kernel_rfl) Try.underlying22 Try.underlying3 Try.underlying28 (by kernel_rfl) Try.underlying3 (by kernel_rfl) (hval 0 24 v0 rfl rfl) h0
  obtain ⟨p1a, p1b, rfl, q1a, q1b⟩ := arg_two Try.underlying43 Try.underlying5 (by kernel_rfl) (by kernel_rfl) (hval 1 43 v1 rfl rfl) h1
  obtain ⟨y1a, rfl, z1a⟩ := fit_u8 q1a
  obtain ⟨y1b, rfl, z1b⟩ := fit_u8 q1b
  obtain ⟨x2, rfl, rfl, rfl, w2⟩ := open_int Try.underlying39 (hval 2 39 v2 rfl rfl) h2
  obtain ⟨y2, rfl, z2⟩ := fit_u16 w2
  have hwalk : Calls Try.prog 12 #[.agg #[u0.v, .int .i64 m0], .agg #[.int .u8 y1a, .int .u8 y1b], .int .u16 y2] W fun e w' => e = .returned (.bool true) ∧ Below W.heap.size W w' := walk u0 m0 y1a y1b y2 W k0 a0 b0 z1a z1b z2
  refine hwalk.mono fun e W' ⟨he, hg⟩ => ?_
  subst he
  exact ⟨_, rfl, law_post laidOut (by kernel_rfl) hW' rfl rfl (by kernel_rfl) Try.underlying4 hg⟩

theorem over : Rows.weightsRaisedRow.holds Try.pinned (OpenSpec.ofChange Rows.weightsRaisedSpec) :=
  OpenClaim.holds_of_wide 12 Try.f12 rfl rfl rfl rfl rfl rfl rfl ⟨rfl, rfl, rfl, rfl, rfl⟩ rfl rfl rfl rfl rfl (by kernel_rfl) Try.func12 (by kernel_rfl)
    (of_decide_eq_true (by kernel_rfl)) (by unfold Func.isWrapper; first | (rw [if_pos (by decide +kernel)]; kernel_rfl) | (rw [if_neg (by decide +kernel)]; exact ⟨rfl, rfl⟩))
    (fun os started H enc _ => lifted os started H enc)

theorem proved : Rows.WeightsRaisedSaid :=
  over

end Go.Proofs.Ytiaoplghaigclaa.weightsRaised
