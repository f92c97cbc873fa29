/-
  Proved: without a bidder no price is higher; an item whose reserve is higher is not cheaper
-/
import Derived.Test.YtdckoaljcklmhaaRows
import Derived.Test.YtdckoaljcklmhaaLift
import Derived.Test.YtdckoaljcklmhaaAlive13
import Derived.Test.YtdckoaljcklmhaaZeros
import Derived.Test.YtdckoaljcklmhaaRiN
import Derived.Test.YtdckoaljcklmhaaReg2
import Derived.Test.YtdckoaljcklmhaaMkS
import Derived.Test.YtdckoaljcklmhaaUp
namespace Go.Proofs.Ytdckoaljcklmhaa.risesUp
open Go.ChangeShapes Go.WideShapes Go.ChangeAt Go.RowKit
set_option linter.unusedVariables false

theorem info6_int : (Try.prog.info? 3).map (fun i => (i.zero, i.size, i.bytes)) = some (some (.int .i64 0), 1, 8) := by kernel_rfl
theorem infoI_ints : (Try.prog.info? 22).map (fun i => (i.zero, i.size, i.bytes)) = some (some (.slice none 0 0), 1, 24) := by kernel_rfl
theorem less_ofE {x : Mk} (hm : x.may = true) {i : Nat} (hi : i < x.n) : x.lessErr (i : Int) = 0 := by
  have h : x.has (i : Int) = true := by rw [Mk.has, hm]; simp; omega
  rw [Mk.lessErr, if_pos h]
theorem less_least {x v : Mk} {i : Nat} (hm : x.may = true) (hi : i < x.n) (hq : v.parts = x.less i) : leastE v = leastL x.r.zs ((Ls.all x.b).set i []) ∧ v.err = 0 ∧ RowsM x.r.zs ((Ls.all x.b).set i []) := by
  have h : x.has (i : Int) = true := by rw [Mk.has, hm]; simp; omega
  rw [Mk.less, if_pos h] at hq
  simp only [Mk.parts, Prod.mk.injEq, Int.toNat_natCast] at hq
  obtain ⟨q1, q2, q3⟩ := hq
  have hm2 : v.may = true := by
    show mayM v.r.zs (Ls.all v.b) v.o.zs = true
    rw [q1, q2, q3]
    exact mayM_less hm i
  have hr := may_rows hm2
  rw [q1, q2] at hr
  refine ⟨?_, by rw [Mk.err, if_pos hm2], hr⟩
  rw [leastE, if_pos hm2, q1, q2]; rfl
theorem set_up {r : List Int} {k : Nat} {z d : Int} (hz : r[k]? = some z) (hd : 0 ≤ d) : LeP r (r.set k (z + d)) := by
  refine ⟨(List.length_set ..).symm, fun c hc => ?_⟩
  rw [List.getD_eq_getElem?_getD, List.getD_eq_getElem?_getD, List.getElem?_set]
  by_cases e : k = c
  · subst e
    rw [if_pos rfl, if_pos hc, hz]
    show z ≤ z + d
    omega
  · rw [if_neg e]; exact Int.le_refl _
theorem getD_of {l : List Int} {k : Nat} {z : Int} (h : l[k]? = some z) : l.getD k 0 = z := by rw [List.getD_eq_getElem?_getD, h]; rfl
/-- The six cells of what came in. -/
structure UpBox (w : World) (g : Nat) (x : Mk) (k1 k2 k3 : Nat) : Prop where
  own : Own w g 47 (some ⟨g, 0, none⟩) 6 6 [.slice x.r.A x.r.n x.r.c, .slice x.A x.n x.c, .slice x.o.A x.o.n x.o.c, .int .u8 k1, .int .u8 k2, .int .u16 k3]
theorem UpBox.c0 {w : World} {g k1 k2 k3 : Nat} {x : Mk} (h : UpBox w g x k1 k2 k3) : w.cell? ⟨g, 0, none⟩ = some (.slice x.r.A x.r.n x.r.c) := h.own.cell (j := 0) (by omega)
theorem UpBox.c1 {w : World} {g k1 k2 k3 : Nat} {x : Mk} (h : UpBox w g x k1 k2 k3) : w.cell? ⟨g, 1, none⟩ = some (.slice x.A x.n x.c) := h.own.cell (j := 1) (by omega)
theorem UpBox.c2 {w : World} {g k1 k2 k3 : Nat} {x : Mk} (h : UpBox w g x k1 k2 k3) : w.cell? ⟨g, 2, none⟩ = some (.slice x.o.A x.o.n x.o.c) := h.own.cell (j := 2) (by omega)
theorem UpBox.c3 {w : World} {g k1 k2 k3 : Nat} {x : Mk} (h : UpBox w g x k1 k2 k3) : w.cell? ⟨g, 3, none⟩ = some (.int .u8 k1) := h.own.cell (j := 3) (by omega)
theorem UpBox.c4 {w : World} {g k1 k2 k3 : Nat} {x : Mk} (h : UpBox w g x k1 k2 k3) : w.cell? ⟨g, 4, none⟩ = some (.int .u8 k2) := h.own.cell (j := 4) (by omega)
theorem UpBox.c5 {w : World} {g k1 k2 k3 : Nat} {x : Mk} (h : UpBox w g x k1 k2 k3) : w.cell? ⟨g, 5, none⟩ = some (.int .u16 k3) := h.own.cell (j := 5) (by omega)
theorem UpBox.new (w : World) (x : Mk) (k1 k2 k3 : Nat) : UpBox (w.alloc (.cells #[.slice x.r.A x.r.n x.r.c, .slice x.A x.n x.c, .slice x.o.A x.o.n x.o.c, .int .u8 k1, .int .u8 k2, .int .u16 k3] 47)) w.heap.size x k1 k2 k3 := ⟨Own.lit w 47 #[.slice x.r.A x.r.n x.r.c, .slice x.A x.n x.c, .slice x.o.A x.o.n x.o.c, .int .u8 k1, .int .u8 k2, .int .u16 k3] 6 (Nat.le_refl _) rfl (by unfold maxLen; omega)⟩
theorem UpBox.below {w w' : World} {g k1 k2 k3 : Nat} {x : Mk} (h : UpBox w g x k1 k2 k3) (hb : Below w.heap.size w w') : UpBox w' g x k1 k2 k3 := ⟨h.own.below hb⟩
theorem inbox_next (w : World) (o : Obj) (x : Mk) : InBox ((w.alloc o).alloc (.cells #[.slice x.r.A x.r.n x.r.c, .slice x.A x.n x.c, .slice x.o.A x.o.n x.o.c] 25)) (w.heap.size + 1) x := by
  have h := InBox.new (w.alloc o) x
  rwa [show (w.alloc o).heap.size = w.heap.size + 1 from Array.size_push ..] at h
theorem own_num {w : World} {B : Nat} {A : Option Addr} {n c i : Nat} {zs : List Int} {z : Int} (h : OwnI w B ⟨A, n, c, zs⟩) (hi : zs[i]? = some z) (hin : i < n) : ∃ g, A = some ⟨g, 0, none⟩ ∧ g < w.heap.size ∧ w.cell? ⟨g, i, none⟩ = some (.int .i64 z) := by
  have hle := h.own.le
  simp only at hle
  obtain ⟨g, hA, _, hg⟩ := h.own.lt (show 0 < c by omega)
  simp only at hA
  subst hA
  have h1 := h.own.cell (j := i) hin
  rw [show ci64 zs = zs.map iV from rfl, List.getElem?_map, hi] at h1
  exact ⟨g, rfl, hg, h1⟩
theorem box_cells {w : World} {B g : Nat} {v0 v1 v2 : Value} (h : Own w B 25 (some ⟨g, 0, none⟩) 3 3 [v0, v1, v2]) : w.cell? ⟨g, 0, none⟩ = some v0 ∧ w.cell? ⟨g, 1, none⟩ = some v1 ∧ w.cell? ⟨g, 2, none⟩ = some v2 := ⟨h.cell (j := 0) (by omega), h.cell (j := 1) (by omega), h.cell (j := 2) (by omega)⟩
theorem all_set (b : List Ls) (i : Nat) (u : Ls) : Ls.all (b.set i u) = (Ls.all b).set i u.zs := by rw [Ls.all, Ls.all, List.map_set]

set_option maxRecDepth 100000 in
set_option maxHeartbeats 1000000 in
theorem walk (x : Mk) (k1 k2 k3 : Nat) (w : World) (h : x.Ok w) (hk1 : k1 < 256) (hk2 : k2 < 256) (hk3 : k3 < 65536) :
    Calls Try.prog 6 #[.agg #[.slice x.r.A x.r.n x.r.c, .slice x.A x.n x.c, .slice x.o.A x.o.n x.o.c, .int .u8 k1, .int .u8 k2, .int .u16 k3]] w fun e w' => e = .returned (.bool true) ∧ Below w.heap.size w w' := by
  have hx := h
  have hB := Below.refl w.heap.size w
  have hxv : x.v = .agg #[.slice x.r.A x.r.n x.r.c, .slice x.A x.n x.c, .slice x.o.A x.o.n x.o.c] := rfl
  have Vx := Lib.hid hxv
  have HBL : Hid ((Ls.all x.b).length = x.n) := Lib.hid (by rw [Ls.all, List.length_map, hx.len])
  have HRL : Hid (x.r.zs.length = x.r.n) := Lib.hid hx.r.len
  have btop := Nat.le_trans hx.cap hx.top
  have rtop := Nat.le_trans hx.r.cap hx.r.top
  unfold maxLen at btop rtop
  obtain ⟨B, hB0⟩ : ∃ B, x.may = B := ⟨_, rfl⟩
  clear hxv h
  go_enter Try.func6, Try.ntmps6
  have bu := UpBox.new w x k1 k2 k3
  have hbx : Below w.heap.size w (w.alloc (.cells #[.slice x.r.A x.r.n x.r.c, .slice x.A x.n x.c, .slice x.o.A x.o.n x.o.c, .int .u8 k1, .int .u8 k2, .int .u16 k3] 47)) := (Below.refl _ w).alloc (Nat.le_refl _) _
  replace hx := hx.below hbx
  replace hB := hB.trans (hbx.mono hB.size)
  clear hbx
  have f0 := bu.c0
  have f1 := bu.c1
  have f2 := bu.c2
  have bx := inbox_next w (.cells #[.slice x.r.A x.r.n x.r.c, .slice x.A x.n x.c, .slice x.o.A x.o.n x.o.c, .int .u8 k1, .int .u8 k2, .int .u16 k3] 47) x
  have hbx : Below (w.alloc (.cells #[.slice x.r.A x.r.n x.r.c, .slice x.A x.n x.c, .slice x.o.A x.o.n x.o.c, .int .u8 k1, .int .u8 k2, .int .u16 k3] 47)).heap.size (w.alloc (.cells #[.slice x.r.A x.r.n x.r.c, .slice x.A x.n x.c, .slice x.o.A x.o.n x.o.c, .int .u8 k1, .int .u8 k2, .int .u16 k3] 47)) ((w.alloc (.cells #[.slice x.r.A x.r.n x.r.c, .slice x.A x.n x.c, .slice x.o.A x.o.n x.o.c, .int .u8 k1, .int .u8 k2, .int .u16 k3] 47)).alloc (.cells #[.slice x.r.A x.r.n x.r.c, .slice x.A x.n x.c, .slice x.o.A x.o.n x.o.c] 25)) := (Below.refl _ (w.alloc (.cells #[.slice x.r.A x.r.n x.r.c, .slice x.A x.n x.c, .slice x.o.A x.o.n x.o.c, .int .u8 k1, .int .u8 k2, .int .u16 k3] 47))).alloc (Nat.le_refl _) _
  replace hx := hx.below hbx
  replace bu := bu.below hbx
  replace hB := hB.trans (hbx.mono hB.size)
  clear hbx
  cases B
  · have E1 := Lib.hid (show leastE x = [] ∧ x.err = 1 by simp [leastE, Mk.err, hB0])
    clear hB0
    have eu0 := bu.c0
    have eu1 := bu.c1
    have eu2 := bu.c2
    have eu3 := bu.c3
    have eu4 := bu.c4
    have eu5 := bu.c5
    have ex0 := bx.c0
    have ex1 := bx.c1
    have ex2 := bx.c2
    have hc := pleastC x ((w.alloc (.cells #[.slice x.r.A x.r.n x.r.c, .slice x.A x.n x.c, .slice x.o.A x.o.n x.o.c, .int .u8 k1, .int .u8 k2, .int .u16 k3] 47)).alloc (.cells #[.slice x.r.A x.r.n x.r.c, .slice x.A x.n x.c, .slice x.o.A x.o.n x.o.c] 25)) hx
    rw [Vx.out, E1.out.1, E1.out.2] at hc
    go_wp2_with fail
    clear eu0 eu1 eu2 eu3 eu4 eu5
    clear ex0 ex1 ex2
    generalize (w.alloc (.cells #[.slice x.r.A x.r.n x.r.c, .slice x.A x.n x.c, .slice x.o.A x.o.n x.o.c, .int .u8 k1, .int .u8 k2, .int .u16 k3] 47)).alloc (.cells #[.slice x.r.A x.r.n x.r.c, .slice x.A x.n x.c, .slice x.o.A x.o.n x.o.c] 25) = W1 at *
    refine hc.mono ?_
    rintro e v2 ⟨A1, n1, c1, rfl, h1, hb⟩
    clear hc
    clear f0 f1 f2
    replace hx := hx.below hb
    replace bu := bu.below hb
    replace bx := bx.below hb
    replace hB := hB.trans (hb.mono hB.size)
    clear hb
    clear h1 hx bx bu
    have hc := alive13_any v2
    go_wp2_with fail
    refine hc.mono ?_
    rintro e v3 ⟨rfl, hb⟩
    clear hc
    replace hB := hB.trans (hb.mono hB.size)
    clear hb
    go_wp2
    go_ret
    exact ⟨rfl, hB⟩
  · have HM := Lib.hid hB0
    obtain ⟨hM8, hM1, hn1, hn8⟩ : x.r.n ≤ 8 ∧ 1 ≤ x.r.n ∧ 1 ≤ x.n ∧ x.n ≤ 8 := ⟨(mk_len hx hB0).1, (mk_len hx hB0).2.1, (mk_len hx hB0).2.2.1, (mk_len hx hB0).2.2.2.1⟩
    have HRZ : Hid (∀ z ∈ x.r.zs, 0 ≤ z ∧ z ≤ 1000000) := Lib.hid (mk_len hx hB0).2.2.2.2.2.2.1
    have HBZ : Hid (∀ u ∈ x.b, ∀ z ∈ u.zs, 0 ≤ z ∧ z ≤ 1000000) := Lib.hid (mk_len hx hB0).2.2.2.2.2.2.2
    have HRO := Lib.hid (may_rows hB0)
    obtain ⟨ll, hll⟩ : ∃ a, leastL x.r.zs (Ls.all x.b) = a := ⟨_, rfl⟩
    have HLL := Lib.hid hll
    have LLN : Hid (ll.length = x.r.n) := Lib.hid (by rw [← hll, leastL_len, HRL.out])
    have EL : Hid (leastE x = ll) := Lib.hid (by rw [leastE, if_pos hB0, hll])
    have EE : Hid (x.err = 0) := Lib.hid (by rw [Mk.err, if_pos hB0])
    clear hB0 hll
    have eu0 := bu.c0
    have eu1 := bu.c1
    have eu2 := bu.c2
    have eu3 := bu.c3
    have eu4 := bu.c4
    have eu5 := bu.c5
    have ex0 := bx.c0
    have ex1 := bx.c1
    have ex2 := bx.c2
    have hc := pleastC x ((w.alloc (.cells #[.slice x.r.A x.r.n x.r.c, .slice x.A x.n x.c, .slice x.o.A x.o.n x.o.c, .int .u8 k1, .int .u8 k2, .int .u16 k3] 47)).alloc (.cells #[.slice x.r.A x.r.n x.r.c, .slice x.A x.n x.c, .slice x.o.A x.o.n x.o.c] 25)) hx
    rw [Vx.out, EL.out, EE.out] at hc
    go_wp2_with fail
    clear eu0 eu1 eu2 eu3 eu4 eu5
    clear ex0 ex1 ex2
    generalize (w.alloc (.cells #[.slice x.r.A x.r.n x.r.c, .slice x.A x.n x.c, .slice x.o.A x.o.n x.o.c, .int .u8 k1, .int .u8 k2, .int .u16 k3] 47)).alloc (.cells #[.slice x.r.A x.r.n x.r.c, .slice x.A x.n x.c, .slice x.o.A x.o.n x.o.c] 25) = W1 at *
    refine hc.mono ?_
    rintro e v2 ⟨A1, n1, c1, rfl, h1, hb⟩
    clear hc
    clear f0 f1 f2
    replace hx := hx.below hb
    replace bu := bu.below hb
    replace bx := bx.below hb
    replace hB := hB.trans (hb.mono hB.size)
    clear hb
    clear bu
    obtain rfl : n1 = x.r.n := by have h5 := h1.len; simp only at h5; rw [LLN.out] at h5; exact h5.symm
    have gn3 : ((x.n : Int) == 0) = false := by rw [beq_eq_false_iff_ne]; omega
    have gn4 : (x.n == 0) = false := by rw [beq_eq_false_iff_ne]; omega
    have gn5 : ((x.r.n : Int) == 0) = false := by rw [beq_eq_false_iff_ne]; omega
    have gn6 : (x.r.n == 0) = false := by rw [beq_eq_false_iff_ne]; omega
    have gn7 : ((x.r.n : Int) != (x.r.n : Int)) = false := by simp
    have gn8 : (x.r.n != x.r.n) = false := by simp
    obtain ⟨i, hi, hii⟩ : ∃ i : Nat, i < x.n ∧ Int.tmod k1 x.n = (i : Int) := ⟨k1 % x.n, Nat.mod_lt _ (by omega), by rw [Int.tmod_eq_emod_of_nonneg (by omega)]; rfl⟩
    obtain ⟨k, hk, hkk⟩ : ∃ k : Nat, k < x.r.n ∧ Int.tmod k2 x.r.n = (k : Int) := ⟨k2 % x.r.n, Nat.mod_lt _ (by omega), by rw [Int.tmod_eq_emod_of_nonneg (by omega)]; rfl⟩
    have s1 : IntKind.i64.wrap (k1 : Int) = k1 := by rw [IntKind.wrap_i64]; omega
    have s2 : IntKind.i64.wrap (k2 : Int) = k2 := by rw [IntKind.wrap_i64]; omega
    have s3 : IntKind.i64.wrap (i : Int) = i := by rw [IntKind.wrap_i64]; omega
    have s4 : IntKind.i64.wrap (k : Int) = k := by rw [IntKind.wrap_i64]; omega
    have E4 := Lib.hid (less_ofE HM.out hi)
    have ex0 := bx.c0
    have ex1 := bx.c1
    have ex2 := bx.c2
    have hc := mwithoutC x i v2 hx (by omega) (by omega)
    rw [E4.out, Vx.out] at hc
    go_wp2_with fail
    clear ex0 ex1 ex2
    refine hc.mono ?_
    rintro e v3 ⟨v, rfl, hv0, hq, hb⟩
    clear hc
    replace hx := hx.below hb
    replace h1 := h1.below hb
    replace bx := bx.below hb
    replace hB := hB.trans (hb.mono hB.size)
    clear hb
    have hv := hv0.ok
    obtain ⟨e1, e2, e3⟩ := less_least HM.out hi hq
    obtain ⟨lq, hlq⟩ : ∃ a, leastL x.r.zs ((Ls.all x.b).set i []) = a := ⟨_, rfl⟩
    have hle := least_le HRO.out e3 (fun q => hall_less)
    rw [hlq, HLL.out] at hle
    rw [hlq] at e1
    have E5 := Lib.hid e1
    have E6 := Lib.hid e2
    have HLE := Lib.hid hle
    have LQN : Hid (lq.length = x.r.n) := Lib.hid (by rw [← LLN.out]; exact hle.1)
    have v_v : v.v = .agg #[.slice v.r.A v.r.n v.r.c, .slice v.A v.n v.c, .slice v.o.A v.o.n v.o.c] := rfl
    have Vv := Lib.hid v_v
    clear v_v hv0 hq e1 e2 e3 hle hlq
    rw [Vv.out]
    have bv := InBox.new v3 v
    have hbx : Below v3.heap.size v3 (v3.alloc (.cells #[.slice v.r.A v.r.n v.r.c, .slice v.A v.n v.c, .slice v.o.A v.o.n v.o.c] 25)) := (Below.refl _ v3).alloc (Nat.le_refl _) _
    replace hx := hx.below hbx
    replace h1 := h1.below hbx
    replace hv := hv.below hbx
    replace bx := bx.below hbx
    replace hB := hB.trans (hbx.mono hB.size)
    clear hbx
    have ex0 := bx.c0
    have ex1 := bx.c1
    have ex2 := bx.c2
    have ev0 := bv.c0
    have ev1 := bv.c1
    have ev2 := bv.c2
    have hc := pleastC v (v3.alloc (.cells #[.slice v.r.A v.r.n v.r.c, .slice v.A v.n v.c, .slice v.o.A v.o.n v.o.c] 25)) hv
    rw [Vv.out, E5.out, E6.out] at hc
    go_wp2_with fail
    clear ex0 ex1 ex2
    clear ev0 ev1 ev2
    generalize v3.alloc (.cells #[.slice v.r.A v.r.n v.r.c, .slice v.A v.n v.c, .slice v.o.A v.o.n v.o.c] 25) = W4 at *
    refine hc.mono ?_
    rintro e v5 ⟨A2, n2, c2, rfl, h2, hb⟩
    clear hc
    replace hx := hx.below hb
    replace h1 := h1.below hb
    replace hv := hv.below hb
    replace bx := bx.below hb
    replace bv := bv.below hb
    replace hB := hB.trans (hb.mono hB.size)
    clear hb
    clear bv hv
    obtain rfl : n2 = x.r.n := by have h5 := h2.len; simp only at h5; rw [LQN.out] at h5; exact h5.symm
    have hbn : ∀ u ∈ x.b, u.n ≤ 1000000000 := fun u hu => by
      rcases (mk_len hx HM.out).2.2.2.2.2.1 u hu with e | e <;> omega
    have hon : x.o.n ≤ 1000000000 := by have := (mk_len hx HM.out).2.2.2.2.1; omega
    have HON : Hid (x.o.n = x.n) := Lib.hid (mk_len hx HM.out).2.2.2.2.1
    have HOL : Hid (x.o.zs.length = x.n) := Lib.hid (by rw [hx.o.len, HON.out])
    have HRM : Hid (∀ u ∈ x.b, u.n = 0 ∨ u.n = x.r.n) := Lib.hid (mk_len hx HM.out).2.2.2.2.2.1
    have hxV := hx
    have hB0 := hB
    have bxV := bx
    have h1V := h1
    have h2V := h2
    have ex0 := bx.c0
    have ex1 := bx.c1
    have ex2 := bx.c2
    have hc := twinmarket_any x v5 hx (by omega) (by omega) hon hbn
    rw [Vx.out] at hc
    go_wp2_with fail
    clear ex0 ex1 ex2
    refine hc.mono ?_
    rintro e v6 ⟨y, rfl, hy, hyr, hyb, hyo, hyn, hb⟩
    clear hc
    have hbV := hb
    replace hx := hx.below hb
    replace h1 := h1.below hb
    replace h2 := h2.below hb
    replace bx := bx.below hb
    replace hB := hB.trans (hb.mono hB.size)
    clear hb
    clear hbn hon
    have hm := hy.mkown
    have HYB := Lib.hid hyb
    have HYO := Lib.hid hyo
    have HYR := Lib.hid hyr
    clear hyr hyb hyo hy
    obtain ⟨⟨Ar, nr, cr, rz⟩, Ab, nb, cb, yb, ⟨Ao, no, co, oz⟩⟩ := y
    simp only at HYR HYB HYO hyn hm
    obtain rfl : rz = x.r.zs := HYR.out
    obtain rfl : oz = x.o.zs := HYO.out
    obtain rfl : nr = x.r.n := by have h5 := hm.r.len; simp only at h5; rw [HRL.out] at h5; exact h5.symm
    obtain rfl : no = x.n := by have h5 := hm.o.len; simp only at h5; rw [HOL.out] at h5; exact h5.symm
    obtain rfl : nb = x.n := hyn
    clear HYR HYO
    have hyv : Mk.v ⟨⟨Ar, x.r.n, cr, x.r.zs⟩, Ab, x.n, cb, yb, ⟨Ao, x.n, co, x.o.zs⟩⟩ = .agg #[.slice Ar x.r.n cr, .slice Ab x.n cb, .slice Ao x.n co] := rfl
    rw [hyv]
    clear hyv
    obtain ⟨g8, hg8⟩ : ∃ g8, g8 = v6.heap.size := ⟨_, rfl⟩
    have hox : Own (v6.alloc (.cells #[.slice Ar x.r.n cr, .slice Ab x.n cb, .slice Ao x.n co] 25)) v5.heap.size 25 (some ⟨v6.heap.size, 0, none⟩) 3 3 [.slice Ar x.r.n cr, .slice Ab x.n cb, .slice Ao x.n co] := Own.lit v6 25 #[.slice Ar x.r.n cr, .slice Ab x.n cb, .slice Ao x.n co] 3 hbV.size rfl (by unfold maxLen; omega)
    have hbl : Below v6.heap.size v6 (v6.alloc (.cells #[.slice Ar x.r.n cr, .slice Ab x.n cb, .slice Ao x.n co] 25)) := (Below.refl _ v6).alloc (Nat.le_refl _) _
    replace hm := hm.below hbl
    replace hbV := hbV.trans (hbl.mono hbV.size)
    clear hbl hx bx h1 h2
    go_wp2_with fail
    generalize v6.alloc (.cells #[.slice Ar x.r.n cr, .slice Ab x.n cb, .slice Ao x.n co] 25) = W8 at *
    rw [← hg8] at hox ⊢
    clear hg8
    obtain ⟨d, hd, hdd⟩ : ∃ d : Nat, d < 100 ∧ Int.tmod k3 100 = (d : Int) := ⟨k3 % 100, Nat.mod_lt _ (by omega), by rw [Int.tmod_eq_emod_of_nonneg (by omega)]; rfl⟩
    have hdd2 : (k3 : Int) % 100 = (d : Int) := by rw [← hdd, Int.tmod_eq_emod_of_nonneg (by omega)]
    have s5 : IntKind.i64.wrap (k3 : Int) = k3 := by rw [IntKind.wrap_i64]; omega
    have s6 : IntKind.i64.wrap (d : Int) = d := by rw [IntKind.wrap_i64]; omega
    have hk' : (k : Int) < x.r.n := by omega
    have hk0' : (0 : Int) ≤ k := by omega
    have hkl : k < x.r.zs.length := by rw [HRL.out]; exact hk
    obtain ⟨z, hz⟩ : ∃ z, x.r.zs[k]? = some z := ⟨_, List.getElem?_eq_getElem hkl⟩
    have hzb := HRZ.out z (List.mem_of_getElem? hz)
    have HZ := Lib.hid hz
    have sz : IntKind.i64.wrap (z + (d : Int)) = z + (d : Int) := by rw [IntKind.wrap_i64]; omega
    obtain ⟨wd, hwd⟩ : ∃ wd, wd = W8.drew := ⟨_, rfl⟩
    have hbd : Below W8.heap.size W8 wd := by rw [hwd]; exact (Below.refl W8.heap.size W8).drew
    have hmd := hm.below hbd
    have hoxd := hox.below hbd
    have hbVd := hbV.trans (hbd.mono hbV.size)
    obtain ⟨gr, rfl, hgr, hcz⟩ := own_num hmd.r hz hk
    have hle := hmd.r.own.le
    have hown : Own wd v5.heap.size 3 (some ⟨gr, 0, none⟩) x.r.n cr _ := hmd.r.own
    have hc0 : 0 < cr := by simp only at hle; omega
    have hfrz := hown.free hc0 k
    have hm2 := hmd.setR (g := gr) (k := k) (z := z + (d : Int)) rfl hk (by omega)
    simp only at hm2
    have hox2 := hoxd.setO hown hc0 (by decide) k (.int .i64 (z + (d : Int)))
    have hgB : v5.heap.size ≤ gr := by
      obtain ⟨g', hA', hB', _⟩ := hown.lt hc0
      cases hA'; exact hB'
    have hb2 := hbVd.setCell (p := ⟨gr, k, none⟩) hgB (.int .i64 (z + (d : Int)))
    obtain ⟨d0, _, _⟩ := box_cells hoxd
    obtain ⟨c0, _, _⟩ := box_cells hox2
    clear hm hox hbV hz hmd hoxd hbVd hkl hown hle
    go_wp2_with fail
    refine wp_region_ord (S := fun w' => w'.cell? ⟨g8, 0, none⟩ = some (.slice (some ⟨gr, 0, none⟩) x.r.n cr)) [(0, true), (1, true), (2, true), (3, true), (4, true), (5, true), (6, true), (8, true), (9, true), (10, true), (7, false), (11, true), (12, true), (13, false)] default (by kernel_rfl) (by kernel_rfl) (by kernel_rfl) (by rw [← hwd]; exact d0) ?_
    simp only [getOrd, nth]
    rw [← hwd]
    clear hwd hbd
    repeat (first | (refine ordS (by rfl) ?_; simp only [Act.put, List.setIfInBounds_toArray, List.set_cons_zero, List.set_cons_succ]) | (refine ordN (by rfl) ?_; simp only [Act.put, List.setIfInBounds_toArray, List.set_cons_zero, List.set_cons_succ]) | (refine ordQ (v := ?_) (by rfl) (fun _ hSw => ?_) ?_; rotate_left; (focus ((have hS1 := hSw); clear hSw; go_simp; (first | done | with_reducible rfl))); simp only [Act.put, List.setIfInBounds_toArray, List.set_cons_zero, List.set_cons_succ]))
    refine ordD (by rfl) ?_
    intro K hK
    go_simp
    refine hK _ _ d0 ?_
    clear hK K
    try simp only [Act.put, List.setIfInBounds_toArray, List.set_cons_zero, List.set_cons_succ]
    repeat (first | (refine ordS (by rfl) ?_; simp only [Act.put, List.setIfInBounds_toArray, List.set_cons_zero, List.set_cons_succ]) | (refine ordN (by rfl) ?_; simp only [Act.put, List.setIfInBounds_toArray, List.set_cons_zero, List.set_cons_succ]) | (refine ordQ (v := ?_) (by rfl) (fun _ hSw => ?_) ?_; rotate_left; (focus ((have hS1 := hSw); clear hSw; go_simp; (first | done | with_reducible rfl))); simp only [Act.put, List.setIfInBounds_toArray, List.set_cons_zero, List.set_cons_succ]))
    refine ordD (by rfl) ?_
    intro K hK
    go_simp
    refine hK _ _ c0 ?_
    clear hK K
    try simp only [Act.put, List.setIfInBounds_toArray, List.set_cons_zero, List.set_cons_succ]
    refine ordE ?_
    clear c0 d0 hcz hfrz
    obtain ⟨w9, hw9⟩ : ∃ w9, w9 = wd.setCell ⟨gr, k, none⟩ (.int .i64 (z + (d : Int))) := ⟨_, rfl⟩
    rw [← hw9] at hm2 hox2 hb2 ⊢
    clear hw9
    have h1 := h1V.below hb2
    have h2 := h2V.below hb2
    have hB := hB0.trans (hb2.mono hB0.size)
    obtain ⟨e0, e1, e2⟩ := box_cells hox2
    have hyk := hm2.ok
    have HUP := Lib.hid (set_up HZ.out (show (0 : Int) ≤ d by omega))
    clear hm2 hxV bxV h1V h2V hB0 hb2
    obtain ⟨B2, hB2⟩ : ∃ B2, Mk.may ⟨⟨some ⟨gr, 0, none⟩, x.r.n, cr, (x.r.zs.set k (z + (d : Int)))⟩, Ab, x.n, cb, yb, ⟨Ao, x.n, co, x.o.zs⟩⟩ = B2 := ⟨_, rfl⟩
    have hc := pleastC ⟨⟨some ⟨gr, 0, none⟩, x.r.n, cr, (x.r.zs.set k (z + (d : Int)))⟩, Ab, x.n, cb, yb, ⟨Ao, x.n, co, x.o.zs⟩⟩ w9 hyk
    rw [show Mk.v ⟨⟨some ⟨gr, 0, none⟩, x.r.n, cr, (x.r.zs.set k (z + (d : Int)))⟩, Ab, x.n, cb, yb, ⟨Ao, x.n, co, x.o.zs⟩⟩ = .agg #[.slice (some ⟨gr, 0, none⟩) x.r.n cr, .slice Ab x.n cb, .slice Ao x.n co] from rfl] at hc
    cases B2
    · rw [show leastE ⟨⟨some ⟨gr, 0, none⟩, x.r.n, cr, (x.r.zs.set k (z + (d : Int)))⟩, Ab, x.n, cb, yb, ⟨Ao, x.n, co, x.o.zs⟩⟩ = [] by rw [leastE, hB2]; rfl, show Mk.err ⟨⟨some ⟨gr, 0, none⟩, x.r.n, cr, (x.r.zs.set k (z + (d : Int)))⟩, Ab, x.n, cb, yb, ⟨Ao, x.n, co, x.o.zs⟩⟩ = 1 by rw [Mk.err, hB2]; rfl] at hc
      go_wp2_with fail
      refine hc.mono ?_
      rintro e v99 ⟨A3, n3, c3, rfl, h3, hb⟩
      clear hc e0 e1 e2 h3 hyk hox2
      replace h1 := h1.below hb
      replace h2 := h2.below hb
      replace hB := hB.trans (hb.mono hB.size)
      clear hb
      go_wp2_with fail
      go_loopw [18] (fun v wr => ∃ j : Nat, j ≤ x.r.n ∧ v = .int .i64 j ∧ Below v99.heap.size v99 wr) (fun v _ => x.r.n - (intOf v).toNat)
      case atStart => exact ⟨0, Nat.zero_le _, rfl, Below.refl _ _⟩
      case round =>
        obtain ⟨j, hj, rfl, hbel⟩ := hrel
        by_cases hlt : j < x.r.n
        · have hlt' : (j : Int) < x.r.n := by omega
          have hj0 : (0 : Int) ≤ j := by omega
          obtain ⟨zs, hzs⟩ : ∃ z, lq[j]? = some z := ⟨_, List.getElem?_eq_getElem (by rw [LQN.out]; exact hlt)⟩
          obtain ⟨ze, hze⟩ : ∃ z, ll[j]? = some z := ⟨_, List.getElem?_eq_getElem (by rw [LLN.out]; exact hlt)⟩
          have hle1 := HLE.out.2 j (by rw [LQN.out]; exact hlt)
          rw [getD_of hzs, getD_of hze] at hle1
          have ga : decide (ze < zs) = false := decide_eq_false (by omega)
          obtain ⟨g1, rfl, hg1, hc1⟩ := own_num h1 hze hlt
          obtain ⟨g2, rfl, hg2, hc2⟩ := own_num h2 hzs hlt
          have hS : ∀ w', Below v99.heap.size v99 w' → w'.cell? ⟨g2, j, none⟩ = some (.int .i64 zs) ∧ w'.cell? ⟨g1, j, none⟩ = some (.int .i64 ze) := fun w' hb => ⟨(hb.cell (p := ⟨g2, j, none⟩) hg2).trans hc2, (hb.cell (p := ⟨g1, j, none⟩) hg1).trans hc1⟩
          clear hzs hze hle1 hc1 hc2
          go_wp2_with fail
          refine wp_region_ord (S := fun w' => w'.cell? ⟨g2, j, none⟩ = some (.int .i64 zs) ∧ w'.cell? ⟨g1, j, none⟩ = some (.int .i64 ze)) [(0, true), (1, true), (2, true), (3, true), (4, true), (5, true), (6, true), (7, true), (8, true), (9, true), (10, true), (11, true), (12, true), (13, true), (14, true), (15, true), (16, true), (17, true), (18, true), (19, true), (20, true), (21, true), (22, true), (23, true), (24, true), (25, true), (26, true), (27, true), (28, true), (29, true), (30, true), (31, true), (32, true), (33, true), (34, true), (35, true)] default (by kernel_rfl) (by kernel_rfl) (by kernel_rfl) (hS _ hbel.drew) ?_
          simp only [getOrd, nth]
          repeat (first | (refine ordS (by rfl) ?_; simp only [Act.put, List.setIfInBounds_toArray, List.set_cons_zero, List.set_cons_succ]) | (refine ordN (by rfl) ?_; simp only [Act.put, List.setIfInBounds_toArray, List.set_cons_zero, List.set_cons_succ]) | (refine ordQ (v := ?_) (by rfl) (fun _ hSw => ?_) ?_; rotate_left; (focus ((have hS1 := hSw.1); (have hS2 := hSw.2); clear hSw; go_simp; (first | done | with_reducible rfl))); simp only [Act.put, List.setIfInBounds_toArray, List.set_cons_zero, List.set_cons_succ]))
          refine ordE ?_
          have hbe := hbel.drew
          clear hS hbel
          go_wp2
          go_roundw
          case rel => exact ⟨j + 1, by omega, by go_num, hbe⟩
          case measure => simp [intOf]; omega
        · obtain rfl : j = x.r.n := by omega
          have hc := alive13_any wr
          go_wp2_with fail
          refine hc.mono ?_
          rintro e w10 ⟨rfl, hb⟩
          have hB9 := (hB.trans (hbel.mono hB.size)).trans (hb.mono (Nat.le_trans hB.size hbel.size))
          go_wp2
          go_ret
          exact ⟨rfl, hB9⟩
    · obtain ⟨ul, hul⟩ : ∃ a, leastL (x.r.zs.set k (z + (d : Int))) (Ls.all x.b) = a := ⟨_, rfl⟩
      have hr2 := may_rows hB2
      simp only at hr2
      rw [HYB.out] at hr2
      have hup := least_up HRO.out hr2 HUP.out
      rw [HLL.out, hul] at hup
      have HUE := Lib.hid hup
      have ULN : Hid (ul.length = x.r.n) := Lib.hid (by rw [← LLN.out]; exact hup.1.symm)
      have HL2 : Hid (leastE ⟨⟨some ⟨gr, 0, none⟩, x.r.n, cr, (x.r.zs.set k (z + (d : Int)))⟩, Ab, x.n, cb, yb, ⟨Ao, x.n, co, x.o.zs⟩⟩ = ul) := Lib.hid (by
        rw [leastE, if_pos hB2, ← hul]
        show leastL (x.r.zs.set k (z + (d : Int))) (Ls.all yb) = _
        rw [HYB.out])
      rw [HL2.out, show Mk.err ⟨⟨some ⟨gr, 0, none⟩, x.r.n, cr, (x.r.zs.set k (z + (d : Int)))⟩, Ab, x.n, cb, yb, ⟨Ao, x.n, co, x.o.zs⟩⟩ = 0 by rw [Mk.err, hB2]; rfl] at hc
      clear hr2 hup hul
      go_wp2_with fail
      refine hc.mono ?_
      rintro e v99 ⟨A3, n3, c3, rfl, h3, hb⟩
      clear hc e0 e1 e2 hyk HL2 hB2 hox2
      replace h1 := h1.below hb
      replace h2 := h2.below hb
      replace hB := hB.trans (hb.mono hB.size)
      clear hb
      obtain rfl : n3 = x.r.n := by have h5 := h3.len; simp only at h5; rw [ULN.out] at h5; exact h5.symm
      go_wp2_with fail
      go_loopw [18] (fun v wr => ∃ j : Nat, j ≤ x.r.n ∧ v = .int .i64 j ∧ Below v99.heap.size v99 wr) (fun v _ => x.r.n - (intOf v).toNat)
      case atStart => exact ⟨0, Nat.zero_le _, rfl, Below.refl _ _⟩
      case round =>
        obtain ⟨j, hj, rfl, hbel⟩ := hrel
        by_cases hlt : j < x.r.n
        · have hlt' : (j : Int) < x.r.n := by omega
          have hj0 : (0 : Int) ≤ j := by omega
          obtain ⟨zs, hzs⟩ : ∃ z, lq[j]? = some z := ⟨_, List.getElem?_eq_getElem (by rw [LQN.out]; exact hlt)⟩
          obtain ⟨ze, hze⟩ : ∃ z, ll[j]? = some z := ⟨_, List.getElem?_eq_getElem (by rw [LLN.out]; exact hlt)⟩
          have hle1 := HLE.out.2 j (by rw [LQN.out]; exact hlt)
          rw [getD_of hzs, getD_of hze] at hle1
          have ga : decide (ze < zs) = false := decide_eq_false (by omega)
          obtain ⟨g1, rfl, hg1, hc1⟩ := own_num h1 hze hlt
          obtain ⟨g2, rfl, hg2, hc2⟩ := own_num h2 hzs hlt
          obtain ⟨zu, hzu⟩ : ∃ z, ul[j]? = some z := ⟨_, List.getElem?_eq_getElem (by rw [ULN.out]; exact hlt)⟩
          have hle2 := HUE.out.2 j (by rw [LLN.out]; exact hlt)
          rw [getD_of hze, getD_of hzu] at hle2
          have gb : decide (zu < ze) = false := decide_eq_false (by omega)
          obtain ⟨g3, rfl, hg3, hc3⟩ := own_num h3 hzu hlt
          obtain ⟨β, hβ⟩ : ∃ β, ((j : Int) == (k : Int)) = β := ⟨_, rfl⟩
          clear hzu hle2
          have hS : ∀ w', Below v99.heap.size v99 w' → w'.cell? ⟨g2, j, none⟩ = some (.int .i64 zs) ∧ w'.cell? ⟨g1, j, none⟩ = some (.int .i64 ze) ∧ w'.cell? ⟨g3, j, none⟩ = some (.int .i64 zu) := fun w' hb => ⟨(hb.cell (p := ⟨g2, j, none⟩) hg2).trans hc2, (hb.cell (p := ⟨g1, j, none⟩) hg1).trans hc1, (hb.cell (p := ⟨g3, j, none⟩) hg3).trans hc3⟩
          clear hzs hze hle1 hc1 hc2 hc3
          cases β
          · go_wp2_with fail
            refine wp_region_ord (S := fun w' => w'.cell? ⟨g2, j, none⟩ = some (.int .i64 zs) ∧ w'.cell? ⟨g1, j, none⟩ = some (.int .i64 ze) ∧ w'.cell? ⟨g3, j, none⟩ = some (.int .i64 zu)) [(0, true), (1, true), (2, true), (3, true), (4, true), (5, true), (6, true), (7, true), (8, true), (9, true), (10, true), (11, true), (12, true), (13, true), (14, true), (15, true), (16, true), (17, true), (18, true), (19, true), (20, true), (21, true), (22, true), (23, true), (24, true), (25, true), (26, true), (27, true), (28, true), (29, true), (30, true), (31, true), (32, true), (33, true), (34, true), (35, true)] default (by kernel_rfl) (by kernel_rfl) (by kernel_rfl) (hS _ hbel.drew) ?_
            simp only [getOrd, nth]
            repeat (first | (refine ordS (by rfl) ?_; simp only [Act.put, List.setIfInBounds_toArray, List.set_cons_zero, List.set_cons_succ]) | (refine ordN (by rfl) ?_; simp only [Act.put, List.setIfInBounds_toArray, List.set_cons_zero, List.set_cons_succ]) | (refine ordQ (v := ?_) (by rfl) (fun _ hSw => ?_) ?_; rotate_left; (focus ((have hS1 := hSw.1); (have hS2 := hSw.2.1); (have hS3 := hSw.2.2); clear hSw; go_simp; (first | done | with_reducible rfl))); simp only [Act.put, List.setIfInBounds_toArray, List.set_cons_zero, List.set_cons_succ]))
            refine ordE ?_
            have hbe := hbel.drew
            clear hS hbel
            go_wp2
            go_roundw
            case rel => exact ⟨j + 1, by omega, by go_num, hbe⟩
            case measure => simp [intOf]; omega
          · go_wp2_with fail
            refine wp_region_ord (S := fun w' => w'.cell? ⟨g2, j, none⟩ = some (.int .i64 zs) ∧ w'.cell? ⟨g1, j, none⟩ = some (.int .i64 ze) ∧ w'.cell? ⟨g3, j, none⟩ = some (.int .i64 zu)) [(0, true), (1, true), (2, true), (3, true), (4, true), (5, true), (6, true), (7, true), (8, true), (9, true), (10, true), (11, true), (12, true), (13, true), (14, true), (15, true), (16, true), (17, true), (18, true), (19, true), (20, true), (21, true), (22, true), (23, true), (24, true), (25, true), (26, true), (27, true), (28, true), (29, true), (30, true), (31, true), (32, true), (33, true), (34, true), (35, true)] default (by kernel_rfl) (by kernel_rfl) (by kernel_rfl) (hS _ hbel.drew) ?_
            simp only [getOrd, nth]
            repeat (first | (refine ordS (by rfl) ?_; simp only [Act.put, List.setIfInBounds_toArray, List.set_cons_zero, List.set_cons_succ]) | (refine ordN (by rfl) ?_; simp only [Act.put, List.setIfInBounds_toArray, List.set_cons_zero, List.set_cons_succ]) | (refine ordQ (v := ?_) (by rfl) (fun _ hSw => ?_) ?_; rotate_left; (focus ((have hS1 := hSw.1); (have hS2 := hSw.2.1); (have hS3 := hSw.2.2); clear hSw; go_simp; (first | done | with_reducible rfl))); simp only [Act.put, List.setIfInBounds_toArray, List.set_cons_zero, List.set_cons_succ]))
            refine ordE ?_
            have hbe := hbel.drew
            clear hS hbel
            go_wp2
            go_roundw
            case rel => exact ⟨j + 1, by omega, by go_num, hbe⟩
            case measure => simp [intOf]; omega
        · obtain rfl : j = x.r.n := by omega
          have hc := alive13_any wr
          go_wp2_with fail
          refine hc.mono ?_
          rintro e w10 ⟨rfl, hb⟩
          have hB9 := (hB.trans (hbel.mono hB.size)).trans (hb.mono (Nat.le_trans hB.size hbel.size))
          go_wp2
          go_ret
          exact ⟨rfl, hB9⟩

theorem own : ownKnob Try.prog.godebug = none := by kernel_rfl
theorem laidOut : laidOutB Try.prog = true := by kernel_rfl

set_option maxRecDepth 100000 in
theorem lifted (os : Os) (started : os.Started) (H : Type) (enc : TypeId × Value → H) :
    ReturnsInHanded {} Try.checked os 6 .any (Rows.risesUpSpec.pre6 enc Try.prog Try.f6 Rows.risesUpRow.domain false) (Rows.risesUpSpec.post enc Try.prog Try.f6 false true false false) := by
  refine returnsInHanded_of_change (C := Try.checked) own started (by kernel_rfl) Try.func6
    (ChangeSpec.witness6 (enc := enc) (C := Try.checked) false ⟨#[], #[.agg #[.slice none 0 0, .slice none 0 0, .slice none 0 0, .int .u8 0, .int .u8 0, .int .u16 0]], []⟩ 8 (by kernel_rfl) (by kernel_rfl) (by kernel_rfl) (by kernel_rfl)) ?_
  intro W base args ds gs before hval0 hW hcnd _
  have hval : ∀ (j : Nat) t v, Try.f6.params[j]? = some t → args[j]? = some v → Value.okWide Try.prog W .any base t v := hval0
  have hW' := hW
  obtain ⟨p, q, hA0, hV, rfl, hfz, hnd⟩ := hW
  have hA : DataW.TrodAll enc Try.prog W 0 (fun _ => true) true Try.f6.params.toList args.toList ds p := hA0
  rw [Try.params6] at hA hval
  obtain ⟨v0, vs0, d0, ds0, p0, q0, hargs, rfl, rfl, h0, r0⟩ := trodAll_cons hA
  obtain ⟨rfl, rfl, rfl⟩ := trodAll_nil r0
  obtain rfl : args = #[v0] := by cases args; simp_all
  obtain ⟨u0, ya0, yb0, yc0, rfl, k0, za0, zb0, zc0⟩ := arg_up Try.underlying47 (by kernel_rfl) (by kernel_rfl) (by kernel_rfl) (by kernel_rfl) (by kernel_rfl) (by kernel_rfl) (by kernel_rfl) (by kernel_rfl) Try.underlying5 Try.underlying5 Try.underlying45 Try.underlying25 (by kernel_rfl) (by kernel_rfl) Try.underlying22 Try.underlying23 Try.underlying22 Try.underlying22 (by kernel_rfl) Try.underlying3 (by kernel_rfl) (hval 0 47 v0 rfl rfl) h0
  have hwalk : Calls Try.prog 6 #[.agg #[.slice u0.r.A u0.r.n u0.r.c, .slice u0.A u0.n u0.c, .slice u0.o.A u0.o.n u0.o.c, .int .u8 ya0, .int .u8 yb0, .int .u16 yc0]] W fun e w' => e = .returned (.bool true) ∧ Below W.heap.size W w' := walk u0 ya0 yb0 yc0 W k0 za0 zb0 zc0
  refine hwalk.mono fun e W' ⟨he, hg⟩ => ?_
  subst he
  exact ⟨_, rfl, law_post laidOut (by kernel_rfl) hW' rfl rfl (by kernel_rfl) Try.underlying4 hg⟩

theorem over : Rows.risesUpRow.holds Try.pinned (OpenSpec.ofChange Rows.risesUpSpec) :=
  OpenClaim.holds_of_wide 6 Try.f6 rfl rfl rfl rfl rfl rfl rfl ⟨rfl, rfl, rfl, rfl, rfl⟩ rfl rfl rfl rfl rfl (by kernel_rfl) Try.func6 (by kernel_rfl)
    (of_decide_eq_true (by kernel_rfl)) (by unfold Func.isWrapper; first | (rw [if_pos (by decide +kernel)]; kernel_rfl) | (rw [if_neg (by decide +kernel)]; exact ⟨rfl, rfl⟩))
    (fun os started H enc _ => lifted os started H enc)

theorem proved : Rows.RisesUpSaid :=
  over

end Go.Proofs.Ytdckoaljcklmhaa.risesUp
