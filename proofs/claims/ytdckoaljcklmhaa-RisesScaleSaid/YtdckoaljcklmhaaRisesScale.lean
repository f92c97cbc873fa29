/-
  Proved: Where all numbers of a market are so many times as great, so are all prices (any market, 1 to 9 times).
-/
import Derived.Test.YtdckoaljcklmhaaRows
import Derived.Test.YtdckoaljcklmhaaLift
import Derived.Test.YtdckoaljcklmhaaAlive13
import Derived.Test.YtdckoaljcklmhaaZeros
import Derived.Test.YtdckoaljcklmhaaRiM
import Derived.Test.YtdckoaljcklmhaaReg2
import Derived.Test.YtdckoaljcklmhaaMkS
namespace Go.Proofs.Ytdckoaljcklmhaa.risesScale
open Go.ChangeShapes Go.WideShapes Go.ChangeAt Go.RowKit
set_option linter.unusedVariables false

theorem info6_int : (Try.prog.info? 3).map (fun i => (i.zero, i.size, i.bytes)) = some (some (.int .i64 0), 1, 8) := by kernel_rfl
/-- The first ones turned. -/
def partTo {α : Type} (F : α → α) (l : List α) (j : Nat) : List α := (l.take j).map F ++ l.drop j
theorem part_zero {α : Type} (F : α → α) (l : List α) : partTo F l 0 = l := by simp [partTo]
theorem part_all {α : Type} (F : α → α) {l : List α} {j : Nat} (h : l.length ≤ j) : partTo F l j = l.map F := by
  rw [partTo, List.take_of_length_le h, List.drop_of_length_le h, List.append_nil]
theorem part_get {α : Type} (F : α → α) {l : List α} {j : Nat} : (partTo F l j)[j]? = l[j]? := by
  by_cases h : j < l.length
  · rw [partTo, List.getElem?_append_right (by simp; omega), List.getElem?_drop]
    congr 1
    simp; omega
  · rw [part_all F (by omega), List.getElem?_eq_none (by simp; omega), List.getElem?_eq_none (by omega)]
theorem part_set {α : Type} (F : α → α) {l : List α} {j : Nat} {x : α} (h : l[j]? = some x) : (partTo F l j).set j (F x) = partTo F l (j + 1) := by
  obtain ⟨hj, rfl⟩ := List.getElem?_eq_some_iff.1 h
  have e : j - ((l.take j).map F).length = 0 := by simp; omega
  rw [partTo, partTo, List.take_succ_eq_append_getElem hj, List.map_append, List.set_append_right _ _ (by simp; omega), e, List.drop_eq_getElem_cons hj, List.set_cons_zero, List.map_cons, List.map_nil, List.append_assoc]; rfl
theorem times_bound {f : Nat} {z : Int} (hf : f ≤ 9) (h : 0 ≤ z ∧ z ≤ 1000000) : 0 ≤ (f : Int) * z ∧ (f : Int) * z ≤ 9000000 := by
  have : f = 0 ∨ f = 1 ∨ f = 2 ∨ f = 3 ∨ f = 4 ∨ f = 5 ∨ f = 6 ∨ f = 7 ∨ f = 8 ∨ f = 9 := by omega
  rcases this with rfl | rfl | rfl | rfl | rfl | rfl | rfl | rfl | rfl | rfl <;> omega
theorem own_num {w : World} {B : Nat} {A : Option Addr} {n c i : Nat} {zs : List Int} {z : Int} (h : OwnI w B ⟨A, n, c, zs⟩) (hi : zs[i]? = some z) (hin : i < n) : ∃ g, A = some ⟨g, 0, none⟩ ∧ g < w.heap.size ∧ w.cell? ⟨g, i, none⟩ = some (.int .i64 z) := by
  have hle := h.own.le
  simp only at hle
  obtain ⟨g, hA, _, hg⟩ := h.own.lt (show 0 < c by omega)
  simp only at hA
  subst hA
  have h1 := h.own.cell (j := i) hin
  rw [show ci64 zs = zs.map iV from rfl, List.getElem?_map, hi] at h1
  exact ⟨g, rfl, hg, h1⟩
theorem box_cells {w : World} {B g : Nat} {v0 v1 v2 : Value} (h : Own w B 25 (some ⟨g, 0, none⟩) 3 3 [v0, v1, v2]) : w.cell? ⟨g, 0, none⟩ = some v0 ∧ w.cell? ⟨g, 1, none⟩ = some v1 ∧ w.cell? ⟨g, 2, none⟩ = some v2 := ⟨h.cell (j := 0) (by omega), h.cell (j := 1) (by omega), h.cell (j := 2) (by omega)⟩
theorem all_set (b : List Ls) (i : Nat) (u : Ls) : Ls.all (b.set i u) = (Ls.all b).set i u.zs := by rw [Ls.all, Ls.all, List.map_set]

set_option maxRecDepth 100000 in
set_option maxHeartbeats 1000000 in
theorem walk (x : Mk) (k0 : Nat) (w : World) (h : x.Ok w) (hk0 : k0 < 256) :
    Calls Try.prog 7 #[x.v, .int .u8 k0] w fun e w' => e = .returned (.bool true) ∧ Below w.heap.size w w' := by
  have hx := h
  have hB := Below.refl w.heap.size w
  have hxv : x.v = .agg #[.slice x.r.A x.r.n x.r.c, .slice x.A x.n x.c, .slice x.o.A x.o.n x.o.c] := rfl
  have Vx := Lib.hid hxv
  rw [hxv]
  have HBL : Hid ((Ls.all x.b).length = x.n) := Lib.hid (by rw [Ls.all, List.length_map, hx.len])
  have HRL : Hid (x.r.zs.length = x.r.n) := Lib.hid hx.r.len
  have btop := Nat.le_trans hx.cap hx.top
  have rtop := Nat.le_trans hx.r.cap hx.r.top
  unfold maxLen at btop rtop
  obtain ⟨B, hB0⟩ : ∃ B, x.may = B := ⟨_, rfl⟩
  clear hxv h
  go_enter Try.func7, Try.ntmps7
  have bx := InBox.new w x
  have hbx : Below w.heap.size w (w.alloc (.cells #[.slice x.r.A x.r.n x.r.c, .slice x.A x.n x.c, .slice x.o.A x.o.n x.o.c] 25)) := (Below.refl _ w).alloc (Nat.le_refl _) _
  replace hx := hx.below hbx
  replace hB := hB.trans (hbx.mono hB.size)
  clear hbx
  cases B
  · have E1 := Lib.hid (show leastE x = [] ∧ x.err = 1 by simp [leastE, Mk.err, hB0])
    clear hB0
    have ex0 := bx.c0
    have ex1 := bx.c1
    have ex2 := bx.c2
    have hc := pleastC x (w.alloc (.cells #[.slice x.r.A x.r.n x.r.c, .slice x.A x.n x.c, .slice x.o.A x.o.n x.o.c] 25)) hx
    rw [Vx.out, E1.out.1, E1.out.2] at hc
    go_wp2_with fail
    clear ex0 ex1 ex2
    generalize w.alloc (.cells #[.slice x.r.A x.r.n x.r.c, .slice x.A x.n x.c, .slice x.o.A x.o.n x.o.c] 25) = W1 at *
    refine hc.mono ?_
    rintro e v2 ⟨A1, n1, c1, rfl, h1, hb⟩
    clear hc
    replace hx := hx.below hb
    replace bx := bx.below hb
    replace hB := hB.trans (hb.mono hB.size)
    clear hb
    clear h1 hx bx
    have hc := alive13_any v2
    go_wp2_with fail
    refine hc.mono ?_
    rintro e v3 ⟨rfl, hb⟩
    clear hc
    replace hB := hB.trans (hb.mono hB.size)
    clear hb
    go_wp2
    go_ret
    exact ⟨rfl, hB⟩
  · have HM := Lib.hid hB0
    obtain ⟨hM8, hM1, hn1, hn8⟩ : x.r.n ≤ 8 ∧ 1 ≤ x.r.n ∧ 1 ≤ x.n ∧ x.n ≤ 8 := ⟨(mk_len hx hB0).1, (mk_len hx hB0).2.1, (mk_len hx hB0).2.2.1, (mk_len hx hB0).2.2.2.1⟩
    have HRZ : Hid (∀ z ∈ x.r.zs, 0 ≤ z ∧ z ≤ 1000000) := Lib.hid (mk_len hx hB0).2.2.2.2.2.2.1
    have HBZ : Hid (∀ u ∈ x.b, ∀ z ∈ u.zs, 0 ≤ z ∧ z ≤ 1000000) := Lib.hid (mk_len hx hB0).2.2.2.2.2.2.2
    have HRO := Lib.hid (may_rows hB0)
    obtain ⟨ll, hll⟩ : ∃ a, leastL x.r.zs (Ls.all x.b) = a := ⟨_, rfl⟩
    have HLL := Lib.hid hll
    have LLN : Hid (ll.length = x.r.n) := Lib.hid (by rw [← hll, leastL_len, HRL.out])
    have EL : Hid (leastE x = ll) := Lib.hid (by rw [leastE, if_pos hB0, hll])
    have EE : Hid (x.err = 0) := Lib.hid (by rw [Mk.err, if_pos hB0])
    clear hB0 hll
    have ex0 := bx.c0
    have ex1 := bx.c1
    have ex2 := bx.c2
    have hc := pleastC x (w.alloc (.cells #[.slice x.r.A x.r.n x.r.c, .slice x.A x.n x.c, .slice x.o.A x.o.n x.o.c] 25)) hx
    rw [Vx.out, EL.out, EE.out] at hc
    go_wp2_with fail
    clear ex0 ex1 ex2
    generalize w.alloc (.cells #[.slice x.r.A x.r.n x.r.c, .slice x.A x.n x.c, .slice x.o.A x.o.n x.o.c] 25) = W1 at *
    refine hc.mono ?_
    rintro e v2 ⟨A1, n1, c1, rfl, h1, hb⟩
    clear hc
    replace hx := hx.below hb
    replace bx := bx.below hb
    replace hB := hB.trans (hb.mono hB.size)
    clear hb
    obtain rfl : n1 = x.r.n := by have h5 := h1.len; simp only at h5; rw [LLN.out] at h5; exact h5.symm
    obtain ⟨f, hf1, hf9, hff⟩ : ∃ f : Nat, 1 ≤ f ∧ f ≤ 9 ∧ 1 + Int.tmod k0 9 = (f : Int) := ⟨1 + k0 % 9, by omega, by omega, by rw [Int.tmod_eq_emod_of_nonneg (by omega)]; omega⟩
    have hff2 : 1 + (k0 : Int) % 9 = (f : Int) := by rw [← hff, Int.tmod_eq_emod_of_nonneg (by omega)]
    have s0 : IntKind.i64.wrap (k0 : Int) = k0 := by rw [IntKind.wrap_i64]; omega
    have s00 : IntKind.i64.wrap (Int.tmod k0 9) = Int.tmod k0 9 := by rw [IntKind.wrap_i64]; omega
    have s01 : IntKind.i64.wrap (f : Int) = f := by rw [IntKind.wrap_i64]; omega
    have hbn : ∀ u ∈ x.b, u.n ≤ 1000000000 := fun u hu => by
      rcases (mk_len hx HM.out).2.2.2.2.2.1 u hu with e | e <;> omega
    have hon : x.o.n ≤ 1000000000 := by have := (mk_len hx HM.out).2.2.2.2.1; omega
    have HRM : Hid (∀ u ∈ x.b, u.n = 0 ∨ u.n = x.r.n) := Lib.hid (mk_len hx HM.out).2.2.2.2.2.1
    have hxV := hx
    have hB0 := hB
    have h1V := h1
    have bxV := bx
    have ex0 := bx.c0
    have ex1 := bx.c1
    have ex2 := bx.c2
    have hc := twinmarket_any x v2 hx (by omega) (by omega) hon hbn
    rw [Vx.out] at hc
    go_wp2_with fail
    clear ex0 ex1 ex2
    refine hc.mono ?_
    rintro e v3 ⟨y, rfl, hy, hyr, hyb, hyo, hyn, hb⟩
    clear hc
    have hbV := hb
    replace hx := hx.below hb
    replace h1 := h1.below hb
    replace bx := bx.below hb
    replace hB := hB.trans (hb.mono hB.size)
    clear hb
    clear hbn hon
    have hm := hy.mkown
    have HYB := Lib.hid hyb
    have HYO := Lib.hid hyo
    have HYR := Lib.hid hyr
    clear hyr hyb hyo hy
    obtain ⟨⟨Ar, nr, cr, rz⟩, Ab, nb, cb, yb, ⟨Ao, no, co, oz⟩⟩ := y
    simp only at HYR HYB HYO hyn hm
    obtain rfl : rz = x.r.zs := HYR.out
    obtain rfl : nr = x.r.n := by have h5 := hm.r.len; simp only at h5; rw [HRL.out] at h5; exact h5.symm
    obtain rfl : nb = x.n := hyn
    clear HYR
    have hyv : Mk.v ⟨⟨Ar, x.r.n, cr, x.r.zs⟩, Ab, x.n, cb, yb, ⟨Ao, no, co, oz⟩⟩ = .agg #[.slice Ar x.r.n cr, .slice Ab x.n cb, .slice Ao no co] := rfl
    rw [hyv]
    clear hyv
    obtain ⟨g8, hg8⟩ : ∃ g8, g8 = v3.heap.size := ⟨_, rfl⟩
    have hox : Own (v3.alloc (.cells #[.slice Ar x.r.n cr, .slice Ab x.n cb, .slice Ao no co] 25)) v2.heap.size 25 (some ⟨v3.heap.size, 0, none⟩) 3 3 [.slice Ar x.r.n cr, .slice Ab x.n cb, .slice Ao no co] := Own.lit v3 25 #[.slice Ar x.r.n cr, .slice Ab x.n cb, .slice Ao no co] 3 hbV.size rfl (by unfold maxLen; omega)
    have hbl : Below v3.heap.size v3 (v3.alloc (.cells #[.slice Ar x.r.n cr, .slice Ab x.n cb, .slice Ao no co] 25)) := (Below.refl _ v3).alloc (Nat.le_refl _) _
    replace hm := hm.below hbl
    replace hbV := hbV.trans (hbl.mono hbV.size)
    clear hbl hx h1 bx
    go_wp2_with fail
    generalize v3.alloc (.cells #[.slice Ar x.r.n cr, .slice Ab x.n cb, .slice Ao no co] 25) = W8 at *
    rw [← hg8] at hox ⊢
    clear hg8
    obtain ⟨L, hL⟩ : ∃ L, Ls.all x.b = L := ⟨_, rfl⟩
    clear hL L
    go_loopw [9] (fun v wr => ∃ j : Nat, j ≤ x.r.n ∧ v = .int .i64 j ∧ MkOwn wr v2.heap.size ⟨⟨Ar, x.r.n, cr, partTo (fun z => (f : Int) * z) x.r.zs j⟩, Ab, x.n, cb, yb, ⟨Ao, no, co, oz⟩⟩ ∧ Own wr v2.heap.size 25 (some ⟨g8, 0, none⟩) 3 3 [.slice Ar x.r.n cr, .slice Ab x.n cb, .slice Ao no co] ∧ Below v2.heap.size v2 wr) (fun v _ => x.r.n - (intOf v).toNat)
    case atStart => exact ⟨0, Nat.zero_le _, rfl, by rw [part_zero]; exact hm, hox, hbV⟩
    case round =>
      clear hm hox hbV
      obtain ⟨j, hj, rfl, hm, hox, hbV⟩ := hrel
      obtain ⟨e0, e1, e2⟩ := box_cells hox
      by_cases hlt : j < x.r.n
      · have hlt' : (j : Int) < x.r.n := by omega
        have hj0 : (0 : Int) ≤ j := by omega
        have hjl : j < x.r.zs.length := by rw [HRL.out]; exact hlt
        obtain ⟨z, hz⟩ : ∃ z, x.r.zs[j]? = some z := ⟨_, List.getElem?_eq_getElem hjl⟩
        have hzb := HRZ.out z (List.mem_of_getElem? hz)
        have hfz := times_bound hf9 hzb
        have hps := part_set (fun z => (f : Int) * z) hz
        have hbd := (Below.refl wr.heap.size wr).drew
        obtain ⟨wd, hwd⟩ : ∃ wd, wd = wr.drew := ⟨_, rfl⟩
        rw [← hwd] at hbd
        have hmd := hm.below hbd
        have hoxd := hox.below hbd
        have hbVd := hbV.trans (hbd.mono hbV.size)
        obtain ⟨gr, rfl, hgr, hcz⟩ := own_num hmd.r (i := j) (z := z) (by rw [part_get]; exact hz) hlt
        have hle := hmd.r.own.le
        have hown : Own wd v2.heap.size 3 (some ⟨gr, 0, none⟩) x.r.n cr _ := hmd.r.own
        have hfrz := hown.free (show 0 < cr by simp only at hle; omega) j
        have hm2 := hmd.setR (g := gr) (k := j) (z := (f : Int) * z) rfl hlt (by omega)
        simp only at hm2
        rw [hps] at hm2
        have hox2 := hoxd.setO hown (show 0 < cr by simp only at hle; omega) (by decide) j (.int .i64 ((f : Int) * z))
        have hgB : v2.heap.size ≤ gr := by
          obtain ⟨g', hA', hB', _⟩ := hown.lt (show 0 < cr by simp only at hle; omega)
          cases hA'; exact hB'
        have hb2 := hbVd.setCell (p := ⟨gr, j, none⟩) hgB (.int .i64 ((f : Int) * z))
        obtain ⟨d0, _, _⟩ := box_cells hoxd
        obtain ⟨c0, _, _⟩ := box_cells hox2
        have sz : IntKind.i64.wrap ((f : Int) * z) = (f : Int) * z := by rw [IntKind.wrap_i64]; omega
        clear hm hox hbV hps hz hmd hoxd hbVd hjl hown hle
        go_wp2_with fail
        refine wp_region_ord (S := fun w' => w'.cell? ⟨g8, 0, none⟩ = some (.slice (some ⟨gr, 0, none⟩) x.r.n cr)) [(0, true), (1, true), (2, true), (3, true), (4, true), (5, true), (6, true), (7, true), (8, false), (9, true), (10, true), (11, false)] default (by kernel_rfl) (by kernel_rfl) (by kernel_rfl) (by rw [← hwd]; exact d0) ?_
        simp only [getOrd, nth]
        rw [← hwd]
        clear hwd hbd
        repeat (first | (refine ordS (by rfl) ?_; simp only [Act.put, List.setIfInBounds_toArray, List.set_cons_zero, List.set_cons_succ]) | (refine ordN (by rfl) ?_; simp only [Act.put, List.setIfInBounds_toArray, List.set_cons_zero, List.set_cons_succ]) | (refine ordQ (v := ?_) (by rfl) (fun _ hSw => ?_) ?_; rotate_left; (focus ((have hS1 := hSw); clear hSw; go_simp; (first | done | with_reducible rfl))); simp only [Act.put, List.setIfInBounds_toArray, List.set_cons_zero, List.set_cons_succ]))
        refine ordD (by rfl) ?_
        intro K hK
        go_simp
        refine hK _ _ d0 ?_
        clear hK K
        try simp only [Act.put, List.setIfInBounds_toArray, List.set_cons_zero, List.set_cons_succ]
        repeat (first | (refine ordS (by rfl) ?_; simp only [Act.put, List.setIfInBounds_toArray, List.set_cons_zero, List.set_cons_succ]) | (refine ordN (by rfl) ?_; simp only [Act.put, List.setIfInBounds_toArray, List.set_cons_zero, List.set_cons_succ]) | (refine ordQ (v := ?_) (by rfl) (fun _ hSw => ?_) ?_; rotate_left; (focus ((have hS1 := hSw); clear hSw; go_simp; (first | done | with_reducible rfl))); simp only [Act.put, List.setIfInBounds_toArray, List.set_cons_zero, List.set_cons_succ]))
        refine ordD (by rfl) ?_
        intro K hK
        go_simp
        refine hK _ _ c0 ?_
        clear hK K
        try simp only [Act.put, List.setIfInBounds_toArray, List.set_cons_zero, List.set_cons_succ]
        refine ordE ?_
        clear c0 d0 hcz hfrz e0 e1 e2
        go_wp2
        go_roundw
        case rel => exact ⟨j + 1, by omega, by go_num, hm2, hox2, hb2⟩
        case measure => simp [intOf]; omega
      · obtain rfl : j = x.r.n := by omega
        rw [part_all _ (by rw [HRL.out]; exact Nat.le_refl _)] at hm
        obtain ⟨w9, hw9⟩ : ∃ w9, w9 = wr := ⟨_, rfl⟩
        subst hw9
        go_wp2_with fail
        clear e0 e1 e2
        go_loopw [10] (fun v wr => ∃ (i : Nat) (bb : List Ls), i ≤ x.n ∧ v = .int .i64 i ∧ MkOwn wr v2.heap.size ⟨⟨Ar, x.r.n, cr, timesL f x.r.zs⟩, Ab, x.n, cb, bb, ⟨Ao, no, co, oz⟩⟩ ∧ Hid (Ls.all bb = partTo (timesL f) (Ls.all x.b) i) ∧ Own wr v2.heap.size 25 (some ⟨g8, 0, none⟩) 3 3 [.slice Ar x.r.n cr, .slice Ab x.n cb, .slice Ao no co] ∧ Below v2.heap.size v2 wr) (fun v _ => x.n - (intOf v).toNat)
        case atStart => exact ⟨0, yb, Nat.zero_le _, rfl, hm, Lib.hid (by rw [part_zero]; exact HYB.out), hox, hbV⟩
        case round =>
          clear hm hox hbV
          obtain ⟨i, bb, hi, rfl, hm, hall, hox, hbV⟩ := hrel
          obtain ⟨e0, e1, e2⟩ := box_cells hox
          have hbl : bb.length = x.n := hm.len
          by_cases hin : i < x.n
          · have hin' : (i : Int) < x.n := by omega
            have hi0' : (0 : Int) ≤ i := by omega
            obtain ⟨u, hu⟩ : ∃ u, bb[i]? = some u := ⟨_, List.getElem?_eq_getElem (by omega)⟩
            have huz : (Ls.all x.b)[i]? = some u.zs := by
              have h5 : (Ls.all bb)[i]? = some u.zs := by rw [Ls.all, List.getElem?_map, hu]; rfl
              rw [hall.out, part_get] at h5; exact h5
            have hzz : (∀ z ∈ u.zs, 0 ≤ z ∧ z ≤ 1000000) ∧ (u.zs.length = 0 ∨ u.zs.length = x.r.n) := by
              rw [Ls.all, List.getElem?_map] at huz
              obtain ⟨v, hv, ev⟩ := Option.map_eq_some_iff.1 huz
              rw [← ev]
              refine ⟨HBZ.out v (List.mem_of_getElem? hv), ?_⟩
              rw [(hxV.bs v (List.mem_of_getElem? hv)).len]
              exact HRM.out v (List.mem_of_getElem? hv)
            have hul := (hm.bs u (List.mem_of_getElem? hu)).len
            have hset0 : bb.set i u = bb := by
              refine List.ext_getElem? fun j => ?_
              rw [List.getElem?_set]
              by_cases e : i = j
              · subst e; rw [if_pos rfl, if_pos (by omega), hu]
              · rw [if_neg e]
            have hps := part_set (timesL f) huz
            obtain ⟨uA, un, uc, uz⟩ := u
            simp only at huz hzz hul hps
            have HZ := Lib.hid hzz.1
            have hun8 : un ≤ 8 := by have := hzz.2; omega
            have HUL := Lib.hid hul
            have hall2 : Hid (Ls.all (bb.set i ⟨uA, un, uc, timesL f uz⟩) = partTo (timesL f) (Ls.all x.b) (i + 1)) := Lib.hid (by rw [all_set, hall.out]; exact hps)
            have hm0 : MkOwn wr v2.heap.size ⟨⟨Ar, x.r.n, cr, timesL f x.r.zs⟩, Ab, x.n, cb, (bb.set i ⟨uA, un, uc, partTo (fun z => (f : Int) * z) uz 0⟩), ⟨Ao, no, co, oz⟩⟩ := by rw [part_zero, hset0]; exact hm
            have hilb : i < bb.length := by omega
            have hleb := hm.b.le
            simp only at hleb
            obtain ⟨gA, hAb, hBA, hgA⟩ := hm.b.lt (show 0 < cb by omega)
            simp only at hAb
            subst hAb
            clear hall hset0 hps huz hzz hul hu hm hbl
            obtain ⟨w9, hw9⟩ : ∃ w9, w9 = wr := ⟨_, rfl⟩
            subst hw9
            go_wp2_with fail
            clear e0 e1 e2
            go_loopw [11] (fun v wr => ∃ j : Nat, j ≤ un ∧ v = .int .i64 j ∧ MkOwn wr v2.heap.size ⟨⟨Ar, x.r.n, cr, timesL f x.r.zs⟩, some ⟨gA, 0, none⟩, x.n, cb, (bb.set i ⟨uA, un, uc, partTo (fun z => (f : Int) * z) uz j⟩), ⟨Ao, no, co, oz⟩⟩ ∧ Own wr v2.heap.size 25 (some ⟨g8, 0, none⟩) 3 3 [.slice Ar x.r.n cr, .slice (some ⟨gA, 0, none⟩) x.n cb, .slice Ao no co] ∧ Below v2.heap.size v2 wr) (fun v _ => un - (intOf v).toNat)
            case atStart => exact ⟨0, Nat.zero_le _, rfl, hm0, hox, hbV⟩
            case round =>
              clear hm0 hox hbV
              obtain ⟨j, hj, rfl, hm, hox, hbV⟩ := hrel
              obtain ⟨e0, e1, e2⟩ := box_cells hox
              have hrow : (bb.set i ⟨uA, un, uc, partTo (fun z => (f : Int) * z) uz j⟩)[i]? = some ⟨uA, un, uc, partTo (fun z => (f : Int) * z) uz j⟩ := by rw [List.getElem?_set, if_pos rfl, if_pos hilb]
              have hcr := hm.b.cell (j := i) hin
              rw [List.getElem?_map, hrow] at hcr
              replace hcr : wr.cell? ⟨gA, i, none⟩ = some (.slice uA un uc) := hcr
              by_cases hlt : j < un
              · have hlt' : (j : Int) < un := by omega
                have hj0 : (0 : Int) ≤ j := by omega
                have hjl : j < uz.length := by rw [HUL.out]; exact hlt
                obtain ⟨z, hz⟩ : ∃ z, uz[j]? = some z := ⟨_, List.getElem?_eq_getElem hjl⟩
                have hzb := HZ.out z (List.mem_of_getElem? hz)
                have hfz := times_bound hf9 hzb
                have hps := part_set (fun z => (f : Int) * z) hz
                have hbd := (Below.refl wr.heap.size wr).drew
                obtain ⟨wd, hwd⟩ : ∃ wd, wd = wr.drew := ⟨_, rfl⟩
                rw [← hwd] at hbd
                have hmd := hm.below hbd
                have hoxd := hox.below hbd
                have hbVd := hbV.trans (hbd.mono hbV.size)
                have hrw := hmd.bs _ (List.mem_of_getElem? hrow)
                obtain ⟨gu, rfl, hgu, hcz⟩ := own_num hrw (i := j) (z := z) (by rw [part_get]; exact hz) hlt
                have hle := hrw.own.le
                have hown : Own wd v2.heap.size 3 (some ⟨gu, 0, none⟩) un uc _ := hrw.own
                have hc0 : 0 < uc := by simp only at hle; omega
                have hfrz := hown.free hc0 j
                have hm2 := hmd.setB (i := i) (g := gu) (k := j) (z := (f : Int) * z) hrow rfl hlt (by omega)
                simp only [List.set_set] at hm2
                rw [hps] at hm2
                have hox2 := hoxd.setO hown hc0 (by decide) j (.int .i64 ((f : Int) * z))
                have hgB : v2.heap.size ≤ gu := by
                  obtain ⟨g', hA', hB', _⟩ := hown.lt hc0
                  cases hA'; exact hB'
                have hb2 := hbVd.setCell (p := ⟨gu, j, none⟩) hgB (.int .i64 ((f : Int) * z))
                obtain ⟨_, d0, _⟩ := box_cells hoxd
                obtain ⟨_, c0, _⟩ := box_cells hox2
                have d1 : wd.cell? ⟨gA, i, none⟩ = some (.slice (some ⟨gu, 0, none⟩) un uc) := (hbd.cell (p := ⟨gA, i, none⟩) (by
                  obtain ⟨g', hA', _, hg'⟩ := hm.b.lt (show 0 < cb by have := hm.b.le; simp only at this; omega)
                  cases hA'; exact hg')).trans hcr
                have c1 : (wd.setCell ⟨gu, j, none⟩ (.int .i64 ((f : Int) * z))).cell? ⟨gA, i, none⟩ = some (.slice (some ⟨gu, 0, none⟩) un uc) := by
                  have h5 := hm2.b.cell (j := i) hin
                  rw [List.getElem?_map, List.getElem?_set, if_pos rfl, if_pos hilb] at h5
                  exact h5
                have sz : IntKind.i64.wrap ((f : Int) * z) = (f : Int) * z := by rw [IntKind.wrap_i64]; omega
                clear hm hox hbV hps hz hmd hoxd hbVd hjl hown hle hrw hrow
                go_wp2_with fail
                refine wp_region_ord (S := fun w' => w'.cell? ⟨g8, 1, none⟩ = some (.slice (some ⟨gA, 0, none⟩) x.n cb) ∧ w'.cell? ⟨gA, i, none⟩ = some (.slice (some ⟨gu, 0, none⟩) un uc)) [(0, true), (1, true), (2, true), (3, true), (4, true), (5, true), (6, true), (7, true), (8, true), (9, true), (10, true), (11, true), (12, true), (13, true), (14, false), (15, true), (16, true), (17, false)] default (by kernel_rfl) (by kernel_rfl) (by kernel_rfl) (by rw [← hwd]; exact ⟨d0, d1⟩) ?_
                simp only [getOrd, nth]
                rw [← hwd]
                clear hwd hbd
                repeat (first | (refine ordS (by rfl) ?_; simp only [Act.put, List.setIfInBounds_toArray, List.set_cons_zero, List.set_cons_succ]) | (refine ordN (by rfl) ?_; simp only [Act.put, List.setIfInBounds_toArray, List.set_cons_zero, List.set_cons_succ]) | (refine ordQ (v := ?_) (by rfl) (fun _ hSw => ?_) ?_; rotate_left; (focus ((have hS1 := hSw.1); (have hS2 := hSw.2); clear hSw; go_simp; (first | done | with_reducible rfl))); simp only [Act.put, List.setIfInBounds_toArray, List.set_cons_zero, List.set_cons_succ]))
                refine ordD (by rfl) ?_
                intro K hK
                go_simp
                refine hK _ _ ⟨d0, d1⟩ ?_
                clear hK K
                try simp only [Act.put, List.setIfInBounds_toArray, List.set_cons_zero, List.set_cons_succ]
                repeat (first | (refine ordS (by rfl) ?_; simp only [Act.put, List.setIfInBounds_toArray, List.set_cons_zero, List.set_cons_succ]) | (refine ordN (by rfl) ?_; simp only [Act.put, List.setIfInBounds_toArray, List.set_cons_zero, List.set_cons_succ]) | (refine ordQ (v := ?_) (by rfl) (fun _ hSw => ?_) ?_; rotate_left; (focus ((have hS1 := hSw.1); (have hS2 := hSw.2); clear hSw; go_simp; (first | done | with_reducible rfl))); simp only [Act.put, List.setIfInBounds_toArray, List.set_cons_zero, List.set_cons_succ]))
                refine ordD (by rfl) ?_
                intro K hK
                go_simp
                refine hK _ _ ⟨c0, c1⟩ ?_
                clear hK K
                try simp only [Act.put, List.setIfInBounds_toArray, List.set_cons_zero, List.set_cons_succ]
                refine ordE ?_
                clear c0 d0 c1 d1 hcz hfrz e0 e1 e2 hcr
                go_wp2
                go_roundw
                case rel => exact ⟨j + 1, by omega, by go_num, hm2, hox2, hb2⟩
                case measure => simp [intOf]; omega
              · obtain rfl : j = un := by omega
                rw [part_all _ (by rw [HUL.out]; exact Nat.le_refl _)] at hm
                clear hrow
                go_wp2
                go_roundw
                case rel => exact ⟨i + 1, _, by omega, by go_num, hm, hall2, hox, hbV⟩
                case measure => simp [intOf]; omega
          · obtain rfl : i = x.n := by omega
            rw [part_all _ (by rw [HBL.out]; exact Nat.le_refl _)] at hall
            have hx := hxV.below hbV
            have h1 := h1V.below hbV
            replace hB := hB0.trans (hbV.mono hB0.size)
            have hyk := hm.ok
            obtain ⟨w9, hw9⟩ : ∃ w9, w9 = wr := ⟨_, rfl⟩
            subst hw9
            have hoxK := hox
            clear hm hox hbV hbl bxV hxV h1V
            obtain ⟨B2, hB2⟩ : ∃ B2, Mk.may ⟨⟨Ar, x.r.n, cr, timesL f x.r.zs⟩, Ab, x.n, cb, bb, ⟨Ao, no, co, oz⟩⟩ = B2 := ⟨_, rfl⟩
            have hc := pleastC ⟨⟨Ar, x.r.n, cr, timesL f x.r.zs⟩, Ab, x.n, cb, bb, ⟨Ao, no, co, oz⟩⟩ w9 hyk
            rw [show Mk.v ⟨⟨Ar, x.r.n, cr, timesL f x.r.zs⟩, Ab, x.n, cb, bb, ⟨Ao, no, co, oz⟩⟩ = .agg #[.slice Ar x.r.n cr, .slice Ab x.n cb, .slice Ao no co] from rfl] at hc
            cases B2
            · rw [show leastE ⟨⟨Ar, x.r.n, cr, timesL f x.r.zs⟩, Ab, x.n, cb, bb, ⟨Ao, no, co, oz⟩⟩ = [] by rw [leastE, hB2]; rfl, show Mk.err ⟨⟨Ar, x.r.n, cr, timesL f x.r.zs⟩, Ab, x.n, cb, bb, ⟨Ao, no, co, oz⟩⟩ = 1 by rw [Mk.err, hB2]; rfl] at hc
              go_wp2_with fail
              refine hc.mono ?_
              rintro e v9 ⟨A3, n3, c3, rfl, h3, hb⟩
              clear hc e0 e1 e2 h3
              have hbk := hb
              replace h1 := h1.below hb
              replace hyk := hyk.below hb
              replace hB := hB.trans (hb.mono hB.size)
              clear hb
              have hox9 := hoxK.below hbk
              obtain ⟨e0, e1, e2⟩ := box_cells hox9
              have hc := mcheckC ⟨⟨Ar, x.r.n, cr, timesL f x.r.zs⟩, Ab, x.n, cb, bb, ⟨Ao, no, co, oz⟩⟩ v9 hyk
              rw [show Mk.v ⟨⟨Ar, x.r.n, cr, timesL f x.r.zs⟩, Ab, x.n, cb, bb, ⟨Ao, no, co, oz⟩⟩ = .agg #[.slice Ar x.r.n cr, .slice Ab x.n cb, .slice Ao no co] from rfl, hB2] at hc
              go_wp2_with fail
              refine hc.mono ?_
              rintro e v10 ⟨rfl, hb⟩
              clear hc e0 e1 e2 hyk h1
              replace hB := hB.trans (hb.mono hB.size)
              clear hb
              have hc := alive13_any v10
              go_wp2_with fail
              refine hc.mono ?_
              rintro e v4 ⟨rfl, hb⟩
              clear hc
              replace hB := hB.trans (hb.mono hB.size)
              clear hb
              go_wp2
              go_ret
              exact ⟨rfl, hB⟩
            · have hmay2 := hB2
              clear hmay2
              have HL2 : Hid (leastE ⟨⟨Ar, x.r.n, cr, timesL f x.r.zs⟩, Ab, x.n, cb, bb, ⟨Ao, no, co, oz⟩⟩ = timesL f ll) := Lib.hid (by
                rw [leastE, if_pos hB2, ← HLL.out, ← least_times (by omega) HRO.out]
                show leastL (timesL f x.r.zs) (Ls.all bb) = _
                rw [hall.out])
              rw [HL2.out, show Mk.err ⟨⟨Ar, x.r.n, cr, timesL f x.r.zs⟩, Ab, x.n, cb, bb, ⟨Ao, no, co, oz⟩⟩ = 0 by rw [Mk.err, hB2]; rfl] at hc
              go_wp2_with fail
              refine hc.mono ?_
              rintro e v9 ⟨A3, n3, c3, rfl, h3, hb⟩
              clear hc e0 e1 e2 hyk HL2 hB2
              replace h1 := h1.below hb
              replace hB := hB.trans (hb.mono hB.size)
              clear hb
              obtain rfl : n3 = x.r.n := by have h5 := h3.len; simp only [timesL_len] at h5; rw [LLN.out] at h5; exact h5.symm
              have gne : ((x.r.n : Int) != (x.r.n : Int)) = false := by simp
              have gne2 : (x.r.n != x.r.n) = false := by simp
              go_wp2_with fail
              go_loopw [14] (fun v wr => ∃ j : Nat, j ≤ x.r.n ∧ v = .int .i64 j ∧ Below v9.heap.size v9 wr) (fun v _ => x.r.n - (intOf v).toNat)
              case atStart => exact ⟨0, Nat.zero_le _, rfl, Below.refl _ _⟩
              case round =>
                obtain ⟨j, hj, rfl, hbel⟩ := hrel
                by_cases hlt : j < x.r.n
                · have hlt' : (j : Int) < x.r.n := by omega
                  have hj0 : (0 : Int) ≤ j := by omega
                  have hjl : j < ll.length := by rw [LLN.out]; exact hlt
                  obtain ⟨z, hz⟩ : ∃ z, ll[j]? = some z := ⟨_, List.getElem?_eq_getElem hjl⟩
                  have hz3 : (timesL f ll)[j]? = some ((f : Int) * z) := by rw [timesL, List.getElem?_map, hz]; rfl
                  have hfit3 := h3.fit ((f : Int) * z) (List.mem_of_getElem? hz3)
                  obtain ⟨g1, rfl, hg1, hc1⟩ := own_num h1 hz hlt
                  obtain ⟨g3, rfl, hg3, hc3⟩ := own_num h3 hz3 hlt
                  have sz : IntKind.i64.wrap ((f : Int) * z) = (f : Int) * z := by rw [IntKind.wrap_i64]; omega
                  have gz : (((f : Int) * z) != ((f : Int) * z)) = false := by simp
                  have hS : ∀ w', Below v9.heap.size v9 w' → w'.cell? ⟨g3, j, none⟩ = some (.int .i64 ((f : Int) * z)) ∧ w'.cell? ⟨g1, j, none⟩ = some (.int .i64 z) := fun w' hb => ⟨(hb.cell (p := ⟨g3, j, none⟩) hg3).trans hc3, (hb.cell (p := ⟨g1, j, none⟩) hg1).trans hc1⟩
                  clear hz hz3 hjl hc1 hc3
                  go_wp2_with fail
                  refine wp_region_ord (S := fun w' => w'.cell? ⟨g3, j, none⟩ = some (.int .i64 ((f : Int) * z)) ∧ w'.cell? ⟨g1, j, none⟩ = some (.int .i64 z)) [(0, true), (1, true), (2, true), (3, true), (4, true), (5, true), (6, true), (7, true), (8, true), (9, true), (10, true)] default (by kernel_rfl) (by kernel_rfl) (by kernel_rfl) (hS _ hbel.drew) ?_
                  simp only [getOrd, nth]
                  repeat (first | (refine ordS (by rfl) ?_; simp only [Act.put, List.setIfInBounds_toArray, List.set_cons_zero, List.set_cons_succ]) | (refine ordN (by rfl) ?_; simp only [Act.put, List.setIfInBounds_toArray, List.set_cons_zero, List.set_cons_succ]) | (refine ordQ (v := ?_) (by rfl) (fun _ hSw => ?_) ?_; rotate_left; (focus ((have hS1 := hSw.1); (have hS2 := hSw.2); clear hSw; go_simp; (first | done | with_reducible rfl))); simp only [Act.put, List.setIfInBounds_toArray, List.set_cons_zero, List.set_cons_succ]))
                  refine ordE ?_
                  have hbe := hbel.drew
                  clear hS hbel
                  go_wp2
                  go_roundw
                  case rel => exact ⟨j + 1, by omega, by go_num, hbe⟩
                  case measure => simp [intOf]; omega
                · obtain rfl : j = x.r.n := by omega
                  have hc := alive13_any wr
                  go_wp2_with fail
                  refine hc.mono ?_
                  rintro e w10 ⟨rfl, hb⟩
                  have hB9 := (hB.trans (hbel.mono hB.size)).trans (hb.mono (Nat.le_trans hB.size hbel.size))
                  go_wp2
                  go_ret
                  exact ⟨rfl, hB9⟩

theorem own : ownKnob Try.prog.godebug = none := by kernel_rfl
theorem laidOut : laidOutB Try.prog = true := by kernel_rfl

set_option maxRecDepth 100000 in
theorem lifted (os : Os) (started : os.Started) (H : Type) (enc : TypeId × Value → H) :
    ReturnsInHanded {} Try.checked os 7 .any (Rows.risesScaleSpec.pre6 enc Try.prog Try.f7 Rows.risesScaleRow.domain false) (Rows.risesScaleSpec.post enc Try.prog Try.f7 false true false false) := by
  refine returnsInHanded_of_change (C := Try.checked) own started (by kernel_rfl) Try.func7
    (ChangeSpec.witness6 (enc := enc) (C := Try.checked) false ⟨#[], #[.agg #[.slice none 0 0, .slice none 0 0, .slice none 0 0], .int .u8 0], []⟩ 8 (by kernel_rfl) (by kernel_rfl) (by kernel_rfl) (by kernel_rfl)) ?_
  intro W base args ds gs before hval0 hW hcnd _
  have hval : ∀ (j : Nat) t v, Try.f7.params[j]? = some t → args[j]? = some v → Value.okWide Try.prog W .any base t v := hval0
  have hW' := hW
  obtain ⟨p, q, hA0, hV, rfl, hfz, hnd⟩ := hW
  have hA : DataW.TrodAll enc Try.prog W 0 (fun _ => true) true Try.f7.params.toList args.toList ds p := hA0
  rw [Try.params7] at hA hval
  obtain ⟨v0, vs0, d0, ds0, p0, q0, hargs, rfl, rfl, h0, r0⟩ := trodAll_cons hA
  obtain ⟨v1, vs1, d1, ds1, p1, q1, rfl, rfl, rfl, h1, r1⟩ := trodAll_cons r0
  obtain ⟨rfl, rfl, rfl⟩ := trodAll_nil r1
  obtain rfl : args = #[v0, v1] := by cases args; simp_all
  obtain ⟨u0, rfl, k0⟩ := arg_mk Try.underlying25 (by kernel_rfl) (by kernel_rfl) Try.underlying22 Try.underlying23 Try.underlying22 Try.underlying22 (by kernel_rfl) Try.underlying3 (by kernel_rfl) (hval 0 25 v0 rfl rfl) h0
  obtain ⟨x1, rfl, rfl, rfl, w1⟩ := open_int Try.underlying5 (hval 1 5 v1 rfl rfl) h1
  obtain ⟨y1, rfl, z1⟩ := fit_u8 w1
  have hwalk : Calls Try.prog 7 #[u0.v, .int .u8 y1] W fun e w' => e = .returned (.bool true) ∧ Below W.heap.size W w' := walk u0 y1 W k0 z1
  refine hwalk.mono fun e W' ⟨he, hg⟩ => ?_
  subst he
  exact ⟨_, rfl, law_post laidOut (by kernel_rfl) hW' rfl rfl (by kernel_rfl) Try.underlying4 hg⟩

theorem over : Rows.risesScaleRow.holds Try.pinned (OpenSpec.ofChange Rows.risesScaleSpec) :=
  OpenClaim.holds_of_wide 7 Try.f7 rfl rfl rfl rfl rfl rfl rfl ⟨rfl, rfl, rfl, rfl, rfl⟩ rfl rfl rfl rfl rfl (by kernel_rfl) Try.func7 (by kernel_rfl)
    (of_decide_eq_true (by kernel_rfl)) (by unfold Func.isWrapper; first | (rw [if_pos (by decide +kernel)]; kernel_rfl) | (rw [if_neg (by decide +kernel)]; exact ⟨rfl, rfl⟩))
    (fun os started H enc _ => lifted os started H enc)

theorem proved : Rows.RisesScaleSaid :=
  over

end Go.Proofs.Ytdckoaljcklmhaa.risesScale
