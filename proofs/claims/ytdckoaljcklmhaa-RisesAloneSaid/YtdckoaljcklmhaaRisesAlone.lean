/-
  Proved: where one bids alone, each item costs its reserve; with as many items of one worth to all as bidders, too
-/
import Derived.Test.YtdckoaljcklmhaaRows
import Derived.Test.YtdckoaljcklmhaaLift
import Derived.Test.YtdckoaljcklmhaaAlive13
import Derived.Test.YtdckoaljcklmhaaZeros
import Derived.Test.YtdckoaljcklmhaaRiA
import Derived.Test.YtdckoaljcklmhaaReg2
import Derived.Lib.MinMax
namespace Go.Proofs.Ytdckoaljcklmhaa.risesAlone
open Go.ChangeShapes Go.WideShapes Go.ChangeAt Go.RowKit
set_option linter.unusedVariables false

theorem info6_int : (Try.prog.info? 3).map (fun i => (i.zero, i.size, i.bytes)) = some (some (.int .i64 0), 1, 8) := by kernel_rfl
theorem infoI_ints : (Try.prog.info? 22).map (fun i => (i.zero, i.size, i.bytes)) = some (some (.slice none 0 0), 1, 24) := by kernel_rfl
theorem ls_num {w : World} {A : Option Addr} {n c i : Nat} {zs : List Int} {z : Int} (h : Ls.Ok w ⟨A, n, c, zs⟩) (hi : zs[i]? = some z) (hin : i < n) : ∃ g o, A = some ⟨g, o, none⟩ ∧ g < w.heap.size ∧ w.cell? ⟨g, o + i, none⟩ = some (.int .i64 z) := by
  obtain ⟨p, q, hA, hp, t0, ht0, hc⟩ := h.rd.get (show i < n from hin)
  simp only at hA ht0
  rw [ci64, List.getElem?_map, hi] at ht0
  obtain rfl : iV z = t0 := Option.some.inj ht0
  exact ⟨p, q, hA, hp, hc⟩
theorem own_num {w : World} {B : Nat} {A : Option Addr} {n c i : Nat} {zs : List Int} {z : Int} (h : OwnI w B ⟨A, n, c, zs⟩) (hi : zs[i]? = some z) (hin : i < n) : ∃ g, A = some ⟨g, 0, none⟩ ∧ g < w.heap.size ∧ w.cell? ⟨g, i, none⟩ = some (.int .i64 z) := by
  have hle := h.own.le
  simp only at hle
  obtain ⟨g, hA, _, hg⟩ := h.own.lt (show 0 < c by omega)
  simp only at hA
  subst hA
  have h1 := h.own.cell (j := i) hin
  rw [show ci64 zs = zs.map iV from rfl, List.getElem?_map, hi] at h1
  exact ⟨g, rfl, hg, h1⟩
theorem box_cells {w : World} {B g : Nat} {v0 v1 v2 : Value} (h : Own w B 25 (some ⟨g, 0, none⟩) 3 3 [v0, v1, v2]) : w.cell? ⟨g, 0, none⟩ = some v0 ∧ w.cell? ⟨g, 1, none⟩ = some v1 ∧ w.cell? ⟨g, 2, none⟩ = some v2 := ⟨h.cell (j := 0) (by omega), h.cell (j := 1) (by omega), h.cell (j := 2) (by omega)⟩
theorem all_set (b : List Ls) (i : Nat) (u : Ls) : Ls.all (b.set i u) = (Ls.all b).set i u.zs := by rw [Ls.all, Ls.all, List.map_set]

set_option maxRecDepth 100000 in
set_option maxHeartbeats 1000000 in
theorem walk (x : Mk) (k0 wv : Nat) (w : World) (h : x.Ok w) (hk0 : k0 < 256) (hwv : wv < 65536) :
    Calls Try.prog 8 #[x.v, .int .u8 k0, .int .u16 wv] w fun e w' => e = .returned (.bool true) ∧ Below w.heap.size w w' := by
  have hx := h
  have hB := Below.refl w.heap.size w
  have hxv : x.v = .agg #[.slice x.r.A x.r.n x.r.c, .slice x.A x.n x.c, .slice x.o.A x.o.n x.o.c] := rfl
  have Vx := Lib.hid hxv
  rw [hxv]
  have HBL : Hid ((Ls.all x.b).length = x.n) := Lib.hid (by rw [Ls.all, List.length_map, hx.len])
  have HRL : Hid (x.r.zs.length = x.r.n) := Lib.hid hx.r.len
  have btop := Nat.le_trans hx.cap hx.top
  have rtop := Nat.le_trans hx.r.cap hx.r.top
  unfold maxLen at btop rtop
  obtain ⟨B, hB0⟩ : ∃ B, x.may = B := ⟨_, rfl⟩
  clear hxv h
  go_enter Try.func8, Try.ntmps8
  have bx := InBox.new w x
  have hbx : Below w.heap.size w (w.alloc (.cells #[.slice x.r.A x.r.n x.r.c, .slice x.A x.n x.c, .slice x.o.A x.o.n x.o.c] 25)) := (Below.refl _ w).alloc (Nat.le_refl _) _
  replace hx := hx.below hbx
  replace hB := hB.trans (hbx.mono hB.size)
  clear hbx
  cases B
  · have HM0 := Lib.hid hB0
    clear hB0
    have ex0 := bx.c0
    have ex1 := bx.c1
    have ex2 := bx.c2
    have hc := mcheckC x (w.alloc (.cells #[.slice x.r.A x.r.n x.r.c, .slice x.A x.n x.c, .slice x.o.A x.o.n x.o.c] 25)) hx
    rw [Vx.out, HM0.out] at hc
    go_wp2_with fail
    clear ex0 ex1 ex2
    generalize w.alloc (.cells #[.slice x.r.A x.r.n x.r.c, .slice x.A x.n x.c, .slice x.o.A x.o.n x.o.c] 25) = W1 at *
    refine hc.mono ?_
    rintro e v2 ⟨rfl, hb⟩
    clear hc
    replace hx := hx.below hb
    replace bx := bx.below hb
    replace hB := hB.trans (hb.mono hB.size)
    clear hb
    clear hx bx
    have hc := alive13_any v2
    go_wp2_with fail
    refine hc.mono ?_
    rintro e v3 ⟨rfl, hb⟩
    clear hc
    replace hB := hB.trans (hb.mono hB.size)
    clear hb
    go_wp2
    go_ret
    exact ⟨rfl, hB⟩
  · have HM := Lib.hid hB0
    obtain ⟨hM8, hM1, hn1, hn8⟩ : x.r.n ≤ 8 ∧ 1 ≤ x.r.n ∧ 1 ≤ x.n ∧ x.n ≤ 8 := ⟨(mk_len hx hB0).1, (mk_len hx hB0).2.1, (mk_len hx hB0).2.2.1, (mk_len hx hB0).2.2.2.1⟩
    have HRZ : Hid (∀ z ∈ x.r.zs, 0 ≤ z ∧ z ≤ 1000000) := Lib.hid (mk_len hx hB0).2.2.2.2.2.2.1
    have HBZ : Hid (∀ u ∈ x.b, ∀ z ∈ u.zs, 0 ≤ z ∧ z ≤ 1000000) := Lib.hid (mk_len hx hB0).2.2.2.2.2.2.2
    have HRO := Lib.hid (may_rows hB0)
    obtain ⟨ll, hll⟩ : ∃ a, leastL x.r.zs (Ls.all x.b) = a := ⟨_, rfl⟩
    have HLL := Lib.hid hll
    have LLN : Hid (ll.length = x.r.n) := Lib.hid (by rw [← hll, leastL_len, HRL.out])
    have EL : Hid (leastE x = ll) := Lib.hid (by rw [leastE, if_pos hB0, hll])
    have EE : Hid (x.err = 0) := Lib.hid (by rw [Mk.err, if_pos hB0])
    clear hB0 hll
    clear EL EE HLL LLN ll
    have EC := Lib.hid HM.out
    have gn3 : ((x.n : Int) == 0) = false := by rw [beq_eq_false_iff_ne]; omega
    have gn4 : (x.n == 0) = false := by rw [beq_eq_false_iff_ne]; omega
    have gn5 : ¬ x.n = 0 := by omega
    obtain ⟨k, hk, hkk⟩ : ∃ k : Nat, k < x.n ∧ Int.tmod k0 x.n = (k : Int) := ⟨k0 % x.n, Nat.mod_lt _ (by omega), by rw [Int.tmod_eq_emod_of_nonneg (by omega)]; rfl⟩
    have s1 : IntKind.i64.wrap (k0 : Int) = k0 := by rw [IntKind.wrap_i64]; omega
    have s2 : IntKind.i64.wrap (k : Int) = k := by rw [IntKind.wrap_i64]; omega
    obtain ⟨i0, hi0, hz0, hz1, hz2⟩ := info_parts info6_int
    have ex0 := bx.c0
    have ex1 := bx.c1
    have ex2 := bx.c2
    have hc := mcheckC x (w.alloc (.cells #[.slice x.r.A x.r.n x.r.c, .slice x.A x.n x.c, .slice x.o.A x.o.n x.o.c] 25)) hx
    rw [Vx.out, EC.out] at hc
    go_wp2_with fail
    clear ex0 ex1 ex2
    generalize w.alloc (.cells #[.slice x.r.A x.r.n x.r.c, .slice x.A x.n x.c, .slice x.o.A x.o.n x.o.c] 25) = W1 at *
    refine hc.mono ?_
    rintro e v2 ⟨rfl, hb⟩
    clear hc
    replace hx := hx.below hb
    replace bx := bx.below hb
    replace hB := hB.trans (hb.mono hB.size)
    clear hb
    have hbn : ∀ u ∈ x.b, u.n ≤ 1000000000 := fun u hu => by
      rcases (mk_len hx HM.out).2.2.2.2.2.1 u hu with e | e <;> omega
    have hon : x.o.n ≤ 1000000000 := by have := (mk_len hx HM.out).2.2.2.2.1; omega
    have HON : Hid (x.o.n = x.n) := Lib.hid (mk_len hx HM.out).2.2.2.2.1
    have HOL : Hid (x.o.zs.length = x.n) := Lib.hid (by rw [hx.o.len, HON.out])
    have HRM : Hid (∀ u ∈ x.b, u.n = 0 ∨ u.n = x.r.n) := Lib.hid (mk_len hx HM.out).2.2.2.2.2.1
    have hxV := hx
    have hB0 := hB
    have bxV := bx
    have ex0 := bx.c0
    have ex1 := bx.c1
    have ex2 := bx.c2
    have hc := twinmarket_any x v2 hx (by omega) (by omega) hon hbn
    rw [Vx.out] at hc
    go_wp2_with fail
    clear ex0 ex1 ex2
    refine hc.mono ?_
    rintro e v3 ⟨y, rfl, hy, hyr, hyb, hyo, hyn, hb⟩
    clear hc
    have hbV := hb
    replace hx := hx.below hb
    replace bx := bx.below hb
    replace hB := hB.trans (hb.mono hB.size)
    clear hb
    clear hbn hon
    have hm := hy.mkown
    have HYB := Lib.hid hyb
    have HYO := Lib.hid hyo
    have HYR := Lib.hid hyr
    clear hyr hyb hyo hy
    obtain ⟨⟨Ar, nr, cr, rz⟩, Ab, nb, cb, yb, ⟨Ao, no, co, oz⟩⟩ := y
    simp only at HYR HYB HYO hyn hm
    obtain rfl : rz = x.r.zs := HYR.out
    obtain rfl : oz = x.o.zs := HYO.out
    obtain rfl : nr = x.r.n := by have h5 := hm.r.len; simp only at h5; rw [HRL.out] at h5; exact h5.symm
    obtain rfl : no = x.n := by have h5 := hm.o.len; simp only at h5; rw [HOL.out] at h5; exact h5.symm
    obtain rfl : nb = x.n := hyn
    clear HYR HYO
    have hyv : Mk.v ⟨⟨Ar, x.r.n, cr, x.r.zs⟩, Ab, x.n, cb, yb, ⟨Ao, x.n, co, x.o.zs⟩⟩ = .agg #[.slice Ar x.r.n cr, .slice Ab x.n cb, .slice Ao x.n co] := rfl
    rw [hyv]
    clear hyv
    obtain ⟨g8, hg8⟩ : ∃ g8, g8 = v3.heap.size := ⟨_, rfl⟩
    have hox : Own (v3.alloc (.cells #[.slice Ar x.r.n cr, .slice Ab x.n cb, .slice Ao x.n co] 25)) v2.heap.size 25 (some ⟨v3.heap.size, 0, none⟩) 3 3 [.slice Ar x.r.n cr, .slice Ab x.n cb, .slice Ao x.n co] := Own.lit v3 25 #[.slice Ar x.r.n cr, .slice Ab x.n cb, .slice Ao x.n co] 3 hbV.size rfl (by unfold maxLen; omega)
    have hbl : Below v3.heap.size v3 (v3.alloc (.cells #[.slice Ar x.r.n cr, .slice Ab x.n cb, .slice Ao x.n co] 25)) := (Below.refl _ v3).alloc (Nat.le_refl _) _
    replace hm := hm.below hbl
    replace hbV := hbV.trans (hbl.mono hbV.size)
    clear hbl hx bx 
    go_wp2_with fail
    generalize v3.alloc (.cells #[.slice Ar x.r.n cr, .slice Ab x.n cb, .slice Ao x.n co] 25) = W8 at *
    rw [← hg8] at hox ⊢
    clear hg8
    have hleb := hm.b.le
    simp only at hleb
    obtain ⟨gA, hAb, hBA, _⟩ := hm.b.lt (show 0 < cb by omega)
    simp only at hAb
    subst hAb
    have hcb0 : 0 < cb := by omega
    go_loopw [8] (fun v wr => ∃ (i : Nat) (bb : List Ls), i ≤ x.n ∧ v = .int .i64 i ∧ MkOwn wr v2.heap.size ⟨⟨Ar, x.r.n, cr, x.r.zs⟩, some ⟨gA, 0, none⟩, x.n, cb, bb, ⟨Ao, x.n, co, x.o.zs⟩⟩ ∧ Hid (Ls.all bb = mixG (fun j => if j = k then (Ls.all x.b).getD j [] else []) (fun j => (Ls.all x.b).getD j []) x.n i) ∧ Own wr v2.heap.size 25 (some ⟨g8, 0, none⟩) 3 3 [.slice Ar x.r.n cr, .slice (some ⟨gA, 0, none⟩) x.n cb, .slice Ao x.n co] ∧ Below v2.heap.size v2 wr) (fun v _ => x.n - (intOf v).toNat)
    case atStart => exact ⟨0, yb, Nat.zero_le _, rfl, hm, Lib.hid (by rw [mixG_zero, ← HBL.out, range_getD]; exact HYB.out), hox, hbV⟩
    case round =>
      clear hm hox hbV
      obtain ⟨i, bb, hi, rfl, hm, hall, hox, hbV⟩ := hrel
      obtain ⟨e0, e1, e2⟩ := box_cells hox
      by_cases hin : i < x.n
      · have hin' : (i : Int) < x.n := by omega
        have hi0' : (0 : Int) ≤ i := by omega
        have hbl : bb.length = x.n := hm.len
        by_cases hik : i = k
        · have gik : ((i : Int) != (k : Int)) = false := by rw [hik]; simp
          have gik2 : (i != k) = false := by rw [hik]; simp
          have HAS : Hid (Ls.all bb = mixG (fun j => if j = k then (Ls.all x.b).getD j [] else []) (fun j => (Ls.all x.b).getD j []) x.n (i + 1)) := Lib.hid (by rw [alone_same hik hin]; exact hall.out)
          clear hall hik
          go_wp2
          go_roundw
          case rel => exact ⟨i + 1, bb, by omega, by go_num, hm, HAS, hox, hbV⟩
          case measure => simp [intOf]; omega
        · have gik : ((i : Int) != (k : Int)) = true := by rw [bne_iff_ne]; omega
          have gik2 : (i != k) = true := by rw [bne_iff_ne]; omega
          have HAS : Hid (Ls.all (bb.set i Ls.nil) = mixG (fun j => if j = k then (Ls.all x.b).getD j [] else []) (fun j => (Ls.all x.b).getD j []) x.n (i + 1)) := Lib.hid (by
            rw [all_set, hall.out, ← alone_step, if_neg hik]; rfl)
          obtain ⟨v0, hcell⟩ : ∃ v0, wr.cell? ⟨gA, i, none⟩ = some v0 := by
            have h5 := hm.b.cell (j := i) hin
            rw [List.getElem?_eq_getElem (by rw [List.length_map]; show i < bb.length; omega)] at h5
            exact ⟨_, h5⟩
          have hfree := hm.b.free hcb0 i
          have hm2 := hm.nilB (i := i) (g := gA) rfl hin
          simp only at hm2
          have hox2 := hox.setO hm.b hcb0 (by decide) i (.slice none 0 0)
          have hb2 := hbV.setCell (p := ⟨gA, i, none⟩) hBA (.slice none 0 0)
          clear hall hik hm hox hbV
          go_wp2
          go_roundw
          case rel => exact ⟨i + 1, _, by omega, by go_num, hm2, HAS, hox2, hb2⟩
          case measure => simp [intOf]; omega
      · obtain rfl : i = x.n := by omega
        have hend := alone_end (x := x) (y := ⟨⟨Ar, x.r.n, cr, x.r.zs⟩, some ⟨gA, 0, none⟩, x.n, cb, bb, ⟨Ao, x.n, co, x.o.zs⟩⟩) (k := k) (n := x.n) HM.out HBL.out.symm rfl rfl hall.out
        have EL := Lib.hid hend.1
        have EE := Lib.hid hend.2
        have hx := hxV.below hbV
        have bx := bxV.below hbV
        have hB := hB0.trans (hbV.mono hB0.size)
        have hyk := hm.ok
        obtain ⟨w9, hw9⟩ : ∃ w9, w9 = wr := ⟨_, rfl⟩
        subst hw9
        clear hm hall hbV hxV bxV hB0 hend hox
        clear HYB
        have hc := pleastC ⟨⟨Ar, x.r.n, cr, x.r.zs⟩, some ⟨gA, 0, none⟩, x.n, cb, bb, ⟨Ao, x.n, co, x.o.zs⟩⟩ w9 hyk
        rw [show Mk.v ⟨⟨Ar, x.r.n, cr, x.r.zs⟩, some ⟨gA, 0, none⟩, x.n, cb, bb, ⟨Ao, x.n, co, x.o.zs⟩⟩ = .agg #[.slice Ar x.r.n cr, .slice (some ⟨gA, 0, none⟩) x.n cb, .slice Ao x.n co] from rfl, EL.out, EE.out] at hc
        go_wp2_with fail
        refine hc.mono ?_
        rintro e v99 ⟨A3, n3, c3, rfl, h3, hb⟩
        clear hc e0 e1 e2 hyk EL EE
        replace hx := hx.below hb
        replace bx := bx.below hb
        replace hB := hB.trans (hb.mono hB.size)
        clear hb
        obtain rfl : n3 = x.r.n := by have h5 := h3.len; simp only at h5; rw [HRL.out] at h5; exact h5.symm
        have ex0 := bx.c0
        have ex1 := bx.c1
        have ex2 := bx.c2
        have hc := sameints_b ⟨A3, x.r.n, c3, x.r.zs⟩ x.r v99 h3.ok hx.r
        rw [show ((x.r.zs : List Int) == x.r.zs) = true by simp, show Ls.v ⟨A3, x.r.n, c3, x.r.zs⟩ = .slice A3 x.r.n c3 from rfl, show Ls.v x.r = .slice x.r.A x.r.n x.r.c from rfl] at hc
        go_wp2_with fail
        clear ex0 ex1 ex2
        refine hc.mono ?_
        rintro e v4 ⟨rfl, hb⟩
        clear hc
        replace hx := hx.below hb
        replace h3 := h3.below hb
        replace bx := bx.below hb
        replace hB := hB.trans (hb.mono hB.size)
        clear hb
        clear h3
        by_cases q8 : x.r.n < x.n
        · have gn : decide ((x.r.n : Int) < (x.n : Int)) = true := decide_eq_true (by omega)
          have gn2 : decide (x.r.n < x.n) = true := decide_eq_true q8
          have ex0 := bx.c0
          have ex1 := bx.c1
          have ex2 := bx.c2
          have hc := alive13_any v4
          go_wp2_with fail
          clear ex0 ex1 ex2
          refine hc.mono ?_
          rintro e v5 ⟨rfl, hb⟩
          clear hc
          replace hx := hx.below hb
          replace bx := bx.below hb
          replace hB := hB.trans (hb.mono hB.size)
          clear hb
          have ex0 := bx.c0
          have ex1 := bx.c1
          have ex2 := bx.c2
          go_wp2
          go_ret
          exact ⟨rfl, hB⟩
        · have gn : decide ((x.r.n : Int) < (x.n : Int)) = false := decide_eq_false (by omega)
          have gn2 : decide (x.r.n < x.n) = false := decide_eq_false q8
          clear hBA hcb0 hleb
          have hbn : ∀ u ∈ x.b, u.n ≤ 1000000000 := fun u hu => by
            rcases (mk_len hx HM.out).2.2.2.2.2.1 u hu with e | e <;> omega
          have hon : x.o.n ≤ 1000000000 := by have := (mk_len hx HM.out).2.2.2.2.1; omega
          have HON : Hid (x.o.n = x.n) := Lib.hid (mk_len hx HM.out).2.2.2.2.1
          have HOL : Hid (x.o.zs.length = x.n) := Lib.hid (by rw [hx.o.len, HON.out])
          have HRM : Hid (∀ u ∈ x.b, u.n = 0 ∨ u.n = x.r.n) := Lib.hid (mk_len hx HM.out).2.2.2.2.2.1
          have hxV := hx
          have hB0 := hB
          have bxV := bx
          have ex0 := bx.c0
          have ex1 := bx.c1
          have ex2 := bx.c2
          have hc := twinmarket_any x v4 hx (by omega) (by omega) hon hbn
          rw [Vx.out] at hc
          go_wp2_with fail
          clear ex0 ex1 ex2
          refine hc.mono ?_
          rintro e v5 ⟨y, rfl, hy, hyr, hyb, hyo, hyn, hb⟩
          clear hc
          have hbV := hb
          replace hx := hx.below hb
          replace bx := bx.below hb
          replace hB := hB.trans (hb.mono hB.size)
          clear hb
          clear hbn hon
          have hm := hy.mkown
          have HYB := Lib.hid hyb
          have HYO := Lib.hid hyo
          have HYR := Lib.hid hyr
          clear hyr hyb hyo hy
          obtain ⟨⟨Ar, nr, cr, rz⟩, Ab, nb, cb, yb, ⟨Ao, no, co, oz⟩⟩ := y
          simp only at HYR HYB HYO hyn hm
          obtain rfl : rz = x.r.zs := HYR.out
          obtain rfl : oz = x.o.zs := HYO.out
          obtain rfl : nr = x.r.n := by have h5 := hm.r.len; simp only at h5; rw [HRL.out] at h5; exact h5.symm
          obtain rfl : no = x.n := by have h5 := hm.o.len; simp only at h5; rw [HOL.out] at h5; exact h5.symm
          obtain rfl : nb = x.n := hyn
          clear HYR HYO
          have hyv : Mk.v ⟨⟨Ar, x.r.n, cr, x.r.zs⟩, Ab, x.n, cb, yb, ⟨Ao, x.n, co, x.o.zs⟩⟩ = .agg #[.slice Ar x.r.n cr, .slice Ab x.n cb, .slice Ao x.n co] := rfl
          rw [hyv]
          clear hyv
          obtain ⟨g8, hg8⟩ : ∃ g8, g8 = v5.heap.size := ⟨_, rfl⟩
          have hox : Own (v5.alloc (.cells #[.slice Ar x.r.n cr, .slice Ab x.n cb, .slice Ao x.n co] 25)) v4.heap.size 25 (some ⟨v5.heap.size, 0, none⟩) 3 3 [.slice Ar x.r.n cr, .slice Ab x.n cb, .slice Ao x.n co] := Own.lit v5 25 #[.slice Ar x.r.n cr, .slice Ab x.n cb, .slice Ao x.n co] 3 hbV.size rfl (by unfold maxLen; omega)
          have hbl : Below v5.heap.size v5 (v5.alloc (.cells #[.slice Ar x.r.n cr, .slice Ab x.n cb, .slice Ao x.n co] 25)) := (Below.refl _ v5).alloc (Nat.le_refl _) _
          replace hm := hm.below hbl
          replace hbV := hbV.trans (hbl.mono hbV.size)
          clear hbl hx bx 
          go_wp2_with fail
          generalize v5.alloc (.cells #[.slice Ar x.r.n cr, .slice Ab x.n cb, .slice Ao x.n co] 25) = W8 at *
          rw [← hg8] at hox ⊢
          clear hg8
          have hleb := hm.b.le
          simp only at hleb
          obtain ⟨gA, hAb, hBA, _⟩ := hm.b.lt (show 0 < cb by omega)
          simp only at hAb
          subst hAb
          have hcb0 : 0 < cb := by omega
          have sw : IntKind.i64.wrap (wv : Int) = wv := by rw [IntKind.wrap_i64]; omega
          go_loopw [12] (fun v wr => ∃ (i : Nat) (bb : List Ls), i ≤ x.n ∧ v = .int .i64 i ∧ MkOwn wr v4.heap.size ⟨⟨Ar, x.r.n, cr, x.r.zs⟩, some ⟨gA, 0, none⟩, x.n, cb, bb, ⟨Ao, x.n, co, x.o.zs⟩⟩ ∧ Hid (Ls.all bb = mixG (fun _ => topR x.r.zs (wv : Int)) (fun j => (Ls.all x.b).getD j []) x.n i) ∧ Own wr v4.heap.size 25 (some ⟨g8, 0, none⟩) 3 3 [.slice Ar x.r.n cr, .slice (some ⟨gA, 0, none⟩) x.n cb, .slice Ao x.n co] ∧ Below v4.heap.size v4 wr) (fun v _ => x.n - (intOf v).toNat)
          case atStart => exact ⟨0, yb, Nat.zero_le _, rfl, hm, Lib.hid (by rw [mixG_zero, ← HBL.out, range_getD]; exact HYB.out), hox, hbV⟩
          case round =>
            clear hm hox hbV
            obtain ⟨i, bb, hi, rfl, hm, hall, hox, hbV⟩ := hrel
            obtain ⟨e0, e1, e2⟩ := box_cells hox
            by_cases hin : i < x.n
            · have hin' : (i : Int) < x.n := by omega
              have hi0' : (0 : Int) ≤ i := by omega
              have hbl : bb.length = x.n := hm.len
              obtain ⟨wo, hwo⟩ : ∃ wo, wo = wr := ⟨_, rfl⟩
              subst hwo
              obtain ⟨v0, hcell⟩ : ∃ v0, wo.cell? ⟨gA, i, none⟩ = some v0 := by
                have h5 := hm.b.cell (j := i) hin
                rw [List.getElem?_eq_getElem (by rw [List.length_map]; show i < bb.length; omega)] at h5
                exact ⟨_, h5⟩
              have hfree := hm.b.free hcb0 i
              have hm2 := hm.nilB (i := i) (g := gA) rfl hin
              simp only at hm2
              have hox2 := hox.setO hm.b hcb0 (by decide) i (.slice none 0 0)
              have hb2 := hbV.setCell (p := ⟨gA, i, none⟩) hBA (.slice none 0 0)
              clear hm hox hbV
              go_wp2_with fail
              clear hcell hfree e0 e1 e2
              go_loopw [13] (fun v wr => ∃ (j : Nat) (A : Option Addr) (c : Nat), j ≤ x.r.n ∧ v = .int .i64 j ∧ MkOwn wr v4.heap.size ⟨⟨Ar, x.r.n, cr, x.r.zs⟩, some ⟨gA, 0, none⟩, x.n, cb, (bb.set i ⟨A, j, c, (topR x.r.zs (wv : Int)).take j⟩), ⟨Ao, x.n, co, x.o.zs⟩⟩ ∧ Own wr v4.heap.size 25 (some ⟨g8, 0, none⟩) 3 3 [.slice Ar x.r.n cr, .slice (some ⟨gA, 0, none⟩) x.n cb, .slice Ao x.n co] ∧ Below v4.heap.size v4 wr) (fun v _ => x.r.n - (intOf v).toNat)
              case atStart => exact ⟨0, none, 0, Nat.zero_le _, rfl, by rw [List.take_zero]; exact hm2, hox2, hb2⟩
              case round =>
                clear hm2 hox2 hb2
                obtain ⟨j, A, c, hj, rfl, hm, hox, hbV⟩ := hrel
                obtain ⟨e0, e1, e2⟩ := box_cells hox
                by_cases hlt : j < x.r.n
                · have hlt' : (j : Int) < x.r.n := by omega
                  have hj0 : (0 : Int) ≤ j := by omega
                  obtain ⟨z, hz⟩ : ∃ z, x.r.zs[j]? = some z := ⟨_, List.getElem?_eq_getElem (by rw [HRL.out]; exact hlt)⟩
                  have hzb := HRZ.out z (List.mem_of_getElem? hz)
                  have htk := topR_take (v := (wv : Int)) hz
                  obtain ⟨p1, q1, hA1, hp1, hc1⟩ := ls_num (A := x.r.A) (n := x.r.n) (c := x.r.c) (zs := x.r.zs) hxV.r hz hlt
                  have HA1 := Lib.hid hA1
                  have HTK := Lib.hid htk
                  have hrow : (bb.set i ⟨A, j, c, (topR x.r.zs (wv : Int)).take j⟩)[i]? = some ⟨A, j, c, (topR x.r.zs (wv : Int)).take j⟩ := by rw [List.getElem?_set, if_pos rfl, if_pos (by omega)]
                  have ex0 := (bxV.below hbV).c0
                  have ex1 := (bxV.below hbV).c1
                  have sz : IntKind.i64.wrap (z + (wv : Int)) = z + (wv : Int) := by rw [IntKind.wrap_i64]; omega
                  obtain ⟨vz, hvz⟩ : ∃ a, min (1000000 : Int) (z + (wv : Int)) = a := ⟨_, rfl⟩
                  have hvb : 0 ≤ vz ∧ vz ≤ 1000000 := by omega
                  obtain ⟨wd, hwd⟩ : ∃ wd, wd = wr.drew := ⟨_, rfl⟩
                  have hbd : Below wr.heap.size wr wd := by rw [hwd]; exact (Below.refl wr.heap.size wr).drew
                  have hmd := hm.below hbd
                  have hoxd := hox.below hbd
                  have hbVd := hbV.trans (hbd.mono hbV.size)
                  have hcr := hmd.b.cell (j := i) hin
                  rw [List.getElem?_map, hrow] at hcr
                  replace hcr : wd.cell? ⟨gA, i, none⟩ = some (.slice A j c) := hcr
                  have hS : ∀ w', Below v4.heap.size v4 w' → Own w' v4.heap.size 25 (some ⟨g8, 0, none⟩) 3 3 [.slice Ar x.r.n cr, .slice (some ⟨gA, 0, none⟩) x.n cb, .slice Ao x.n co] → w'.cell? ⟨g8, 1, none⟩ = some (.slice (some ⟨gA, 0, none⟩) x.n cb) ∧ w'.cell? ⟨w.heap.size, 0, none⟩ = some (.slice (some ⟨p1, q1, none⟩) x.r.n x.r.c) ∧ w'.cell? ⟨p1, q1 + j, none⟩ = some (.int .i64 z) := fun w' hb ho => ⟨(box_cells ho).2.1, (bxV.below hb).c0.trans (by rw [HA1.out]), (hb.cell (p := ⟨p1, q1 + j, none⟩) hp1).trans hc1⟩
                  clear hz htk hA1 hm hox
                  go_wp2_with fail
                  refine wp_region_tr (S := fun w' => w'.cell? ⟨g8, 1, none⟩ = some (.slice (some ⟨gA, 0, none⟩) x.n cb) ∧ w'.cell? ⟨w.heap.size, 0, none⟩ = some (.slice (some ⟨p1, q1, none⟩) x.r.n x.r.c) ∧ w'.cell? ⟨p1, q1 + j, none⟩ = some (.int .i64 z)) (.q 0 (.q 1 (.q 2 (.q 3 (.q 4 (.q 5 (.q 6 (.q 8 (.q 9 (.q 10 (.q 11 (.q 12 (.q 13 (.q 14 (.q 15 (.q 16 (.b 7 17 (.d 17 (.d 18 (.q 19 (.d 20 .nil)))) (.d 7 (.d 18 (.q 19 (.d 20 .nil))))))))))))))))))))) default (by kernel_rfl) (by kernel_rfl) (by kernel_rfl) (by rw [← hwd]; exact hS _ hbVd hoxd) ?_
                  simp only [getTr, nth]
                  rw [← hwd]
                  clear hwd hbd
                  repeat (first | (refine trS (by rfl) ?_; simp only [Act.put, List.setIfInBounds_toArray, List.set_cons_zero, List.set_cons_succ]) | (refine trN (by rfl) ?_; simp only [Act.put, List.setIfInBounds_toArray, List.set_cons_zero, List.set_cons_succ]) | (refine trQ (v := ?_) (by rfl) (fun _ hSw => ?_) ?_; rotate_left; (focus ((have hS1 := hSw.1); (have hS2 := hSw.2.1); (have hS3 := hSw.2.2); clear hSw; go_simp; (first | done | with_reducible rfl))); simp only [Act.put, List.setIfInBounds_toArray, List.set_cons_zero, List.set_cons_succ]))
                  refine trB ?_ ?_
                  · refine trD (by rfl) ?_
                    intro K hK
                    go_simp
                    refine hK _ _ (hS _ hbVd hoxd) ?_
                    clear hK K
                    try simp only [Act.put, List.setIfInBounds_toArray, List.set_cons_zero, List.set_cons_succ]
                    repeat (first | (refine trS (by rfl) ?_; simp only [Act.put, List.setIfInBounds_toArray, List.set_cons_zero, List.set_cons_succ]) | (refine trN (by rfl) ?_; simp only [Act.put, List.setIfInBounds_toArray, List.set_cons_zero, List.set_cons_succ]) | (refine trQ (v := ?_) (by rfl) (fun _ hSw => ?_) ?_; rotate_left; (focus ((have hS1 := hSw.1); (have hS2 := hSw.2.1); (have hS3 := hSw.2.2); clear hSw; go_simp; (first | done | with_reducible rfl))); simp only [Act.put, List.setIfInBounds_toArray, List.set_cons_zero, List.set_cons_succ]))
                    refine trD (by rfl) ?_
                    intro K hK
                    go_simp
                    try rw [hvz]
                    obtain ⟨r2, hr2⟩ : ∃ r, r = wd.alloc (.cells #[.int .i64 vz] 3) := ⟨_, rfl⟩
                    have hbl2 : Below wd.heap.size wd r2 := by rw [hr2]; exact (Below.refl _ wd).alloc (Nat.le_refl _) _
                    have hm2 := hmd.below hbl2
                    have hox2 := hoxd.below hbl2
                    have hb2 := hbVd.trans (hbl2.mono hbVd.size)
                    have hlr : Rd r2 (some ⟨wd.heap.size, 0, none⟩) 1 (ci64 [vz]) := by rw [hr2]; exact (Own.lit (B := 0) wd 3 #[.int .i64 vz] 1 (Nat.zero_le _) rfl (by unfold maxLen; omega)).rd
                    rw [← hr2]
                    refine hK _ _ (hS _ hb2 hox2) ?_
                    clear hK K hr2
                    try simp only [Act.put, List.setIfInBounds_toArray, List.set_cons_zero, List.set_cons_succ]
                    repeat (first | (refine trS (by rfl) ?_; simp only [Act.put, List.setIfInBounds_toArray, List.set_cons_zero, List.set_cons_succ]) | (refine trN (by rfl) ?_; simp only [Act.put, List.setIfInBounds_toArray, List.set_cons_zero, List.set_cons_succ]) | (refine trQ (v := ?_) (by rfl) (fun _ hSw => ?_) ?_; rotate_left; (focus ((have hS1 := hSw.1); (have hS2 := hSw.2.1); (have hS3 := hSw.2.2); clear hSw; go_simp; (first | done | with_reducible rfl))); simp only [Act.put, List.setIfInBounds_toArray, List.set_cons_zero, List.set_cons_succ]))
                    clear hcr
                    have hcr := hm2.b.cell (j := i) hin
                    rw [List.getElem?_map, hrow] at hcr
                    replace hcr : r2.cell? ⟨gA, i, none⟩ = some (.slice A j c) := hcr
                    have hro := hm2.bs _ (List.mem_of_getElem? hrow)
                    refine trD (by rfl) ?_
                    intro K hK
                    refine wp_app r2 _ _ 22 rfl 3 i0 _ 8 Try.underlying22 hi0 hz0 hz1 hz2 rfl v4.heap.size A j c _ rfl hro.own _ 1 1 (ci64 [vz]) rfl hlr ?m1 ?m2 ?m3 ?m4 ?_
                    case m1 => intro u hu; obtain ⟨z, _, rfl⟩ := List.mem_map.1 hu; rfl
                    case m2 => simp only [maxLen]; omega
                    case m3 => omega
                    try case m4 => exact hb2.size
                    intro A8 c8 r3 hown8 hbel8 hfr8 hat8
                    have hfr9 : ∀ k, k < r2.heap.size → (((⟨A, j, c, (topR x.r.zs (wv : Int)).take j⟩ : Ls).n = 0 ∧ (⟨A, j, c, (topR x.r.zs (wv : Int)).take j⟩ : Ls).c = 0) ∨ (⟨A, j, c, (topR x.r.zs (wv : Int)).take j⟩ : Ls).A ≠ some ⟨k, 0, none⟩) → r3.heap[k]? = r2.heap[k]? := hfr8
                    have hb3 := hb2.trans hbel8
                    have hox3 := hox2.other hro.own (by decide) hfr9
                    have hbb3 := hm2.b.other hro.own (by decide) hfr9
                    have hO8 : OwnI r3 v4.heap.size ⟨A8, j + 1, c8, (topR x.r.zs (wv : Int)).take (j + 1)⟩ := by
                      rw [HTK.out, hvz]
                      refine ⟨?_, fun y hy => ?_⟩
                      · show Own r3 v4.heap.size _ A8 (j + 1) c8 (ci64 (_ ++ [vz]))
                        rw [ci64_app]; exact hown8
                      · rcases List.mem_append.1 hy with hy | hy
                        · exact hro.fit y hy
                        · rw [List.mem_singleton.1 hy]; omega
                    have hk8 : ∀ g, Blk (⟨A8, j + 1, c8, (topR x.r.zs (wv : Int)).take (j + 1)⟩ : Ls) g → Blk (⟨A, j, c, (topR x.r.zs (wv : Int)).take j⟩ : Ls) g ∨ r2.heap.size ≤ g := fun g hg => by
                      have h5 : A8 = some ⟨g, 0, none⟩ := hg.2
                      have h6 : 0 < c8 := hg.1
                      rcases hat8 with ⟨e1, e2⟩ | e
                      · exact .inl ⟨by show 0 < c; omega, by show A = _; rw [← e1]; exact h5⟩
                      · rw [e] at h5; cases h5; exact .inr (Nat.le_refl _)
                    have hm4 := hm2.appB (i := i) (g := gA) rfl hrow hO8 hk8 hfr9
                    simp only [List.set_set] at hm4
                    rw [show Ls.v ⟨A8, j + 1, c8, (topR x.r.zs (wv : Int)).take (j + 1)⟩ = .slice A8 (j + 1) c8 from rfl] at hm4
                    have hox4 := hox3.setO hbb3 hcb0 (by decide) i (.slice A8 (j + 1) c8)
                    have hb4 := hb3.setCell (p := ⟨gA, i, none⟩) hBA (.slice A8 (j + 1) c8)
                    obtain ⟨v1, hcell⟩ : ∃ v0, r3.cell? ⟨gA, i, none⟩ = some v0 := by
                      have h5 := hbb3.cell (j := i) hin
                      rw [List.getElem?_map, hrow] at h5
                      exact ⟨_, h5⟩
                    have hfree := hbb3.free hcb0 i
                    go_simp
                    refine hK _ _ (hS _ hb3 hox3) ?_
                    clear hK K hown8 hlr hro hmd hoxd hbVd hm2 hox2 hb2 hfr8 hfr9 hk8 hat8 hO8 hbel8 hbl2
                    try simp only [Act.put, List.setIfInBounds_toArray, List.set_cons_zero, List.set_cons_succ]
                    repeat (first | (refine trS (by rfl) ?_; simp only [Act.put, List.setIfInBounds_toArray, List.set_cons_zero, List.set_cons_succ]) | (refine trN (by rfl) ?_; simp only [Act.put, List.setIfInBounds_toArray, List.set_cons_zero, List.set_cons_succ]) | (refine trQ (v := ?_) (by rfl) (fun _ hSw => ?_) ?_; rotate_left; (focus ((have hS1 := hSw.1); (have hS2 := hSw.2.1); (have hS3 := hSw.2.2); clear hSw; go_simp; (first | done | with_reducible rfl))); simp only [Act.put, List.setIfInBounds_toArray, List.set_cons_zero, List.set_cons_succ]))
                    refine trD (by rfl) ?_
                    intro K hK
                    go_simp
                    refine hK _ _ (hS _ hb4 hox4) ?_
                    clear hK K
                    try simp only [Act.put, List.setIfInBounds_toArray, List.set_cons_zero, List.set_cons_succ]
                    refine trE ?_
                    clear hS hox3 hbb3 hcell hfree hcr e0 e1 e2 ex0 ex1 hb3 hrow
                    go_wp2
                    go_roundw
                    case rel => exact ⟨j + 1, A8, c8, by omega, by go_num, hm4, hox4, hb4⟩
                    case measure => simp [intOf]; omega
                  · refine trD (by rfl) ?_
                    intro K hK
                    go_simp
                    try rw [hvz]
                    obtain ⟨r2, hr2⟩ : ∃ r, r = wd.alloc (.cells #[.int .i64 vz] 3) := ⟨_, rfl⟩
                    have hbl2 : Below wd.heap.size wd r2 := by rw [hr2]; exact (Below.refl _ wd).alloc (Nat.le_refl _) _
                    have hm2 := hmd.below hbl2
                    have hox2 := hoxd.below hbl2
                    have hb2 := hbVd.trans (hbl2.mono hbVd.size)
                    have hlr : Rd r2 (some ⟨wd.heap.size, 0, none⟩) 1 (ci64 [vz]) := by rw [hr2]; exact (Own.lit (B := 0) wd 3 #[.int .i64 vz] 1 (Nat.zero_le _) rfl (by unfold maxLen; omega)).rd
                    rw [← hr2]
                    refine hK _ _ (hS _ hb2 hox2) ?_
                    clear hK K hr2
                    try simp only [Act.put, List.setIfInBounds_toArray, List.set_cons_zero, List.set_cons_succ]
                    repeat (first | (refine trS (by rfl) ?_; simp only [Act.put, List.setIfInBounds_toArray, List.set_cons_zero, List.set_cons_succ]) | (refine trN (by rfl) ?_; simp only [Act.put, List.setIfInBounds_toArray, List.set_cons_zero, List.set_cons_succ]) | (refine trQ (v := ?_) (by rfl) (fun _ hSw => ?_) ?_; rotate_left; (focus ((have hS1 := hSw.1); (have hS2 := hSw.2.1); (have hS3 := hSw.2.2); clear hSw; go_simp; (first | done | with_reducible rfl))); simp only [Act.put, List.setIfInBounds_toArray, List.set_cons_zero, List.set_cons_succ]))
                    clear hcr
                    have hcr := hm2.b.cell (j := i) hin
                    rw [List.getElem?_map, hrow] at hcr
                    replace hcr : r2.cell? ⟨gA, i, none⟩ = some (.slice A j c) := hcr
                    refine trD (by rfl) ?_
                    intro K hK
                    go_simp
                    refine hK _ _ (hS _ hb2 hox2) ?_
                    clear hK K
                    try simp only [Act.put, List.setIfInBounds_toArray, List.set_cons_zero, List.set_cons_succ]
                    repeat (first | (refine trS (by rfl) ?_; simp only [Act.put, List.setIfInBounds_toArray, List.set_cons_zero, List.set_cons_succ]) | (refine trN (by rfl) ?_; simp only [Act.put, List.setIfInBounds_toArray, List.set_cons_zero, List.set_cons_succ]) | (refine trQ (v := ?_) (by rfl) (fun _ hSw => ?_) ?_; rotate_left; (focus ((have hS1 := hSw.1); (have hS2 := hSw.2.1); (have hS3 := hSw.2.2); clear hSw; go_simp; (first | done | with_reducible rfl))); simp only [Act.put, List.setIfInBounds_toArray, List.set_cons_zero, List.set_cons_succ]))
                    have hro := hm2.bs _ (List.mem_of_getElem? hrow)
                    refine trD (by rfl) ?_
                    intro K hK
                    refine wp_app r2 _ _ 22 rfl 3 i0 _ 8 Try.underlying22 hi0 hz0 hz1 hz2 rfl v4.heap.size A j c _ rfl hro.own _ 1 1 (ci64 [vz]) rfl hlr ?m1 ?m2 ?m3 ?m4 ?_
                    case m1 => intro u hu; obtain ⟨z, _, rfl⟩ := List.mem_map.1 hu; rfl
                    case m2 => simp only [maxLen]; omega
                    case m3 => omega
                    try case m4 => exact hb2.size
                    intro A8 c8 r3 hown8 hbel8 hfr8 hat8
                    have hfr9 : ∀ k, k < r2.heap.size → (((⟨A, j, c, (topR x.r.zs (wv : Int)).take j⟩ : Ls).n = 0 ∧ (⟨A, j, c, (topR x.r.zs (wv : Int)).take j⟩ : Ls).c = 0) ∨ (⟨A, j, c, (topR x.r.zs (wv : Int)).take j⟩ : Ls).A ≠ some ⟨k, 0, none⟩) → r3.heap[k]? = r2.heap[k]? := hfr8
                    have hb3 := hb2.trans hbel8
                    have hox3 := hox2.other hro.own (by decide) hfr9
                    have hbb3 := hm2.b.other hro.own (by decide) hfr9
                    have hO8 : OwnI r3 v4.heap.size ⟨A8, j + 1, c8, (topR x.r.zs (wv : Int)).take (j + 1)⟩ := by
                      rw [HTK.out, hvz]
                      refine ⟨?_, fun y hy => ?_⟩
                      · show Own r3 v4.heap.size _ A8 (j + 1) c8 (ci64 (_ ++ [vz]))
                        rw [ci64_app]; exact hown8
                      · rcases List.mem_append.1 hy with hy | hy
                        · exact hro.fit y hy
                        · rw [List.mem_singleton.1 hy]; omega
                    have hk8 : ∀ g, Blk (⟨A8, j + 1, c8, (topR x.r.zs (wv : Int)).take (j + 1)⟩ : Ls) g → Blk (⟨A, j, c, (topR x.r.zs (wv : Int)).take j⟩ : Ls) g ∨ r2.heap.size ≤ g := fun g hg => by
                      have h5 : A8 = some ⟨g, 0, none⟩ := hg.2
                      have h6 : 0 < c8 := hg.1
                      rcases hat8 with ⟨e1, e2⟩ | e
                      · exact .inl ⟨by show 0 < c; omega, by show A = _; rw [← e1]; exact h5⟩
                      · rw [e] at h5; cases h5; exact .inr (Nat.le_refl _)
                    have hm4 := hm2.appB (i := i) (g := gA) rfl hrow hO8 hk8 hfr9
                    simp only [List.set_set] at hm4
                    rw [show Ls.v ⟨A8, j + 1, c8, (topR x.r.zs (wv : Int)).take (j + 1)⟩ = .slice A8 (j + 1) c8 from rfl] at hm4
                    have hox4 := hox3.setO hbb3 hcb0 (by decide) i (.slice A8 (j + 1) c8)
                    have hb4 := hb3.setCell (p := ⟨gA, i, none⟩) hBA (.slice A8 (j + 1) c8)
                    obtain ⟨v1, hcell⟩ : ∃ v0, r3.cell? ⟨gA, i, none⟩ = some v0 := by
                      have h5 := hbb3.cell (j := i) hin
                      rw [List.getElem?_map, hrow] at h5
                      exact ⟨_, h5⟩
                    have hfree := hbb3.free hcb0 i
                    go_simp
                    refine hK _ _ (hS _ hb3 hox3) ?_
                    clear hK K hown8 hlr hro hmd hoxd hbVd hm2 hox2 hb2 hfr8 hfr9 hk8 hat8 hO8 hbel8 hbl2
                    try simp only [Act.put, List.setIfInBounds_toArray, List.set_cons_zero, List.set_cons_succ]
                    repeat (first | (refine trS (by rfl) ?_; simp only [Act.put, List.setIfInBounds_toArray, List.set_cons_zero, List.set_cons_succ]) | (refine trN (by rfl) ?_; simp only [Act.put, List.setIfInBounds_toArray, List.set_cons_zero, List.set_cons_succ]) | (refine trQ (v := ?_) (by rfl) (fun _ hSw => ?_) ?_; rotate_left; (focus ((have hS1 := hSw.1); (have hS2 := hSw.2.1); (have hS3 := hSw.2.2); clear hSw; go_simp; (first | done | with_reducible rfl))); simp only [Act.put, List.setIfInBounds_toArray, List.set_cons_zero, List.set_cons_succ]))
                    refine trD (by rfl) ?_
                    intro K hK
                    go_simp
                    refine hK _ _ (hS _ hb4 hox4) ?_
                    clear hK K
                    try simp only [Act.put, List.setIfInBounds_toArray, List.set_cons_zero, List.set_cons_succ]
                    refine trE ?_
                    clear hS hox3 hbb3 hcell hfree hcr e0 e1 e2 ex0 ex1 hb3 hrow
                    go_wp2
                    go_roundw
                    case rel => exact ⟨j + 1, A8, c8, by omega, by go_num, hm4, hox4, hb4⟩
                    case measure => simp [intOf]; omega
                · obtain rfl : j = x.r.n := by omega
                  have HAS : Hid (Ls.all (bb.set i ⟨A, x.r.n, c, (topR x.r.zs (wv : Int)).take x.r.n⟩) = mixG (fun _ => topR x.r.zs (wv : Int)) (fun j => (Ls.all x.b).getD j []) x.n (i + 1)) := Lib.hid (by
                    rw [all_set, hall.out]
                    simp only
                    rw [List.take_of_length_le (by rw [topR_len, HRL.out]; exact Nat.le_refl _)]
                    exact mixG_set (fun _ => topR x.r.zs (wv : Int)) (fun j => (Ls.all x.b).getD j []) x.n i)
                  have ex0 := (bxV.below hbV).c0
                  clear hall
                  go_wp2
                  go_roundw
                  case rel => exact ⟨i + 1, _, by omega, by go_num, hm, HAS, hox, hbV⟩
                  case measure => simp [intOf]; omega
            · obtain rfl : i = x.n := by omega
              obtain ⟨hend1, hend2⟩ := same_end (x := x) (y := ⟨⟨Ar, x.r.n, cr, x.r.zs⟩, some ⟨gA, 0, none⟩, x.n, cb, bb, ⟨Ao, x.n, co, x.o.zs⟩⟩) (n := x.n) (v := (wv : Int)) HM.out HBL.out.symm (by omega) rfl rfl hall.out
              rw [HRL.out] at hend2
              have EE2 := Lib.hid hend1
              have ES2 := Lib.hid (fun h => hend2 h (by omega))
              have hx := hxV.below hbV
              have bx := bxV.below hbV
              have hB := hB0.trans (hbV.mono hB0.size)
              have hyk := hm.ok
              obtain ⟨w9, hw9⟩ : ∃ w9, w9 = wr := ⟨_, rfl⟩
              subst hw9
              clear hm hall hbV hxV bxV hB0 hend1 hend2 HYB
              go_wp2_with fail
              clear e0 e1 e2
              go_loopw [14, 15] (fun u v wr => ∃ (j : Nat) (ub : Bool), j ≤ x.r.n ∧ v = .int .i64 j ∧ u = .bool ub ∧ Hid (ub = sameB x.r.zs (wv : Int) j) ∧ Below w9.heap.size w9 wr) (fun _ v _ => x.r.n - (intOf v).toNat)
              case atStart => exact ⟨0, true, Nat.zero_le _, rfl, rfl, Lib.hid rfl, Below.refl _ _⟩
              case round =>
                obtain ⟨j, ub, hj, rfl, rfl, hub, hbel⟩ := hrel
                have ex0 := (bx.below hbel).c0
                by_cases hlt : j < x.r.n
                · have hlt' : (j : Int) < x.r.n := by omega
                  have hj0 : (0 : Int) ≤ j := by omega
                  obtain ⟨z, hz⟩ : ∃ z, x.r.zs[j]? = some z := ⟨_, List.getElem?_eq_getElem (by rw [HRL.out]; exact hlt)⟩
                  have hzb := HRZ.out z (List.mem_of_getElem? hz)
                  have hus := sameB_succ (v := (wv : Int)) hz
                  rw [← hub.out] at hus
                  obtain ⟨p1, q1, hA1, hp1, hc1⟩ := ls_num (A := x.r.A) (n := x.r.n) (c := x.r.c) (zs := x.r.zs) (hx.below hbel).r hz hlt
                  rw [hA1] at ex0
                  have sz : IntKind.i64.wrap (z + (wv : Int)) = z + (wv : Int) := by rw [IntKind.wrap_i64]; omega
                  obtain ⟨δ, hδ⟩ : ∃ δ, decide (z + (wv : Int) ≤ 1000000) = δ := ⟨_, rfl⟩
                  rw [hδ] at hus
                  clear hz hA1 hub
                  cases ub
                  · have HN : Hid (false = sameB x.r.zs (wv : Int) (j + 1)) := Lib.hid (by rw [hus]; rfl)
                    clear hus hδ
                    go_wp2
                    go_roundw
                    case rel => exact ⟨j + 1, false, by omega, by go_num, rfl, HN, hbel⟩
                    case measure => simp [intOf]; omega
                  · have HN : Hid (δ = sameB x.r.zs (wv : Int) (j + 1)) := Lib.hid (by rw [hus]; rfl)
                    clear hus
                    go_wp2
                    go_roundw
                    case rel => exact ⟨j + 1, δ, by omega, by go_num, by first | rfl | rw [hδ], HN, hbel⟩
                    case measure => simp [intOf]; omega
                · obtain rfl : j = x.r.n := by omega
                  obtain ⟨w8, hw8⟩ : ∃ w8, w8 = wr := ⟨_, rfl⟩
                  subst hw8
                  clear ex0
                  replace hx := hx.below hbel
                  replace bx := bx.below hbel
                  have ex0 := bx.c0
                  replace hox := hox.below hbel
                  replace hyk := hyk.below hbel
                  replace hB := hB.trans (hbel.mono hB.size)
                  obtain ⟨e0, e1, e2⟩ := box_cells hox
                  have hc := pleastC ⟨⟨Ar, x.r.n, cr, x.r.zs⟩, some ⟨gA, 0, none⟩, x.n, cb, bb, ⟨Ao, x.n, co, x.o.zs⟩⟩ w8 hyk
                  rw [show Mk.v ⟨⟨Ar, x.r.n, cr, x.r.zs⟩, some ⟨gA, 0, none⟩, x.n, cb, bb, ⟨Ao, x.n, co, x.o.zs⟩⟩ = .agg #[.slice Ar x.r.n cr, .slice (some ⟨gA, 0, none⟩) x.n cb, .slice Ao x.n co] from rfl, EE2.out] at hc
                  clear hbel
                  cases ub
                  · clear hub
                    go_wp2_with fail
                    refine hc.mono ?_
                    rintro e v98 ⟨A3, n3, c3, rfl, h3, hb⟩
                    clear hc e0 e1 e2 ex0 hyk hox
                    replace hx := hx.below hb
                    replace bx := bx.below hb
                    replace hB := hB.trans (hb.mono hB.size)
                    clear hb
                    have ex0 := bx.c0
                    have ex1 := bx.c1
                    have ex2 := bx.c2
                    have hc := alive13_any v98
                    go_wp2_with fail
                    clear ex0 ex1 ex2
                    refine hc.mono ?_
                    rintro e v6 ⟨rfl, hb⟩
                    clear hc
                    replace hx := hx.below hb
                    replace bx := bx.below hb
                    replace hB := hB.trans (hb.mono hB.size)
                    clear hb
                    have ex0 := bx.c0
                    have ex1 := bx.c1
                    have ex2 := bx.c2
                    go_wp2
                    go_ret
                    exact ⟨rfl, hB⟩
                  · rw [ES2.out hub.out.symm] at hc
                    go_wp2_with fail
                    refine hc.mono ?_
                    rintro e v98 ⟨A3, n3, c3, rfl, h3, hb⟩
                    clear hc e0 e1 e2 ex0 hyk hox
                    replace hx := hx.below hb
                    replace bx := bx.below hb
                    replace hB := hB.trans (hb.mono hB.size)
                    clear hb
                    obtain rfl : n3 = x.r.n := by have h5 := h3.len; simp only at h5; rw [HRL.out] at h5; exact h5.symm
                    have ex0 := bx.c0
                    have ex1 := bx.c1
                    have ex2 := bx.c2
                    have hc := sameints_b ⟨A3, x.r.n, c3, x.r.zs⟩ x.r v98 h3.ok hx.r
                    rw [show ((x.r.zs : List Int) == x.r.zs) = true by simp, show Ls.v ⟨A3, x.r.n, c3, x.r.zs⟩ = .slice A3 x.r.n c3 from rfl, show Ls.v x.r = .slice x.r.A x.r.n x.r.c from rfl] at hc
                    go_wp2_with fail
                    clear ex0 ex1 ex2
                    refine hc.mono ?_
                    rintro e v6 ⟨rfl, hb⟩
                    clear hc
                    replace hx := hx.below hb
                    replace h3 := h3.below hb
                    replace bx := bx.below hb
                    replace hB := hB.trans (hb.mono hB.size)
                    clear hb
                    clear h3
                    have ex0 := bx.c0
                    have ex1 := bx.c1
                    have ex2 := bx.c2
                    have hc := alive13_any v6
                    go_wp2_with fail
                    clear ex0 ex1 ex2
                    refine hc.mono ?_
                    rintro e v7 ⟨rfl, hb⟩
                    clear hc
                    replace hx := hx.below hb
                    replace bx := bx.below hb
                    replace hB := hB.trans (hb.mono hB.size)
                    clear hb
                    have ex0 := bx.c0
                    have ex1 := bx.c1
                    have ex2 := bx.c2
                    go_wp2
                    go_ret
                    exact ⟨rfl, hB⟩

theorem own : ownKnob Try.prog.godebug = none := by kernel_rfl
theorem laidOut : laidOutB Try.prog = true := by kernel_rfl

set_option maxRecDepth 100000 in
theorem lifted (os : Os) (started : os.Started) (H : Type) (enc : TypeId × Value → H) :
    ReturnsInHanded {} Try.checked os 8 .any (Rows.risesAloneSpec.pre6 enc Try.prog Try.f8 Rows.risesAloneRow.domain false) (Rows.risesAloneSpec.post enc Try.prog Try.f8 false true false false) := by
  refine returnsInHanded_of_change (C := Try.checked) own started (by kernel_rfl) Try.func8
    (ChangeSpec.witness6 (enc := enc) (C := Try.checked) false ⟨#[], #[.agg #[.slice none 0 0, .slice none 0 0, .slice none 0 0], .int .u8 0, .int .u16 0], []⟩ 8 (by kernel_rfl) (by kernel_rfl) (by kernel_rfl) (by kernel_rfl)) ?_
  intro W base args ds gs before hval0 hW hcnd _
  have hval : ∀ (j : Nat) t v, Try.f8.params[j]? = some t → args[j]? = some v → Value.okWide Try.prog W .any base t v := hval0
  have hW' := hW
  obtain ⟨p, q, hA0, hV, rfl, hfz, hnd⟩ := hW
  have hA : DataW.TrodAll enc Try.prog W 0 (fun _ => true) true Try.f8.params.toList args.toList ds p := hA0
  rw [Try.params8] at hA hval
  obtain ⟨v0, vs0, d0, ds0, p0, q0, hargs, rfl, rfl, h0, r0⟩ := trodAll_cons hA
  obtain ⟨v1, vs1, d1, ds1, p1, q1, rfl, rfl, rfl, h1, r1⟩ := trodAll_cons r0
  obtain ⟨v2, vs2, d2, ds2, p2, q2, rfl, rfl, rfl, h2, r2⟩ := trodAll_cons r1
  obtain ⟨rfl, rfl, rfl⟩ := trodAll_nil r2
  obtain rfl : args = #[v0, v1, v2] := by cases args; simp_all
  obtain ⟨u0, rfl, k0⟩ := arg_mk Try.underlying25 (by kernel_rfl) (by kernel_rfl) Try.underlying22 Try.underlying23 Try.underlying22 Try.underlying22 (by kernel_rfl) Try.underlying3 (by kernel_rfl) (hval 0 25 v0 rfl rfl) h0
  obtain ⟨x1, rfl, rfl, rfl, w1⟩ := open_int Try.underlying5 (hval 1 5 v1 rfl rfl) h1
  obtain ⟨y1, rfl, z1⟩ := fit_u8 w1
  obtain ⟨x2, rfl, rfl, rfl, w2⟩ := open_int Try.underlying45 (hval 2 45 v2 rfl rfl) h2
  obtain ⟨y2, rfl, z2⟩ := fit_u16 w2
  have hwalk : Calls Try.prog 8 #[u0.v, .int .u8 y1, .int .u16 y2] W fun e w' => e = .returned (.bool true) ∧ Below W.heap.size W w' := walk u0 y1 y2 W k0 z1 z2
  refine hwalk.mono fun e W' ⟨he, hg⟩ => ?_
  subst he
  exact ⟨_, rfl, law_post laidOut (by kernel_rfl) hW' rfl rfl (by kernel_rfl) Try.underlying4 hg⟩

theorem over : Rows.risesAloneRow.holds Try.pinned (OpenSpec.ofChange Rows.risesAloneSpec) :=
  OpenClaim.holds_of_wide 8 Try.f8 rfl rfl rfl rfl rfl rfl rfl ⟨rfl, rfl, rfl, rfl, rfl⟩ rfl rfl rfl rfl rfl (by kernel_rfl) Try.func8 (by kernel_rfl)
    (of_decide_eq_true (by kernel_rfl)) (by unfold Func.isWrapper; first | (rw [if_pos (by decide +kernel)]; kernel_rfl) | (rw [if_neg (by decide +kernel)]; exact ⟨rfl, rfl⟩))
    (fun os started H enc _ => lifted os started H enc)

theorem proved : Rows.RisesAloneSaid :=
  over

end Go.Proofs.Ytdckoaljcklmhaa.risesAlone
