/-
  Proved: In which order bidders stand, and how they are numbered, makes no difference to prices, nor does a bidder without a bid (any market, by how far the numbers are moved).
-/
import Derived.Test.YtdckoaljcklmhaaRows
import Derived.Test.YtdckoaljcklmhaaLift
import Derived.Test.YtdckoaljcklmhaaAlive13
import Derived.Test.YtdckoaljcklmhaaZeros
import Derived.Test.YtdckoaljcklmhaaRiN
import Derived.Test.YtdckoaljcklmhaaReg2
import Derived.Test.YtdckoaljcklmhaaMkS
namespace Go.Proofs.Ytdckoaljcklmhaa.risesOrder
open Go.ChangeShapes Go.WideShapes Go.ChangeAt Go.RowKit
set_option linter.unusedVariables false

theorem info6_int : (Try.prog.info? 3).map (fun i => (i.zero, i.size, i.bytes)) = some (some (.int .i64 0), 1, 8) := by kernel_rfl
theorem infoI_ints : (Try.prog.info? 22).map (fun i => (i.zero, i.size, i.bytes)) = some (some (.slice none 0 0), 1, 24) := by kernel_rfl
theorem fitO {w : World} {x : Mk} (h : x.Ok w) : ∀ z ∈ x.o.zs, -9223372036854775808 ≤ z ∧ z ≤ 9223372036854775807 := h.o.fit
theorem own_num {w : World} {B : Nat} {A : Option Addr} {n c i : Nat} {zs : List Int} {z : Int} (h : OwnI w B ⟨A, n, c, zs⟩) (hi : zs[i]? = some z) (hin : i < n) : ∃ g, A = some ⟨g, 0, none⟩ ∧ g < w.heap.size ∧ w.cell? ⟨g, i, none⟩ = some (.int .i64 z) := by
  have hle := h.own.le
  simp only at hle
  obtain ⟨g, hA, _, hg⟩ := h.own.lt (show 0 < c by omega)
  simp only at hA
  subst hA
  have h1 := h.own.cell (j := i) hin
  rw [show ci64 zs = zs.map iV from rfl, List.getElem?_map, hi] at h1
  exact ⟨g, rfl, hg, h1⟩
theorem box_cells {w : World} {B g : Nat} {v0 v1 v2 : Value} (h : Own w B 25 (some ⟨g, 0, none⟩) 3 3 [v0, v1, v2]) : w.cell? ⟨g, 0, none⟩ = some v0 ∧ w.cell? ⟨g, 1, none⟩ = some v1 ∧ w.cell? ⟨g, 2, none⟩ = some v2 := ⟨h.cell (j := 0) (by omega), h.cell (j := 1) (by omega), h.cell (j := 2) (by omega)⟩
theorem all_set (b : List Ls) (i : Nat) (u : Ls) : Ls.all (b.set i u) = (Ls.all b).set i u.zs := by rw [Ls.all, Ls.all, List.map_set]

set_option maxRecDepth 100000 in
set_option maxHeartbeats 1000000 in
theorem walk (x : Mk) (k0 : Nat) (w : World) (h : x.Ok w) (hk0 : k0 < 256) :
    Calls Try.prog 5 #[x.v, .int .u8 k0] w fun e w' => e = .returned (.bool true) ∧ Below w.heap.size w w' := by
  have hx := h
  have hB := Below.refl w.heap.size w
  have hxv : x.v = .agg #[.slice x.r.A x.r.n x.r.c, .slice x.A x.n x.c, .slice x.o.A x.o.n x.o.c] := rfl
  have Vx := Lib.hid hxv
  rw [hxv]
  have HBL : Hid ((Ls.all x.b).length = x.n) := Lib.hid (by rw [Ls.all, List.length_map, hx.len])
  have HRL : Hid (x.r.zs.length = x.r.n) := Lib.hid hx.r.len
  have btop := Nat.le_trans hx.cap hx.top
  have rtop := Nat.le_trans hx.r.cap hx.r.top
  unfold maxLen at btop rtop
  obtain ⟨B, hB0⟩ : ∃ B, x.may = B := ⟨_, rfl⟩
  clear hxv h
  go_enter Try.func5, Try.ntmps5
  have bx := InBox.new w x
  have hbx : Below w.heap.size w (w.alloc (.cells #[.slice x.r.A x.r.n x.r.c, .slice x.A x.n x.c, .slice x.o.A x.o.n x.o.c] 25)) := (Below.refl _ w).alloc (Nat.le_refl _) _
  replace hx := hx.below hbx
  replace hB := hB.trans (hbx.mono hB.size)
  clear hbx
  cases B
  · have E1 := Lib.hid (show leastE x = [] ∧ x.err = 1 by simp [leastE, Mk.err, hB0])
    clear hB0
    have ex0 := bx.c0
    have ex1 := bx.c1
    have ex2 := bx.c2
    have hc := pleastC x (w.alloc (.cells #[.slice x.r.A x.r.n x.r.c, .slice x.A x.n x.c, .slice x.o.A x.o.n x.o.c] 25)) hx
    rw [Vx.out, E1.out.1, E1.out.2] at hc
    go_wp2_with fail
    clear ex0 ex1 ex2
    generalize w.alloc (.cells #[.slice x.r.A x.r.n x.r.c, .slice x.A x.n x.c, .slice x.o.A x.o.n x.o.c] 25) = W1 at *
    refine hc.mono ?_
    rintro e v2 ⟨A1, n1, c1, rfl, h1, hb⟩
    clear hc
    replace hx := hx.below hb
    replace bx := bx.below hb
    replace hB := hB.trans (hb.mono hB.size)
    clear hb
    clear h1 hx bx
    have hc := alive13_any v2
    go_wp2_with fail
    refine hc.mono ?_
    rintro e v3 ⟨rfl, hb⟩
    clear hc
    replace hB := hB.trans (hb.mono hB.size)
    clear hb
    go_wp2
    go_ret
    exact ⟨rfl, hB⟩
  · have HM := Lib.hid hB0
    obtain ⟨hM8, hM1, hn1, hn8⟩ : x.r.n ≤ 8 ∧ 1 ≤ x.r.n ∧ 1 ≤ x.n ∧ x.n ≤ 8 := ⟨(mk_len hx hB0).1, (mk_len hx hB0).2.1, (mk_len hx hB0).2.2.1, (mk_len hx hB0).2.2.2.1⟩
    have HRZ : Hid (∀ z ∈ x.r.zs, 0 ≤ z ∧ z ≤ 1000000) := Lib.hid (mk_len hx hB0).2.2.2.2.2.2.1
    have HBZ : Hid (∀ u ∈ x.b, ∀ z ∈ u.zs, 0 ≤ z ∧ z ≤ 1000000) := Lib.hid (mk_len hx hB0).2.2.2.2.2.2.2
    have HRO := Lib.hid (may_rows hB0)
    obtain ⟨ll, hll⟩ : ∃ a, leastL x.r.zs (Ls.all x.b) = a := ⟨_, rfl⟩
    have HLL := Lib.hid hll
    have LLN : Hid (ll.length = x.r.n) := Lib.hid (by rw [← hll, leastL_len, HRL.out])
    have EL : Hid (leastE x = ll) := Lib.hid (by rw [leastE, if_pos hB0, hll])
    have EE : Hid (x.err = 0) := Lib.hid (by rw [Mk.err, if_pos hB0])
    clear hB0 hll
    have ex0 := bx.c0
    have ex1 := bx.c1
    have ex2 := bx.c2
    have hc := pleastC x (w.alloc (.cells #[.slice x.r.A x.r.n x.r.c, .slice x.A x.n x.c, .slice x.o.A x.o.n x.o.c] 25)) hx
    rw [Vx.out, EL.out, EE.out] at hc
    go_wp2_with fail
    clear ex0 ex1 ex2
    generalize w.alloc (.cells #[.slice x.r.A x.r.n x.r.c, .slice x.A x.n x.c, .slice x.o.A x.o.n x.o.c] 25) = W1 at *
    refine hc.mono ?_
    rintro e v2 ⟨A1, n1, c1, rfl, h1, hb⟩
    clear hc
    replace hx := hx.below hb
    replace bx := bx.below hb
    replace hB := hB.trans (hb.mono hB.size)
    clear hb
    obtain rfl : n1 = x.r.n := by have h5 := h1.len; simp only at h5; rw [LLN.out] at h5; exact h5.symm
    have gn3 : ((x.n : Int) == 0) = false := by rw [beq_eq_false_iff_ne]; omega
    have gn4 : (x.n == 0) = false := by rw [beq_eq_false_iff_ne]; omega
    obtain ⟨i0, hi0, hz0, hz1, hz2⟩ := info_parts info6_int
    obtain ⟨i1, hi1', hy0, hy1, hy2⟩ := info_parts infoI_ints
    have hbn : ∀ u ∈ x.b, u.n ≤ 1000000000 := fun u hu => by
      rcases (mk_len hx HM.out).2.2.2.2.2.1 u hu with e | e <;> omega
    have hon : x.o.n ≤ 1000000000 := by have := (mk_len hx HM.out).2.2.2.2.1; omega
    have HON : Hid (x.o.n = x.n) := Lib.hid (mk_len hx HM.out).2.2.2.2.1
    have HOL : Hid (x.o.zs.length = x.n) := Lib.hid (by rw [hx.o.len, HON.out])
    have HRM : Hid (∀ u ∈ x.b, u.n = 0 ∨ u.n = x.r.n) := Lib.hid (mk_len hx HM.out).2.2.2.2.2.1
    have hxV := hx
    have hB0 := hB
    have bxV := bx
    have h1V := h1
    have ex0 := bx.c0
    have ex1 := bx.c1
    have ex2 := bx.c2
    have hc := twinmarket_any x v2 hx (by omega) (by omega) hon hbn
    rw [Vx.out] at hc
    go_wp2_with fail
    clear ex0 ex1 ex2
    refine hc.mono ?_
    rintro e v3 ⟨y, rfl, hy, hyr, hyb, hyo, hyn, hb⟩
    clear hc
    have hbV := hb
    replace hx := hx.below hb
    replace h1 := h1.below hb
    replace bx := bx.below hb
    replace hB := hB.trans (hb.mono hB.size)
    clear hb
    clear hbn hon
    have hm := hy.mkown
    have HYB := Lib.hid hyb
    have HYO := Lib.hid hyo
    have HYR := Lib.hid hyr
    clear hyr hyb hyo hy
    obtain ⟨⟨Ar, nr, cr, rz⟩, Ab, nb, cb, yb, ⟨Ao, no, co, oz⟩⟩ := y
    simp only at HYR HYB HYO hyn hm
    obtain rfl : rz = x.r.zs := HYR.out
    obtain rfl : oz = x.o.zs := HYO.out
    obtain rfl : nr = x.r.n := by have h5 := hm.r.len; simp only at h5; rw [HRL.out] at h5; exact h5.symm
    obtain rfl : no = x.n := by have h5 := hm.o.len; simp only at h5; rw [HOL.out] at h5; exact h5.symm
    obtain rfl : nb = x.n := hyn
    clear HYR HYO
    have hyv : Mk.v ⟨⟨Ar, x.r.n, cr, x.r.zs⟩, Ab, x.n, cb, yb, ⟨Ao, x.n, co, x.o.zs⟩⟩ = .agg #[.slice Ar x.r.n cr, .slice Ab x.n cb, .slice Ao x.n co] := rfl
    rw [hyv]
    clear hyv
    obtain ⟨g8, hg8⟩ : ∃ g8, g8 = v3.heap.size := ⟨_, rfl⟩
    have hox : Own (v3.alloc (.cells #[.slice Ar x.r.n cr, .slice Ab x.n cb, .slice Ao x.n co] 25)) v2.heap.size 25 (some ⟨v3.heap.size, 0, none⟩) 3 3 [.slice Ar x.r.n cr, .slice Ab x.n cb, .slice Ao x.n co] := Own.lit v3 25 #[.slice Ar x.r.n cr, .slice Ab x.n cb, .slice Ao x.n co] 3 hbV.size rfl (by unfold maxLen; omega)
    have hbl : Below v3.heap.size v3 (v3.alloc (.cells #[.slice Ar x.r.n cr, .slice Ab x.n cb, .slice Ao x.n co] 25)) := (Below.refl _ v3).alloc (Nat.le_refl _) _
    replace hm := hm.below hbl
    replace hbV := hbV.trans (hbl.mono hbV.size)
    clear hbl hx bx h1
    go_wp2_with fail
    generalize v3.alloc (.cells #[.slice Ar x.r.n cr, .slice Ab x.n cb, .slice Ao x.n co] 25) = W8 at *
    rw [← hg8] at hox ⊢
    clear hg8
    have hB8 : v2.heap.size ≤ g8 := by
      obtain ⟨g', hA', h5, _⟩ := hox.lt (by omega)
      cases hA'; exact h5
    have hleb := hm.b.le
    have hleo := hm.o.own.le
    simp only at hleb hleo
    obtain ⟨gA, hAb, hBA, _⟩ := hm.b.lt (show 0 < cb by omega)
    obtain ⟨gO, hAo, hBO, _⟩ := hm.o.own.lt (show 0 < co by omega)
    simp only at hAb hAo
    subst hAb
    subst hAo
    go_loopw [9] (fun v wr => ∃ (i : Nat) (bb : List Ls), i ≤ x.n ∧ v = .int .i64 i ∧ MkOwn wr v2.heap.size ⟨⟨Ar, x.r.n, cr, x.r.zs⟩, some ⟨gA, 0, none⟩, x.n, cb, bb, ⟨some ⟨gO, 0, none⟩, x.n, co, mixG (fun j => x.o.zs.getD (x.n - 1 - j) 0) (fun j => x.o.zs.getD j 0) x.n i⟩⟩ ∧ Hid (Ls.all bb = mixG (fun j => (Ls.all x.b).getD ((j + k0) % x.n) []) (fun j => (Ls.all x.b).getD j []) x.n i) ∧ Own wr v2.heap.size 25 (some ⟨g8, 0, none⟩) 3 3 [.slice Ar x.r.n cr, .slice (some ⟨gA, 0, none⟩) x.n cb, .slice (some ⟨gO, 0, none⟩) x.n co] ∧ Below v2.heap.size v2 wr) (fun v _ => x.n - (intOf v).toNat)
    case atStart => exact ⟨0, yb, Nat.zero_le _, rfl, by rw [mixG_zero, ← HOL.out, range_getD]; rw [HOL.out]; exact hm, Lib.hid (by rw [mixG_zero, ← HBL.out, range_getD]; exact HYB.out), hox, hbV⟩
    case round =>
      clear hm hox hbV
      obtain ⟨i, bb, hi, rfl, hm, hall, hox, hbV⟩ := hrel
      obtain ⟨e0, e1, e2⟩ := box_cells hox
      by_cases hin : i < x.n
      · have hin' : (i : Int) < x.n := by omega
        have hi0' : (0 : Int) ≤ i := by omega
        have gn5 : ¬ x.n = 0 := by omega
        obtain ⟨i', hi', hmod⟩ : ∃ i' : Nat, i' < x.n ∧ (i + k0) % x.n = i' := ⟨_, Nat.mod_lt _ (by omega), rfl⟩
        have hmodI : Int.tmod ((i : Int) + (k0 : Int)) x.n = (i' : Int) := by rw [Int.tmod_eq_emod_of_nonneg (by omega), ← hmod]; rfl
        have s1 : IntKind.i64.wrap ((i : Int) + (k0 : Int)) = (i : Int) + k0 := by rw [IntKind.wrap_i64]; omega
        have s2 : IntKind.i64.wrap (i' : Int) = i' := by rw [IntKind.wrap_i64]; omega
        have s3 : IntKind.i64.wrap (k0 : Int) = k0 := by rw [IntKind.wrap_i64]; omega
        have hi1 : (i' : Int) < x.n := by omega
        have hi2 : (0 : Int) ≤ i' := by omega
        obtain ⟨p1, q1, u, hA1, hu, hub, hp1, hcx, hku⟩ := hxV.get hi'
        have huz : (Ls.all x.b).getD i' [] = u.zs := by
          rw [Ls.all, List.getD_eq_getElem?_getD, List.getElem?_map, hu]; rfl
        have hun : u.n ≤ 1000000000 := by
          rcases HRM.out u (List.mem_of_getElem? hu) with e | e <;> omega
        obtain ⟨uA, un, uc, uz⟩ := u
        simp only at huz hun
        replace hcx : v2.cell? ⟨p1, q1 + i', none⟩ = some (.slice uA un uc) := hcx
        have hset : Ls.all bb = mixG (fun j => (Ls.all x.b).getD ((j + k0) % x.n) []) (fun j => (Ls.all x.b).getD j []) x.n i := hall.out
        have hset2 := mixG_set (fun j => (Ls.all x.b).getD ((j + k0) % x.n) []) (fun j => (Ls.all x.b).getD j []) x.n i
        try simp only at hset2
        rw [hmod, huz] at hset2
        have HSET := Lib.hid hset2
        obtain ⟨wd, hwd⟩ : ∃ wd, wd = wr.drew := ⟨_, rfl⟩
        have hbd : Below wr.heap.size wr wd := by rw [hwd]; exact (Below.refl wr.heap.size wr).drew
        have hmd := hm.below hbd
        have hoxd := hox.below hbd
        have hbVd := hbV.trans (hbd.mono hbV.size)
        have HA1 := Lib.hid hA1
        have hS : ∀ w', Below v2.heap.size v2 w' → Own w' v2.heap.size 25 (some ⟨g8, 0, none⟩) 3 3 [.slice Ar x.r.n cr, .slice (some ⟨gA, 0, none⟩) x.n cb, .slice (some ⟨gO, 0, none⟩) x.n co] → w'.cell? ⟨w.heap.size, 1, none⟩ = some (.slice (some ⟨p1, q1, none⟩) x.n x.c) ∧ w'.cell? ⟨p1, q1 + i', none⟩ = some (.slice uA un uc) ∧ w'.cell? ⟨g8, 1, none⟩ = some (.slice (some ⟨gA, 0, none⟩) x.n cb) := fun w' hb ho => ⟨(bxV.below hb).c1.trans (by rw [HA1.out]), (hb.cell (p := ⟨p1, q1 + i', none⟩) hp1).trans hcx, (box_cells ho).2.1⟩
        have HALL := hall
        clear hm hox hset hset2 hu hub huz hmod hA1 hall
        go_wp2_with fail
        refine wp_region_ord (S := fun w' => w'.cell? ⟨w.heap.size, 1, none⟩ = some (.slice (some ⟨p1, q1, none⟩) x.n x.c) ∧ w'.cell? ⟨p1, q1 + i', none⟩ = some (.slice uA un uc) ∧ w'.cell? ⟨g8, 1, none⟩ = some (.slice (some ⟨gA, 0, none⟩) x.n cb)) [(0, true), (1, true), (2, true), (3, true), (4, true), (5, true), (6, true), (7, true), (8, true), (9, true), (10, true), (11, true), (12, true), (13, false), (14, true), (15, false)] default (by kernel_rfl) (by kernel_rfl) (by kernel_rfl) (by rw [← hwd]; exact hS _ hbVd hoxd) ?_
        simp only [getOrd, nth]
        rw [← hwd]
        clear hwd hbd
        repeat (first | (refine ordS (by rfl) ?_; simp only [Act.put, List.setIfInBounds_toArray, List.set_cons_zero, List.set_cons_succ]) | (refine ordN (by rfl) ?_; simp only [Act.put, List.setIfInBounds_toArray, List.set_cons_zero, List.set_cons_succ]) | (refine ordQ (v := ?_) (by rfl) (fun _ hSw => ?_) ?_; rotate_left; (focus ((have hS1 := hSw.1); (have hS2 := hSw.2.1); (have hS3 := hSw.2.2); clear hSw; go_simp; (first | done | with_reducible rfl))); simp only [Act.put, List.setIfInBounds_toArray, List.set_cons_zero, List.set_cons_succ]))
        refine ordD (by rfl) ?_
        intro K hK
        go_simp
        have hc := twinints_any uA un uc uz wd ((hku.rd).below hbVd) hun
        refine hc.mono ?_
        rintro e w5 ⟨A7, c7, rfl, hT7, hb⟩
        have hm5 := hmd.below hb
        have hox5 := hoxd.below hb
        have hbV5 := hbVd.trans (hb.mono hbVd.size)
        have hO7 : OwnI w5 wd.heap.size ⟨A7, un, c7, uz⟩ := by
          have hl7 : uz.length = un := hku.len
          have h3 := hT7.less (m := un) (by omega)
          rw [ci64_take, List.take_append_of_le_length (by omega), List.take_of_length_le (by omega)] at h3
          exact ⟨h3, hku.fit⟩
        have hO7V := hO7.mono hbVd.size
        have hsep : ∀ v ∈ Mk.fam ⟨⟨Ar, x.r.n, cr, x.r.zs⟩, some ⟨gA, 0, none⟩, x.n, cb, bb, ⟨some ⟨gO, 0, none⟩, x.n, co, mixG (fun j => x.o.zs.getD (x.n - 1 - j) 0) (fun j => x.o.zs.getD j 0) x.n i⟩⟩, ∀ g, Blk v g → ¬ Blk (⟨A7, un, c7, uz⟩ : Ls) g := fun v hv g h1 h2 => by
          have h3 := (hmd.famly.own v hv).blk h1
          have h4 := hO7.blk h2
          omega
        have hcb0 : 0 < cb := by omega
        have hcell5 : ∃ v0, w5.cell? ⟨gA, i, none⟩ = some v0 := by
          have h5 := hm5.b.cell (j := i) hin
          rw [List.getElem?_eq_getElem (by rw [List.length_map, hm5.len]; exact hin)] at h5
          exact ⟨_, h5⟩
        obtain ⟨v0, hcell5⟩ := hcell5
        have hfree5 := hm5.b.free hcb0 i
        have hm6 := hm5.rowB (i := i) (g := gA) rfl hin hO7V hsep
        simp only at hm6
        rw [show Ls.v ⟨A7, un, c7, uz⟩ = .slice A7 un c7 from rfl] at hm6
        have hox6 := hox5.setO hm5.b hcb0 (by decide) i (.slice A7 un c7)
        have hb6 := hbV5.setCell (p := ⟨gA, i, none⟩) hBA (.slice A7 un c7)
        have hall6 : Hid (Ls.all (bb.set i ⟨A7, un, c7, uz⟩) = mixG (fun j => (Ls.all x.b).getD ((j + k0) % x.n) []) (fun j => (Ls.all x.b).getD j []) x.n (i + 1)) := Lib.hid (by rw [all_set, HALL.out]; exact HSET.out)
        go_wp2_with fail
        refine hK _ _ (hS _ hbV5 hox5) ?_
        clear hK K hc hb
        try simp only [Act.put, List.setIfInBounds_toArray, List.set_cons_zero, List.set_cons_succ]
        repeat (first | (refine ordS (by rfl) ?_; simp only [Act.put, List.setIfInBounds_toArray, List.set_cons_zero, List.set_cons_succ]) | (refine ordN (by rfl) ?_; simp only [Act.put, List.setIfInBounds_toArray, List.set_cons_zero, List.set_cons_succ]) | (refine ordQ (v := ?_) (by rfl) (fun _ hSw => ?_) ?_; rotate_left; (focus ((have hS1 := hSw.1); (have hS2 := hSw.2.1); (have hS3 := hSw.2.2); clear hSw; go_simp; (first | done | with_reducible rfl))); simp only [Act.put, List.setIfInBounds_toArray, List.set_cons_zero, List.set_cons_succ]))
        refine ordD (by rfl) ?_
        intro K hK
        go_simp
        refine hK _ _ (hS _ hb6 hox6) ?_
        clear hK K
        try simp only [Act.put, List.setIfInBounds_toArray, List.set_cons_zero, List.set_cons_succ]
        refine ordE ?_
        generalize w5.setCell ⟨gA, i, none⟩ (.slice A7 un c7) = w6 at *
        generalize bb.set i ⟨A7, un, c7, uz⟩ = b6 at *
        clear hS hm5 hox5 hbV5 hmd hoxd hbVd hT7 hO7 hO7V hsep hcell5 hfree5 e0 e1 e2 HSET hcx hku hmodI s1 s2 hi1 hi2
        have hlo : x.n - 1 - i < x.o.zs.length := by rw [HOL.out]; omega
        obtain ⟨zo, hzo⟩ : ∃ z, x.o.zs[x.n - 1 - i]? = some z := ⟨_, List.getElem?_eq_getElem hlo⟩
        have hzof := hxV.o.fit zo (List.mem_of_getElem? hzo)
        obtain ⟨k2, hk2⟩ : ∃ k2, x.n - 1 - i = k2 := ⟨_, rfl⟩
        have hk2n : k2 < x.o.n := by rw [HON.out]; omega
        obtain ⟨p2, q2, hA2, hp2, t0, ht0, hct⟩ := hxV.o.rd.get hk2n
        rw [← hk2, ci64, List.getElem?_map, hzo] at ht0
        obtain rfl : iV zo = t0 := Option.some.inj ht0
        unfold iV at hct
        have hT6 := mixG_set (fun j => x.o.zs.getD (x.n - 1 - j) 0) (fun j => x.o.zs.getD j 0) x.n i
        try simp only at hT6
        rw [List.getD_eq_getElem?_getD (l := x.o.zs), hzo, Option.getD_some] at hT6
        have HT6 := Lib.hid hT6
        have HA2 := Lib.hid hA2
        have r1 : IntKind.i64.wrap ((x.n : Int) - 1) = (x.n : Int) - 1 := by rw [IntKind.wrap_i64]; omega
        have r2 : IntKind.i64.wrap ((x.n : Int) - 1 - (i : Int)) = (k2 : Int) := by rw [IntKind.wrap_i64]; omega
        have hk2i : (k2 : Int) < x.o.n := by omega
        have hk20 : (0 : Int) ≤ k2 := by omega
        obtain ⟨wd, hwd⟩ : ∃ wd, wd = w6.drew := ⟨_, rfl⟩
        have hbd : Below w6.heap.size w6 wd := by rw [hwd]; exact (Below.refl w6.heap.size w6).drew
        have hmd := hm6.below hbd
        have hoxd := hox6.below hbd
        have hbVd := hb6.trans (hbd.mono hb6.size)
        have hownO : Own wd v2.heap.size 3 (some ⟨gO, 0, none⟩) x.n co _ := hmd.o.own
        have hco0 : 0 < co := by omega
        have hfreeO := hownO.free hco0 i
        have hcellO : ∃ v0, wd.cell? ⟨gO, i, none⟩ = some v0 := by
          have h5 := hownO.cell (j := i) hin
          rw [List.getElem?_eq_getElem (by rw [ci64_len, mixG_len]; exact hin)] at h5
          exact ⟨_, h5⟩
        obtain ⟨v1, hcellO⟩ := hcellO
        have hm7 := hmd.setT (g := gO) (k := i) (z := zo) rfl hin hzof
        simp only at hm7
        rw [HT6.out] at hm7
        have hox7 := hoxd.setO hownO hco0 (by decide) i (.int .i64 zo)
        have hb7 := hbVd.setCell (p := ⟨gO, i, none⟩) hBO (.int .i64 zo)
        have hS : ∀ w', Below v2.heap.size v2 w' → Own w' v2.heap.size 25 (some ⟨g8, 0, none⟩) 3 3 [.slice Ar x.r.n cr, .slice (some ⟨gA, 0, none⟩) x.n cb, .slice (some ⟨gO, 0, none⟩) x.n co] → w'.cell? ⟨w.heap.size, 2, none⟩ = some (.slice (some ⟨p2, q2, none⟩) x.o.n x.o.c) ∧ w'.cell? ⟨p2, q2 + k2, none⟩ = some (.int .i64 zo) ∧ w'.cell? ⟨g8, 2, none⟩ = some (.slice (some ⟨gO, 0, none⟩) x.n co) := fun w' hb ho => ⟨(bxV.below hb).c2.trans (by rw [HA2.out]), (hb.cell (p := ⟨p2, q2 + k2, none⟩) hp2).trans hct, (box_cells ho).2.2⟩
        clear hm6 hox6 hb6 hmd hzo hk2 ht0 hT6 hA2 hlo hownO
        go_wp2_with fail
        refine wp_region_ord (S := fun w' => w'.cell? ⟨w.heap.size, 2, none⟩ = some (.slice (some ⟨p2, q2, none⟩) x.o.n x.o.c) ∧ w'.cell? ⟨p2, q2 + k2, none⟩ = some (.int .i64 zo) ∧ w'.cell? ⟨g8, 2, none⟩ = some (.slice (some ⟨gO, 0, none⟩) x.n co)) [(0, true), (1, true), (2, true), (3, true), (4, true), (5, true), (6, true), (7, true), (8, true), (9, true), (10, true), (11, true), (12, false)] default (by kernel_rfl) (by kernel_rfl) (by kernel_rfl) (by rw [← hwd]; exact hS _ hbVd hoxd) ?_
        simp only [getOrd, nth]
        rw [← hwd]
        clear hwd hbd
        repeat (first | (refine ordS (by rfl) ?_; simp only [Act.put, List.setIfInBounds_toArray, List.set_cons_zero, List.set_cons_succ]) | (refine ordN (by rfl) ?_; simp only [Act.put, List.setIfInBounds_toArray, List.set_cons_zero, List.set_cons_succ]) | (refine ordQ (v := ?_) (by rfl) (fun _ hSw => ?_) ?_; rotate_left; (focus ((have hS1 := hSw.1); (have hS2 := hSw.2.1); (have hS3 := hSw.2.2); clear hSw; go_simp; (first | done | with_reducible rfl))); simp only [Act.put, List.setIfInBounds_toArray, List.set_cons_zero, List.set_cons_succ]))
        refine ordD (by rfl) ?_
        intro K hK
        go_simp
        refine hK _ _ (hS _ hb7 hox7) ?_
        clear hK K
        try simp only [Act.put, List.setIfInBounds_toArray, List.set_cons_zero, List.set_cons_succ]
        refine ordE ?_
        clear hS hct hoxd hbVd hfreeO hcellO
        go_wp2
        go_roundw
        case rel => exact ⟨i + 1, b6, by omega, by go_num, hm7, hall6, hox7, hb7⟩
        case measure => simp [intOf]; omega
      · obtain rfl : i = x.n := by omega
        have hall9 : Ls.all bb = rotR (Ls.all x.b) k0 := by
          rw [hall.out, mixG_all, rotR, HBL.out]
        have hO9 : mixG (fun j => x.o.zs.getD (x.n - 1 - j) 0) (fun j => x.o.zs.getD j 0) x.n x.n = revL x.o.zs := by
          rw [mixG_all, revL, HOL.out]
        rw [hO9] at hm
        have hmay : Mk.may ⟨⟨Ar, x.r.n, cr, x.r.zs⟩, some ⟨gA, 0, none⟩, x.n, cb, bb, ⟨some ⟨gO, 0, none⟩, x.n, co, revL x.o.zs⟩⟩ = true := by
          show mayM x.r.zs (Ls.all bb) (revL x.o.zs) = true
          rw [hall9]
          exact may_rot HM.out k0
        have hlst : leastE ⟨⟨Ar, x.r.n, cr, x.r.zs⟩, some ⟨gA, 0, none⟩, x.n, cb, bb, ⟨some ⟨gO, 0, none⟩, x.n, co, revL x.o.zs⟩⟩ = ll := by
          rw [leastE, if_pos hmay]
          show leastL x.r.zs (Ls.all bb) = ll
          rw [hall9, rot_least HRO.out, HLL.out]
        have herr : Mk.err ⟨⟨Ar, x.r.n, cr, x.r.zs⟩, some ⟨gA, 0, none⟩, x.n, cb, bb, ⟨some ⟨gO, 0, none⟩, x.n, co, revL x.o.zs⟩⟩ = 0 := by rw [Mk.err, if_pos hmay]
        have HL9 := Lib.hid hall9
        have h1 := h1V.below hbV
        obtain ⟨w9, hw9⟩ : ∃ w9, w9 = wr := ⟨_, rfl⟩
        subst hw9
        have hc := pleastC ⟨⟨Ar, x.r.n, cr, x.r.zs⟩, some ⟨gA, 0, none⟩, x.n, cb, bb, ⟨some ⟨gO, 0, none⟩, x.n, co, revL x.o.zs⟩⟩ w9 hm.ok
        rw [hlst, herr, show Mk.v ⟨⟨Ar, x.r.n, cr, x.r.zs⟩, some ⟨gA, 0, none⟩, x.n, cb, bb, ⟨some ⟨gO, 0, none⟩, x.n, co, revL x.o.zs⟩⟩ = .agg #[.slice Ar x.r.n cr, .slice (some ⟨gA, 0, none⟩) x.n cb, .slice (some ⟨gO, 0, none⟩) x.n co] from rfl] at hc
        clear hall hall9 hO9 hmay hlst herr
        go_wp2_with fail
        refine hc.mono ?_
        rintro e v9 ⟨A3, n3, c3, rfl, h3, hb⟩
        clear hc e0 e1 e2
        replace hm := hm.below hb
        replace hox := hox.below hb
        replace h1 := h1.below hb
        replace hbV := hbV.trans (hb.mono hbV.size)
        clear hb
        have hc := sameints_b ⟨A3, n3, c3, ll⟩ ⟨A1, x.r.n, c1, ll⟩ v9 h3.ok h1.ok
        rw [show ((ll : List Int) == ll) = true by simp] at hc
        go_wp2_with fail
        refine hc.mono ?_
        rintro e v10 ⟨rfl, hb⟩
        clear hc h3
        replace hm := hm.below hb
        replace hox := hox.below hb
        replace h1 := h1.below hb
        replace hbV := hbV.trans (hb.mono hbV.size)
        clear hb
        by_cases q8 : 8 ≤ x.n
        · have gq : decide ((8 : Int) ≤ (x.n : Int)) = true := decide_eq_true (by omega)
          have gq2 : decide (8 ≤ x.n) = true := decide_eq_true q8
          have hc := alive13_any v10
          clear hm hox h1
          go_wp2_with fail
          refine hc.mono ?_
          rintro e v11 ⟨rfl, hb⟩
          have hB9 := (hB0.trans (hbV.mono hB0.size)).trans (hb.mono (Nat.le_trans hB0.size hbV.size))
          go_wp2
          go_ret
          exact ⟨rfl, hB9⟩
        · have gq : decide ((8 : Int) ≤ (x.n : Int)) = false := decide_eq_false (by omega)
          have gq2 : decide (8 ≤ x.n) = false := decide_eq_false q8
          have hmay0 := may_rot HM.out k0
          have hmay2 := may_snoc hmay0 (by rw [rotR_len, HBL.out]; omega)
          rw [rotR_len, HBL.out] at hmay2
          have HM2 := Lib.hid hmay2
          have hleast2 : leastL x.r.zs (rotR (Ls.all x.b) k0 ++ [[]]) = ll := by
            rw [snoc_least (rot_rows HRO.out k0), rot_least HRO.out, HLL.out]
          have HL2 := Lib.hid hleast2
          clear hmay0 hmay2 hleast2
          obtain ⟨e0, e1, e2⟩ := box_cells hox
          have hsz10 := hbV.size
          go_wp2_with (at_builtin; go_must (refine wpList_app1 v10 rfl _ _ 23 rfl 22 i1 _ 24 Try.underlying23 hi1' hy0 hy1 hy2 rfl v2.heap.size _ x.n cb _ rfl hm.b 1 rfl rfl ?d1 ?d2 ?d3 ?_))
          case d1 => simp only [maxLen]; omega
          case d2 => omega
          try case d3 => exact hsz10
          intro A5 c5 w5 hown5 hbel5 hfr5' _
          have hfr5 : ∀ k, k < v10.heap.size → ((x.n = 0 ∧ cb = 0) ∨ (some (⟨gA, 0, none⟩ : Addr)) ≠ some ⟨k, 0, none⟩) → w5.heap[k]? = v10.heap[k]? := fun k hk h => hfr5' k hk (h.imp id fun h e => h (by rw [e]))
          clear hfr5'
          have hF5 : Fam w5 v2.heap.size (Mk.fam ⟨⟨Ar, x.r.n, cr, x.r.zs⟩, some ⟨gA, 0, none⟩, x.n, cb, bb, ⟨some ⟨gO, 0, none⟩, x.n, co, revL x.o.zs⟩⟩) := ⟨fun u hu => (hm.famly.own u hu).app hm.b hfr5, hm.famly.apt⟩
          have hox5 : Own w5 v2.heap.size 25 (some ⟨g8, 0, none⟩) 3 3 [.slice Ar x.r.n cr, .slice (some ⟨gA, 0, none⟩) x.n cb, .slice (some ⟨gO, 0, none⟩) x.n co] := hox.other hm.b (by decide) hfr5
          have hbV5 := hbV.trans hbel5
          have h15 : OwnI w5 _ ⟨A1, x.r.n, c1, ll⟩ := h1V.below hbV5
          have hblen := hm.len
          clear hm hox h1 hbV hfr5 hbel5 e0 e1 e2
          obtain ⟨e0, e1, e2⟩ := box_cells hox5
          have f1 := hox5.free (by omega) 1
          have hox6 := hox5.set (by omega) 1 (.slice A5 (x.n + 1) c5)
          simp only [List.set_cons_succ, List.set_cons_zero] at hox6
          have hF6 := hF5.setO hox5 (by omega) (by decide) 1 (.slice A5 (x.n + 1) c5)
          have hown6 := hown5.setO hox5 (by omega) (by decide) 1 (.slice A5 (x.n + 1) c5)
          have hb6 := hbV5.setCell (p := ⟨g8, 1, none⟩) hB8 (.slice A5 (x.n + 1) c5)
          clear hF5 hown5 hox5 hbV5 h15
          have hO6 : OwnI (w5.setCell ⟨g8, 1, none⟩ (.slice A5 (x.n + 1) c5)) v2.heap.size ⟨some ⟨gO, 0, none⟩, x.n, co, revL x.o.zs⟩ := hF6.own _ (by simp [Mk.fam])
          have hsz6 := hb6.size
          obtain ⟨k0', k1', k2'⟩ := box_cells hox6
          have hsz56 : (w5.setCell ⟨g8, 1, none⟩ (.slice A5 (x.n + 1) c5)).heap.size = w5.heap.size := by simp
          go_wp2_with (at_builtin; go_must (refine wpList_app1 (w5.setCell ⟨g8, 1, none⟩ (.slice A5 (x.n + 1) c5)) rfl _ _ 22 rfl 3 i0 _ 8 Try.underlying22 hi0 hz0 hz1 hz2 rfl v2.heap.size _ x.n co _ rfl hO6.own 1 (by rw [hsz56]; rfl) rfl ?f1 ?f2 ?f3 ?_))
          case f1 => simp only [maxLen]; omega
          case f2 => omega
          try case f3 => first | exact hsz6 | omega | (simp at hsz6 ⊢; exact hsz6)
          intro A6 c6 w7 hown7 hbel7 hfr7' _
          clear e0 e1 e2 f1 hsz56
          have hfr7 : ∀ k, k < (w5.setCell ⟨g8, 1, none⟩ (.slice A5 (x.n + 1) c5)).heap.size → ((x.n = 0 ∧ co = 0) ∨ (some (⟨gO, 0, none⟩ : Addr)) ≠ some ⟨k, 0, none⟩) → w7.heap[k]? = (w5.setCell ⟨g8, 1, none⟩ (.slice A5 (x.n + 1) c5)).heap[k]? := fun k hk h => hfr7' k (by simpa using hk) (h.imp id fun h e => h (by rw [e]))
          clear hfr7'
          have hO7 : OwnI w7 v2.heap.size ⟨A6, x.n + 1, c6, revL x.o.zs ++ [(x.n : Int)]⟩ := ⟨by
            show Own w7 v2.heap.size _ A6 (x.n + 1) c6 (ci64 (revL x.o.zs ++ [(x.n : Int)]))
            rw [ci64_app]; exact hown7, fun z hz => by
            rcases List.mem_append.1 hz with hz | hz
            · exact hO6.fit z hz
            · rw [List.mem_singleton.1 hz]; omega⟩
          have hlast : (Mk.fam ⟨⟨Ar, x.r.n, cr, x.r.zs⟩, some ⟨gA, 0, none⟩, x.n, cb, bb, ⟨some ⟨gO, 0, none⟩, x.n, co, revL x.o.zs⟩⟩)[bb.length + 1]? = some ⟨some ⟨gO, 0, none⟩, x.n, co, revL x.o.zs⟩ := by simp [Mk.fam]
          have hR7 : OwnI w7 v2.heap.size ⟨Ar, x.r.n, cr, x.r.zs⟩ := hF6.app (i := 0) hlast rfl (by omega) hfr7
          have hB7 : ∀ u ∈ bb, OwnI w7 v2.heap.size u := fun u hu => by
            obtain ⟨q, hq⟩ := List.getElem?_of_mem hu
            have hql := (List.getElem?_eq_some_iff.1 hq).1
            exact hF6.app (i := q + 1) hlast (by rw [Mk.fam, List.getElem?_cons_succ, List.getElem?_append_left hql]; exact hq) (by omega) hfr7
          have hown8 := hown6.other hO6.own (by decide) hfr7
          have hox7 := hox6.other hO6.own (by decide) hfr7
          have hb7 := hb6.trans hbel7
          clear hF6 hown6 hO6 hox6 hb6 hlast hfr7 hbel7 hown7 k0' k1' k2'
          obtain ⟨e0, e1, e2⟩ := box_cells hox7
          have f2 := hox7.free (by omega) 2
          have hox8 := hox7.set (by omega) 2 (.slice A6 (x.n + 1) c6)
          simp only [List.set_cons_succ, List.set_cons_zero] at hox8
          have hO8 := hO7.setO hox7 (by omega) (by decide) 2 (.slice A6 (x.n + 1) c6)
          have hR8 := hR7.setO hox7 (by omega) (by decide) 2 (.slice A6 (x.n + 1) c6)
          have hB8' : ∀ u ∈ bb, OwnI (w7.setCell ⟨g8, 2, none⟩ (.slice A6 (x.n + 1) c6)) v2.heap.size u := fun u hu => (hB7 u hu).setO hox7 (by omega) (by decide) 2 (.slice A6 (x.n + 1) c6)
          have hown9 := hown8.setO hox7 (by omega) (by decide) 2 (.slice A6 (x.n + 1) c6)
          have hb8 := hb7.setCell (p := ⟨g8, 2, none⟩) hB8 (.slice A6 (x.n + 1) c6)
          clear hO7 hR7 hB7 hown8 hox7 hb7
          obtain ⟨k0', k1', k2'⟩ := box_cells hox8
          have hown10 : Own (w7.setCell ⟨g8, 2, none⟩ (.slice A6 (x.n + 1) c6)) v2.heap.size 22 A5 (x.n + 1) c5 ((bb ++ [Ls.nil]).map Ls.v) := by rw [List.map_append]; exact hown9
          have hok : Mk.Ok (w7.setCell ⟨g8, 2, none⟩ (.slice A6 (x.n + 1) c6)) ⟨⟨Ar, x.r.n, cr, x.r.zs⟩, A5, x.n + 1, c5, bb ++ [Ls.nil], ⟨A6, x.n + 1, c6, revL x.o.zs ++ [(x.n : Int)]⟩⟩ := by
            refine ⟨hR8.ok, hO8.ok, outs_at hown10, fun u hu => ?_, hown10.le, hown10.cap, fun _ => ?_⟩
            · rcases List.mem_append.1 hu with hu | hu
              · exact (hB8' u hu).ok
              · rw [List.mem_singleton.1 hu]; exact (OwnI.nil (w7.setCell ⟨g8, 2, none⟩ (.slice A6 (x.n + 1) c6)) 0).ok
            · obtain ⟨g, hA, _, hg⟩ := hown10.lt (by have := hown10.le; omega)
              exact ⟨g, 0, hA, hg⟩
          have hmay : Mk.may ⟨⟨Ar, x.r.n, cr, x.r.zs⟩, A5, x.n + 1, c5, bb ++ [Ls.nil], ⟨A6, x.n + 1, c6, revL x.o.zs ++ [(x.n : Int)]⟩⟩ = true := by
            show mayM x.r.zs (Ls.all (bb ++ [Ls.nil])) (revL x.o.zs ++ [(x.n : Int)]) = true
            rw [show Ls.all (bb ++ [Ls.nil]) = Ls.all bb ++ [[]] by simp [Ls.all, Ls.nil], HL9.out]
            exact HM2.out
          have hlst : leastE ⟨⟨Ar, x.r.n, cr, x.r.zs⟩, A5, x.n + 1, c5, bb ++ [Ls.nil], ⟨A6, x.n + 1, c6, revL x.o.zs ++ [(x.n : Int)]⟩⟩ = ll := by
            rw [leastE, if_pos hmay]
            show leastL x.r.zs (Ls.all (bb ++ [Ls.nil])) = ll
            rw [show Ls.all (bb ++ [Ls.nil]) = Ls.all bb ++ [[]] by simp [Ls.all, Ls.nil], HL9.out, HL2.out]
          have hc := pleastC ⟨⟨Ar, x.r.n, cr, x.r.zs⟩, A5, x.n + 1, c5, bb ++ [Ls.nil], ⟨A6, x.n + 1, c6, revL x.o.zs ++ [(x.n : Int)]⟩⟩ (w7.setCell ⟨g8, 2, none⟩ (.slice A6 (x.n + 1) c6)) hok
          rw [hlst, show Mk.err ⟨⟨Ar, x.r.n, cr, x.r.zs⟩, A5, x.n + 1, c5, bb ++ [Ls.nil], ⟨A6, x.n + 1, c6, revL x.o.zs ++ [(x.n : Int)]⟩⟩ = 0 by rw [Mk.err, if_pos hmay], show Mk.v ⟨⟨Ar, x.r.n, cr, x.r.zs⟩, A5, x.n + 1, c5, bb ++ [Ls.nil], ⟨A6, x.n + 1, c6, revL x.o.zs ++ [(x.n : Int)]⟩⟩ = .agg #[.slice Ar x.r.n cr, .slice A5 (x.n + 1) c5, .slice A6 (x.n + 1) c6] from rfl] at hc
          have h1 := h1V.below hb8
          clear hmay hlst hok hown9 hown10 hO8 hR8 hB8' hox8
          go_wp2_with fail
          refine hc.mono ?_
          rintro e v9 ⟨A3, n3, c3, rfl, h3, hb⟩
          clear hc e0 e1 e2 f2 k0' k1' k2'
          replace h1 := h1.below hb
          replace hb8 := hb8.trans (hb.mono hb8.size)
          clear hb
          have hc := sameints_b ⟨A3, n3, c3, ll⟩ ⟨A1, x.r.n, c1, ll⟩ v9 h3.ok h1.ok
          rw [show ((ll : List Int) == ll) = true by simp] at hc
          go_wp2_with fail
          refine hc.mono ?_
          rintro e v11 ⟨rfl, hb⟩
          clear hc h3 h1
          replace hb8 := hb8.trans (hb.mono hb8.size)
          clear hb
          have hc := alive13_any v11
          go_wp2_with fail
          refine hc.mono ?_
          rintro e v12 ⟨rfl, hb⟩
          have hB9 := (hB0.trans (hb8.mono hB0.size)).trans (hb.mono (Nat.le_trans hB0.size hb8.size))
          go_wp2
          go_ret
          exact ⟨rfl, hB9⟩

theorem own : ownKnob Try.prog.godebug = none := by kernel_rfl
theorem laidOut : laidOutB Try.prog = true := by kernel_rfl

set_option maxRecDepth 100000 in
theorem lifted (os : Os) (started : os.Started) (H : Type) (enc : TypeId × Value → H) :
    ReturnsInHanded {} Try.checked os 5 .any (Rows.risesOrderSpec.pre6 enc Try.prog Try.f5 Rows.risesOrderRow.domain false) (Rows.risesOrderSpec.post enc Try.prog Try.f5 false true false false) := by
  refine returnsInHanded_of_change (C := Try.checked) own started (by kernel_rfl) Try.func5
    (ChangeSpec.witness6 (enc := enc) (C := Try.checked) false ⟨#[], #[.agg #[.slice none 0 0, .slice none 0 0, .slice none 0 0], .int .u8 0], []⟩ 8 (by kernel_rfl) (by kernel_rfl) (by kernel_rfl) (by kernel_rfl)) ?_
  intro W base args ds gs before hval0 hW hcnd _
  have hval : ∀ (j : Nat) t v, Try.f5.params[j]? = some t → args[j]? = some v → Value.okWide Try.prog W .any base t v := hval0
  have hW' := hW
  obtain ⟨p, q, hA0, hV, rfl, hfz, hnd⟩ := hW
  have hA : DataW.TrodAll enc Try.prog W 0 (fun _ => true) true Try.f5.params.toList args.toList ds p := hA0
  rw [Try.params5] at hA hval
  obtain ⟨v0, vs0, d0, ds0, p0, q0, hargs, rfl, rfl, h0, r0⟩ := trodAll_cons hA
  obtain ⟨v1, vs1, d1, ds1, p1, q1, rfl, rfl, rfl, h1, r1⟩ := trodAll_cons r0
  obtain ⟨rfl, rfl, rfl⟩ := trodAll_nil r1
  obtain rfl : args = #[v0, v1] := by cases args; simp_all
  obtain ⟨u0, rfl, k0⟩ := arg_mk Try.underlying25 (by kernel_rfl) (by kernel_rfl) Try.underlying22 Try.underlying23 Try.underlying22 Try.underlying22 (by kernel_rfl) Try.underlying3 (by kernel_rfl) (hval 0 25 v0 rfl rfl) h0
  obtain ⟨x1, rfl, rfl, rfl, w1⟩ := open_int Try.underlying5 (hval 1 5 v1 rfl rfl) h1
  obtain ⟨y1, rfl, z1⟩ := fit_u8 w1
  have hwalk : Calls Try.prog 5 #[u0.v, .int .u8 y1] W fun e w' => e = .returned (.bool true) ∧ Below W.heap.size W w' := walk u0 y1 W k0 z1
  refine hwalk.mono fun e W' ⟨he, hg⟩ => ?_
  subst he
  exact ⟨_, rfl, law_post laidOut (by kernel_rfl) hW' rfl rfl (by kernel_rfl) Try.underlying4 hg⟩

theorem over : Rows.risesOrderRow.holds Try.pinned (OpenSpec.ofChange Rows.risesOrderSpec) :=
  OpenClaim.holds_of_wide 5 Try.f5 rfl rfl rfl rfl rfl rfl rfl ⟨rfl, rfl, rfl, rfl, rfl⟩ rfl rfl rfl rfl rfl (by kernel_rfl) Try.func5 (by kernel_rfl)
    (of_decide_eq_true (by kernel_rfl)) (by unfold Func.isWrapper; first | (rw [if_pos (by decide +kernel)]; kernel_rfl) | (rw [if_neg (by decide +kernel)]; exact ⟨rfl, rfl⟩))
    (fun os started H enc _ => lifted os started H enc)

theorem proved : Rows.RisesOrderSaid :=
  over

end Go.Proofs.Ytdckoaljcklmhaa.risesOrder
