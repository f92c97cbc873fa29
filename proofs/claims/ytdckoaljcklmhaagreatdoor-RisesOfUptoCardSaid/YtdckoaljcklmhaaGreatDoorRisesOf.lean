/-
  Proved: salesroomlaw13.RisesOf answers true, for any market and any prices, where what came in is of bulk at most 1048576, in whatever memory (the listed package-level variables read as the program's text lays them; none of them is used). No other conditions.
-/
import Derived.Test.YtdckoaljcklmhaaGreatDoorAlive13
import Derived.Test.YtdckoaljcklmhaaGreatDoorGrT
import Derived.Test.YtdckoaljcklmhaaGreatDoorRef13c
import Derived.Test.YtdckoaljcklmhaaGreatDoorRows
import Derived.Test.YtdckoaljcklmhaaGreatDoorCards
import Derived.Test.YtdckoaljcklmhaaGreatDoorTie
import Derived.LaidMore
import Derived.Stop.Joined
import Derived.SevenTiedAt
import Derived.Deep.DeepHandedRow
import Derived.Deep.DeepWitnessRowRef
namespace Go.Proofs.YtdckoaljcklmhaaGreatDoor.risesOf
open Go.RowKit
set_option linter.unusedVariables false

theorem size_parts (x : Mk) {w : World} (h : x.Ok w) (hz : x.size ≤ 1000) : x.n ≤ 1000 ∧ x.r.n ≤ 1000 ∧ x.o.n ≤ 1000 ∧ ∀ u ∈ x.b, u.n ≤ 1000 := by
  have hs := sizeL_sum x.b
  have hl := h.len
  unfold Mk.size at hz
  refine ⟨by omega, by omega, by omega, fun u hu => ?_⟩
  have := size_mem hu
  omega
theorem all_small {x : Mk} {p : List Int} {w : World} (hx : x.Ok w) : (stepE x p).length ≤ 8 ∧ (leastE x).length ≤ 8 := by
  constructor
  · rw [stepE]
    split
    · rename_i h
      obtain ⟨h1, h2, _⟩ := mayS_iff.1 h
      rw [stepL_len, h2, hx.r.len]
      exact (mk_len hx h1).1
    · simp
  · rw [leastE]
    split
    · rename_i h
      rw [leastL_len, hx.r.len]
      exact (mk_len hx h).1
    · simp
theorem mtwin_small {x y : Mk} {w w' : World} (hr : y.r.zs = x.r.zs) (hb : Ls.all y.b = Ls.all x.b) (ho : y.o.zs = x.o.zs) (hy : y.Ok w) (hx : x.Ok w') (h1 : x.r.n ≤ 1000000000) (h2 : x.o.n ≤ 1000000000) (h3 : ∀ u ∈ x.b, u.n ≤ 1000000000) : ∀ u ∈ (y.r :: (y.b ++ [y.o])), u.n ≤ 1000000000 := by
  intro u hu
  simp only [List.mem_cons, List.mem_append, List.not_mem_nil, or_false] at hu
  rcases hu with rfl | hu | rfl
  · rw [← hy.r.len, hr, hx.r.len]; exact h1
  · have h4 : u.zs ∈ Ls.all x.b := by rw [← hb]; exact List.mem_map_of_mem hu
    obtain ⟨v, hv, he⟩ := List.mem_map.1 h4
    rw [← (hy.bs u hu).len, ← he, (hx.bs v hv).len]
    exact h3 v hv
  · rw [← hy.o.len, ho, hx.o.len]; exact h2
set_option maxRecDepth 100000 in
set_option maxHeartbeats 4000000 in
theorem walk (x : Mk) (u1 : Ls) (w : World) (h : x.Ok w) (h1' : u1.Ok w) (hz : x.size ≤ 1048576) :
    Calls Tryz.prog 3 #[x.v, u1.v] w fun e w' => e = .returned (.bool true) ∧ Below w.heap.size w w' := by
  have hx := h
  have h1 := h1'
  have hB := Below.refl w.heap.size w
  have hxv : x.v = .agg #[.slice x.r.A x.r.n x.r.c, .slice x.A x.n x.c, .slice x.o.A x.o.n x.o.c] := rfl
  have h1v : u1.v = .slice u1.A u1.n u1.c := rfl
  have Vx := Lib.hid hxv
  have V1 := Lib.hid h1v
  rw [hxv, h1v]
  have t1 := Nat.le_trans h1.cap h1.top
  unfold maxLen at t1
  obtain ⟨Z, hZ⟩ : ∃ Z, x.size = Z := ⟨_, rfl⟩
  have HZ := Lib.hid hZ
  clear hxv h1v h1'
  go_enter Tryz.func3, Tryz.ntmps3
  have bx := InBox.new w x
  have hbx : Below w.heap.size w (w.alloc (.cells #[.slice x.r.A x.r.n x.r.c, .slice x.A x.n x.c, .slice x.o.A x.o.n x.o.c] 25)) := (Below.refl _ w).alloc (Nat.le_refl _) _
  have sz1 := Lib.hid hbx.size
  replace hx := hx.below hbx
  replace h1 := h1.below hbx
  replace hB := hB.trans (hbx.mono hB.size)
  clear hbx
  have ex0 := bx.c0
  have ex1 := bx.c1
  have ex2 := bx.c2
  have hc := marketsize_all x (w.alloc (.cells #[.slice x.r.A x.r.n x.r.c, .slice x.A x.n x.c, .slice x.o.A x.o.n x.o.c] 25)) hx hz
  rw [Vx.out, HZ.out] at hc
  go_wp2_with fail
  clear ex0 ex1 ex2
  generalize w.alloc (.cells #[.slice x.r.A x.r.n x.r.c, .slice x.A x.n x.c, .slice x.o.A x.o.n x.o.c] 25) = W1 at *
  refine hc.mono ?_
  rintro e v2 ⟨rfl, hb⟩
  clear hc
  have sz2 := Lib.hid hb.size
  replace hx := hx.below hb
  replace h1 := h1.below hb
  replace bx := bx.below hb
  replace hB := hB.trans (hb.mono hB.size)
  clear hb
  by_cases q1 : 1000 < Z
  · have g1 : decide (1000 < (Z : Int)) = true := decide_eq_true (by omega)
    have g1' : decide (1000 < Z) = true := decide_eq_true q1
    clear hZ
    have ex0 := bx.c0
    have ex1 := bx.c1
    have ex2 := bx.c2
    have hc := alive13_any v2
    go_wp2_with fail
    clear ex0 ex1 ex2
    refine hc.mono ?_
    rintro e v3 ⟨rfl, hb⟩
    clear hc
    replace hx := hx.below hb
    replace h1 := h1.below hb
    replace bx := bx.below hb
    replace hB := hB.trans (hb.mono hB.size)
    clear hb
    have ex0 := bx.c0
    have ex1 := bx.c1
    have ex2 := bx.c2
    go_wp2
    go_ret
    exact ⟨rfl, hB⟩
  have g1 : decide (1000 < (Z : Int)) = false := decide_eq_false (by omega)
  have g1' : decide (1000 < Z) = false := decide_eq_false q1
  by_cases q2 : 1000 < u1.n
  · have g2 : decide (1000 < (u1.n : Int)) = true := decide_eq_true (by omega)
    have g2' : decide (1000 < u1.n) = true := decide_eq_true q2
    clear hZ
    have ex0 := bx.c0
    have ex1 := bx.c1
    have ex2 := bx.c2
    have hc := alive13_any v2
    go_wp2_with fail
    clear ex0 ex1 ex2
    refine hc.mono ?_
    rintro e v3 ⟨rfl, hb⟩
    clear hc
    replace hx := hx.below hb
    replace h1 := h1.below hb
    replace bx := bx.below hb
    replace hB := hB.trans (hb.mono hB.size)
    clear hb
    have ex0 := bx.c0
    have ex1 := bx.c1
    have ex2 := bx.c2
    go_wp2
    go_ret
    exact ⟨rfl, hB⟩
  have g2 : decide (1000 < (u1.n : Int)) = false := decide_eq_false (by omega)
  have g2' : decide (1000 < u1.n) = false := decide_eq_false q2
  have hu1 : u1.n ≤ 1000 := by omega
  obtain ⟨p1, p2, p3, p4⟩ := size_parts x hx (by omega)
  have HSM := Lib.hid p4
  have H6 : Hid (∀ u ∈ x.b, u.n ≤ 1000000000) := Lib.hid (fun u hu => by have := p4 u hu; omega)
  obtain ⟨hs1, hs2⟩ := all_small (p := u1.zs) hx
  obtain ⟨E, hE⟩ : ∃ q, stepErr x u1.zs = q := ⟨_, rfl⟩
  obtain ⟨SB, hSB⟩ : ∃ q, stepB x u1.zs = q := ⟨_, rfl⟩
  obtain ⟨AL, hAL⟩ : ∃ q, stepE x u1.zs = q := ⟨_, rfl⟩
  obtain ⟨LE, hLE⟩ : ∃ q, x.err = q := ⟨_, rfl⟩
  obtain ⟨CL, hCL⟩ : ∃ q, leastE x = q := ⟨_, rfl⟩
  rw [hAL] at hs1
  rw [hCL] at hs2
  have HE := Lib.hid hE
  have HSB := Lib.hid hSB
  have HAL := Lib.hid hAL
  have HLE := Lib.hid hLE
  have HCL := Lib.hid hCL
  clear q1 q2 hE hSB hAL hLE hCL hZ p4 h
  have ex0 := bx.c0
  have ex1 := bx.c1
  have ex2 := bx.c2
  have hc := twinmarket_any x v2 hx (by omega) (by omega) (by omega) H6.out
  rw [Vx.out] at hc
  go_wp2_with fail
  clear ex0 ex1 ex2
  refine hc.mono ?_
  rintro e v3 ⟨y, rfl, hy, hyr, hyb, hyo, hyn, hb⟩
  clear hc
  have sz3 := Lib.hid hb.size
  replace hx := hx.below hb
  replace h1 := h1.below hb
  replace bx := bx.below hb
  replace hB := hB.trans (hb.mono hB.size)
  clear hb
  have rgY := Lib.hid hy.rng
  have vy : y.v = .agg #[.slice y.r.A y.r.n y.r.c, .slice y.A y.n y.c, .slice y.o.A y.o.n y.o.c] := rfl
  have Vy := Lib.hid vy
  rw [vy]
  have HYR := Lib.hid hyr
  have HYB := Lib.hid hyb
  have HYO := Lib.hid hyo
  have HYN := Lib.hid hyn
  clear vy hyr hyb hyo hyn
  have by1 := InBox.new v3 y
  have hbx : Below v3.heap.size v3 (v3.alloc (.cells #[.slice y.r.A y.r.n y.r.c, .slice y.A y.n y.c, .slice y.o.A y.o.n y.o.c] 25)) := (Below.refl _ v3).alloc (Nat.le_refl _) _
  have sz4 := Lib.hid hbx.size
  replace hx := hx.below hbx
  replace h1 := h1.below hbx
  replace hy := hy.below hbx
  replace bx := bx.below hbx
  replace hB := hB.trans (hbx.mono hB.size)
  clear hbx
  have ex0 := bx.c0
  have ex1 := bx.c1
  have ex2 := bx.c2
  have ey0 := by1.c0
  have ey1 := by1.c1
  have ey2 := by1.c2
  have hc := twin_ls u1 (v3.alloc (.cells #[.slice y.r.A y.r.n y.r.c, .slice y.A y.n y.c, .slice y.o.A y.o.n y.o.c] 25)) h1 (by omega)
  rw [V1.out] at hc
  go_wp2_with fail
  clear ex0 ex1 ex2
  clear ey0 ey1 ey2
  generalize v3.alloc (.cells #[.slice y.r.A y.r.n y.r.c, .slice y.A y.n y.c, .slice y.o.A y.o.n y.o.c] 25) = W4 at *
  refine hc.mono ?_
  rintro e v5 ⟨t, rfl, ht, htz, htn, hb⟩
  clear hc
  have sz5 := Lib.hid hb.size
  replace hx := hx.below hb
  replace h1 := h1.below hb
  replace hy := hy.below hb
  replace bx := bx.below hb
  replace by1 := by1.below hb
  replace hB := hB.trans (hb.mono hB.size)
  clear hb
  have rgT : Hid (∀ g, Blk t g → g < v5.heap.size) := Lib.hid (fun g hg => (ht.blk hg).2)
  have vt : t.v = .slice t.A t.n t.c := rfl
  have Vt := Lib.hid vt
  rw [vt]
  have HTZ := Lib.hid htz
  have HTN := Lib.hid htn
  have hmy : y.may = x.may := by rw [Mk.may, Mk.may, HYR.out, HYB.out, HYO.out]
  have e1 : Hid (stepErr y t.zs = E) := Lib.hid (by rw [← HE.out, stepErr, stepErr, mayS, mayS, hmy, htz, HYR.out])
  have e2 : Hid (stepB y t.zs = SB) := Lib.hid (by rw [← HSB.out, stepB, stepB, mayS, mayS, hmy, htz, HYR.out, HYB.out])
  have e3 : Hid (stepE y t.zs = AL) := Lib.hid (by rw [← HAL.out, stepE, stepE, mayS, mayS, hmy, htz, HYR.out, HYB.out])
  have e4 : Hid (y.err = LE) := Lib.hid (by rw [← HLE.out, Mk.err, Mk.err, hmy])
  have e5 : Hid (leastE y = CL) := Lib.hid (by rw [← HCL.out, leastE, leastE, hmy, HYR.out, HYB.out])
  clear vt htz htn hmy
  have ex0 := bx.c0
  have ex1 := bx.c1
  have ex2 := bx.c2
  have ey0 := by1.c0
  have ey1 := by1.c1
  have ey2 := by1.c2
  have hc := pstepC y t v5 hy.ok ht.ok
  rw [Vy.out, Vt.out, e1.out, e2.out, e3.out] at hc
  go_wp2_with fail
  clear ex0 ex1 ex2
  clear ey0 ey1 ey2
  refine hc.mono ?_
  rintro e v6 ⟨A1, n1, c1, rfl, ha, hb⟩
  clear hc
  have sz6 := Lib.hid hb.size
  replace hx := hx.below hb
  replace h1 := h1.below hb
  replace hy := hy.below hb
  replace ht := ht.below hb
  replace bx := bx.below hb
  replace by1 := by1.below hb
  replace hB := hB.trans (hb.mono hB.size)
  clear hb
  have rgA : Hid (∀ g, Blk ⟨A1, n1, c1, AL⟩ g → g < v6.heap.size) := Lib.hid (fun g hg => (ha.blk hg).2)
  obtain rfl : n1 = AL.length := ha.len.symm
  have ex0 := bx.c0
  have ex1 := bx.c1
  have ex2 := bx.c2
  have ey0 := by1.c0
  have ey1 := by1.c1
  have ey2 := by1.c2
  have hc := rstepC x u1 v6 hx h1
  rw [Vx.out, V1.out, HE.out, HSB.out, HAL.out] at hc
  go_wp2_with fail
  clear ex0 ex1 ex2
  clear ey0 ey1 ey2
  refine hc.mono ?_
  rintro e v7 ⟨A3, n3, c3, rfl, hq3, hb⟩
  clear hc
  have sz7 := Lib.hid hb.size
  replace hx := hx.below hb
  replace h1 := h1.below hb
  replace hy := hy.below hb
  replace ht := ht.below hb
  replace ha := ha.below hb
  replace bx := bx.below hb
  replace by1 := by1.below hb
  replace hB := hB.trans (hb.mono hB.size)
  clear hb
  obtain rfl : n3 = AL.length := hq3.len.symm
  have ex0 := bx.c0
  have ex1 := bx.c1
  have ex2 := bx.c2
  have ey0 := by1.c0
  have ey1 := by1.c1
  have ey2 := by1.c2
  have hc := pleastC y v7 hy.ok
  rw [Vy.out, e4.out, e5.out] at hc
  go_wp2_with fail
  clear ex0 ex1 ex2
  clear ey0 ey1 ey2
  refine hc.mono ?_
  rintro e v8 ⟨A5, n5, c5, rfl, hc5, hb⟩
  clear hc
  have sz8 := Lib.hid hb.size
  replace hx := hx.below hb
  replace h1 := h1.below hb
  replace hy := hy.below hb
  replace ht := ht.below hb
  replace ha := ha.below hb
  replace hq3 := hq3.below hb
  replace bx := bx.below hb
  replace by1 := by1.below hb
  replace hB := hB.trans (hb.mono hB.size)
  clear hb
  have rgC : Hid (∀ g, Blk ⟨A5, n5, c5, CL⟩ g → g < v8.heap.size) := Lib.hid (fun g hg => (hc5.blk hg).2)
  obtain rfl : n5 = CL.length := hc5.len.symm
  have ex0 := bx.c0
  have ex1 := bx.c1
  have ex2 := bx.c2
  have ey0 := by1.c0
  have ey1 := by1.c1
  have ey2 := by1.c2
  have hc := rleastC x v8 hx
  rw [Vx.out, HLE.out, HCL.out] at hc
  go_wp2_with fail
  clear ex0 ex1 ex2
  clear ey0 ey1 ey2
  refine hc.mono ?_
  rintro e v9 ⟨A7, n7, c7, rfl, hq7, hb⟩
  clear hc
  have sz9 := Lib.hid hb.size
  replace hx := hx.below hb
  replace h1 := h1.below hb
  replace hy := hy.below hb
  replace ht := ht.below hb
  replace ha := ha.below hb
  replace hq3 := hq3.below hb
  replace hc5 := hc5.below hb
  replace bx := bx.below hb
  replace by1 := by1.below hb
  replace hB := hB.trans (hb.mono hB.size)
  clear hb
  obtain rfl : n7 = CL.length := hq7.len.symm
  have hyn3 : y.n ≤ 1000 := by rw [HYN.out]; omega
  have htn3 : t.n ≤ 1000 := by rw [HTN.out]; omega
  have hxz := hx
  have hk0 := Bkn.new 45 tHs v9
  have hbk : Below v9.heap.size v9 (v9.alloc (.cells #[.int .i64 0, .slice none 0 0, .slice none 0 0, .slice none 0 0, .slice none 0 0, .slice none 0 0, .slice none 0 0, .slice none 0 0, .slice none 0 0, .slice none 0 0] 45)) := (Below.refl _ v9).alloc (Nat.le_refl _) _
  have q0 := (by1.below hbk).c0
  have q1 := (by1.below hbk).c1
  have q2 := (by1.below hbk).c2
  go_wp2_with fail
  generalize v9.alloc (.cells #[.int .i64 0, .slice none 0 0, .slice none 0 0, .slice none 0 0, .slice none 0 0, .slice none 0 0, .slice none 0 0, .slice none 0 0, .slice none 0 0, .slice none 0 0] 45) = s0 at hk0 hbk q0 q1 q2 ⊢
  obtain ⟨kb, hkb⟩ : ∃ kb, kb = v9.heap.size := ⟨_, rfl⟩
  rw [← hkb] at hk0 hbk ⊢
  have HKB := Lib.hid hkb
  clear hkb
  have hyK : ∀ w', Below kb v9 w' → TwnM w' v2.heap.size y := fun w' h => hy.below (HKB.out ▸ h)
  have htK : ∀ w', Below kb v9 w' → Twn w' W4.heap.size t := fun w' h => ht.below (HKB.out ▸ h)
  have haK : ∀ w', Below kb v9 w' → OwnI w' v5.heap.size ⟨A1, AL.length, c1, AL⟩ := fun w' h => ha.below (HKB.out ▸ h)
  have hcK : ∀ w', Below kb v9 w' → OwnI w' v7.heap.size ⟨A5, CL.length, c5, CL⟩ := fun w' h => hc5.below (HKB.out ▸ h)
  have hyA : ∀ p q, 0 < y.n → y.A = some ⟨p, q, none⟩ → p < kb := fun p q h0 hA => by
    obtain ⟨p', q', h1, h2⟩ := hy.ok.at_ h0
    rw [h1] at hA; cases hA; rw [HKB.out]; exact h2
  clear q0 q1 q2
  have htm := toldMarket kb 0 noTabs noLists y s0 hk0 (hyK _ hbk).ok.b hyA (by unfold maxLen; omega) (by omega) (by show 0 + _ + 3 ≤ _; omega) (by show 0 + 3 ≤ _; omega)
  rw [Vy.out] at htm
  refine htm.mono ?_
  rintro e s1 ⟨rfl, T1', st1, hk1, hb1, _⟩
  clear htm
  have hK1 := hbk.trans hb1
  go_wp2_with fail
  refine (toldInts kb _ T1' _ t s1 hk1 (by omega) (by show ([] ++ y.held 0).length ≤ _; rw [List.nil_append, held_len y (hyK _ hK1).ok]; omega)).mono ?_
  rintro e s2 ⟨rfl, T2', st2, hk2, hb2, _⟩
  have hK2 := hK1.trans hb2
  rw [more_more] at hk2
  go_wp2_with fail
  refine (toldInts kb _ T2' _ ⟨A1, AL.length, c1, AL⟩ s2 hk2 (by omega) (by show ([] ++ (y.held 0 ++ [_])).length ≤ _; rw [List.nil_append, List.length_append, held_len y (hyK _ hK2).ok]; simp; omega)).mono ?_
  rintro e s3 ⟨rfl, T3', st3, hk3, hb3, _⟩
  have hK3 := hK2.trans hb3
  rw [more_more] at hk3
  go_wp2_with fail
  refine (toldInts kb _ T3' _ ⟨A5, CL.length, c5, CL⟩ s3 hk3 (by omega) (by show ([] ++ (y.held 0 ++ [_] ++ [_])).length ≤ _; rw [List.nil_append, List.length_append, List.length_append, held_len y (hyK _ hK3).ok]; simp; omega)).mono ?_
  rintro e s4 ⟨rfl, T4', st4, hk4, hb4, _⟩
  have hK4 := hK3.trans hb4
  rw [more_more] at hk4
  have hxK : x.Ok s4 := hx.below (HKB.out ▸ hK4)
  have h1K : u1.Ok s4 := h1.below (HKB.out ▸ hK4)
  have gsb : (SB == SB) = true := by simp
  have gse : (E == E) = true := by simp
  have gsl : (LE == LE) = true := by simp
  have hc := sameints_b ⟨A1, AL.length, c1, AL⟩ ⟨A3, AL.length, c3, AL⟩ s4 (haK _ hK4).ok (hq3.below (HKB.out ▸ hK4)).ok
  rw [show (AL == AL) = true from by simp] at hc
  go_wp2_with fail
  refine hc.mono ?_
  rintro e s5 ⟨rfl, hb5⟩
  clear hc
  have hK5 := hK4.trans (hb5.mono (by rw [HKB.out]; exact hK4.size))
  have hk5 := hk4.below hb5
  have hc := sameints_b ⟨A5, CL.length, c5, CL⟩ ⟨A7, CL.length, c7, CL⟩ s5 (hcK _ hK5).ok (hq7.below (HKB.out ▸ hK5)).ok
  rw [show (CL == CL) = true from by simp] at hc
  go_wp2_with fail
  refine hc.mono ?_
  rintro e s6 ⟨rfl, hb6⟩
  clear hc
  have hK6 := hK5.trans (hb6.mono (by rw [HKB.out]; exact hK5.size))
  have hk6 := hk5.below hb6
  have ex0 := (bx.below (HKB.out ▸ hK6)).c0
  have ex1 := (bx.below (HKB.out ▸ hK6)).c1
  have ex2 := (bx.below (HKB.out ▸ hK6)).c2
  have ey0 := (by1.below (HKB.out ▸ hK6)).c0
  have ey1 := (by1.below (HKB.out ▸ hK6)).c1
  have ey2 := (by1.below (HKB.out ▸ hK6)).c2
  have hc := leftmarket_any y x s6 _ (hyK _ hK6) (hx.below (HKB.out ▸ hK6)) HYR.out HYB.out HYO.out HYN.out (by omega) (by omega) (by omega) H6.out
  rw [Vy.out, Vx.out] at hc
  go_wp2_with fail
  clear ex0 ex1 ex2 ey0 ey1 ey2
  refine hc.mono ?_
  rintro e s7 ⟨rfl, hb7⟩
  clear hc
  have hK7 := hK6.trans (hb7.mono (by rw [HKB.out]; exact hK6.size))
  have hk7 := hk6.below hb7
  have hc := left_ls t u1 s7 _ (htK _ hK7) (h1.below (HKB.out ▸ hK7)) HTZ.out HTN.out (by omega)
  rw [Vt.out, V1.out] at hc
  go_wp2_with fail
  refine hc.mono ?_
  rintro e s8 ⟨rfl, hb8⟩
  clear hc
  have hK8 := hK7.trans (hb8.mono (by rw [HKB.out]; exact hK7.size))
  have hk8 := hk7.below hb8

  go_wp2_with fail
  have hps : Pcs s8 kb v2.heap.size [pcM y 0, pcI t (0 + y.n + 3 + 1), pcI ⟨A1, AL.length, c1, AL⟩ (0 + y.n + 3 + 1 + 1), pcI ⟨A5, CL.length, c5, CL⟩ (0 + y.n + 3 + 1 + 1 + 1)] := by
    have k1 := HKB.out
    have z1 := sz1.out
    have z2 := sz2.out
    have z3 := sz3.out
    have z4 := sz4.out
    have z5 := sz5.out
    have z6 := sz6.out
    have z7 := sz7.out
    have z8 := sz8.out
    have z9 := sz9.out
    refine .cons (pcM_twn (hyK _ hK8) (hi := v3.heap.size) (by omega) rgY.out (by omega) (fun u hu => ?nu1)) (lo2 := W4.heap.size) (by omega)
      (.cons (pcI_twn (htK _ hK8) (hi := v5.heap.size) (by omega) rgT.out (by omega) (by omega)) (lo2 := v5.heap.size) (by omega)
      (.cons (pcI_own (haK _ hK8) (hi := v6.heap.size) (by omega) rgA.out (by omega) (by simp only; omega)) (lo2 := v7.heap.size) (by omega)
      (.cons (pcI_own (hcK _ hK8) (hi := v8.heap.size) (by omega) rgC.out (by omega) (by simp only; omega)) (lo2 := kb) (by omega) (.nil (Nat.le_refl _)))))
    case nu1 => exact mtwin_small HYR.out HYB.out HYO.out (hyK _ hK8).ok hxz (by omega) (by omega) H6.out u hu
  refine (apart_pcs kb _ w.heap.size v2.heap.size T4' _ _ _ _ s8 hk8 (((st1.trans st2).trans st3).trans st4) ?eb ?ei ?el hps ?hB ?hl).mono ?_
  case eb => simp [PcsB, pcM, pcI]
  case ei => simp [PcsI, pcM, pcI, Mk.held]
  case el => simp [PcsL, pcM, pcI, Mk.lists]
  case hB =>
    have z1 := sz1.out
    have z2 := sz2.out
    have z3 := sz3.out
    have z4 := sz4.out
    have z5 := sz5.out
    have z6 := sz6.out
    have z7 := sz7.out
    have z8 := sz8.out
    have z9 := sz9.out
    omega
  case hl =>
    have h1 := held_len y (hyK _ hK8).ok 0
    simp only [Mk.held] at h1
    simp only [List.length_append, List.length_cons, List.length_nil] at h1 ⊢
    omega
  rintro e s9 ⟨rfl, hb9⟩
  have hBk := hB.trans (hK8.mono (by rw [HKB.out]; exact hB.size))
  have hB9 := hBk.trans hb9
  go_wp2_with fail
  refine (alive13_any s9).mono ?_
  rintro e s10 ⟨rfl, hb10⟩
  have hB10 := hB9.trans (hb10.mono hB9.size)
  go_wp2
  go_ret
  exact ⟨rfl, hB10⟩
end Go.Proofs.YtdckoaljcklmhaaGreatDoor.risesOf


namespace Go.Proofs.YtdckoaljcklmhaaGreatDoor.risesOf
open Go.ChangeShapes Go.WideShapes Go.ChangeAt Go.RowKit
set_option linter.unusedVariables false


theorem own : ownKnob Tryz.prog.godebug = none := by kernel_rfl
theorem laidOut : laidOutB Tryz.prog = true := by kernel_rfl

/-- The door's own heap meets the condition. -/
theorem door_met (os : Os) (args : Array Value) : laidMetH Tryz.prog Rows.risesOfUptoRow.laid ((World.doorLaid Tryz.prog 400 os).forCall (fun _ _ => 0) ⟨#[], args, []⟩).memory :=
  laidMetH_of_parts3 (fuel := 8) (laidMet_of_run' 8 (by kernel_rfl) (by kernel_rfl)) (by kernel_rfl) (by kernel_rfl)
theorem reads (os : Os) {H : Type} (enc : TypeId × Value → H) : ∃ places, DataW.whole enc Tryz.prog ((World.doorLaid Tryz.prog 400 os).forCall (fun _ _ => 0) ⟨#[], #[.agg #[.slice none 0 0, .slice none 0 0, .slice none 0 0], .slice none 0 0], []⟩).memory Tryz.f3.params.toList Rows.risesOfSpec.vars false #[Value.agg #[.slice none 0 0, .slice none 0 0, .slice none 0 0], .slice none 0 0].toList 8 = some ([.agg [.nil, .nil, .nil], .nil], [], places) :=
  ⟨[], by kernel_rfl⟩

set_option maxRecDepth 100000 in
theorem contract (H : Type) (enc : TypeId × Value → H) (W : World) (base : Nat) (args : Array Value) (ds gs : List (DataW H)) (before : List MemPlace)
    (hval0 : ∀ (j : Nat) t v, Tryz.f3.params[j]? = some t → args[j]? = some v → Value.okWide Tryz.prog W .any base t v)
    (hW : DataW.Whole enc Tryz.prog Tryz.f3.params.toList Rows.risesOfSpec.vars false W args.toList ds gs before) (hk : Rows.uptoSmall H (ds ++ gs) = true) :
    Calls Tryz.prog 3 args W fun e W' => ∃ v, e = .returned v ∧ Rows.risesOfSpec.post enc Tryz.prog Tryz.f3 false true false false W args v W' := by
  have hval : ∀ (j : Nat) t v, Tryz.f3.params[j]? = some t → args[j]? = some v → Value.okWide Tryz.prog W .any base t v := hval0
  have hb : Rows.uptoBulkAll (ds ++ gs) ≤ 1048576 := of_decide_eq_true hk
  have hW' := hW
  obtain ⟨p, q, hA0, hV, rfl, hfz, hnd⟩ := hW
  have hA : DataW.TrodAll enc Tryz.prog W 0 (fun _ => true) true Tryz.f3.params.toList args.toList ds p := hA0
  rw [Tryz.params3] at hA hval
  obtain ⟨v0, vs0, d0, ds0, p0, q0, hargs, rfl, rfl, h0, r0⟩ := trodAll_cons hA
  obtain ⟨v1, vs1, d1, ds1, p1, q1, rfl, rfl, rfl, h1, r1⟩ := trodAll_cons r0
  obtain ⟨rfl, rfl, rfl⟩ := trodAll_nil r1
  obtain rfl : args = #[v0, v1] := by cases args; simp_all
  obtain ⟨u0, rfl, k0, z0⟩ := arg_mk_b Tryz.underlying25 (by kernel_rfl) (by kernel_rfl) Tryz.underlying22 Tryz.underlying23 Tryz.underlying22 Tryz.underlying22 (by kernel_rfl) Tryz.underlying3 (by kernel_rfl) (hval 0 25 v0 rfl rfl) h0
  obtain ⟨A1, n1, c1, l1, rfl, a1, b1, e1, g1⟩ := arg_i64s Tryz.underlying22 Tryz.underlying3 (by kernel_rfl) (hval 1 22 v1 rfl rfl) h1
  have hsz : u0.size ≤ 1048576 := by
    simp only [List.cons_append, Rows.uptoBulkAll] at hb
    unfold Mk.size
    omega
  have hwalk : Calls Tryz.prog 3 #[u0.v, .slice A1 n1 c1] W fun e w' => e = .returned (.bool true) ∧ Below W.heap.size W w' := walk u0 ⟨A1, n1, c1, l1⟩ W k0 ⟨a1, b1, e1, g1⟩ hsz
  refine hwalk.mono fun e W' ⟨he, hg⟩ => ?_
  subst he
  exact ⟨_, rfl, law_post laidOut (by kernel_rfl) hW' rfl rfl (by kernel_rfl) Tryz.underlying4 hg⟩

set_option maxRecDepth 100000 in
theorem lifted (os : Os) (started : os.Started) (H : Type) (enc : TypeId × Value → H) (F : Stop.Interp) :
    ReturnsInHanded {} Tryz.checked os 3 .any ((Rows.OpenSpec.upto Rows.risesOfSpec).preRow enc Tryz.prog Tryz.f3 Rows.risesOfUptoRow.domain false Rows.risesOfUptoRow.laid)
      (((Rows.OpenSpec.upto Rows.risesOfSpec).at F).post enc Tryz.prog Tryz.f3 false true false false) := by
  obtain ⟨places, hx⟩ := reads os enc
  refine returnsInHanded_of_row (C := Tryz.checked) (s := Rows.OpenSpec.upto Rows.risesOfSpec) own started (by kernel_rfl) Tryz.func3
    (witness_row_atRef (enc := enc) (C := Tryz.checked) false (World.doorLaid Tryz.prog 400 os) #[.agg #[.slice none 0 0, .slice none 0 0, .slice none 0 0], .slice none 0 0] rfl (by kernel_rfl) (by kernel_rfl) (by kernel_rfl)
      (OpenSpec.preRow_of_cond 8 hx (by kernel_rfl) (fun k hk => by cases hk; kernel_rfl) (by kernel_rfl) (door_met os _))) ?_
  intro W base args ds gs before hval hW _ hcond _ hL _ _
  exact contract H enc W base args ds gs before hval hW (hcond _ rfl)

theorem over : Rows.RisesOfUptoSaid :=
  OpenClaim.holds_of_cond 3 Tryz.f3 rfl rfl rfl rfl rfl rfl rfl ⟨rfl, rfl, rfl, rfl, rfl⟩ rfl rfl rfl rfl rfl (by kernel_rfl) Tryz.func3 (by kernel_rfl)
    (of_decide_eq_true (by kernel_rfl)) (by unfold Func.isWrapper; first | (rw [if_pos (by decide +kernel)]; kernel_rfl) | (rw [if_neg (by decide +kernel)]; exact ⟨rfl, rfl⟩))
    (fun os started H enc _ F => by rw [OpenClaim.pre_eq_preRow]; exact lifted os started H enc F)

theorem proved : Rows.RisesOfUptoCardSaid :=
  Claim7.holds_tied_plain_at .later [] _ _ _ _ over (fun _ h => by cases h) (by kernel_rfl) (fun _ h => by cases h) risesOfUpto_row_tie rfl ⟨rfl, rfl⟩ (by kernel_rfl) rfl
    (fun f fn hf hfn => by
      obtain rfl : f = 3 := Option.some.inj ((show Tryz.prog.funcNamed Rows.risesOfUptoRow.func = some 3 by kernel_rfl).symm.trans hf) |>.symm
      obtain rfl : fn = Tryz.f3 := (Option.some.inj (Tryz.func3.symm.trans hfn)).symm
      exact ⟨by kernel_rfl, fun j t ht => by
        rw [Tryz.params3] at ht
        have hm : t ∈ [25, 22] := by simpa using Array.mem_of_getElem? ht
        have hall : ([25, 22].all fun u => !Tryz.prog.wantsStandIn u) = true := by kernel_rfl
        exact (show Tryz.prog.wantsStandIn t = false by simpa using List.all_eq_true.1 hall t hm)⟩)
    (by kernel_rfl)
end Go.Proofs.YtdckoaljcklmhaaGreatDoor.risesOf

