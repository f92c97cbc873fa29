/-
  Proved: salesroomlaw03.DisksCopy answers true, for any writes, any fuse and another one, in whatever memory. No conditions.
-/
import Derived.Test.YthgbenncheoemaaRows
import Derived.Test.YthgbenncheoemaaAlive3
import Derived.Test.YthgbenncheoemaaWrites
namespace Go.Proofs.Ythgbenncheoemaa.disksCopy
open Go.ChangeShapes Go.WideShapes Go.ChangeAt Go.RowKit
set_option linter.unusedVariables false

set_option maxRecDepth 100000 in
set_option maxHeartbeats 1000000 in
theorem walk_out (A : Option Addr) (n c : Nat) (f : Nat) (x : Wr) (W : World) (hn : 100 < n ∨ 64 < x.m) (hc2 : c ≤ maxLen) (hc : n ≤ c) (hx : x.Ok W) :
    Calls Try.prog 6 #[.slice A n c, .int .u8 f, .agg #[.int .u8 x.n, .slice x.A x.m x.c]] W fun e w' => e = .returned (.bool true) ∧ Below W.heap.size W w' := by
  unfold maxLen at hc2
  have k64 := hx.cap
  have k65 := hx.top
  unfold maxLen at k65
  go_enter Try.func6, Try.ntmps6
  go_wp2_with fail
  obtain ⟨w0, hw0⟩ : ∃ w0, w0 = W.alloc (.cells #[.int .u8 x.n, .slice x.A x.m x.c] 43) := ⟨_, rfl⟩
  have B0 : Below W.heap.size W w0 := by rw [hw0]; exact (Below.refl _ W).alloc (Nat.le_refl _) _
  have z0 : w0.heap.size = W.heap.size + 1 := by rw [hw0]; simp
  have q1 : w0.cell? ⟨W.heap.size, 1, none⟩ = some (.slice x.A x.m x.c) := by rw [hw0, cell_of_row _ _ _ _ _ _ (heap_alloc_new W _)]; rfl
  rw [← hw0]
  have Z0 := Lib.hid z0
  clear hw0 z0
  refine (new_ok 4 w0 (by omega) (by omega)).mono ?_
  rintro e w1 ⟨p, g, rfl, h1, hp, hg, hB1⟩
  have q1' : w1.cell? ⟨W.heap.size, 1, none⟩ = some (.slice x.A x.m x.c) := by rw [hB1.cell (p := ⟨W.heap.size, 1, none⟩) (by have := Z0.out; show W.heap.size < _; omega)]; exact q1
  have s1 := hB1.size
  have s0 := B0.size
  clear q1
  go_wp2_with fail
  refine (alive_any w1).mono ?_
  rintro e w2 ⟨rfl, b2⟩
  have q2 : w2.cell? ⟨W.heap.size, 1, none⟩ = some (.slice x.A x.m x.c) := by rw [b2.cell (p := ⟨W.heap.size, 1, none⟩) (by have := Z0.out; show W.heap.size < _; omega)]; exact q1'
  have HB := Lib.hid ((B0.trans (hB1.mono (by omega))).trans (b2.mono (by omega)))
  have s2 := b2.size
  clear q1' h1 hB1 b2 B0
  by_cases h100 : 100 < n
  · have h1 : decide (100 < n) = true := by simpa using h100
    go_wp2_with fail
    refine (alive_any w2).mono ?_
    rintro e w3 ⟨rfl, b3⟩
    go_wp2
    go_ret
    exact ⟨rfl, HB.out.trans (b3.mono (by omega))⟩
  · have h1 : decide (100 < n) = false := by simpa using h100
    have h2 : decide (64 < x.m) = true := by simp; omega
    go_wp2_with fail
    refine (alive_any w2).mono ?_
    rintro e w3 ⟨rfl, b3⟩
    go_wp2
    go_ret
    exact ⟨rfl, HB.out.trans (b3.mono (by omega))⟩

set_option maxRecDepth 100000 in
set_option maxHeartbeats 1000000 in
theorem walk_in (A : Option Addr) (n c : Nat) (l : List Wr) (f : Nat) (x : Wr) (W : World) (hr : RdR W 2 A n (l.map Wr.cells)) (hl : ∀ u ∈ l, u.Ok W) (hn : n ≤ 100) (hf : f < 256) (hm : x.m ≤ 64) (hc2 : c ≤ maxLen) (hc : n ≤ c) (hx : x.Ok W) :
    Calls Try.prog 6 #[.slice A n c, .int .u8 f, .agg #[.int .u8 x.n, .slice x.A x.m x.c]] W fun e w' => e = .returned (.bool true) ∧ Below W.heap.size W w' := by
  unfold maxLen at hc2
  have k64 := hx.cap
  have k65 := hx.top
  unfold maxLen at k65
  have h1 : decide (100 < n) = false := by simp; omega
  have h2 : decide (64 < x.m) = false := by simp; omega
  go_enter Try.func6, Try.ntmps6
  go_wp2_with fail
  obtain ⟨w0, hw0⟩ : ∃ w0, w0 = W.alloc (.cells #[.int .u8 x.n, .slice x.A x.m x.c] 43) := ⟨_, rfl⟩
  have B0 : Below W.heap.size W w0 := by rw [hw0]; exact (Below.refl _ W).alloc (Nat.le_refl _) _
  have z0 : w0.heap.size = W.heap.size + 1 := by rw [hw0]; simp
  have q0 : w0.cell? ⟨W.heap.size, 0, none⟩ = some (.int .u8 x.n) := by rw [hw0, cell_of_row _ _ _ _ _ _ (heap_alloc_new W _)]; rfl
  have q1 : w0.cell? ⟨W.heap.size, 1, none⟩ = some (.slice x.A x.m x.c) := by rw [hw0, cell_of_row _ _ _ _ _ _ (heap_alloc_new W _)]; rfl
  rw [← hw0]
  have Z0 := Lib.hid z0
  clear hw0 z0
  refine (new_ok 4 w0 (by omega) (by omega)).mono ?_
  rintro e w1 ⟨p, g, rfl, d1, hp, hg, hB1⟩
  have q1' : w1.cell? ⟨W.heap.size, 1, none⟩ = some (.slice x.A x.m x.c) := by rw [hB1.cell (p := ⟨W.heap.size, 1, none⟩) (by have := Z0.out; show W.heap.size < _; omega)]; exact q1
  have s1 := hB1.size
  have s0 := B0.size
  go_wp2_with fail
  refine (alive_any w1).mono ?_
  rintro e w2 ⟨rfl, b2⟩
  have q2 : w2.cell? ⟨W.heap.size, 1, none⟩ = some (.slice x.A x.m x.c) := by rw [b2.cell (p := ⟨W.heap.size, 1, none⟩) (by have := Z0.out; show W.heap.size < _; omega)]; exact q1'
  have HB := Lib.hid (hB1.trans (b2.mono s1))
  have s2 := b2.size
  have d2 := d1.below b2
  clear q1' d1 hB1 b2
  go_wp2_with fail
  refine (fuse_ok p g (blankD 4) f w2 d2 rfl (by omega)).mono ?_
  rintro e w3 ⟨rfl, d3, t3⟩
  have s3 := t3.size
  have HB3 := Lib.hid (HB.out.trans (t3.low hp hg HB.out.size))
  have D3 := Lib.hid d3
  have Q0 := Lib.hid q0
  have Q1 := Lib.hid q1
  have HBW := Lib.hid B0
  clear d2 d3 q2 q0 q1 B0 t3 HB
  go_wp2_with fail
  go_loopw [9] (fun i wr => ∃ (j : Nat) (d : Dk), j ≤ n ∧ i = .int .i64 j ∧ DkAt wr p g d ∧ d.ss.length = 4 ∧ d.writes ≤ j ∧ Below w0.heap.size w0 wr) (fun i _ => n - (intOf i).toNat)
  case atStart => exact ⟨0, _, Nat.zero_le _, rfl, D3.out, by simp [blankD], Nat.le_refl _, HB3.out⟩
  case round =>
    obtain ⟨j, d, hj, rfl, hd, hd4, hdw, hB⟩ := hrel
    have HD4 := Lib.hid hd4
    clear hd4
    by_cases hlt : j < n
    · obtain ⟨b, o, u, rfl, hu, hb, c0, c1⟩ := ws_get hr hlt
      have hbb : b < w0.heap.size := by omega
      have e0 : wr.cell? ⟨b, o + j * 2, none⟩ = some (.int .u8 u.n) := by rw [hB.cell (p := ⟨b, o + j * 2, none⟩) hbb, HBW.out.cell (p := ⟨b, o + j * 2, none⟩) hb]; exact c0
      have e1 : wr.cell? ⟨b, o + j * 2 + 1, none⟩ = some (.slice u.A u.m u.c) := by rw [hB.cell (p := ⟨b, o + j * 2 + 1, none⟩) hbb, HBW.out.cell (p := ⟨b, o + j * 2 + 1, none⟩) hb]; exact c1
      have hok := hl u (List.mem_of_getElem? hu)
      have ho := hok.rd.old (B := w0.heap.size) (p := p) (g := g) s0 hp hg
      have hokr := hok.below (HBW.out.trans (hB.mono s0))
      have hun := hok.n
      have HO := Lib.hid ho
      have HU := Lib.hid hu
      clear ho hu c0 c1
      go_wp2_with fail
      refine wp_region_ord (S := fun w' => w'.cell? ⟨b, o + j * 2, none⟩ = some (.int .u8 u.n) ∧ w'.cell? ⟨b, o + j * 2 + 1, none⟩ = some (.slice u.A u.m u.c)) [(0, true), (1, true), (2, true), (3, true), (4, true), (5, true), (6, true), (7, true), (8, true), (9, true), (10, true), (11, true), (12, true), (13, false)] default (by kernel_rfl) (by kernel_rfl) (by kernel_rfl) ⟨e0, e1⟩ ?_
      simp only [getOrd, nth]
      repeat (first | (refine ordS (by rfl) ?_; simp only [Act.put, List.setIfInBounds_toArray, List.set_cons_zero, List.set_cons_succ]) | (refine ordN (by rfl) ?_; simp only [Act.put, List.setIfInBounds_toArray, List.set_cons_zero, List.set_cons_succ]) | (refine ordQ (v := ?_) (by rfl) (fun _ hSw => ?_) ?_; rotate_left; (focus (have hS1 := hSw.1; have hS2 := hSw.2; go_simp; (first | done | with_reducible rfl))); simp only [Act.put, List.setIfInBounds_toArray, List.set_cons_zero, List.set_cons_succ]))
      refine ordD (by rfl) ?_
      intro K hK
      go_simp
      rw [show (IntKind.i64.wrap (u.n : Int)).tmod 4 = ((u.n % 4 : Nat) : Int) from wmod u.n 4 hun]
      refine (write_every p g d (u.n % 4) u.A u.m u.c u.bs _ hd.drew (by have := HD4.out; omega) hokr.rd.drew HO.out (by omega)).mono ?_
      rintro e w4 ⟨z, rfl, h4, t4⟩
      go_wp2_with fail
      have sz := hB.size
      have t4 : Tch p g wr w4 := (Tch.of_below ((Below.refl _ wr).drew)).trans t4
      have hB4 := hB.trans (t4.low hp hg sz)
      refine hK _ _ ⟨by rw [(t4.low hp hg sz).cell (p := ⟨b, o + j * 2, none⟩) hbb]; exact e0, by rw [(t4.low hp hg sz).cell (p := ⟨b, o + j * 2 + 1, none⟩) hbb]; exact e1⟩ ?_
      clear hK K
      try simp only [Act.put, List.setIfInBounds_toArray, List.set_cons_zero, List.set_cons_succ]
      refine ordE ?_
      have H4 := Lib.hid h4
      have HT := Lib.hid hB4
      have w1 := act_writes d (u.n % 4) u.bs
      clear h4 hB4 t4 hd hB e0 e1
      go_wp2
      go_roundw
      case rel => exact ⟨j + 1, _, by omega, by go_num, H4.out, by rw [act_len]; exact HD4.out, by omega, HT.out⟩
      case measure => simp [intOf]; omega
    · obtain rfl : j = n := by omega
      have HDW := Lib.hid hdw
      clear hdw
      go_wp2_with fail
      refine (copy_ok p g d wr hd).mono ?_
      rintro e w4 ⟨p1, g1, rfl, c4, hp1, hg1, b4⟩
      have sB := hB.size
      have s4 := b4.size
      have d4 := hd.below b4
      have l1 := hd.ltp
      have l2 := hd.ltg
      have HB4 := Lib.hid (hB.trans (b4.mono sB))
      have hxn := hx.n
      have hC4 : d.copy.ss.length = 4 := HD4.out
      have HC4 := Lib.hid hC4
      clear hd hB b4 hC4
      go_wp2_with fail
      refine (blown_ok p1 g1 d.copy w4 c4).mono ?_
      rintro e w5 ⟨rfl, rfl⟩
      have z1 : d.copy.blown = false := rfl
      rw [z1]
      clear z1
      go_wp2_with fail
      refine (writes_ok p1 g1 d.copy w4 c4).mono ?_
      rintro e w5 ⟨rfl, rfl⟩
      have z1 : d.copy.writes = 0 := rfl
      rw [z1]
      clear z1
      go_wp2_with fail
      refine (len_n p1 g1 4 d.copy w4 c4 HC4.out).mono ?_
      rintro e w5 ⟨rfl, rfl⟩
      go_wp2_with fail
      refine (all_n p1 g1 4 d.copy w4 c4 HC4.out).mono ?_
      rintro e w5 ⟨A5, k5, rfl, o5, b5⟩
      have s5 := b5.size
      have c5 := c4.below b5
      have d5 := d4.below b5
      have HB5 := Lib.hid (HB4.out.trans (b5.mono HB4.out.size))
      clear c4 d4 b5
      go_wp2_with fail
      refine (all_n p g 4 d w5 d5 HD4.out).mono ?_
      rintro e w6 ⟨A6, k6, rfl, o6, b6⟩
      have s6 := b6.size
      have c6 := c5.below b6
      have d6 := d5.below b6
      have r56 := (o5.below b6).rdl
      have r6 := o6.rdl
      have HB6 := Lib.hid (HB5.out.trans (b6.mono HB5.out.size))
      have lens := d6.len
      clear c5 d5 b6 o5 o6
      go_wp2_with fail
      refine (samelists_n 4 A5 k5 A6 k6 d.ss w6 r56 r6 HD4.out (by omega) (fun s hs => by rw [lens s hs]; omega)).mono ?_
      rintro e w7 ⟨rfl, q7, rfl⟩
      have c7 := c6.drewN q7
      have d7 := d6.drewN q7
      have HB7 := Lib.hid (belowN HB6.out q7)
      have s7 : w6.heap.size ≤ (w6.drewN q7).heap.size := Nat.le_refl _
      clear c6 d6 r56 r6 lens
      generalize w6.drewN q7 = w7 at c7 d7 HB7 s7
      go_wp2_with fail
      refine (all_n p g 4 d w7 d7 HD4.out).mono ?_
      rintro e w8 ⟨A8, k8, rfl, o8, b8⟩
      have s8 := b8.size
      have c8 := c7.below b8
      have d8 := d7.below b8
      have HB8 := Lib.hid (HB7.out.trans (b8.mono HB7.out.size))
      have q08 : w8.cell? ⟨W.heap.size, 0, none⟩ = some (.int .u8 x.n) := by rw [HB8.out.cell (p := ⟨W.heap.size, 0, none⟩) (by have := Z0.out; show W.heap.size < _; omega)]; exact Q0.out
      have q18 : w8.cell? ⟨W.heap.size, 1, none⟩ = some (.slice x.A x.m x.c) := by rw [HB8.out.cell (p := ⟨W.heap.size, 1, none⟩) (by have := Z0.out; show W.heap.size < _; omega)]; exact Q1.out
      clear c7 d7 b8 o8
      go_wp2_with fail
      rw [mod4 x.n]
      have hk4 : x.n % 4 < 4 := Nat.mod_lt _ (by omega)
      generalize x.n % 4 = k at hk4
      refine (write_any p1 g1 d.copy k x.A x.m x.c x.bs w8 c8 (by have := HC4.out; omega) (hx.rd.below (HBW.out.trans (HB8.out.mono s0))) hm (hx.rd.old s0 (by omega) (by omega)) (by show (0 : Nat) < 1000000000; omega)).mono ?_
      have hs0 : d.copy.says = 0 := rfl
      rw [hs0]
      rintro e w9 ⟨rfl, c9, t9⟩
      have s9 := t9.size
      have HB9 := Lib.hid (HB8.out.trans (t9.low (B := w0.heap.size) (by omega) (by omega) (by omega)))
      have d9 := d8.tch t9 (by omega) (by omega) (by omega) (by omega)
      have HX := Lib.hid ((write_len d.copy k x.bs).trans HC4.out)
      have x0 : w9.cell? ⟨W.heap.size, 0, none⟩ = some (.int .u8 x.n) := by rw [HB9.out.cell (p := ⟨W.heap.size, 0, none⟩) (by have := Z0.out; show W.heap.size < _; omega)]; exact Q0.out
      clear hs0 c8 d8 q08 q18 t9
      generalize hX : d.copy.write k x.bs = dX at c9 HX
      clear hX
      go_wp2_with fail
      refine (copy_ok p1 g1 dX w9 c9).mono ?_
      rintro e w10 ⟨p2, g2, rfl, f10, hp2, hg2, b10⟩
      have s10 := b10.size
      have l3 := c9.ltp
      have l4 := c9.ltg
      have c10 := c9.below b10
      have d10 := d9.below b10
      have HB10 := Lib.hid (HB9.out.trans (b10.mono (by omega)))
      have x10 : w10.cell? ⟨W.heap.size, 0, none⟩ = some (.int .u8 x.n) := by rw [HB10.out.cell (p := ⟨W.heap.size, 0, none⟩) (by have := Z0.out; show W.heap.size < _; omega)]; exact Q0.out
      have hF4 : dX.copy.ss.length = 4 := HX.out
      have HF4 := Lib.hid hF4
      clear hF4 c9 d9 b10 x0
      go_wp2_with fail
      rw [show ((x.n : Int) + 1) % 4 = (((x.n + 1) % 4 : Nat) : Int) by omega]
      have hk5 : (x.n + 1) % 4 < 4 := Nat.mod_lt _ (by omega)
      generalize (x.n + 1) % 4 = k2 at hk5
      refine (write_lit_n 77 _ _ d k2 p g w10 d10 (by have := HD4.out; omega) (by have := HDW.out; omega) rfl).mono ?_
      rintro e w11 ⟨rfl, d11, t11⟩
      have s11 := t11.size
      have HB11 := Lib.hid (HB10.out.trans (t11.low hp hg (by omega)))
      have c11 := c10.tch t11 (by omega) (by omega) (by omega) (by omega)
      have f11 := f10.tch t11 (by omega) (by omega) (by omega) (by omega)
      have hbw : (d.write k2 [77]).blown = true ∨ 0 < (d.write k2 [77]).writes := by
        by_cases h0 : d.left = 0
        · left; rw [Dk.write, if_pos h0, asked_zero h0]
        · right; rw [Dk.write, if_neg h0]; show 0 < d.writes + 1; omega
      generalize d.says = zz
      generalize d.write k2 [77] = dY at d11 hbw
      have HBW2 := Lib.hid hbw
      clear c10 f10 d10 t11 x10 hbw
      go_wp2_with fail
      refine (all_n p2 g2 4 dX.copy w11 f11 HF4.out).mono ?_
      rintro e w12 ⟨A12, k12, rfl, o12, b12⟩
      have s12 := b12.size
      have c12 := c11.below b12
      have d12 := d11.below b12
      have HB12 := Lib.hid (HB11.out.trans (b12.mono HB11.out.size))
      clear c11 d11 f11 b12
      go_wp2_with fail
      refine (all_n p1 g1 4 dX w12 c12 HX.out).mono ?_
      rintro e w13 ⟨A13, k13, rfl, o13, b13⟩
      have s13 := b13.size
      have d13 := d12.below b13
      have r13 : RdL w13 A12 dX.ss := (o12.below b13).rdl
      have r13' := o13.rdl
      have lens := c12.len
      have HB13 := Lib.hid (HB12.out.trans (b13.mono HB12.out.size))
      clear c12 d12 b13 o12 o13
      go_wp2_with fail
      refine (samelists_n 4 A12 k12 A13 k13 dX.ss w13 r13 r13' HX.out (by omega) (fun s hs => by rw [lens s hs]; omega)).mono ?_
      rintro e w14 ⟨rfl, q14, rfl⟩
      have d14 := d13.drewN q14
      have HB14 := Lib.hid (belowN HB13.out q14)
      clear d13 r13 r13' lens
      generalize w13.drewN q14 = w14 at d14 HB14
      go_wp2_with fail
      refine (blown_ok p g dY w14 d14).mono ?_
      rintro e w15 ⟨rfl, rfl⟩
      by_cases hbl : dY.blown = true
      · rw [hbl]
        go_wp2
        go_ret
        exact ⟨rfl, HBW.out.trans (HB14.out.mono s0)⟩
      · have hbf : dY.blown = false := by simpa using hbl
        have hwp : 0 < dY.writes := HBW2.out.resolve_left hbl
        have hwd : decide ((0 : Int) < (dY.writes : Int)) = true := by simp; omega
        have hwd2 : decide (0 < dY.writes) = true := by simp; omega
        rw [hbf]
        clear hbl hbf
        go_wp2_with fail
        refine (writes_ok p g dY w14 d14).mono ?_
        rintro e w15 ⟨rfl, rfl⟩
        go_wp2
        go_ret
        exact ⟨rfl, HBW.out.trans (HB14.out.mono s0)⟩

theorem walk (A : Option Addr) (n c : Nat) (l : List Wr) (f : Nat) (hf : f < 256) (x : Wr) (W : World) (hr : RdR W 2 A n (l.map Wr.cells)) (hl : ∀ u ∈ l, u.Ok W) (hc2 : c ≤ maxLen) (hc : n ≤ c) (hx : x.Ok W) :
    Calls Try.prog 6 #[.slice A n c, .int .u8 f, .agg #[.int .u8 x.n, .slice x.A x.m x.c]] W fun e w' => e = .returned (.bool true) ∧ Below W.heap.size W w' := by
  by_cases h : n ≤ 100 ∧ x.m ≤ 64
  · exact walk_in A n c l f x W hr hl h.1 hf h.2 hc2 hc hx
  · exact walk_out A n c f x W (by omega) hc2 hc hx

theorem own : ownKnob Try.prog.godebug = none := by kernel_rfl
theorem laidOut : laidOutB Try.prog = true := by kernel_rfl

set_option maxRecDepth 100000 in
theorem lifted (os : Os) (started : os.Started) (H : Type) (enc : TypeId × Value → H) :
    ReturnsInHanded {} Try.checked os 6 .any (Rows.disksCopySpec.pre6 enc Try.prog Try.f6 Rows.disksCopyRow.domain false) (Rows.disksCopySpec.post enc Try.prog Try.f6 false true false false) := by
  refine returnsInHanded_of_change (C := Try.checked) own started (by kernel_rfl) Try.func6
    (ChangeSpec.witness6 (enc := enc) (C := Try.checked) false ⟨#[], #[.slice none 0 0, .int .u8 0, .agg #[.int .u8 0, .slice none 0 0]], []⟩ 8 (by kernel_rfl) (by kernel_rfl) (by kernel_rfl) (by kernel_rfl)) ?_
  intro W base args ds gs before hval0 hW hcnd _
  have hval : ∀ (j : Nat) t v, Try.f6.params[j]? = some t → args[j]? = some v → Value.okWide Try.prog W .any base t v := hval0
  have hW' := hW
  obtain ⟨p, q, hA0, hV, rfl, hfz, hnd⟩ := hW
  have hA : DataW.TrodAll enc Try.prog W 0 (fun _ => true) true Try.f6.params.toList args.toList ds p := hA0
  rw [Try.params6] at hA hval
  obtain ⟨v0, vs0, d0, ds0, p0, q0, hargs, rfl, rfl, h0, r0⟩ := trodAll_cons hA
  obtain ⟨v1, vs1, d1, ds1, p1, q1, rfl, rfl, rfl, h1, r1⟩ := trodAll_cons r0
  obtain ⟨v2, vs2, d2, ds2, p2, q2, rfl, rfl, rfl, h2, r2⟩ := trodAll_cons r1
  obtain ⟨rfl, rfl, rfl⟩ := trodAll_nil r2
  obtain rfl : args = #[v0, v1, v2] := by cases args; simp_all
  obtain ⟨A0, n0, c0, l0, rfl, a0, g0, b0, e0, _⟩ := arg_ws Try.underlying40 Try.underlying43 (by kernel_rfl) (by kernel_rfl) Try.underlying5 Try.underlying22 Try.underlying5 (by kernel_rfl) (hval 0 40 v0 rfl rfl) h0
  obtain ⟨x1, rfl, rfl, rfl, w1⟩ := open_int Try.underlying5 (hval 1 5 v1 rfl rfl) h1
  obtain ⟨y1, rfl, z1⟩ := fit_u8 w1
  obtain ⟨x2, rfl, g2⟩ := arg_wr Try.underlying43 (by kernel_rfl) (by kernel_rfl) Try.underlying5 Try.underlying22 Try.underlying5 (by kernel_rfl) (hval 2 43 v2 rfl rfl) h2
  have hwalk : Calls Try.prog 6 #[.slice A0 n0 c0, .int .u8 y1, .agg #[.int .u8 x2.n, .slice x2.A x2.m x2.c]] W fun e w' => e = .returned (.bool true) ∧ Below W.heap.size W w' := walk A0 n0 c0 l0 y1 z1 x2 W a0 g0 e0 b0 g2
  refine hwalk.mono fun e W' ⟨he, hg⟩ => ?_
  subst he
  exact ⟨_, rfl, law_post laidOut (by kernel_rfl) hW' rfl rfl (by kernel_rfl) Try.underlying4 hg⟩

theorem over : Rows.disksCopyRow.holds Try.pinned (OpenSpec.ofChange Rows.disksCopySpec) :=
  OpenClaim.holds_of_wide 6 Try.f6 rfl rfl rfl rfl rfl rfl rfl ⟨rfl, rfl, rfl, rfl, rfl⟩ rfl rfl rfl rfl rfl (by kernel_rfl) Try.func6 (by kernel_rfl)
    (of_decide_eq_true (by kernel_rfl)) (by unfold Func.isWrapper; first | (rw [if_pos (by decide +kernel)]; kernel_rfl) | (rw [if_neg (by decide +kernel)]; exact ⟨rfl, rfl⟩))
    (fun os started H enc _ => lifted os started H enc)

theorem proved : Rows.DisksCopySaid :=
  over
end Go.Proofs.Ythgbenncheoemaa.disksCopy
