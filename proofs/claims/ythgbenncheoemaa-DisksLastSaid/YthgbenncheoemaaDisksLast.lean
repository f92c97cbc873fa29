/-
  Proved: salesroomlaw03.DisksLast answers true, for any writes and another one, in whatever memory. No conditions.
-/
import Derived.Test.YthgbenncheoemaaRows
import Derived.Test.YthgbenncheoemaaAlive3
import Derived.Test.YthgbenncheoemaaWrites
import Derived.Test.YthgbenncheoemaaZeros
namespace Go.Proofs.Ythgbenncheoemaa.disksLast
open Go.ChangeShapes Go.WideShapes Go.ChangeAt Go.RowKit
set_option linter.unusedVariables false

set_option maxRecDepth 100000 in
set_option maxHeartbeats 1000000 in
theorem walk_out (A : Option Addr) (n c : Nat) (x : Wr) (W : World) (hn : 100 < n ∨ 64 < x.m) (hc2 : c ≤ maxLen) (hc : n ≤ c) (hx : x.Ok W) :
    Calls Try.prog 5 #[.slice A n c, .agg #[.int .u8 x.n, .slice x.A x.m x.c]] W fun e w' => e = .returned (.bool true) ∧ Below W.heap.size W w' := by
  unfold maxLen at hc2
  have k64 := hx.cap
  have k65 := hx.top
  unfold maxLen at k65
  go_enter Try.func5, Try.ntmps5
  go_wp2_with fail
  obtain ⟨w0, hw0⟩ : ∃ w0, w0 = W.alloc (.cells #[.int .u8 x.n, .slice x.A x.m x.c] 43) := ⟨_, rfl⟩
  have B0 : Below W.heap.size W w0 := by rw [hw0]; exact (Below.refl _ W).alloc (Nat.le_refl _) _
  have z0 : w0.heap.size = W.heap.size + 1 := by rw [hw0]; simp
  have q1 : w0.cell? ⟨W.heap.size, 1, none⟩ = some (.slice x.A x.m x.c) := by rw [hw0, cell_of_row _ _ _ _ _ _ (heap_alloc_new W _)]; rfl
  rw [← hw0]
  have Z0 := Lib.hid z0
  clear hw0 z0
  refine (new_ok 4 w0 (by omega) (by omega)).mono ?_
  rintro e w1 ⟨p, g, rfl, h1, hp, hg, hB1⟩
  have q1' : w1.cell? ⟨W.heap.size, 1, none⟩ = some (.slice x.A x.m x.c) := by rw [hB1.cell (p := ⟨W.heap.size, 1, none⟩) (by have := Z0.out; show W.heap.size < _; omega)]; exact q1
  have s1 := hB1.size
  have s0 := B0.size
  clear q1
  go_wp2_with fail
  refine (alive_any w1).mono ?_
  rintro e w2 ⟨rfl, b2⟩
  have q2 : w2.cell? ⟨W.heap.size, 1, none⟩ = some (.slice x.A x.m x.c) := by rw [b2.cell (p := ⟨W.heap.size, 1, none⟩) (by have := Z0.out; show W.heap.size < _; omega)]; exact q1'
  have HB := Lib.hid ((B0.trans (hB1.mono (by omega))).trans (b2.mono (by omega)))
  have s2 := b2.size
  clear q1' h1 hB1 b2 B0
  by_cases h100 : 100 < n
  · have h1 : decide (100 < n) = true := by simpa using h100
    go_wp2_with fail
    refine (alive_any w2).mono ?_
    rintro e w3 ⟨rfl, b3⟩
    go_wp2
    go_ret
    exact ⟨rfl, HB.out.trans (b3.mono (by omega))⟩
  · have h1 : decide (100 < n) = false := by simpa using h100
    have h2 : decide (64 < x.m) = true := by simp; omega
    go_wp2_with fail
    refine (alive_any w2).mono ?_
    rintro e w3 ⟨rfl, b3⟩
    go_wp2
    go_ret
    exact ⟨rfl, HB.out.trans (b3.mono (by omega))⟩

set_option maxRecDepth 100000 in
set_option maxHeartbeats 1000000 in
theorem walk_in (A : Option Addr) (n c : Nat) (l : List Wr) (x : Wr) (W : World) (hr : RdR W 2 A n (l.map Wr.cells)) (hl : ∀ u ∈ l, u.Ok W) (hn : n ≤ 100) (hm : x.m ≤ 64) (hc2 : c ≤ maxLen) (hc : n ≤ c) (hx : x.Ok W) :
    Calls Try.prog 5 #[.slice A n c, .agg #[.int .u8 x.n, .slice x.A x.m x.c]] W fun e w' => e = .returned (.bool true) ∧ Below W.heap.size W w' := by
  unfold maxLen at hc2
  have k64 := hx.cap
  have k65 := hx.top
  unfold maxLen at k65
  have h1 : decide (100 < n) = false := by simp; omega
  have h2 : decide (64 < x.m) = false := by simp; omega
  obtain ⟨i0, hi0, hz0, hz1, hz2⟩ := info_parts infod_u8
  go_enter Try.func5, Try.ntmps5
  go_wp2_with fail
  obtain ⟨w0, hw0⟩ : ∃ w0, w0 = W.alloc (.cells #[.int .u8 x.n, .slice x.A x.m x.c] 43) := ⟨_, rfl⟩
  have B0 : Below W.heap.size W w0 := by rw [hw0]; exact (Below.refl _ W).alloc (Nat.le_refl _) _
  have z0 : w0.heap.size = W.heap.size + 1 := by rw [hw0]; simp
  have q0 : w0.cell? ⟨W.heap.size, 0, none⟩ = some (.int .u8 x.n) := by rw [hw0, cell_of_row _ _ _ _ _ _ (heap_alloc_new W _)]; rfl
  have q1 : w0.cell? ⟨W.heap.size, 1, none⟩ = some (.slice x.A x.m x.c) := by rw [hw0, cell_of_row _ _ _ _ _ _ (heap_alloc_new W _)]; rfl
  rw [← hw0]
  have Z0 := Lib.hid z0
  clear hw0 z0
  refine (new_ok 4 w0 (by omega) (by omega)).mono ?_
  rintro e w1 ⟨p, g, rfl, d1, hp, hg, hB1⟩
  have q1' : w1.cell? ⟨W.heap.size, 1, none⟩ = some (.slice x.A x.m x.c) := by rw [hB1.cell (p := ⟨W.heap.size, 1, none⟩) (by have := Z0.out; show W.heap.size < _; omega)]; exact q1
  have s1 := hB1.size
  have s0 := B0.size
  go_wp2_with fail
  refine (alive_any w1).mono ?_
  rintro e w2 ⟨rfl, b2⟩
  have q2 : w2.cell? ⟨W.heap.size, 1, none⟩ = some (.slice x.A x.m x.c) := by rw [b2.cell (p := ⟨W.heap.size, 1, none⟩) (by have := Z0.out; show W.heap.size < _; omega)]; exact q1'
  have HB := Lib.hid (hB1.trans (b2.mono s1))
  have s2 := b2.size
  have d2 := d1.below b2
  clear q1' d1 hB1 b2
  go_wp2_with fail
  have D2 := Lib.hid d2
  clear d2 q2
  have Q0 := Lib.hid q0
  have Q1 := Lib.hid q1
  have HBW := Lib.hid B0
  clear q0 q1 B0
  go_loopw [7] (fun i wr => ∃ (j : Nat) (d : Dk), j ≤ n ∧ i = .int .i64 j ∧ DkAt wr p g d ∧ d.ss.length = 4 ∧ d.left = -1 ∧ d.writes ≤ j ∧ Below w0.heap.size w0 wr) (fun i _ => n - (intOf i).toNat)
  case atStart => exact ⟨0, _, Nat.zero_le _, rfl, D2.out, by simp [blankD], rfl, Nat.le_refl _, HB.out⟩
  case round =>
    obtain ⟨j, d, hj, rfl, hd, hd4, hdl, hdw, hB⟩ := hrel
    have HD4 := Lib.hid hd4
    have HDL := Lib.hid hdl
    clear hd4 hdl
    by_cases hlt : j < n
    · obtain ⟨b, o, u, rfl, hu, hb, c0, c1⟩ := ws_get hr hlt
      have hbb : b < w0.heap.size := by omega
      have e0 : wr.cell? ⟨b, o + j * 2, none⟩ = some (.int .u8 u.n) := by rw [hB.cell (p := ⟨b, o + j * 2, none⟩) hbb, HBW.out.cell (p := ⟨b, o + j * 2, none⟩) hb]; exact c0
      have e1 : wr.cell? ⟨b, o + j * 2 + 1, none⟩ = some (.slice u.A u.m u.c) := by rw [hB.cell (p := ⟨b, o + j * 2 + 1, none⟩) hbb, HBW.out.cell (p := ⟨b, o + j * 2 + 1, none⟩) hb]; exact c1
      have hok := hl u (List.mem_of_getElem? hu)
      have ho := hok.rd.old (B := w0.heap.size) (p := p) (g := g) s0 hp hg
      have hokr := hok.below (HBW.out.trans (hB.mono s0))
      have hun := hok.n
      have HO := Lib.hid ho
      have HU := Lib.hid hu
      clear ho hu c0 c1
      go_wp2_with fail
      refine wp_region_ord (S := fun w' => w'.cell? ⟨b, o + j * 2, none⟩ = some (.int .u8 u.n) ∧ w'.cell? ⟨b, o + j * 2 + 1, none⟩ = some (.slice u.A u.m u.c)) [(0, true), (1, true), (2, true), (3, true), (4, true), (5, true), (6, true), (7, true), (8, true), (9, true), (10, true), (11, true), (12, true), (13, false)] default (by kernel_rfl) (by kernel_rfl) (by kernel_rfl) ⟨e0, e1⟩ ?_
      simp only [getOrd, nth]
      repeat (first | (refine ordS (by rfl) ?_; simp only [Act.put, List.setIfInBounds_toArray, List.set_cons_zero, List.set_cons_succ]) | (refine ordN (by rfl) ?_; simp only [Act.put, List.setIfInBounds_toArray, List.set_cons_zero, List.set_cons_succ]) | (refine ordQ (v := ?_) (by rfl) (fun _ hSw => ?_) ?_; rotate_left; (focus (have hS1 := hSw.1; have hS2 := hSw.2; go_simp; (first | done | with_reducible rfl))); simp only [Act.put, List.setIfInBounds_toArray, List.set_cons_zero, List.set_cons_succ]))
      refine ordD (by rfl) ?_
      intro K hK
      go_simp
      rw [show (IntKind.i64.wrap (u.n : Int)).tmod 4 = ((u.n % 4 : Nat) : Int) from wmod u.n 4 hun]
      refine (write_every p g d (u.n % 4) u.A u.m u.c u.bs _ hd.drew (by have := HD4.out; omega) hokr.rd.drew HO.out (by omega)).mono ?_
      rintro e w4 ⟨z, rfl, h4, t4⟩
      go_wp2_with fail
      have sz := hB.size
      have t4 : Tch p g wr w4 := (Tch.of_below ((Below.refl _ wr).drew)).trans t4
      have hB4 := hB.trans (t4.low hp hg sz)
      refine hK _ _ ⟨by rw [(t4.low hp hg sz).cell (p := ⟨b, o + j * 2, none⟩) hbb]; exact e0, by rw [(t4.low hp hg sz).cell (p := ⟨b, o + j * 2 + 1, none⟩) hbb]; exact e1⟩ ?_
      clear hK K
      try simp only [Act.put, List.setIfInBounds_toArray, List.set_cons_zero, List.set_cons_succ]
      refine ordE ?_
      have H4 := Lib.hid h4
      have HT := Lib.hid hB4
      have w1 := act_writes d (u.n % 4) u.bs
      clear h4 hB4 t4 hd hB e0 e1
      go_wp2
      go_roundw
      case rel => exact ⟨j + 1, _, by omega, by go_num, H4.out, by rw [act_len]; exact HD4.out, act_left _ _ _ HDL.out, by omega, HT.out⟩
      case measure => simp [intOf]; omega
    · obtain rfl : j = n := by omega
      have HDW := Lib.hid hdw
      clear hdw
      go_wp2_with fail
      refine (all_n p g 4 d wr hd HD4.out).mono ?_
      rintro e w3 ⟨A3, c3, rfl, r3, b3⟩
      have sB := hB.size
      have s3 := b3.size
      have d3 := hd.below b3
      have q03 : w3.cell? ⟨W.heap.size, 0, none⟩ = some (.int .u8 x.n) := by rw [b3.cell (p := ⟨W.heap.size, 0, none⟩) (by have := Z0.out; show W.heap.size < _; omega), hB.cell (p := ⟨W.heap.size, 0, none⟩) (by have := Z0.out; show W.heap.size < _; omega)]; exact Q0.out
      have q13 : w3.cell? ⟨W.heap.size, 1, none⟩ = some (.slice x.A x.m x.c) := by rw [b3.cell (p := ⟨W.heap.size, 1, none⟩) (by have := Z0.out; show W.heap.size < _; omega), hB.cell (p := ⟨W.heap.size, 1, none⟩) (by have := Z0.out; show W.heap.size < _; omega)]; exact Q1.out
      have HB3 := Lib.hid (hB.trans (b3.mono sB))
      have hd0 := hd
      have hxn := hx.n
      clear hd hB b3
      go_wp2_with fail
      rw [mod4 x.n]
      have hk4 : x.n % 4 < 4 := Nat.mod_lt _ (by omega)
      generalize hk : x.n % 4 = k at hk4
      refine (write_any p g d k x.A x.m x.c x.bs w3 d3 (by have := HD4.out; omega) (hx.rd.below (HBW.out.trans (HB3.out.mono s0))) hm (hx.rd.old s0 hp hg) (by have := HDW.out; omega)).mono ?_
      have hs0 : d.says = 0 := by have := HDL.out; rw [Dk.says, if_neg (by omega)]
      rw [hs0]
      rintro e w4 ⟨rfl, d4, t4⟩
      have b34 : Below w0.heap.size w3 w4 := t4.low hp hg (by omega)
      have s4 := b34.size
      have q04 : w4.cell? ⟨W.heap.size, 0, none⟩ = some (.int .u8 x.n) := by rw [b34.cell (p := ⟨W.heap.size, 0, none⟩) (by have := Z0.out; show W.heap.size < _; omega)]; exact q03
      have q14 : w4.cell? ⟨W.heap.size, 1, none⟩ = some (.slice x.A x.m x.c) := by rw [b34.cell (p := ⟨W.heap.size, 1, none⟩) (by have := Z0.out; show W.heap.size < _; omega)]; exact q13
      have hne := HDL.out
      have hss := write_ss d k x.bs (by omega)
      have hl4 : (d.write k x.bs).ss.length = 4 := by rw [write_len]; exact HD4.out
      have HSS := Lib.hid hss
      have HL4 := Lib.hid hl4
      have HK := Lib.hid hk
      have d4l := d3.len
      have kp := d3.ltp
      have kg := d3.ltg
      have kp0 := hd0.ltp
      have kg0 := hd0.ltg
      have r4 := r3.tch t4 kp0 kg0
      have HB4 := Lib.hid (HB3.out.trans b34)
      clear hss hl4 hk hne hs0 r3 d3 t4 b34 q03 q13 hd0
      go_wp2_with fail
      refine (all_n p g 4 _ w4 d4 HL4.out).mono ?_
      rw [HSS.out]
      rintro e w5 ⟨A5, c5, rfl, r5, b5⟩
      have s5 := b5.size
      have q05 : w5.cell? ⟨W.heap.size, 0, none⟩ = some (.int .u8 x.n) := by rw [b5.cell (p := ⟨W.heap.size, 0, none⟩) (by have := Z0.out; show W.heap.size < _; omega)]; exact q04
      have q15 : w5.cell? ⟨W.heap.size, 1, none⟩ = some (.slice x.A x.m x.c) := by rw [b5.cell (p := ⟨W.heap.size, 1, none⟩) (by have := Z0.out; show W.heap.size < _; omega)]; exact q14
      have r45 := r4.below b5
      have HB5 := Lib.hid (HB4.out.trans (b5.mono (by omega)))
      have X5 := Lib.hid (hx.rd.below (HBW.out.trans (HB5.out.mono s0)))
      have R4 := Lib.hid r45.rdl
      have R5 := Lib.hid r5.rdl
      clear q04 q14 r4 b5 d4 r45 r5
      go_wp2_with fail
      have QQ0 := Lib.hid q05
      have QQ1 := Lib.hid q15
      clear q05 q15
      go_loopw [11] (fun i wr => ∃ j : Nat, j ≤ 4 ∧ i = .int .i64 j ∧ Below w5.heap.size w5 wr) (fun i _ => 4 - (intOf i).toNat)
      case atStart => exact ⟨0, Nat.zero_le _, rfl, Below.refl _ _⟩
      case round =>
        obtain ⟨i, hi, rfl, hB⟩ := hrel
        have qq0 : wr.cell? ⟨W.heap.size, 0, none⟩ = some (.int .u8 x.n) := by rw [hB.cell (p := ⟨W.heap.size, 0, none⟩) (by have := Z0.out; show W.heap.size < _; omega)]; exact QQ0.out
        have qq1 : wr.cell? ⟨W.heap.size, 1, none⟩ = some (.slice x.A x.m x.c) := by rw [hB.cell (p := ⟨W.heap.size, 1, none⟩) (by have := Z0.out; show W.heap.size < _; omega)]; exact QQ1.out
        have rw4 := R4.out.below hB
        have rw5 := R5.out.below hB
        have rx := X5.out.below hB
        have sB5 := hB.size
        by_cases hi4 : i < 4
        · by_cases hik : i = k
          · subst hik
            have t1 : ((i : Int) != (x.n : Int) % 4) = false := by have := HK.out; rw [bne_eq_false_iff_eq]; omega
            have t2 : decide ((i : Int) < 4) = true := by simp; omega
            have t3 : (i : Int) < 4 := by omega
            have t4 : (0 : Int) ≤ (i : Int) := by omega
            have hi5 : i < (d.ss.set i (pad x.bs)).length := by simp; have := HD4.out; omega
            obtain ⟨b5, o5, Aj5, cj5, rfl, hb5, f5, g5⟩ := rw5.get hi5
            rw [List.getElem_set_self, pad_len (by rw [hx.len]; exact hm)] at f5
            rw [List.getElem_set_self, pad_len (by rw [hx.len]; exact hm)] at g5
            go_wp2_with fail
            clear t1
            have v1 : IntKind.i64.wrap (64 - (x.m : Int)) = 64 - (x.m : Int) := by rw [IntKind.wrap_i64]; omega
            refine wp_region_ord (S := fun w' => w'.cell? ⟨W.heap.size, 1, none⟩ = some (.slice x.A x.m x.c) ∧ w'.cell? ⟨W.heap.size, 1, none⟩ = some (.slice x.A x.m x.c)) [(0, true), (1, true), (3, true), (4, true), (5, true), (6, true), (2, false), (7, false), (8, true)] default (by kernel_rfl) (by kernel_rfl) (by kernel_rfl) ⟨qq1, qq1⟩ ?_
            simp only [getOrd, nth]
            repeat (first | (refine ordS (by rfl) ?_; simp only [Act.put, List.setIfInBounds_toArray, List.set_cons_zero, List.set_cons_succ]) | (refine ordN (by rfl) ?_; simp only [Act.put, List.setIfInBounds_toArray, List.set_cons_zero, List.set_cons_succ]) | (refine ordQ (v := ?_) (by rfl) (fun _ hSw => ?_) ?_; rotate_left; (focus (have hS1 := hSw.1; have hS2 := hSw.2; go_simp; (first | done | with_reducible rfl))); simp only [Act.put, List.setIfInBounds_toArray, List.set_cons_zero, List.set_cons_succ]))
            refine ordD (by rfl) ?_
            intro K hK
            refine wp_app _ _ _ _ rfl 5 i0 _ 1 Try.underlying22 hi0 hz0 hz1 hz2 rfl wr.heap.size none 0 0 [] (by rfl) (Own.none_ _ _ _ _) x.A x.m x.c (cu8 x.bs) (by rfl) rx.drew (cu8_one _) (by simp only [maxLen]; omega) (by omega) (Nat.le_refl _) ?_
            intro A6 c6 w6 ho6 hb6 _ _
            have qq6 : w6.cell? ⟨W.heap.size, 1, none⟩ = some (.slice x.A x.m x.c) := by rw [hb6.cell (p := ⟨W.heap.size, 1, none⟩) (by have := Z0.out; show W.heap.size < _; omega)]; exact qq1
            refine hK _ _ ⟨qq6, qq6⟩ ?_
            clear hK K
            simp only [Act.put, List.setIfInBounds_toArray, List.set_cons_zero, List.set_cons_succ]
            refine ordD (by rfl) ?_
            intro K hK
            refine wp_app0 _ _ _ _ _ rfl 5 i0 _ 1 .i64 .i64 Try.underlying22 Try.underlying3 hi0 hz0 hz1 hz2 rfl rfl wr.heap.size A6 (0 + x.m) c6 _ (by rfl) ho6 (64 - x.m) _ (by rfl) ?hM (by simp only [maxLen]; omega) (by omega) hb6.size ?_
            case hM => first | omega | (rw [v1]; omega)
            intro A7 c7 w7 ho7 hb7
            have qq7 : w7.cell? ⟨W.heap.size, 1, none⟩ = some (.slice x.A x.m x.c) := by rw [hb7.cell (p := ⟨W.heap.size, 1, none⟩) (by have := Z0.out; show W.heap.size < _; omega)]; exact qq6
            refine hK _ _ ⟨qq7, qq7⟩ ?_
            clear hK K
            simp only [Act.put, List.setIfInBounds_toArray, List.set_cons_zero, List.set_cons_succ]
            repeat (first | (refine ordS (by rfl) ?_; simp only [Act.put, List.setIfInBounds_toArray, List.set_cons_zero, List.set_cons_succ]) | (refine ordN (by rfl) ?_; simp only [Act.put, List.setIfInBounds_toArray, List.set_cons_zero, List.set_cons_succ]) | (refine ordQ (v := ?_) (by rfl) (fun _ hSw => ?_) ?_; rotate_left; (focus (have hS1 := hSw.1; have hS2 := hSw.2; go_simp; (first | done | with_reducible rfl))); simp only [Act.put, List.setIfInBounds_toArray, List.set_cons_zero, List.set_cons_succ]))
            refine ordE ?_
            have hb67 : Below wr.heap.size wr w7 := (Below.refl _ wr).drew.trans (hb6.trans hb7)
            have hB7 := hB.trans (hb67.mono sB5)
            have f7 : w7.cell? ⟨b5, o5 + i, none⟩ = some (.slice Aj5 64 cj5) := by rw [hb67.cell (p := ⟨b5, o5 + i, none⟩) hb5]; exact f5
            have g7 := g5.below hb67
            have hb57 : b5 < w7.heap.size := Nat.lt_of_lt_of_le hb5 hb67.size
            have ho8 : Rd w7 A7 64 (cu8 (pad x.bs)) := by
              have h := ho7.rd
              rw [pad, cu8_app, hx.len, show 64 = 0 + x.m + (64 - x.m) by omega]
              simpa [cu8, List.map_replicate, bV] using h
            have sB7 := hB7.size
            clear ho6 ho7 hb6 hb7 qq6 qq7 qq0 qq1 rw4 rw5 rx f5 g5 hB hb67 v1
            rw [show 0 + x.m + (64 - x.m) = 64 by omega]
            go_wp2_with fail
            refine (samebytes_eq Aj5 64 cj5 (pad x.bs) A7 c7 _ g7 ho8 (by simp only [maxLen]; omega)).mono ?_
            rintro e w8 ⟨rfl, q8, rfl⟩
            have hB8 := belowN hB7 q8
            clear hB7 f7 g7 ho8
            go_wp2
            go_roundw
            case rel => exact ⟨i + 1, by omega, by go_num, hB8⟩
            case measure => simp [intOf]; omega
          · have t1 : ((i : Int) != (x.n : Int) % 4) = true := by have := HK.out; rw [bne_iff_ne]; omega
            have t2 : decide ((i : Int) < 4) = true := by simp; omega
            have t3 : (i : Int) < 4 := by omega
            have t4 : (0 : Int) ≤ (i : Int) := by omega
            have hi5 : i < (d.ss.set k (pad x.bs)).length := by simp; have := HD4.out; omega
            have hi6 : i < d.ss.length := by have := HD4.out; omega
            obtain ⟨b5, o5, Aj5, cj5, rfl, hb5, f5, g5⟩ := rw5.get hi5
            obtain ⟨b4, o4, Aj4, cj4, rfl, hb4, f4, g4⟩ := rw4.get hi6
            rw [List.getElem_set_ne (by omega)] at f5 g5
            have hm6 := d4l d.ss[i] (List.getElem_mem hi6)
            generalize d.ss[i] = s at f4 f5 g4 g5 hm6
            rw [hm6] at f4 f5 g4 g5
            clear hm6
            go_wp2_with fail
            clear t1
            refine wp_region_ord (S := fun w' => w'.cell? ⟨b4, o4 + i, none⟩ = some (.slice Aj4 64 cj4) ∧ w'.cell? ⟨b5, o5 + i, none⟩ = some (.slice Aj5 64 cj5)) [(0, true), (1, true), (2, true), (3, true), (4, true), (5, true), (6, true), (7, true), (8, false), (9, true)] default (by kernel_rfl) (by kernel_rfl) (by kernel_rfl) ⟨f4, f5⟩ ?_
            simp only [getOrd, nth]
            repeat (first | (refine ordS (by rfl) ?_; simp only [Act.put, List.setIfInBounds_toArray, List.set_cons_zero, List.set_cons_succ]) | (refine ordN (by rfl) ?_; simp only [Act.put, List.setIfInBounds_toArray, List.set_cons_zero, List.set_cons_succ]) | (refine ordQ (v := ?_) (by rfl) (fun _ hSw => ?_) ?_; rotate_left; (focus (have hS1 := hSw.1; have hS2 := hSw.2; go_simp; (first | done | with_reducible rfl))); simp only [Act.put, List.setIfInBounds_toArray, List.set_cons_zero, List.set_cons_succ]))
            refine ordD (by rfl) ?_
            intro K hK
            go_simp
            refine (samebytes_eq Aj4 64 cj4 s Aj5 cj5 _ g4.drew g5.drew (by simp only [maxLen]; omega)).mono ?_
            rintro e w8 ⟨rfl, q8, rfl⟩
            go_wp2_with fail
            refine hK _ _ ⟨f4, f5⟩ ?_
            clear hK K
            try simp only [Act.put, List.setIfInBounds_toArray, List.set_cons_zero, List.set_cons_succ]
            repeat (first | (refine ordS (by rfl) ?_; simp only [Act.put, List.setIfInBounds_toArray, List.set_cons_zero, List.set_cons_succ]) | (refine ordN (by rfl) ?_; simp only [Act.put, List.setIfInBounds_toArray, List.set_cons_zero, List.set_cons_succ]) | (refine ordQ (v := ?_) (by rfl) (fun _ hSw => ?_) ?_; rotate_left; (focus (have hS1 := hSw.1; have hS2 := hSw.2; go_simp; (first | done | with_reducible rfl))); simp only [Act.put, List.setIfInBounds_toArray, List.set_cons_zero, List.set_cons_succ]))
            refine ordE ?_
            have hB8 := Lib.hid hB
            clear hB f4 f5 g4 g5 qq0 qq1 rw4 rw5 rx
            go_wp2
            go_roundw
            case rel => exact ⟨i + 1, by omega, by go_num, belowN hB8.out _⟩
            case measure => simp [intOf]; omega
        · obtain rfl : i = 4 := by omega
          have HF := Lib.hid (HBW.out.trans ((HB5.out.trans (hB.mono HB5.out.size)).mono s0))
          clear hB qq0 qq1 rw4 rw5 rx
          go_wp2
          go_ret
          exact ⟨rfl, HF.out⟩

theorem walk (A : Option Addr) (n c : Nat) (l : List Wr) (x : Wr) (W : World) (hr : RdR W 2 A n (l.map Wr.cells)) (hl : ∀ u ∈ l, u.Ok W) (hc2 : c ≤ maxLen) (hc : n ≤ c) (hx : x.Ok W) :
    Calls Try.prog 5 #[.slice A n c, .agg #[.int .u8 x.n, .slice x.A x.m x.c]] W fun e w' => e = .returned (.bool true) ∧ Below W.heap.size W w' := by
  by_cases h : n ≤ 100 ∧ x.m ≤ 64
  · exact walk_in A n c l x W hr hl h.1 h.2 hc2 hc hx
  · exact walk_out A n c x W (by omega) hc2 hc hx

theorem own : ownKnob Try.prog.godebug = none := by kernel_rfl
theorem laidOut : laidOutB Try.prog = true := by kernel_rfl

set_option maxRecDepth 100000 in
theorem lifted (os : Os) (started : os.Started) (H : Type) (enc : TypeId × Value → H) :
    ReturnsInHanded {} Try.checked os 5 .any (Rows.disksLastSpec.pre6 enc Try.prog Try.f5 Rows.disksLastRow.domain false) (Rows.disksLastSpec.post enc Try.prog Try.f5 false true false false) := by
  refine returnsInHanded_of_change (C := Try.checked) own started (by kernel_rfl) Try.func5
    (ChangeSpec.witness6 (enc := enc) (C := Try.checked) false ⟨#[], #[.slice none 0 0, .agg #[.int .u8 0, .slice none 0 0]], []⟩ 8 (by kernel_rfl) (by kernel_rfl) (by kernel_rfl) (by kernel_rfl)) ?_
  intro W base args ds gs before hval0 hW hcnd _
  have hval : ∀ (j : Nat) t v, Try.f5.params[j]? = some t → args[j]? = some v → Value.okWide Try.prog W .any base t v := hval0
  have hW' := hW
  obtain ⟨p, q, hA0, hV, rfl, hfz, hnd⟩ := hW
  have hA : DataW.TrodAll enc Try.prog W 0 (fun _ => true) true Try.f5.params.toList args.toList ds p := hA0
  rw [Try.params5] at hA hval
  obtain ⟨v0, vs0, d0, ds0, p0, q0, hargs, rfl, rfl, h0, r0⟩ := trodAll_cons hA
  obtain ⟨v1, vs1, d1, ds1, p1, q1, rfl, rfl, rfl, h1, r1⟩ := trodAll_cons r0
  obtain ⟨rfl, rfl, rfl⟩ := trodAll_nil r1
  obtain rfl : args = #[v0, v1] := by cases args; simp_all
  obtain ⟨A0, n0, c0, l0, rfl, a0, g0, b0, e0, _⟩ := arg_ws Try.underlying40 Try.underlying43 (by kernel_rfl) (by kernel_rfl) Try.underlying5 Try.underlying22 Try.underlying5 (by kernel_rfl) (hval 0 40 v0 rfl rfl) h0
  obtain ⟨x1, rfl, g1⟩ := arg_wr Try.underlying43 (by kernel_rfl) (by kernel_rfl) Try.underlying5 Try.underlying22 Try.underlying5 (by kernel_rfl) (hval 1 43 v1 rfl rfl) h1
  have hwalk : Calls Try.prog 5 #[.slice A0 n0 c0, .agg #[.int .u8 x1.n, .slice x1.A x1.m x1.c]] W fun e w' => e = .returned (.bool true) ∧ Below W.heap.size W w' := walk A0 n0 c0 l0 x1 W a0 g0 e0 b0 g1
  refine hwalk.mono fun e W' ⟨he, hg⟩ => ?_
  subst he
  exact ⟨_, rfl, law_post laidOut (by kernel_rfl) hW' rfl rfl (by kernel_rfl) Try.underlying4 hg⟩

theorem over : Rows.disksLastRow.holds Try.pinned (OpenSpec.ofChange Rows.disksLastSpec) :=
  OpenClaim.holds_of_wide 5 Try.f5 rfl rfl rfl rfl rfl rfl rfl ⟨rfl, rfl, rfl, rfl, rfl⟩ rfl rfl rfl rfl rfl (by kernel_rfl) Try.func5 (by kernel_rfl)
    (of_decide_eq_true (by kernel_rfl)) (by unfold Func.isWrapper; first | (rw [if_pos (by decide +kernel)]; kernel_rfl) | (rw [if_neg (by decide +kernel)]; exact ⟨rfl, rfl⟩))
    (fun os started H enc _ => lifted os started H enc)

theorem proved : Rows.DisksLastSaid :=
  over
end Go.Proofs.Ythgbenncheoemaa.disksLast
