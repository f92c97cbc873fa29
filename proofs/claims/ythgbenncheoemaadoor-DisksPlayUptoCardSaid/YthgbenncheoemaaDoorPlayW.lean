/-
  The walk of DisksPlay: it answers true, whatever the size and the acts (of which all together are not too many to be added up).
-/
import Derived.Test.YthgbenncheoemaaDoorPlayD
import Derived.Test.YthgbenncheoemaaDoorBookE
import Derived.Test.YthgbenncheoemaaDoorLit
import Derived.Lib.SlBytesConst
namespace Go.Proofs.YthgbenncheoemaaDoor.disksPlay
open Go.ChangeShapes Go.WideShapes Go.ChangeAt Go.RowKit
set_option linter.unusedVariables false

set_option maxRecDepth 100000 in
set_option maxHeartbeats 1000000 in
theorem walk_out (z : Int) (A : Option Addr) (n c : Nat) (l : List Ac) (W : World) (hr : RdR W 3 A n (l.map Ac.cells)) (hl : ∀ u ∈ l, u.Ok W) (hg : gsum l ≤ 1000000000) (hz : 600 < gsum l ∨ z < 1 ∨ 1024 < z) :
    Calls Tryd.prog 3 #[.int .i64 z, .slice A n c] W fun e w' => e = .returned (.bool true) ∧ Below W.heap.size W w' := by
  go_enter Tryd.func3, Tryd.ntmps3
  go_wp2_with fail
  refine (great_any A n c l W hr hl hg).mono ?_
  rintro e w1 ⟨rfl, rfl⟩
  by_cases h6 : 600 < gsum l
  · rw [decide_eq_true h6]
    go_wp2
    go_ret
    exact ⟨rfl, Below.refl _ _⟩
  · have hz2 : z < 1 ∨ 1024 < z := by omega
    rw [decide_eq_false h6]
    go_wp2_with fail
    refine (new_arg z W hz2).mono ?_
    rintro e w1 ⟨rfl, rfl⟩
    go_wp2_with fail
    refine (refnew_arg z W hz2).mono ?_
    rintro e w1 ⟨rfl, rfl⟩
    go_wp2
    go_ret
    exact ⟨rfl, Below.refl _ _⟩

set_option maxRecDepth 100000 in
set_option maxHeartbeats 2000000 in
theorem walk_in (k : Nat) (A : Option Addr) (n c : Nat) (l : List Ac) (W : World) (hr : RdR W 3 A n (l.map Ac.cells)) (hl : ∀ u ∈ l, u.Ok W) (hg : gsum l ≤ 600) (hk1 : 1 ≤ k) (hk2 : k ≤ 1024) (hc : n ≤ c) (hc2 : c ≤ maxLen) :
    Calls Tryd.prog 3 #[.int .i64 k, .slice A n c] W fun e w' => e = .returned (.bool true) ∧ Below W.heap.size W w' := by
  unfold maxLen at hc2
  have hll : l.length = n := by have := hr.1; simpa using this
  have hn3 : n ≤ 300 := by have := gsum_two l; omega
  have HG := Lib.hid hg
  clear hll hg
  have kc := fun (w : World) (C : Array Value) (n c : Nat) => Lib.run_convert_bytes_const (P := Tryd.prog) w 42 5 C n c Tryd.underlying42 Tryd.underlying5
  go_enter Tryd.func3, Tryd.ntmps3
  go_wp2_with fail
  refine (great_any A n c l W hr hl (by have := HG.out; omega)).mono ?_
  rintro e w1 ⟨rfl, rfl⟩
  rw [decide_eq_false (by have := HG.out; omega : ¬ 600 < gsum l)]
  go_wp2_with fail
  refine (new_ok k W hk1 hk2).mono ?_
  rintro e w1 ⟨p, g, rfl, d1, hp, hg1, b1⟩
  have s1 := b1.size
  go_wp2_with fail
  refine (refnew_ok k w1 hk1 hk2).mono ?_
  rintro e w2 ⟨q, Ar, cr, gs, rfl, r2, hnd, b2⟩
  have s2 := b2.size
  have d2 := d1.below b2
  have r2' := r2.mono s1
  have B2 := b1.trans (b2.mono s1)
  clear d1 r2 b1 b2 hnd
  go_wp2_with fail
  obtain ⟨w3, hw3⟩ : ∃ w3, w3 = w2.alloc (.cells #[.int .i64 0, .slice none 0 0, .slice none 0 0, .slice none 0 0, .slice none 0 0, .slice none 0 0, .slice none 0 0, .slice none 0 0, .slice none 0 0, .slice none 0 0] 41) := ⟨_, rfl⟩
  have bk3 : Bk 41 73 78 w3 w2.heap.size 0 (.slice none 0 0) (.slice none 0 0) [] [] := by rw [hw3]; exact Bk.new _ _ _ _
  have b3 : Below w2.heap.size w2 w3 := by rw [hw3]; exact (Below.refl _ w2).alloc (Nat.le_refl _) _
  have hkbB : W.heap.size ≤ w2.heap.size := B2.size
  have st3 : St W w3 w2.heap.size p g q (blankD k) (blankD k) Ar cr gs 0 (.slice none 0 0) [] :=
    ⟨d2.below b3, r2'.below b3, bk3, ⟨fun h hh => by simp at hh, List.Pairwise.nil, fun h hh => by simp at hh, fun h hh => by simp at hh⟩, B2.trans (b3.mono hkbB), hp, hg1, hkbB⟩
  rw [← hw3]
  generalize w2.heap.size = kb at st3 ⊢
  have ST3 := Lib.hid st3
  clear hw3 bk3 b3 st3 d2 r2' B2 s2 s1 hp hg1 hkbB
  go_loopw [5, 7, 10] (fun vd vm i wr => ∃ (j p g q : Nat) (d : Dk) (Ar : Option Addr) (cr : Nat) (gs : List Nat) (N : Nat) (vb : Value) (hb : List Hl), j ≤ n ∧ i = .int .i64 j ∧ vd = .pointer (some ⟨p, 0, none⟩) ∧ vm = .pointer (some ⟨q, 0, none⟩) ∧
    St W wr kb p g q d d Ar cr gs N vb hb ∧ d.Sane ∧ d.ss.length = k ∧ d.writes ≤ 2 * j ∧ hb.length = N ∧ N ≤ 2 * j) (fun _ _ i _ => n - (intOf i).toNat)
  case atStart => exact ⟨0, p, g, q, _, Ar, cr, gs, 0, _, [], Nat.zero_le _, rfl, rfl, rfl, ST3.out, fun h => by simp [blankD] at h, by simp [blankD], Nat.le_refl _, rfl, Nat.le_refl _⟩
  case round =>
    obtain ⟨j, p, g, q, d, Ar, cr, gs, N, vb, hb, hj, rfl, rfl, rfl, hst, hsn, hdk, hdw, hbl, hN⟩ := hrel
    have HSN := Lib.hid hsn
    have HDK := Lib.hid hdk
    have HBL := Lib.hid hbl
    clear hsn hdk hbl
    by_cases hlt : j < n
    · obtain ⟨b, o, u, rfl, hu, hbW, c0, c1, c2⟩ := acts_get hr hlt
      have hok := hl u (List.mem_of_getElem? hu)
      have hmem := gsum_mem l u (List.mem_of_getElem? hu)
      have hum : u.m ≤ 18030 := by have := HG.out; omega
      have hk8 := hok.k
      have hlo := hok.lo
      have hhi := hok.hi
      have bel := hst.bel
      have e0 : wr.cell? ⟨b, o + j * 3, none⟩ = some (.int .u8 u.k) := by rw [bel.cell (p := ⟨b, o + j * 3, none⟩) hbW]; exact c0
      have e1 : wr.cell? ⟨b, o + j * 3 + 1, none⟩ = some (.int .i64 u.n) := by rw [bel.cell (p := ⟨b, o + j * 3 + 1, none⟩) hbW]; exact c1
      have e2 : wr.cell? ⟨b, o + j * 3 + 2, none⟩ = some (.slice u.A u.m u.c) := by rw [bel.cell (p := ⟨b, o + j * 3 + 2, none⟩) hbW]; exact c2
      have hrW := hok.rd
      have hlen := hok.len
      have HLEN := Lib.hid hlen
      have HRW := Lib.hid hrW
      have HU := Lib.hid hu
      have hsz := bel.size
      clear c0 c1 c2 hok hmem hu hrW hlen bel
      go_wp2_with fail
      have hx4 := heap_alloc_new wr (.cells #[.int .u8 u.k, .int .i64 u.n, .slice u.A u.m u.c] 44)
      have b4 : Below wr.heap.size wr (wr.alloc (.cells #[.int .u8 u.k, .int .i64 u.n, .slice u.A u.m u.c] 44)) := (Below.refl _ wr).alloc (Nat.le_refl _) _
      have st4 := hst.below b4
      have s4 := b4.size
      generalize wr.alloc (.cells #[.int .u8 u.k, .int .i64 u.n, .slice u.A u.m u.c] 44) = w4 at hx4 b4 st4 s4 ⊢
      generalize wr.heap.size = xb at hx4 hsz s4 ⊢
      have x0 : w4.cell? ⟨xb, 0, none⟩ = some (.int .u8 u.k) := by rw [cell_of_row _ _ _ _ _ _ hx4]; rfl
      clear hst b4 e0 e1 e2
      refine (twinbytes_any u.A u.m u.c u.bs w4 (HRW.out.below st4.bel) (by omega)).mono ?_
      rintro e w5 ⟨A1, c1, rfl, ot5, b5⟩
      have rg := Lib.hid ot5.range
      have hold : ∀ x ∈ hb, ∀ g', Hit x g' → g' < w4.heap.size := fun x hx g' hg' => st4.held.lt hx hg'
      have HOLD := Lib.hid hold
      have hnp : 0 < u.m → ∀ b' o', A1 = some ⟨b', o', none⟩ → b' ≠ p ∧ b' ≠ g := by
        intro h0 b' o' he
        have hle := ot5.le
        obtain ⟨g', hA, hB, _⟩ := ot5.lt (by omega)
        rw [hA] at he
        cases he
        have := st4.dk.ltp
        have := st4.dk.ltg
        omega
      have HNP := Lib.hid hnp
      have st5 := st4.below b5
      have s5 := b5.size
      have hx5 := keep_t5 hx4 (FrT.of_below b5) (by decide)
      have ot := ot5.mono (B' := W.heap.size) (by omega)
      have y0 : w5.cell? ⟨xb, 0, none⟩ = some (.int .u8 u.k) := by rw [cell_of_row _ _ _ _ _ _ hx5]; rfl
      have y1 : w5.cell? ⟨xb, 1, none⟩ = some (.int .i64 u.n) := by rw [cell_of_row _ _ _ _ _ _ hx5]; rfl
      have y2 : w5.cell? ⟨xb, 2, none⟩ = some (.slice u.A u.m u.c) := by rw [cell_of_row _ _ _ _ _ _ hx5]; rfl
      clear hold hnp st4 b5 hx4 x0 ot5
      by_cases h5 : u.k % 8 = 5
      · have k5 : ((u.k : Int) % 8 == 5) = true := by rw [beq_iff_eq]; omega
        obtain ⟨M, hM⟩ : ∃ M, (d.reads u.n).length = M := ⟨_, rfl⟩
        have hM64 : M ≤ 64 := by rw [← hM]; exact reads_len d u.n st5.dk.len
        have HM := Lib.hid hM
        clear hM
        go_wp2_with fail
        refine (readD_any p g d w5 u.n M st5.dk HM.out).mono ?_
        rintro e w6 ⟨A6, c6, rfl, o6, b6⟩
        have rg6 := Lib.hid o6.range
        have st6 := st5.below b6
        have hx6 := keep_t5 hx5 (FrT.of_below b6) (by decide)
        have ot6 := ot.below b6
        have s6 := b6.size
        have z1 : w6.cell? ⟨xb, 1, none⟩ = some (.int .i64 u.n) := by rw [cell_of_row _ _ _ _ _ _ hx6]; rfl
        clear st5 hx5 ot b6 y0 y1 y2 k5
        go_wp2_with fail
        refine (refreadD_any W.heap.size q d Ar cr gs w6 u.n M st6.rf HM.out).mono ?_
        rintro e w7 ⟨A7, c7, rfl, o7, b7⟩
        have st7 := st6.below b7
        have hx7 := keep_t5 hx6 (FrT.of_below b7) (by decide)
        have ot7 := ot6.below b7
        have o67 := o6.below b7
        have s7 := b7.size
        clear st6 hx6 ot6 b7 z1 o6
        generalize d.readE u.n = E
        go_wp2_with fail
        refine (samebytes_eqB A6 M c6 (d.reads u.n) A7 c7 w7 o67.rd o7.rd (by simp only [maxLen]; omega)).mono ?_
        rintro e w8 ⟨rfl, b8⟩
        have st8 := st7.below b8
        have hx8 := keep_t5 hx7 (FrT.of_below b8) (by decide)
        have ot8 := ot7.below b8
        have o68 := (o67.below b8).mono (B' := W.heap.size) (by omega)
        clear st7 hx7 ot7 b8 o67 o7
        go_wp2_with fail
        refine (toldByte_fr kb N vb (.slice none 0 0) hb [] A6 M c6 w8 st8.bk (by omega) (by have := HBL.out; omega)).mono ?_
        rintro e w9 ⟨rfl, vb9, bk9, be9, fr9⟩
        obtain ⟨st9, ft9⟩ := st8.told bk9 be9 fr9 o68 (by omega) (by
          intro g' hc' hA' x hx hh
          have h1 := rg6.out g' hc' hA'
          have h2 := HOLD.out x hx g' hh
          omega)
        have hx9 := keep_t5 hx8 ft9 (by decide)
        have ot9 := ot8.frt ft9 (by decide)
        clear st8 hx8 ot8 o68 bk9 be9 fr9 ft9
        go_wp2_with fail
        refine (blown_ok p g d w9 st9.dk).mono ?_
        rintro e wx ⟨rfl, rfl⟩
        go_wp2_with fail
        refine (refblown_ok W.heap.size q d Ar cr gs w9 st9.rf).mono ?_
        rintro e wx ⟨rfl, rfl⟩
        go_wp2_with fail
        refine (writes_ok p g d w9 st9.dk).mono ?_
        rintro e wx ⟨rfl, rfl⟩
        go_wp2_with fail
        refine (refwrites_ok W.heap.size q d Ar cr gs w9 st9.rf).mono ?_
        rintro e wx ⟨rfl, rfl⟩
        go_wp2_with fail
        refine (len_ok p g d w9 st9.dk).mono ?_
        rintro e wx ⟨rfl, rfl⟩
        go_wp2_with fail
        refine (reflen_ok W.heap.size q d Ar cr gs w9 st9.rf).mono ?_
        rintro e wx ⟨rfl, rfl⟩
        have z2 : w9.cell? ⟨xb, 2, none⟩ = some (.slice u.A u.m u.c) := by rw [cell_of_row _ _ _ _ _ _ hx9]; rfl
        go_wp2_with fail
        refine (leftbytes_any A1 u.m c1 u.bs u.A u.c w9 _ ot9 (HRW.out.below st9.bel) (by omega)).mono ?_
        rintro e wL ⟨rfl, bL⟩
        have stL := st9.below bL
        have otL := own_twin HLEN.out (ot9.below bL)
        clear z2 st9 ot9 bL
        go_wp2_with fail
        refine (toldByte_fr kb (N + 1) vb9 (.slice none 0 0) (hb ++ [⟨A6, M, c6, none, 0, 0, N + 1⟩]) [] A1 u.m c1 wL stL.bk (by omega) (by simp only [List.length_append, List.length_cons, List.length_nil]; have := HBL.out; omega)).mono ?_
        rintro e wT ⟨rfl, vT, bkT, beT, frT⟩
        have hstT := (stL.told bkT beT frT otL (by omega) (by
          intro g' hc' hA' x hx hh
          have h1 := rg.out g' hc' hA'
          rcases List.mem_append.1 hx with hx' | hx'
          · have h2 := HOLD.out x hx' g' hh
            omega
          · rw [List.mem_singleton.1 hx'] at hh
            have h2 := rg6.out g' hh.1 hh.2
            omega)).1
        have HT := Lib.hid hstT
        clear stL otL bkT beT frT hstT
        go_wp2
        go_roundw
        case rel => exact ⟨j + 1, p, g, q, d, Ar, cr, gs, _, vT, _, by omega, by go_num, rfl, rfl, HT.out, HSN.out, HDK.out, by have := hdw; omega, by simp [HBL.out], by omega⟩
        case measure => simp [intOf]; omega
      · have k5 : ((u.k : Int) % 8 == 5) = false := by rw [beq_eq_false_iff_ne]; omega
        by_cases h6 : u.k % 8 = 6
        · have k6 : ((u.k : Int) % 8 == 6) = true := by rw [beq_iff_eq]; omega
          go_wp2_with fail
          clear k5 k6
          refine wp_region_ord (S := fun w' => w'.cell? ⟨xb, 1, none⟩ = some (.int .i64 u.n) ∧ w'.cell? ⟨xb, 1, none⟩ = some (.int .i64 u.n)) [(0, true), (1, true), (2, true), (4, true), (5, true), (6, true), (3, false), (7, false), (8, true)] default (by kernel_rfl) (by kernel_rfl) (by kernel_rfl) ⟨y1, y1⟩ ?_
          simp only [getOrd, nth]
          repeat (first | (refine ordS (by rfl) ?_; simp only [Act.put, List.setIfInBounds_toArray, List.set_cons_zero, List.set_cons_succ]) | (refine ordN (by rfl) ?_; simp only [Act.put, List.setIfInBounds_toArray, List.set_cons_zero, List.set_cons_succ]) | (refine ordQ (v := ?_) (by rfl) (fun _ hSw => ?_) ?_; rotate_left; (focus (have hS1 := hSw.1; have hS2 := hSw.2; go_simp; (first | done | with_reducible rfl))); simp only [Act.put, List.setIfInBounds_toArray, List.set_cons_zero, List.set_cons_succ]))
          refine ordD (by rfl) ?_
          intro K hK
          go_simp
          refine (fuseD_any p g d _ u.n hhi st5.dk.drew).mono ?_
          rintro e w6 ⟨rfl, d6, t6⟩
          have t6 : Tch p g w5 w6 := (Tch.of_below ((Below.refl _ w5).drew)).trans t6
          obtain ⟨st6, ft6⟩ := st5.disk t6 d6
          have hx6 := keep_t5 hx5 ft6 (by decide)
          have ot6 := ot.frt ft6 (by decide)
          have z1 : w6.cell? ⟨xb, 1, none⟩ = some (.int .i64 u.n) := by rw [cell_of_row _ _ _ _ _ _ hx6]; rfl
          clear st5 hx5 ot d6 t6 ft6 y0 y1 y2
          go_wp2_with fail
          refine hK _ _ ⟨z1, z1⟩ ?_
          clear hK K
          try simp only [Act.put, List.setIfInBounds_toArray, List.set_cons_zero, List.set_cons_succ]
          refine ordD (by rfl) ?_
          intro K hK
          go_simp
          refine (reffuseD_any W.heap.size q d Ar cr gs w6 u.n hhi st6.rf).mono ?_
          rintro e w7 ⟨rfl, r7, ft7, b7⟩
          obtain ⟨st7, ft7'⟩ := st6.ref ft7 b7 r7
          have hx7 := keep_t5 hx6 ft7' (by decide)
          have ot7 := ot6.frt ft7' (by decide)
          have z2 : w7.cell? ⟨xb, 1, none⟩ = some (.int .i64 u.n) := by rw [cell_of_row _ _ _ _ _ _ hx7]; rfl
          clear st6 hx6 ot6 r7 ft7 b7 ft7' z1
          go_wp2_with fail
          refine hK _ _ ⟨z2, z2⟩ ?_
          clear hK K
          try simp only [Act.put, List.setIfInBounds_toArray, List.set_cons_zero, List.set_cons_succ]
          repeat (first | (refine ordS (by rfl) ?_; simp only [Act.put, List.setIfInBounds_toArray, List.set_cons_zero, List.set_cons_succ]) | (refine ordN (by rfl) ?_; simp only [Act.put, List.setIfInBounds_toArray, List.set_cons_zero, List.set_cons_succ]) | (refine ordQ (v := ?_) (by rfl) (fun _ hSw => ?_) ?_; rotate_left; (focus (have hS1 := hSw.1; have hS2 := hSw.2; go_simp; (first | done | with_reducible rfl))); simp only [Act.put, List.setIfInBounds_toArray, List.set_cons_zero, List.set_cons_succ]))
          refine ordE ?_
          generalize d.fE = E
          have hl6 := fD_len d u.n
          have hw6 := fD_writes d u.n
          have HS6 := Lib.hid (fD_sane HSN.out u.n)
          generalize d.fD u.n = d6 at *
          have HL6 := Lib.hid hl6
          clear hl6 z2
          go_wp2_with fail
          refine (blown_ok p g d6 w7 st7.dk).mono ?_
          rintro e wx ⟨rfl, rfl⟩
          go_wp2_with fail
          refine (refblown_ok W.heap.size q d6 Ar cr gs w7 st7.rf).mono ?_
          rintro e wx ⟨rfl, rfl⟩
          go_wp2_with fail
          refine (writes_ok p g d6 w7 st7.dk).mono ?_
          rintro e wx ⟨rfl, rfl⟩
          go_wp2_with fail
          refine (refwrites_ok W.heap.size q d6 Ar cr gs w7 st7.rf).mono ?_
          rintro e wx ⟨rfl, rfl⟩
          go_wp2_with fail
          refine (len_ok p g d6 w7 st7.dk).mono ?_
          rintro e wx ⟨rfl, rfl⟩
          go_wp2_with fail
          refine (reflen_ok W.heap.size q d6 Ar cr gs w7 st7.rf).mono ?_
          rintro e wx ⟨rfl, rfl⟩
          have z2 : w7.cell? ⟨xb, 2, none⟩ = some (.slice u.A u.m u.c) := by rw [cell_of_row _ _ _ _ _ _ hx7]; rfl
          go_wp2_with fail
          refine (leftbytes_any A1 u.m c1 u.bs u.A u.c w7 _ ot7 (HRW.out.below st7.bel) (by omega)).mono ?_
          rintro e wL ⟨rfl, bL⟩
          have stL := st7.below bL
          have otL := own_twin HLEN.out (ot7.below bL)
          clear z2 st7 ot7 bL
          go_wp2_with fail
          refine (toldByte_fr kb N vb (.slice none 0 0) hb [] A1 u.m c1 wL stL.bk (by omega) (by have := HBL.out; omega)).mono ?_
          rintro e wT ⟨rfl, vT, bkT, beT, frT⟩
          have hstT := (stL.told bkT beT frT otL (by omega) (by
            intro g' hc' hA' x hx hh
            have h1 := rg.out g' hc' hA'
            have h2 := HOLD.out x hx g' hh
            omega)).1
          have HT := Lib.hid hstT
          clear stL otL bkT beT frT hstT
          go_wp2
          go_roundw
          case rel => exact ⟨j + 1, p, g, q, d6, Ar, cr, gs, _, vT, _, by omega, by go_num, rfl, rfl, HT.out, HS6.out, by rw [HL6.out]; exact HDK.out, by have := hw6; omega, by simp [HBL.out], by omega⟩
          case measure => simp [intOf]; omega
        · have k6 : ((u.k : Int) % 8 == 6) = false := by rw [beq_eq_false_iff_ne]; omega
          by_cases h7 : u.k % 8 = 7
          · have k7 : ((u.k : Int) % 8 == 7) = true := by rw [beq_iff_eq]; omega
            go_wp2_with fail
            refine (copy_ok p g d w5 st5.dk).mono ?_
            rintro e w6 ⟨p6, g6, rfl, dc6, hp6, hg6, b6⟩
            have st6 := st5.below b6
            have hx6 := keep_t5 hx5 (FrT.of_below b6) (by decide)
            have ot6 := ot.below b6
            have s6 := b6.size
            have lp := st5.dk.ltp
            have lg := st5.dk.ltg
            clear st5 hx5 ot b6 y0 y1 y2 k5 k6 k7
            go_wp2_with fail
            refine (blown_ok p6 g6 d.copy w6 dc6).mono ?_
            rintro e wx ⟨rfl, rfl⟩
            have z1 : d.copy.blown = false := rfl
            rw [z1]
            clear z1
            go_wp2_with fail
            refine (writes_ok p6 g6 d.copy w6 dc6).mono ?_
            rintro e wx ⟨rfl, rfl⟩
            have z1 : d.copy.writes = 0 := rfl
            rw [z1]
            clear z1
            go_wp2_with fail
            refine (write_any p g d 0 _ 1 1 [1] _ (st6.dk.alloc _) st6.dk.pos (rd_lit w6 _ _ _ 1 _ rfl _ rfl rfl) (by omega) ?hne (by omega)).mono ?_
            case hne => intro _ b' o' he; cases he; omega
            rintro e w7 ⟨rfl, d7, t7⟩
            have t7 : Tch p g w6 w7 := (Tch.of_below ((Below.refl _ w6).alloc (Nat.le_refl _) _)).trans t7
            obtain ⟨st7, ft7⟩ := st6.disk t7 d7
            have hx7 := keep_t5 hx6 ft7 (by decide)
            have ot7 := ot6.frt ft7 (by decide)
            have dc7 := dc6.tch t7 (by omega) (by omega) (by omega) (by omega)
            have s7 := t7.size
            generalize d.says = zz
            clear st6 hx6 ot6 d7 t7 ft7 dc6
            go_wp2_with fail
            refine (refcopy_ok W.heap.size q d Ar cr gs w7 st7.rf (by have := HDK.out; omega)).mono ?_
            rintro e w8 ⟨q8, A8, c8, gs8, rfl, rc8, b8⟩
            have hx8 := keep_t5 hx7 (FrT.of_below b8) (by decide)
            have ot8 := ot7.below b8
            have dc8 := dc7.below b8
            have st8 := (st7.below b8).turn dc8 (rc8.mono (by omega)) (by omega) (by omega)
            have hl8 : d.copy.ss.length = k := HDK.out
            have hw8 : d.copy.writes = 0 := rfl
            have HS8 := Lib.hid (copy_sane d)
            generalize d.copy = d8 at *
            have HL8 := Lib.hid hl8
            clear st7 hx7 ot7 dc7 dc8 rc8 b8 hl8
            go_wp2_with fail
            refine (blown_ok p6 g6 d8 w8 st8.dk).mono ?_
            rintro e wx ⟨rfl, rfl⟩
            go_wp2_with fail
            refine (refblown_ok W.heap.size q8 d8 A8 c8 gs8 w8 st8.rf).mono ?_
            rintro e wx ⟨rfl, rfl⟩
            go_wp2_with fail
            refine (writes_ok p6 g6 d8 w8 st8.dk).mono ?_
            rintro e wx ⟨rfl, rfl⟩
            go_wp2_with fail
            refine (refwrites_ok W.heap.size q8 d8 A8 c8 gs8 w8 st8.rf).mono ?_
            rintro e wx ⟨rfl, rfl⟩
            go_wp2_with fail
            refine (len_ok p6 g6 d8 w8 st8.dk).mono ?_
            rintro e wx ⟨rfl, rfl⟩
            go_wp2_with fail
            refine (reflen_ok W.heap.size q8 d8 A8 c8 gs8 w8 st8.rf).mono ?_
            rintro e wx ⟨rfl, rfl⟩
            have z2 : w8.cell? ⟨xb, 2, none⟩ = some (.slice u.A u.m u.c) := by rw [cell_of_row _ _ _ _ _ _ hx8]; rfl
            go_wp2_with fail
            refine (leftbytes_any A1 u.m c1 u.bs u.A u.c w8 _ ot8 (HRW.out.below st8.bel) (by omega)).mono ?_
            rintro e wL ⟨rfl, bL⟩
            have stL := st8.below bL
            have otL := own_twin HLEN.out (ot8.below bL)
            clear z2 st8 ot8 bL
            go_wp2_with fail
            refine (toldByte_fr kb N vb (.slice none 0 0) hb [] A1 u.m c1 wL stL.bk (by omega) (by have := HBL.out; omega)).mono ?_
            rintro e wT ⟨rfl, vT, bkT, beT, frT⟩
            have hstT := (stL.told bkT beT frT otL (by omega) (by
              intro g' hc' hA' x hx hh
              have h1 := rg.out g' hc' hA'
              have h2 := HOLD.out x hx g' hh
              omega)).1
            have HT := Lib.hid hstT
            clear stL otL bkT beT frT hstT
            go_wp2
            go_roundw
            case rel => exact ⟨j + 1, p6, g6, q8, d8, A8, c8, gs8, _, vT, _, by omega, by go_num, rfl, rfl, HT.out, HS8.out, HL8.out, by have := hw8; omega, by simp [HBL.out], by omega⟩
            case measure => simp [intOf]; omega
          · have k7 : ((u.k : Int) % 8 == 7) = false := by rw [beq_eq_false_iff_ne]; omega
            go_wp2_with fail
            clear k5 k6 k7
            refine wp_region_ord (S := fun w' => w'.cell? ⟨xb, 1, none⟩ = some (.int .i64 u.n) ∧ w'.cell? ⟨xb, 2, none⟩ = some (.slice u.A u.m u.c)) [(0, true), (1, true), (2, true), (3, true), (5, true), (6, true), (7, true), (8, true), (9, true), (4, false), (10, false), (11, true)] default (by kernel_rfl) (by kernel_rfl) (by kernel_rfl) ⟨y1, y2⟩ ?_
            simp only [getOrd, nth]
            repeat (first | (refine ordS (by rfl) ?_; simp only [Act.put, List.setIfInBounds_toArray, List.set_cons_zero, List.set_cons_succ]) | (refine ordN (by rfl) ?_; simp only [Act.put, List.setIfInBounds_toArray, List.set_cons_zero, List.set_cons_succ]) | (refine ordQ (v := ?_) (by rfl) (fun _ hSw => ?_) ?_; rotate_left; (focus (have hS1 := hSw.1; have hS2 := hSw.2; go_simp; (first | done | with_reducible rfl))); simp only [Act.put, List.setIfInBounds_toArray, List.set_cons_zero, List.set_cons_succ]))
            refine ordD (by rfl) ?_
            intro K hK
            go_simp
            refine (writeD_any p g d _ u.n A1 u.m c1 u.bs st5.dk.drew (own_twin HLEN.out ot.drew).rd HNP.out (by omega)).mono ?_
            rintro e w6 ⟨rfl, d6, t6⟩
            have t6 : Tch p g w5 w6 := (Tch.of_below ((Below.refl _ w5).drew)).trans t6
            obtain ⟨st6, ft6⟩ := st5.disk t6 d6
            have hx6 := keep_t5 hx5 ft6 (by decide)
            have ot6 := ot.frt ft6 (by decide)
            have z1 : w6.cell? ⟨xb, 1, none⟩ = some (.int .i64 u.n) := by rw [cell_of_row _ _ _ _ _ _ hx6]; rfl
            have z2 : w6.cell? ⟨xb, 2, none⟩ = some (.slice u.A u.m u.c) := by rw [cell_of_row _ _ _ _ _ _ hx6]; rfl
            have s6 := ft6.1
            clear st5 hx5 ot d6 t6 ft6 y0 y1 y2
            go_wp2_with fail
            refine hK _ _ ⟨z1, z2⟩ ?_
            clear hK K
            try simp only [Act.put, List.setIfInBounds_toArray, List.set_cons_zero, List.set_cons_succ]
            refine ordD (by rfl) ?_
            intro K hK
            go_simp
            refine (refwriteD_any W.heap.size q d Ar cr gs w6 u.n u.A u.m u.c u.bs st6.rf HSN.out (HRW.out.below st6.bel) (by omega) ?hA1 st6.bel.size).mono ?_
            case hA1 =>
              intro h0 b' o' he
              obtain ⟨b2, o2, hA, hlt2, _⟩ := HRW.out.get h0
              rw [hA] at he
              cases he
              exact hlt2
            rintro e w7 ⟨rfl, gs7, r7, ft7, b7⟩
            obtain ⟨st7, ft7'⟩ := st6.ref ft7 b7 r7
            have hx7 := keep_t5 hx6 ft7' (by decide)
            have ot7 := ot6.frt ft7' (by decide)
            have v1 : w7.cell? ⟨xb, 1, none⟩ = some (.int .i64 u.n) := by rw [cell_of_row _ _ _ _ _ _ hx7]; rfl
            have v2 : w7.cell? ⟨xb, 2, none⟩ = some (.slice u.A u.m u.c) := by rw [cell_of_row _ _ _ _ _ _ hx7]; rfl
            clear st6 hx6 ot6 r7 ft7 b7 ft7' z1 z2
            go_wp2_with fail
            refine hK _ _ ⟨v1, v2⟩ ?_
            clear hK K
            try simp only [Act.put, List.setIfInBounds_toArray, List.set_cons_zero, List.set_cons_succ]
            repeat (first | (refine ordS (by rfl) ?_; simp only [Act.put, List.setIfInBounds_toArray, List.set_cons_zero, List.set_cons_succ]) | (refine ordN (by rfl) ?_; simp only [Act.put, List.setIfInBounds_toArray, List.set_cons_zero, List.set_cons_succ]) | (refine ordQ (v := ?_) (by rfl) (fun _ hSw => ?_) ?_; rotate_left; (focus (have hS1 := hSw.1; have hS2 := hSw.2; go_simp; (first | done | with_reducible rfl))); simp only [Act.put, List.setIfInBounds_toArray, List.set_cons_zero, List.set_cons_succ]))
            refine ordE ?_
            generalize d.wE u.n u.bs = E
            have hl6 := wD_len d u.n u.bs
            have hw6 := wD_writes d u.n u.bs
            have HS6 := Lib.hid (wD_sane HSN.out u.n u.bs)
            generalize d.wD u.n u.bs = d6 at *
            have HL6 := Lib.hid hl6
            clear hl6 v1 v2
            go_wp2_with fail
            refine (blown_ok p g d6 w7 st7.dk).mono ?_
            rintro e wx ⟨rfl, rfl⟩
            go_wp2_with fail
            refine (refblown_ok W.heap.size q d6 Ar cr gs7 w7 st7.rf).mono ?_
            rintro e wx ⟨rfl, rfl⟩
            go_wp2_with fail
            refine (writes_ok p g d6 w7 st7.dk).mono ?_
            rintro e wx ⟨rfl, rfl⟩
            go_wp2_with fail
            refine (refwrites_ok W.heap.size q d6 Ar cr gs7 w7 st7.rf).mono ?_
            rintro e wx ⟨rfl, rfl⟩
            go_wp2_with fail
            refine (len_ok p g d6 w7 st7.dk).mono ?_
            rintro e wx ⟨rfl, rfl⟩
            go_wp2_with fail
            refine (reflen_ok W.heap.size q d6 Ar cr gs7 w7 st7.rf).mono ?_
            rintro e wx ⟨rfl, rfl⟩
            have z2 : w7.cell? ⟨xb, 2, none⟩ = some (.slice u.A u.m u.c) := by rw [cell_of_row _ _ _ _ _ _ hx7]; rfl
            go_wp2_with fail
            refine (leftbytes_any A1 u.m c1 u.bs u.A u.c w7 _ ot7 (HRW.out.below st7.bel) (by omega)).mono ?_
            rintro e wL ⟨rfl, bL⟩
            have stL := st7.below bL
            have otL := own_twin HLEN.out (ot7.below bL)
            clear z2 st7 ot7 bL
            go_wp2_with fail
            refine (toldByte_fr kb N vb (.slice none 0 0) hb [] A1 u.m c1 wL stL.bk (by omega) (by have := HBL.out; omega)).mono ?_
            rintro e wT ⟨rfl, vT, bkT, beT, frT⟩
            have hstT := (stL.told bkT beT frT otL (by omega) (by
              intro g' hc' hA' x hx hh
              have h1 := rg.out g' hc' hA'
              have h2 := HOLD.out x hx g' hh
              omega)).1
            have HT := Lib.hid hstT
            clear stL otL bkT beT frT hstT
            go_wp2
            go_roundw
            case rel => exact ⟨j + 1, p, g, q, d6, Ar, cr, gs7, _, vT, _, by omega, by go_num, rfl, rfl, HT.out, HS6.out, by rw [HL6.out]; exact HDK.out, by have := hw6; omega, by simp [HBL.out], by omega⟩
            case measure => simp [intOf]; omega
    · obtain rfl : j = n := by omega
      have hk5 : k ≤ 1024 := hk2
      go_wp2_with fail
      have HST := Lib.hid hst
      clear hst
      go_loopw [19] (fun i wf => ∃ m : Nat, m ≤ 40 ∧ m ≤ k ∧ i = .int .i64 m ∧ Below wr.heap.size wr wf) (fun i _ => 40 - (intOf i).toNat)
      case atStart => exact ⟨0, Nat.zero_le _, Nat.zero_le _, rfl, Below.refl _ _⟩
      case round =>
        obtain ⟨m, hm40, hmk, rfl, hB⟩ := hrel
        have hst := HST.out.below hB
        by_cases hmk2 : m < k
        · have q1 : decide (m < k) = true := by simpa using hmk2
          by_cases hm41 : m < 40
          · go_wp2_with fail
            refine (reflenk_ok k W.heap.size q d Ar cr gs wr hst.rf HDK.out).mono ?_
            rintro e wx ⟨rfl, rfl⟩
            obtain ⟨M, hM⟩ : ∃ M, (d.reads m).length = M := ⟨_, rfl⟩
            have hM64 : M ≤ 64 := by rw [← hM]; exact reads_len d m hst.dk.len
            have HM := Lib.hid hM
            clear hM
            go_wp2_with fail
            refine (readD_any p g d wr m M hst.dk HM.out).mono ?_
            rintro e w6 ⟨A6, c6, rfl, o6, b6⟩
            have st6 := hst.below b6
            have HB6 := Lib.hid (hB.trans (b6.mono hB.size))
            clear hst b6 hB
            go_wp2_with fail
            refine (refreadD_any W.heap.size q d Ar cr gs w6 m M st6.rf HM.out).mono ?_
            rintro e w7 ⟨A7, c7, rfl, o7, b7⟩
            have o67 := o6.below b7
            have HB7 := Lib.hid (HB6.out.trans (b7.mono HB6.out.size))
            clear st6 b7 o6
            generalize d.readE m = E
            go_wp2_with fail
            refine (samebytes_eqB A6 M c6 (d.reads m) A7 c7 w7 o67.rd o7.rd (by simp only [maxLen]; omega)).mono ?_
            rintro e w8 ⟨rfl, b8⟩
            have HB8 := Lib.hid (HB7.out.trans (b8.mono HB7.out.size))
            clear b8 o67 o7
            go_wp2
            go_roundw
            case rel => exact ⟨m + 1, by omega, by omega, by go_num, HB8.out⟩
            case measure => simp [intOf]; omega
          · obtain rfl : m = 40 := by omega
            go_wp2_with fail
            refine (reflenk_ok k W.heap.size q d Ar cr gs wr hst.rf HDK.out).mono ?_
            rintro e wx ⟨rfl, rfl⟩
            go_wp2_with fail
            have hoff : ∀ x ∈ hb ++ ([] : List Hl), ∀ g', Hit x g' → OffL kb vb (.slice none 0 0) wr.heap.size g' := by
              intro x hx g' hg'
              rw [List.append_nil] at hx
              obtain ⟨xs, ho⟩ := hst.held.own x hx
              obtain ⟨g2, cur, hA, _, hh, _⟩ := ho.2.resolve_left (by have := hg'.1; omega)
              have : g2 = g' := by have h2 := hg'.2; rw [hA] at h2; cases h2; rfl
              subst this
              exact hst.bk.off hh (by decide) (by decide) (by decide)
            refine (apart_off kb N W.heap.size vb (.slice none 0 0) hb [] wr hst.bk hst.held.own (fun x hx => by simp at hx) hoff (by rw [List.append_nil]; exact hst.held.sep) (fun x hx => by rw [List.append_nil] at hx; have := hst.held.ks x hx; omega) (fun x hx => by rw [List.append_nil] at hx; have := hst.held.ns x hx; omega) (by have := HBL.out; omega) (by simp) hst.hkb).mono ?_
            rintro e wz ⟨rfl, bz⟩
            have HF := Lib.hid (hst.bel.trans bz)
            clear hst hoff bz
            go_wp2
            go_ret
            exact ⟨rfl, HF.out⟩
        · have q1 : decide (m < k) = false := by simpa using hmk2
          obtain rfl : m = k := by omega
          go_wp2_with fail
          refine (reflenk_ok m W.heap.size q d Ar cr gs wr hst.rf HDK.out).mono ?_
          rintro e wx ⟨rfl, rfl⟩
          go_wp2_with fail
          have hoff : ∀ x ∈ hb ++ ([] : List Hl), ∀ g', Hit x g' → OffL kb vb (.slice none 0 0) wr.heap.size g' := by
            intro x hx g' hg'
            rw [List.append_nil] at hx
            obtain ⟨xs, ho⟩ := hst.held.own x hx
            obtain ⟨g2, cur, hA, _, hh, _⟩ := ho.2.resolve_left (by have := hg'.1; omega)
            have : g2 = g' := by have h2 := hg'.2; rw [hA] at h2; cases h2; rfl
            subst this
            exact hst.bk.off hh (by decide) (by decide) (by decide)
          refine (apart_off kb N W.heap.size vb (.slice none 0 0) hb [] wr hst.bk hst.held.own (fun x hx => by simp at hx) hoff (by rw [List.append_nil]; exact hst.held.sep) (fun x hx => by rw [List.append_nil] at hx; have := hst.held.ks x hx; omega) (fun x hx => by rw [List.append_nil] at hx; have := hst.held.ns x hx; omega) (by have := HBL.out; omega) (by simp) hst.hkb).mono ?_
          rintro e wz ⟨rfl, bz⟩
          have HF := Lib.hid (hst.bel.trans bz)
          clear hst hoff bz
          go_wp2
          go_ret
          exact ⟨rfl, HF.out⟩

theorem walk (z : Int) (A : Option Addr) (n c : Nat) (l : List Ac) (W : World) (hr : RdR W 3 A n (l.map Ac.cells)) (hl : ∀ u ∈ l, u.Ok W) (hg : gsum l ≤ 1000000000) (hc : n ≤ c) (hc2 : c ≤ maxLen) :
    Calls Tryd.prog 3 #[.int .i64 z, .slice A n c] W fun e w' => e = .returned (.bool true) ∧ Below W.heap.size W w' := by
  by_cases h : 600 < gsum l ∨ z < 1 ∨ 1024 < z
  · exact walk_out z A n c l W hr hl hg h
  · obtain ⟨k, rfl⟩ : ∃ k : Nat, z = k := ⟨z.toNat, by omega⟩
    exact walk_in k A n c l W hr hl (by omega) (by omega) (by omega) hc hc2
end Go.Proofs.YthgbenncheoemaaDoor.disksPlay
