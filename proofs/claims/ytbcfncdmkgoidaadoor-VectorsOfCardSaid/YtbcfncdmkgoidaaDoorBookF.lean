/-
  Walks of the Book: Bytes and Ints (told a list), fillByte and fillInt: marks are written over what the lists hold.
-/
import Derived.Test.YtbcfncdmkgoidaaDoorProg
import Derived.Test.YtbcfncdmkgoidaaDoorBookW
import Derived.BigQuiet
import Derived.Deep.QuietTactic
import Derived.Deep.DeepMust
namespace Go.Proofs.YtbcfncdmkgoidaaDoor
open Go.RowKit
set_option linter.unusedVariables false

set_option maxHeartbeats 400000 in
theorem toldByte_any (kb N : Nat) (vb vi : Value) (hb hi : List Hl) (A : Option Addr) (n c : Nat) (w : World) (hk : Bk 43 62 60 w kb N vb vi hb hi) (hN : N < 900) (hl : hb.length ≤ 900) :
    Calls Tryd.prog 17 #[.pointer (some ⟨kb, 0, none⟩), .slice A n c] w fun e w' => e = .returned (.tuple #[]) ∧ ∃ v', Bk 43 62 60 w' kb (N + 1) v' vi (hb ++ [⟨A, n, c, none, 0, 0, N + 1⟩]) hi ∧ Below kb w w' := by
  go_enter Tryd.func17, Tryd.ntmps17
  go_wp2_with fail
  refine (keepByte_any kb N vb vi hb hi A n c w hk hN hl).mono ?_
  rintro e w1 ⟨rfl, v', h1, h2⟩
  go_wp2
  go_end0
  exact ⟨rfl, v', h1, h2⟩

set_option maxHeartbeats 400000 in
theorem toldByte_fr (kb N : Nat) (vb vi : Value) (hb hi : List Hl) (A : Option Addr) (n c : Nat) (w : World) (hk : Bk 43 62 60 w kb N vb vi hb hi) (hN : N < 900) (hl : hb.length ≤ 900) :
    Calls Tryd.prog 17 #[.pointer (some ⟨kb, 0, none⟩), .slice A n c] w fun e w' => e = .returned (.tuple #[]) ∧ ∃ v', Bk 43 62 60 w' kb (N + 1) v' vi (hb ++ [⟨A, n, c, none, 0, 0, N + 1⟩]) hi ∧ Below kb w w' ∧ Fr (fun b => b = kb ∨ vb.ownBlock = some b) w w' := by
  go_enter Tryd.func17, Tryd.ntmps17
  go_wp2_with fail
  refine (keepByte_fr kb N vb vi hb hi A n c w hk hN hl).mono ?_
  rintro e w1 ⟨rfl, v', h1, h2, h3⟩
  go_wp2
  go_end0
  exact ⟨rfl, v', h1, h2, h3⟩

set_option maxRecDepth 100000 in
set_option maxHeartbeats 1000000 in
theorem fillByte_any (kb N B : Nat) (vb vi : Value) (hb hi : List Hl) (w : World) (hk : Bk 43 62 60 w kb N vb vi hb hi)
    (hown : ∀ h ∈ hb, ∃ xs, Own w B 5 h.A h.n h.c xs) (hlt : ∀ h ∈ hb, ∀ g, Hit h g → OffL kb vb vi w.heap.size g) (hsep : Sep hb) (hks : ∀ h ∈ hb, h.k < 1000) (hns : ∀ h ∈ hb, h.n ≤ 1000000000) (hl : hb.length ≤ 900) (hBk : B ≤ kb) :
    Calls Tryd.prog 27 #[.pointer (some ⟨kb, 0, none⟩)] w fun e w' => e = .returned (.tuple #[]) ∧ Fr (Hits hb) w w' ∧ Below B w w' ∧ ∀ h ∈ hb, Own w' B 5 h.A h.n h.c (List.replicate h.n (mkB h.k)) := by
  have hkbl := hk.lt
  obtain ⟨A0, c0, hv0, hl0, hl1⟩ := row_slice hk.tb
  subst hv0
  unfold maxLen at hl1
  go_enter Tryd.func27, Tryd.ntmps27
  go_wp2_with fail
  go_loopw [2] (fun i wr => ∃ j : Nat, j ≤ hb.length ∧ i = .int .i64 j ∧ Fr (Hits (hb.take j)) w wr ∧ Below B w wr ∧ ∀ h ∈ hb.take j, Own wr B 5 h.A h.n h.c (List.replicate h.n (mkB h.k))) (fun i _ => hb.length - (intOf i).toNat)
  case atStart => exact ⟨0, Nat.zero_le _, rfl, Fr.refl _ _, Below.refl _ _, fun h hh => by simp at hh⟩
  case round =>
    obtain ⟨j, hj, rfl, hfr, hbel, hdone⟩ := hrel
    obtain ⟨wo, rfl⟩ : ∃ wo, wo = wr := ⟨_, rfl⟩
    have hws := hfr.1
    have hpk : ∀ b, Hits (hb.take j) b → Off kb _ _ b := fun b ⟨h, hm, hb'⟩ => (hlt h (List.mem_of_mem_take hm) b hb').2
    have hkr := hk.fr hfr hpk
    have hcv : wo.cell? ⟨kb, 1, none⟩ = some (.slice A0 hb.length c0) := hkr.cell 1
    have hkrl := hkr.lt
    by_cases hlt2 : j < hb.length
    · obtain ⟨gt, ct, hv, hgt1, hgt2, _, _⟩ := row_form hkr.tb (by omega)
      cases hv
      have t0 := row_cell hkr.tb j 0 hlt2 (by omega)
      have t1 := row_cell hkr.tb j 1 hlt2 (by omega)
      have t2 := row_cell hkr.tb j 2 hlt2 (by omega)
      have hmem : hb[j] ∈ hb := List.getElem_mem _
      obtain ⟨xs, ho⟩ := hown _ hmem
      have hkk := hks _ hmem
      have hnn := hns _ hmem
      have hll := hlt _ hmem
      have hnot : ∀ h ∈ hb.take j, ∀ g, Hit h g → ¬ Hit hb[j] g := sep_take hsep hlt2
      have htake := List.take_succ_eq_append_getElem hlt2
      obtain ⟨x, hx⟩ : ∃ x, x = hb[j] := ⟨_, rfl⟩
      rw [← hx] at t0 t1 t2 ho hkk hnn hll hnot htake
      have HT := Lib.hid htake
      clear hx htake hmem
      have ho1 := ho.fr hfr (fun g hc hA hh => by obtain ⟨h, hm, hb'⟩ := hh; exact hnot h hm g hb' ⟨hc, hA⟩)
      obtain ⟨xA, xn, xc, xL, xln, xlc, xk⟩ := x
      simp only [Hl.cells, List.getElem?_cons_zero, List.getElem?_cons_succ, Nat.add_zero] at t0 t1 t2 ho ho1 hkk hnn
      clear ho
      go_wp2_with fail
      have hw2b : ∀ b, b < wo.heap.size → (wo.alloc (.cells #[.slice xA xn xc, .slice xL xln xlc, .int .i64 xk] 62)).heap[b]? = wo.heap[b]? := fun b hb => Below.heap_alloc wo _ b hb
      have ho2 : Own (wo.alloc (.cells #[.slice xA xn xc, .slice xL xln xlc, .int .i64 xk] 62)) B 5 xA xn xc xs := ho1.alloc _
      have hx2 : Bx (wo.alloc (.cells #[.slice xA xn xc, .slice xL xln xlc, .int .i64 xk] 62)) wo.heap.size [.slice xA xn xc, .slice xL xln xlc, .int .i64 xk] := Bx.new wo _ _ _
      have hb2 : Below B w (wo.alloc (.cells #[.slice xA xn xc, .slice xL xln xlc, .int .i64 xk] 62)) := hbel.alloc (Nat.le_trans (by omega : B ≤ w.heap.size) hbel.size) _
      have hfr2 : Fr (Hits (hb.take j)) w (wo.alloc (.cells #[.slice xA xn xc, .slice xL xln xlc, .int .i64 xk] 62)) := hfr.alloc _
      generalize wo.alloc (.cells #[.slice xA xn xc, .slice xL xln xlc, .int .i64 xk] 62) = w2 at *
      go_loopw [4] (fun i wr => ∃ (q : Nat) (ys : List Value), q ≤ xn ∧ i = .int .i64 q ∧ Own wr B 5 xA xn xc ys ∧ Hid (ys.take q = List.replicate q (mkB xk)) ∧ Fr (Hit ⟨xA, xn, xc, xL, xln, xlc, xk⟩) w2 wr ∧ Below B w2 wr) (fun i _ => xn - (intOf i).toNat)
      case atStart => exact ⟨0, xs, Nat.zero_le _, rfl, ho2, Lib.hid rfl, Fr.refl _ _, Below.refl _ _⟩
      case round =>
        obtain ⟨q, ys, hq, rfl, hoq, hyq, hfq, hbq⟩ := hrel
        have hnl : ¬ Hit ⟨xA, xn, xc, xL, xln, xlc, xk⟩ wo.heap.size := fun hh => by have := (hll _ hh).1; omega
        have hbx : ∀ o, wr.cell? ⟨wo.heap.size, o, none⟩ = w2.cell? ⟨wo.heap.size, o, none⟩ := fun o => World.cell?_of_block (w := w2) (hfq.2 wo.heap.size hx2.1 hnl)
        have l0 : wr.cell? ⟨wo.heap.size, 0, none⟩ = some (.slice xA xn xc) := (hbx 0).trans hx2.at0
        have l2 : wr.cell? ⟨wo.heap.size, 2, none⟩ = some (.int .i64 xk) := (hbx 2).trans hx2.at2
        clear hbx
        by_cases hql : q < xn
        · have hle := hoq.le
          obtain ⟨g, rfl, hBg, hgl⟩ := hoq.lt (by omega)
          have hyl := hoq.len
          obtain ⟨u0, hcg⟩ : ∃ u0, wr.cell? ⟨g, q, none⟩ = some u0 := ⟨_, (hoq.cell hql).trans (List.getElem?_eq_getElem (by omega))⟩
          have hfg := hoq.free (by omega) q
          have hgk : g < w.heap.size := (hll g ⟨by show 0 < xc; omega, rfl⟩).1
          have hne : ¬ (g = wo.heap.size) := by omega
          have hne' : ¬ (wo.heap.size = g) := by omega
          have HY := Lib.hid (fill_step ys q (mkB xk) (by omega) hyq.out)
          have HL := Lib.hid hyl
          clear hyl
          go_wp2_with fail
          refine wp_region_ord (S := fun w' => w'.cell? ⟨wo.heap.size, 0, none⟩ = some (.slice (some ⟨g, 0, none⟩) xn xc) ∧ w'.cell? ⟨wo.heap.size, 2, none⟩ = some (.int .i64 xk)) [(0, true), (1, true), (2, true), (3, true), (4, true), (5, false), (6, true), (7, false)] default (by kernel_rfl) (by kernel_rfl) (by kernel_rfl) ⟨l0, l2⟩ ?_
          simp only [getOrd, nth]
          repeat (first | (refine ordS (by rfl) ?_; simp only [Act.put, List.setIfInBounds_toArray, List.set_cons_zero, List.set_cons_succ]) | (refine ordN (by rfl) ?_; simp only [Act.put, List.setIfInBounds_toArray, List.set_cons_zero, List.set_cons_succ]) | (refine ordQ (v := ?_) (by rfl) (fun _ hSw => ?_) ?_; rotate_left; (focus ((have hS1 := hSw.1); (have hS2 := hSw.2); clear hSw; go_simp; (first | done | with_reducible rfl))); simp only [Act.put, List.setIfInBounds_toArray, List.set_cons_zero, List.set_cons_succ]))
          refine ordD (by rfl) ?_
          intro K hK
          go_simp
          refine (markByte_any xk hkk _).mono ?_
          rintro e wm ⟨rfl, rfl⟩
          go_wp2_with fail
          refine hK _ _ ⟨l0, l2⟩ ?_
          clear hK K
          try simp only [Act.put, List.setIfInBounds_toArray, List.set_cons_zero, List.set_cons_succ]
          repeat (first | (refine ordS (by rfl) ?_; simp only [Act.put, List.setIfInBounds_toArray, List.set_cons_zero, List.set_cons_succ]) | (refine ordN (by rfl) ?_; simp only [Act.put, List.setIfInBounds_toArray, List.set_cons_zero, List.set_cons_succ]) | (refine ordQ (v := ?_) (by rfl) (fun _ hSw => ?_) ?_; rotate_left; (focus ((have hS1 := hSw.1); (have hS2 := hSw.2); clear hSw; go_simp; (first | done | with_reducible rfl))); simp only [Act.put, List.setIfInBounds_toArray, List.set_cons_zero, List.set_cons_succ]))
          refine ordD (by rfl) ?_
          intro K hK
          simp only [mkB]
          go_simp
          refine hK _ _ ⟨(World.cell?_of_block (w := wr) (setCell_ne (by exact hne'))).trans l0, (World.cell?_of_block (w := wr) (setCell_ne (by exact hne'))).trans l2⟩ ?_
          clear hK K
          refine ordE ?_
          have ho3 : Own (wr.setCell ⟨g, q, none⟩ (mkB xk)) B 5 (some ⟨g, 0, none⟩) xn xc (ys.set q (mkB xk)) := hoq.set (by omega) q _
          have hf3 : Fr (Hit ⟨some ⟨g, 0, none⟩, xn, xc, xL, xln, xlc, xk⟩) w2 (wr.setCell ⟨g, q, none⟩ (mkB xk)) := hfq.setCell (p := ⟨g, q, none⟩) ⟨by show 0 < xc; omega, rfl⟩ _
          have hb3 : Below B w2 (wr.setCell ⟨g, q, none⟩ (mkB xk)) := hbq.setCell (p := ⟨g, q, none⟩) hBg _
          go_wp2
          go_roundw
          case rel => exact ⟨q + 1, ys.set q (mkB xk), by omega, by go_num, ho3, HY, hf3, hb3.drew⟩
          case measure => simp [intOf]; omega
        · obtain rfl : q = xn := by omega
          have hys : ys = List.replicate q (mkB xk) := by
            have h := hyq.out
            rw [List.take_of_length_le (by rw [hoq.len]; exact Nat.le_refl _)] at h
            exact h
          subst hys
          clear hyq
          have hfr3 : Fr (Hits (hb.take (j + 1))) w wr := by
            rw [HT.out]
            exact (hfr2.mono fun b ⟨h, hm, hh⟩ => ⟨h, List.mem_append_left _ hm, hh⟩).trans (hfq.mono fun b hh => ⟨_, List.mem_append_right _ (List.mem_singleton.2 rfl), hh⟩)
          have hbel3 : Below B w wr := hb2.trans hbq
          have hdone3 : ∀ h ∈ hb.take (j + 1), Own wr B 5 h.A h.n h.c (List.replicate h.n (mkB h.k)) := by
            intro h hh
            rw [HT.out] at hh
            rcases List.mem_append.1 hh with hm | hm
            · have h1 := (hdone h hm).keep (w' := w2) (fun g _ _ _ hg => hw2b g hg)
              exact h1.fr hfq (fun g hc hA hx => hnot h hm g ⟨hc, hA⟩ hx)
            · rw [List.mem_singleton.1 hm]
              exact hoq
          have HD := Lib.hid hdone3
          have HF := Lib.hid hfr3
          clear hdone3 hfr3 hdone hfr hnot hown hlt hks hns hll hpk
          go_wp2
          go_roundw
          case rel => exact ⟨j + 1, by omega, by go_num, HF.out, hbel3, HD.out⟩
          case measure => simp [intOf]; omega
    · obtain rfl : j = hb.length := by omega
      rw [List.take_length] at hfr hdone
      go_wp2
      go_end0
      exact ⟨rfl, hfr, hbel, hdone⟩

set_option maxRecDepth 100000 in
set_option maxHeartbeats 1000000 in
theorem fillInt_any (kb N B : Nat) (vb vi : Value) (hb hi : List Hl) (w : World) (hk : Bk 43 62 60 w kb N vb vi hb hi)
    (hown : ∀ h ∈ hi, ∃ xs, Own w B 3 h.A h.n h.c xs) (hlt : ∀ h ∈ hi, ∀ g, Hit h g → OffL kb vb vi w.heap.size g) (hsep : Sep hi) (hks : ∀ h ∈ hi, h.k < 1000) (hns : ∀ h ∈ hi, h.n ≤ 1000000000) (hl : hi.length ≤ 900) (hBk : B ≤ kb) :
    Calls Tryd.prog 28 #[.pointer (some ⟨kb, 0, none⟩)] w fun e w' => e = .returned (.tuple #[]) ∧ Fr (Hits hi) w w' ∧ Below B w w' ∧ ∀ h ∈ hi, Own w' B 3 h.A h.n h.c (List.replicate h.n (mkI h.k)) := by
  have hkbl := hk.lt
  obtain ⟨A0, c0, hv0, hl0, hl1⟩ := row_slice hk.ti
  subst hv0
  unfold maxLen at hl1
  go_enter Tryd.func28, Tryd.ntmps28
  go_wp2_with fail
  go_loopw [2] (fun i wr => ∃ j : Nat, j ≤ hi.length ∧ i = .int .i64 j ∧ Fr (Hits (hi.take j)) w wr ∧ Below B w wr ∧ ∀ h ∈ hi.take j, Own wr B 3 h.A h.n h.c (List.replicate h.n (mkI h.k))) (fun i _ => hi.length - (intOf i).toNat)
  case atStart => exact ⟨0, Nat.zero_le _, rfl, Fr.refl _ _, Below.refl _ _, fun h hh => by simp at hh⟩
  case round =>
    obtain ⟨j, hj, rfl, hfr, hbel, hdone⟩ := hrel
    obtain ⟨wo, rfl⟩ : ∃ wo, wo = wr := ⟨_, rfl⟩
    have hws := hfr.1
    have hpk : ∀ b, Hits (hi.take j) b → Off kb _ _ b := fun b ⟨h, hm, hb'⟩ => (hlt h (List.mem_of_mem_take hm) b hb').2
    have hkr := hk.fr hfr hpk
    have hcv : wo.cell? ⟨kb, 2, none⟩ = some (.slice A0 hi.length c0) := hkr.cell 2
    have hkrl := hkr.lt
    by_cases hlt2 : j < hi.length
    · obtain ⟨gt, ct, hv, hgt1, hgt2, _, _⟩ := row_form hkr.ti (by omega)
      cases hv
      have t0 := row_cell hkr.ti j 0 hlt2 (by omega)
      have t1 := row_cell hkr.ti j 1 hlt2 (by omega)
      have t2 := row_cell hkr.ti j 2 hlt2 (by omega)
      have hmem : hi[j] ∈ hi := List.getElem_mem _
      obtain ⟨xs, ho⟩ := hown _ hmem
      have hkk := hks _ hmem
      have hnn := hns _ hmem
      have hll := hlt _ hmem
      have hnot : ∀ h ∈ hi.take j, ∀ g, Hit h g → ¬ Hit hi[j] g := sep_take hsep hlt2
      have htake := List.take_succ_eq_append_getElem hlt2
      obtain ⟨x, hx⟩ : ∃ x, x = hi[j] := ⟨_, rfl⟩
      rw [← hx] at t0 t1 t2 ho hkk hnn hll hnot htake
      have HT := Lib.hid htake
      clear hx htake hmem
      have ho1 := ho.fr hfr (fun g hc hA hh => by obtain ⟨h, hm, hb'⟩ := hh; exact hnot h hm g hb' ⟨hc, hA⟩)
      obtain ⟨xA, xn, xc, xL, xln, xlc, xk⟩ := x
      simp only [Hl.cells, List.getElem?_cons_zero, List.getElem?_cons_succ, Nat.add_zero] at t0 t1 t2 ho ho1 hkk hnn
      clear ho
      go_wp2_with fail
      have hw2b : ∀ b, b < wo.heap.size → (wo.alloc (.cells #[.slice xA xn xc, .slice xL xln xlc, .int .i64 xk] 60)).heap[b]? = wo.heap[b]? := fun b hb => Below.heap_alloc wo _ b hb
      have ho2 : Own (wo.alloc (.cells #[.slice xA xn xc, .slice xL xln xlc, .int .i64 xk] 60)) B 3 xA xn xc xs := ho1.alloc _
      have hx2 : Bx (wo.alloc (.cells #[.slice xA xn xc, .slice xL xln xlc, .int .i64 xk] 60)) wo.heap.size [.slice xA xn xc, .slice xL xln xlc, .int .i64 xk] := Bx.new wo _ _ _
      have hb2 : Below B w (wo.alloc (.cells #[.slice xA xn xc, .slice xL xln xlc, .int .i64 xk] 60)) := hbel.alloc (Nat.le_trans (by omega : B ≤ w.heap.size) hbel.size) _
      have hfr2 : Fr (Hits (hi.take j)) w (wo.alloc (.cells #[.slice xA xn xc, .slice xL xln xlc, .int .i64 xk] 60)) := hfr.alloc _
      generalize wo.alloc (.cells #[.slice xA xn xc, .slice xL xln xlc, .int .i64 xk] 60) = w2 at *
      go_loopw [4] (fun i wr => ∃ (q : Nat) (ys : List Value), q ≤ xn ∧ i = .int .i64 q ∧ Own wr B 3 xA xn xc ys ∧ Hid (ys.take q = List.replicate q (mkI xk)) ∧ Fr (Hit ⟨xA, xn, xc, xL, xln, xlc, xk⟩) w2 wr ∧ Below B w2 wr) (fun i _ => xn - (intOf i).toNat)
      case atStart => exact ⟨0, xs, Nat.zero_le _, rfl, ho2, Lib.hid rfl, Fr.refl _ _, Below.refl _ _⟩
      case round =>
        obtain ⟨q, ys, hq, rfl, hoq, hyq, hfq, hbq⟩ := hrel
        have hnl : ¬ Hit ⟨xA, xn, xc, xL, xln, xlc, xk⟩ wo.heap.size := fun hh => by have := (hll _ hh).1; omega
        have hbx : ∀ o, wr.cell? ⟨wo.heap.size, o, none⟩ = w2.cell? ⟨wo.heap.size, o, none⟩ := fun o => World.cell?_of_block (w := w2) (hfq.2 wo.heap.size hx2.1 hnl)
        have l0 : wr.cell? ⟨wo.heap.size, 0, none⟩ = some (.slice xA xn xc) := (hbx 0).trans hx2.at0
        have l2 : wr.cell? ⟨wo.heap.size, 2, none⟩ = some (.int .i64 xk) := (hbx 2).trans hx2.at2
        clear hbx
        by_cases hql : q < xn
        · have hle := hoq.le
          obtain ⟨g, rfl, hBg, hgl⟩ := hoq.lt (by omega)
          have hyl := hoq.len
          obtain ⟨u0, hcg⟩ : ∃ u0, wr.cell? ⟨g, q, none⟩ = some u0 := ⟨_, (hoq.cell hql).trans (List.getElem?_eq_getElem (by omega))⟩
          have hfg := hoq.free (by omega) q
          have hgk : g < w.heap.size := (hll g ⟨by show 0 < xc; omega, rfl⟩).1
          have hne : ¬ (g = wo.heap.size) := by omega
          have hne' : ¬ (wo.heap.size = g) := by omega
          have HY := Lib.hid (fill_step ys q (mkI xk) (by omega) hyq.out)
          have HL := Lib.hid hyl
          clear hyl
          go_wp2_with fail
          refine wp_region_ord (S := fun w' => w'.cell? ⟨wo.heap.size, 0, none⟩ = some (.slice (some ⟨g, 0, none⟩) xn xc) ∧ w'.cell? ⟨wo.heap.size, 2, none⟩ = some (.int .i64 xk)) [(0, true), (1, true), (2, true), (3, true), (4, true), (5, false), (6, true), (7, false)] default (by kernel_rfl) (by kernel_rfl) (by kernel_rfl) ⟨l0, l2⟩ ?_
          simp only [getOrd, nth]
          repeat (first | (refine ordS (by rfl) ?_; simp only [Act.put, List.setIfInBounds_toArray, List.set_cons_zero, List.set_cons_succ]) | (refine ordN (by rfl) ?_; simp only [Act.put, List.setIfInBounds_toArray, List.set_cons_zero, List.set_cons_succ]) | (refine ordQ (v := ?_) (by rfl) (fun _ hSw => ?_) ?_; rotate_left; (focus ((have hS1 := hSw.1); (have hS2 := hSw.2); clear hSw; go_simp; (first | done | with_reducible rfl))); simp only [Act.put, List.setIfInBounds_toArray, List.set_cons_zero, List.set_cons_succ]))
          refine ordD (by rfl) ?_
          intro K hK
          go_simp
          refine (markInt_any xk hkk _).mono ?_
          rintro e wm ⟨rfl, rfl⟩
          go_wp2_with fail
          refine hK _ _ ⟨l0, l2⟩ ?_
          clear hK K
          try simp only [Act.put, List.setIfInBounds_toArray, List.set_cons_zero, List.set_cons_succ]
          repeat (first | (refine ordS (by rfl) ?_; simp only [Act.put, List.setIfInBounds_toArray, List.set_cons_zero, List.set_cons_succ]) | (refine ordN (by rfl) ?_; simp only [Act.put, List.setIfInBounds_toArray, List.set_cons_zero, List.set_cons_succ]) | (refine ordQ (v := ?_) (by rfl) (fun _ hSw => ?_) ?_; rotate_left; (focus ((have hS1 := hSw.1); (have hS2 := hSw.2); clear hSw; go_simp; (first | done | with_reducible rfl))); simp only [Act.put, List.setIfInBounds_toArray, List.set_cons_zero, List.set_cons_succ]))
          refine ordD (by rfl) ?_
          intro K hK
          simp only [mkI]
          go_simp
          refine hK _ _ ⟨(World.cell?_of_block (w := wr) (setCell_ne (by exact hne'))).trans l0, (World.cell?_of_block (w := wr) (setCell_ne (by exact hne'))).trans l2⟩ ?_
          clear hK K
          refine ordE ?_
          have ho3 : Own (wr.setCell ⟨g, q, none⟩ (mkI xk)) B 3 (some ⟨g, 0, none⟩) xn xc (ys.set q (mkI xk)) := hoq.set (by omega) q _
          have hf3 : Fr (Hit ⟨some ⟨g, 0, none⟩, xn, xc, xL, xln, xlc, xk⟩) w2 (wr.setCell ⟨g, q, none⟩ (mkI xk)) := hfq.setCell (p := ⟨g, q, none⟩) ⟨by show 0 < xc; omega, rfl⟩ _
          have hb3 : Below B w2 (wr.setCell ⟨g, q, none⟩ (mkI xk)) := hbq.setCell (p := ⟨g, q, none⟩) hBg _
          go_wp2
          go_roundw
          case rel => exact ⟨q + 1, ys.set q (mkI xk), by omega, by go_num, ho3, HY, hf3, hb3.drew⟩
          case measure => simp [intOf]; omega
        · obtain rfl : q = xn := by omega
          have hys : ys = List.replicate q (mkI xk) := by
            have h := hyq.out
            rw [List.take_of_length_le (by rw [hoq.len]; exact Nat.le_refl _)] at h
            exact h
          subst hys
          clear hyq
          have hfr3 : Fr (Hits (hi.take (j + 1))) w wr := by
            rw [HT.out]
            exact (hfr2.mono fun b ⟨h, hm, hh⟩ => ⟨h, List.mem_append_left _ hm, hh⟩).trans (hfq.mono fun b hh => ⟨_, List.mem_append_right _ (List.mem_singleton.2 rfl), hh⟩)
          have hbel3 : Below B w wr := hb2.trans hbq
          have hdone3 : ∀ h ∈ hi.take (j + 1), Own wr B 3 h.A h.n h.c (List.replicate h.n (mkI h.k)) := by
            intro h hh
            rw [HT.out] at hh
            rcases List.mem_append.1 hh with hm | hm
            · have h1 := (hdone h hm).keep (w' := w2) (fun g _ _ _ hg => hw2b g hg)
              exact h1.fr hfq (fun g hc hA hx => hnot h hm g ⟨hc, hA⟩ hx)
            · rw [List.mem_singleton.1 hm]
              exact hoq
          have HD := Lib.hid hdone3
          have HF := Lib.hid hfr3
          clear hdone3 hfr3 hdone hfr hnot hown hlt hks hns hll hpk
          go_wp2
          go_roundw
          case rel => exact ⟨j + 1, by omega, by go_num, HF.out, hbel3, HD.out⟩
          case measure => simp [intOf]; omega
    · obtain rfl : j = hi.length := by omega
      rw [List.take_length] at hfr hdone
      go_wp2
      go_end0
      exact ⟨rfl, hfr, hbel, hdone⟩

end Go.Proofs.YtbcfncdmkgoidaaDoor
