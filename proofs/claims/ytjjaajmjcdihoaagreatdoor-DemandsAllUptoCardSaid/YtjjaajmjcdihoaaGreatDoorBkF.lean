/-
  Walks of the Book with nine tables: told a list; marks are written over what the lists hold.
-/
import Derived.Test.YtjjaajmjcdihoaaGreatDoorProg
import Derived.Test.YtjjaajmjcdihoaaGreatDoorBkW
import Derived.BigQuiet
import Derived.Deep.QuietTactic
import Derived.Deep.DeepMust
namespace Go.Proofs.YtjjaajmjcdihoaaGreatDoor
open Go.RowKit
set_option linter.unusedVariables false
set_option maxHeartbeats 400000 in
theorem told9Int (kb N : Nat) (T : Nat → Value) (H : Nat → List Hl) (A : Option Addr) (n c : Nat) (w : World) (hk : Bkn 46 tHs w kb N T H) (hN : N < 1000000) (hl : (H 2).length ≤ 1000000) :
    Calls Tryz.prog 13 #[.pointer (some ⟨kb, 0, none⟩), .slice A n c] w fun e w' => e = .returned (.tuple #[]) ∧ ∃ v', Bkn 46 tHs w' kb (N + 1) (upd T 2 v') (upd H 2 (H 2 ++ [⟨A, n, c, none, 0, 0, N + 1⟩])) ∧ Below kb w w' ∧ Fr (fun b => b = kb ∨ (T 2).ownBlock = some b) w w' := by
  go_enter Tryz.func13, Tryz.ntmps13
  go_wp2_with fail
  refine (keep9Int kb N T H A n c w hk hN hl).mono ?_
  rintro e w1 ⟨rfl, v', h1, h2, h3⟩
  go_wp2
  go_end0
  exact ⟨rfl, v', h1, h2, h3⟩

set_option maxRecDepth 100000 in
set_option maxHeartbeats 1000000 in
theorem fill9Byte (kb N B s : Nat) (T : Nat → Value) (H : Nat → List Hl) (w : World) (hk : Bkn 46 tHs w kb N T H)
    (hown : ∀ h ∈ H 1, ∃ xs, Own w B 5 h.A h.n h.c xs) (hlt : ∀ h ∈ H 1, ∀ g, Hit h g → OffLN kb T s g) (hsep : Sep (H 1)) (hks : ∀ h ∈ H 1, h.k < 1000000000) (hns : ∀ h ∈ H 1, h.n ≤ 1000000000) (hl : (H 1).length ≤ 1000000) (hBk : B ≤ kb) (hs : s ≤ w.heap.size) :
    Calls Tryz.prog 29 #[.pointer (some ⟨kb, 0, none⟩)] w fun e w' => e = .returned (.tuple #[]) ∧ Fr (Hits (H 1)) w w' ∧ Below B w w' ∧ ∀ h ∈ H 1, OwnM mksB w' B 5 s h.A h.n h.c h.k := by
  have hkbl := hk.lt
  obtain ⟨A0, c0, hv0, hl0, hl1⟩ := row_slice (hk.tab 1)
  obtain ⟨hb, hhb⟩ : ∃ hb, hb = H 1 := ⟨_, rfl⟩
  rw [← hhb] at hl0 hv0 hl hown hlt hsep hks hns ⊢
  have HB := Lib.hid hhb
  have HV := Lib.hid hv0
  clear hhb hv0
  unfold maxLen at hl1
  go_enter Tryz.func29, Tryz.ntmps29
  go_wp2_with fail
  go_loopw [2] (fun i wr => ∃ j : Nat, j ≤ hb.length ∧ i = .int .i64 j ∧ Fr (Hits (hb.take j)) w wr ∧ Below B w wr ∧ ∀ h ∈ hb.take j, OwnM mksB wr B 5 s h.A h.n h.c h.k) (fun i _ => hb.length - (intOf i).toNat)
  case atStart => exact ⟨0, Nat.zero_le _, rfl, Fr.refl _ _, Below.refl _ _, fun h hh => by simp at hh⟩
  case round =>
    obtain ⟨j, hj, rfl, hfr, hbel, hdone⟩ := hrel
    obtain ⟨wo, rfl⟩ : ∃ wo, wo = wr := ⟨_, rfl⟩
    have hws := hfr.1
    have hpk : ∀ b, Hits (hb.take j) b → OffN kb T b := fun b ⟨h, hm, hb'⟩ => (hlt h (List.mem_of_mem_take hm) b hb').2
    have hkr := hk.fr hfr hpk
    have hcv : wo.cell? ⟨kb, 1, none⟩ = some (.slice A0 hb.length c0) := (hkr.cell 1).trans (congrArg some HV.out)
    have hkrl := hkr.lt
    have htb := hkr.tab 1
    rw [HV.out, ← HB.out] at htb
    by_cases hlt2 : j < hb.length
    · obtain ⟨gt, ct, hv, hgt1, hgt2, _, _⟩ := row_form htb (by omega)
      cases hv
      have t0 := row_cell htb j 0 hlt2 (by omega)
      have t1 := row_cell htb j 1 hlt2 (by omega)
      have t2 := row_cell htb j 2 hlt2 (by omega)
      have hmem : hb[j] ∈ hb := List.getElem_mem _
      obtain ⟨xs, ho⟩ := hown _ hmem
      have hkk := hks _ hmem
      have hnn := hns _ hmem
      have hll := hlt _ hmem
      have hnot : ∀ h ∈ hb.take j, ∀ g, Hit h g → ¬ Hit hb[j] g := sep_take hsep hlt2
      have htake := List.take_succ_eq_append_getElem hlt2
      obtain ⟨x, hx⟩ : ∃ x, x = hb[j] := ⟨_, rfl⟩
      rw [← hx] at t0 t1 t2 ho hkk hnn hll hnot htake
      have HT := Lib.hid htake
      clear hx htake hmem
      have ho1 := ho.fr hfr (fun g hc hA hh => by obtain ⟨h, hm, hb'⟩ := hh; exact hnot h hm g hb' ⟨hc, hA⟩)
      obtain ⟨xA, xn, xc, xL, xln, xlc, xk⟩ := x
      simp only [Hl.cells, List.getElem?_cons_zero, List.getElem?_cons_succ, Nat.add_zero] at t0 t1 t2 ho ho1 hkk hnn
      clear ho
      go_wp2_with fail
      have hw2b : ∀ b, b < wo.heap.size → (wo.alloc (.cells #[.slice xA xn xc, .slice xL xln xlc, .int .i64 xk] 73)).heap[b]? = wo.heap[b]? := fun b hb => Below.heap_alloc wo _ b hb
      have ho2 : Own (wo.alloc (.cells #[.slice xA xn xc, .slice xL xln xlc, .int .i64 xk] 73)) B 5 xA xn xc xs := ho1.alloc _
      have hx2 : Bx (wo.alloc (.cells #[.slice xA xn xc, .slice xL xln xlc, .int .i64 xk] 73)) wo.heap.size [.slice xA xn xc, .slice xL xln xlc, .int .i64 xk] := Bx.new wo _ _ _
      have hb2 : Below B w (wo.alloc (.cells #[.slice xA xn xc, .slice xL xln xlc, .int .i64 xk] 73)) := hbel.alloc (Nat.le_trans (by omega : B ≤ w.heap.size) hbel.size) _
      have hfr2 : Fr (Hits (hb.take j)) w (wo.alloc (.cells #[.slice xA xn xc, .slice xL xln xlc, .int .i64 xk] 73)) := hfr.alloc _
      have hsz2 : wo.heap.size ≤ (wo.alloc (.cells #[.slice xA xn xc, .slice xL xln xlc, .int .i64 xk] 73)).heap.size := by simp
      generalize wo.alloc (.cells #[.slice xA xn xc, .slice xL xln xlc, .int .i64 xk] 73) = w2 at *
      go_loopw [4] (fun i wr => ∃ (q : Nat) (ys : List Value), q ≤ xn ∧ i = .int .i64 q ∧ Own wr B 5 xA xn xc ys ∧ Hid (∀ v ∈ ys.take q, mksB.is wr s xk v) ∧ Fr (Hit ⟨xA, xn, xc, xL, xln, xlc, xk⟩) w2 wr ∧ Below B w2 wr) (fun i _ => xn - (intOf i).toNat)
      case atStart => exact ⟨0, xs, Nat.zero_le _, rfl, ho2, Lib.hid (by simp), Fr.refl _ _, Below.refl _ _⟩
      case round =>
        obtain ⟨q, ys, hq, rfl, hoq, hyq, hfq, hbq⟩ := hrel
        have hnl : ¬ Hit ⟨xA, xn, xc, xL, xln, xlc, xk⟩ wo.heap.size := fun hh => by have := (hll _ hh).1; omega
        have hbx : ∀ o, wr.cell? ⟨wo.heap.size, o, none⟩ = w2.cell? ⟨wo.heap.size, o, none⟩ := fun o => World.cell?_of_block (w := w2) (hfq.2 wo.heap.size hx2.1 hnl)
        have l0 : wr.cell? ⟨wo.heap.size, 0, none⟩ = some (.slice xA xn xc) := (hbx 0).trans hx2.at0
        have l2 : wr.cell? ⟨wo.heap.size, 2, none⟩ = some (.int .i64 xk) := (hbx 2).trans hx2.at2
        have hwor : wo.heap.size < wr.heap.size := Nat.lt_of_lt_of_le hx2.1 hbq.size
        clear hbx
        by_cases hql : q < xn
        · have hle := hoq.le
          obtain ⟨g, rfl, hBg, hgl⟩ := hoq.lt (by omega)
          have hyl := hoq.len
          have hgk : g < s := (hll g ⟨by show 0 < xc; omega, rfl⟩).1
          have hne : ¬ (g = wo.heap.size) := by omega
          have hne' : ¬ (wo.heap.size = g) := by omega
          have HL := Lib.hid hyl
          clear hyl
          go_wp2_with fail
          refine wp_region_ord (S := fun w' => w'.cell? ⟨wo.heap.size, 0, none⟩ = some (.slice (some ⟨g, 0, none⟩) xn xc) ∧ w'.cell? ⟨wo.heap.size, 2, none⟩ = some (.int .i64 xk)) [(0, true), (1, true), (2, true), (3, true), (4, true), (5, false), (6, true), (7, false)] default (by kernel_rfl) (by kernel_rfl) (by kernel_rfl) ⟨l0, l2⟩ ?_
          simp only [getOrd, nth]
          repeat (first | (refine ordS (by rfl) ?_; simp only [Act.put, List.setIfInBounds_toArray, List.set_cons_zero, List.set_cons_succ]) | (refine ordN (by rfl) ?_; simp only [Act.put, List.setIfInBounds_toArray, List.set_cons_zero, List.set_cons_succ]) | (refine ordQ (v := ?_) (by rfl) (fun _ hSw => ?_) ?_; rotate_left; (focus ((have hS1 := hSw.1); (have hS2 := hSw.2); clear hSw; go_simp; (first | done | with_reducible rfl))); simp only [Act.put, List.setIfInBounds_toArray, List.set_cons_zero, List.set_cons_succ]))
          refine ordD (by rfl) ?_
          intro K hK
          go_simp
          refine (mark9Byte xk hkk _).mono ?_
          rintro e wm ⟨rfl, hmis0, hbm⟩
          have hbm2 : Below wr.heap.size wr wm := ((Below.refl _ wr).drew).trans hbm
          have hom : Own wm B 5 (some ⟨g, 0, none⟩) xn xc ys := hoq.below hbm2
          have l0m : wm.cell? ⟨wo.heap.size, 0, none⟩ = some (.slice (some ⟨g, 0, none⟩) xn xc) := (hbm2.cell (p := ⟨wo.heap.size, 0, none⟩) hwor).trans l0
          have l2m : wm.cell? ⟨wo.heap.size, 2, none⟩ = some (.int .i64 xk) := (hbm2.cell (p := ⟨wo.heap.size, 2, none⟩) hwor).trans l2
          have hym : ∀ v ∈ ys.take q, mksB.is wm s xk v := fun v hv => mksB.below (hyq.out v hv) hbm2
          have hmis : mksB.is wm s xk (.int .u8 ((xk : Int) % 256)) := mksB.mono hmis0 (by show s ≤ wr.heap.size; have := hbq.size; omega)
          have HY := Lib.hid (fill_stepM (mksB.is wm s xk) ys q (.int .u8 ((xk : Int) % 256)) (by rw [HL.out]; exact hql) hym hmis)
          obtain ⟨u0, hcg⟩ : ∃ u0, wm.cell? ⟨g, q, none⟩ = some u0 := ⟨_, (hom.cell hql).trans (List.getElem?_eq_getElem (by rw [HL.out]; exact hql))⟩
          have hfg := hom.free (by omega) q
          clear hmis0 hym hmis
          go_wp2_with fail
          refine hK _ _ ⟨l0m, l2m⟩ ?_
          clear hK K
          try simp only [Act.put, List.setIfInBounds_toArray, List.set_cons_zero, List.set_cons_succ]
          repeat (first | (refine ordS (by rfl) ?_; simp only [Act.put, List.setIfInBounds_toArray, List.set_cons_zero, List.set_cons_succ]) | (refine ordN (by rfl) ?_; simp only [Act.put, List.setIfInBounds_toArray, List.set_cons_zero, List.set_cons_succ]) | (refine ordQ (v := ?_) (by rfl) (fun _ hSw => ?_) ?_; rotate_left; (focus ((have hS1 := hSw.1); (have hS2 := hSw.2); clear hSw; go_simp; (first | done | with_reducible rfl))); simp only [Act.put, List.setIfInBounds_toArray, List.set_cons_zero, List.set_cons_succ]))
          refine ordD (by rfl) ?_
          intro K hK
          go_simp
          refine hK _ _ ⟨(World.cell?_of_block (w := wm) (setCell_ne (by exact hne'))).trans l0m, (World.cell?_of_block (w := wm) (setCell_ne (by exact hne'))).trans l2m⟩ ?_
          clear hK K
          refine ordE ?_
          have ho3 : Own (wm.setCell ⟨g, q, none⟩ (.int .u8 ((xk : Int) % 256))) B 5 (some ⟨g, 0, none⟩) xn xc (ys.set q (.int .u8 ((xk : Int) % 256))) := hom.set (by omega) q _
          have hf3 : Fr (Hit ⟨some ⟨g, 0, none⟩, xn, xc, xL, xln, xlc, xk⟩) w2 (wm.setCell ⟨g, q, none⟩ (.int .u8 ((xk : Int) % 256))) := (hfq.trans (Fr.of_below hbm2)).setCell (p := ⟨g, q, none⟩) ⟨by show 0 < xc; omega, rfl⟩ _
          have hb3 : Below B w2 (wm.setCell ⟨g, q, none⟩ (.int .u8 ((xk : Int) % 256))) := (hbq.trans (hbm2.mono (Nat.le_trans (by omega : B ≤ w2.heap.size) hbq.size))).setCell (p := ⟨g, q, none⟩) hBg _
          have HZ := Lib.hid (fun v hv => mksB.store (HY.out v hv) hom (by omega) (by decide) q (.int .u8 ((xk : Int) % 256)))
          clear HY hom l0m l2m hbm hbm2
          go_wp2
          go_roundw
          case rel => exact ⟨q + 1, ys.set q (.int .u8 ((xk : Int) % 256)), by omega, by go_num, ho3, HZ, hf3, hb3⟩
          case measure => simp [intOf]; omega
        · obtain rfl : q = xn := by omega
          have hys : ∀ v ∈ ys, mksB.is wr s xk v := by
            have h := hyq.out
            rw [List.take_of_length_le (by rw [hoq.len]; exact Nat.le_refl _)] at h
            exact h
          clear hyq
          have hfr3 : Fr (Hits (hb.take (j + 1))) w wr := by
            rw [HT.out]
            exact (hfr2.mono fun b ⟨h, hm, hh⟩ => ⟨h, List.mem_append_left _ hm, hh⟩).trans (hfq.mono fun b hh => ⟨_, List.mem_append_right _ (List.mem_singleton.2 rfl), hh⟩)
          have hbel3 : Below B w wr := hb2.trans hbq
          have hdone3 : ∀ h ∈ hb.take (j + 1), OwnM mksB wr B 5 s h.A h.n h.c h.k := by
            intro h hh
            rw [HT.out] at hh
            rcases List.mem_append.1 hh with hm | hm
            · have h1 := (hdone h hm).fr (P := fun _ => False) (w' := w2) ⟨hsz2, fun b hb _ => hw2b b hb⟩ (fun _ _ _ hx => hx) (fun _ _ hx => hx)
              exact h1.fr hfq (fun g hc hA hx => hnot h hm g ⟨hc, hA⟩ hx) (fun g hg hx => by have := (hll g hx).1; omega)
            · rw [List.mem_singleton.1 hm]
              exact ⟨ys, hoq, hys⟩
          have HD := Lib.hid hdone3
          have HF := Lib.hid hfr3
          clear hdone3 hfr3 hdone hfr hnot hown hlt hks hns hll hpk
          go_wp2
          go_roundw
          case rel => exact ⟨j + 1, by omega, by go_num, HF.out, hbel3, HD.out⟩
          case measure => simp [intOf]; omega
    · obtain rfl : j = hb.length := by omega
      rw [List.take_length] at hfr hdone
      go_wp2
      go_end0
      exact ⟨rfl, hfr, hbel, hdone⟩

set_option maxRecDepth 100000 in
set_option maxHeartbeats 1000000 in
theorem fill9Int (kb N B s : Nat) (T : Nat → Value) (H : Nat → List Hl) (w : World) (hk : Bkn 46 tHs w kb N T H)
    (hown : ∀ h ∈ H 2, ∃ xs, Own w B 3 h.A h.n h.c xs) (hlt : ∀ h ∈ H 2, ∀ g, Hit h g → OffLN kb T s g) (hsep : Sep (H 2)) (hks : ∀ h ∈ H 2, h.k < 1000000000) (hns : ∀ h ∈ H 2, h.n ≤ 1000000000) (hl : (H 2).length ≤ 1000000) (hBk : B ≤ kb) (hs : s ≤ w.heap.size) :
    Calls Tryz.prog 30 #[.pointer (some ⟨kb, 0, none⟩)] w fun e w' => e = .returned (.tuple #[]) ∧ Fr (Hits (H 2)) w w' ∧ Below B w w' ∧ ∀ h ∈ H 2, OwnM mksI w' B 3 s h.A h.n h.c h.k := by
  have hkbl := hk.lt
  obtain ⟨A0, c0, hv0, hl0, hl1⟩ := row_slice (hk.tab 2)
  obtain ⟨hb, hhb⟩ : ∃ hb, hb = H 2 := ⟨_, rfl⟩
  rw [← hhb] at hl0 hv0 hl hown hlt hsep hks hns ⊢
  have HB := Lib.hid hhb
  have HV := Lib.hid hv0
  clear hhb hv0
  unfold maxLen at hl1
  go_enter Tryz.func30, Tryz.ntmps30
  go_wp2_with fail
  go_loopw [2] (fun i wr => ∃ j : Nat, j ≤ hb.length ∧ i = .int .i64 j ∧ Fr (Hits (hb.take j)) w wr ∧ Below B w wr ∧ ∀ h ∈ hb.take j, OwnM mksI wr B 3 s h.A h.n h.c h.k) (fun i _ => hb.length - (intOf i).toNat)
  case atStart => exact ⟨0, Nat.zero_le _, rfl, Fr.refl _ _, Below.refl _ _, fun h hh => by simp at hh⟩
  case round =>
    obtain ⟨j, hj, rfl, hfr, hbel, hdone⟩ := hrel
    obtain ⟨wo, rfl⟩ : ∃ wo, wo = wr := ⟨_, rfl⟩
    have hws := hfr.1
    have hpk : ∀ b, Hits (hb.take j) b → OffN kb T b := fun b ⟨h, hm, hb'⟩ => (hlt h (List.mem_of_mem_take hm) b hb').2
    have hkr := hk.fr hfr hpk
    have hcv : wo.cell? ⟨kb, 2, none⟩ = some (.slice A0 hb.length c0) := (hkr.cell 2).trans (congrArg some HV.out)
    have hkrl := hkr.lt
    have htb := hkr.tab 2
    rw [HV.out, ← HB.out] at htb
    by_cases hlt2 : j < hb.length
    · obtain ⟨gt, ct, hv, hgt1, hgt2, _, _⟩ := row_form htb (by omega)
      cases hv
      have t0 := row_cell htb j 0 hlt2 (by omega)
      have t1 := row_cell htb j 1 hlt2 (by omega)
      have t2 := row_cell htb j 2 hlt2 (by omega)
      have hmem : hb[j] ∈ hb := List.getElem_mem _
      obtain ⟨xs, ho⟩ := hown _ hmem
      have hkk := hks _ hmem
      have hnn := hns _ hmem
      have hll := hlt _ hmem
      have hnot : ∀ h ∈ hb.take j, ∀ g, Hit h g → ¬ Hit hb[j] g := sep_take hsep hlt2
      have htake := List.take_succ_eq_append_getElem hlt2
      obtain ⟨x, hx⟩ : ∃ x, x = hb[j] := ⟨_, rfl⟩
      rw [← hx] at t0 t1 t2 ho hkk hnn hll hnot htake
      have HT := Lib.hid htake
      clear hx htake hmem
      have ho1 := ho.fr hfr (fun g hc hA hh => by obtain ⟨h, hm, hb'⟩ := hh; exact hnot h hm g hb' ⟨hc, hA⟩)
      obtain ⟨xA, xn, xc, xL, xln, xlc, xk⟩ := x
      simp only [Hl.cells, List.getElem?_cons_zero, List.getElem?_cons_succ, Nat.add_zero] at t0 t1 t2 ho ho1 hkk hnn
      clear ho
      go_wp2_with fail
      have hw2b : ∀ b, b < wo.heap.size → (wo.alloc (.cells #[.slice xA xn xc, .slice xL xln xlc, .int .i64 xk] 68)).heap[b]? = wo.heap[b]? := fun b hb => Below.heap_alloc wo _ b hb
      have ho2 : Own (wo.alloc (.cells #[.slice xA xn xc, .slice xL xln xlc, .int .i64 xk] 68)) B 3 xA xn xc xs := ho1.alloc _
      have hx2 : Bx (wo.alloc (.cells #[.slice xA xn xc, .slice xL xln xlc, .int .i64 xk] 68)) wo.heap.size [.slice xA xn xc, .slice xL xln xlc, .int .i64 xk] := Bx.new wo _ _ _
      have hb2 : Below B w (wo.alloc (.cells #[.slice xA xn xc, .slice xL xln xlc, .int .i64 xk] 68)) := hbel.alloc (Nat.le_trans (by omega : B ≤ w.heap.size) hbel.size) _
      have hfr2 : Fr (Hits (hb.take j)) w (wo.alloc (.cells #[.slice xA xn xc, .slice xL xln xlc, .int .i64 xk] 68)) := hfr.alloc _
      have hsz2 : wo.heap.size ≤ (wo.alloc (.cells #[.slice xA xn xc, .slice xL xln xlc, .int .i64 xk] 68)).heap.size := by simp
      generalize wo.alloc (.cells #[.slice xA xn xc, .slice xL xln xlc, .int .i64 xk] 68) = w2 at *
      go_loopw [4] (fun i wr => ∃ (q : Nat) (ys : List Value), q ≤ xn ∧ i = .int .i64 q ∧ Own wr B 3 xA xn xc ys ∧ Hid (∀ v ∈ ys.take q, mksI.is wr s xk v) ∧ Fr (Hit ⟨xA, xn, xc, xL, xln, xlc, xk⟩) w2 wr ∧ Below B w2 wr) (fun i _ => xn - (intOf i).toNat)
      case atStart => exact ⟨0, xs, Nat.zero_le _, rfl, ho2, Lib.hid (by simp), Fr.refl _ _, Below.refl _ _⟩
      case round =>
        obtain ⟨q, ys, hq, rfl, hoq, hyq, hfq, hbq⟩ := hrel
        have hnl : ¬ Hit ⟨xA, xn, xc, xL, xln, xlc, xk⟩ wo.heap.size := fun hh => by have := (hll _ hh).1; omega
        have hbx : ∀ o, wr.cell? ⟨wo.heap.size, o, none⟩ = w2.cell? ⟨wo.heap.size, o, none⟩ := fun o => World.cell?_of_block (w := w2) (hfq.2 wo.heap.size hx2.1 hnl)
        have l0 : wr.cell? ⟨wo.heap.size, 0, none⟩ = some (.slice xA xn xc) := (hbx 0).trans hx2.at0
        have l2 : wr.cell? ⟨wo.heap.size, 2, none⟩ = some (.int .i64 xk) := (hbx 2).trans hx2.at2
        have hwor : wo.heap.size < wr.heap.size := Nat.lt_of_lt_of_le hx2.1 hbq.size
        clear hbx
        by_cases hql : q < xn
        · have hle := hoq.le
          obtain ⟨g, rfl, hBg, hgl⟩ := hoq.lt (by omega)
          have hyl := hoq.len
          have hgk : g < s := (hll g ⟨by show 0 < xc; omega, rfl⟩).1
          have hne : ¬ (g = wo.heap.size) := by omega
          have hne' : ¬ (wo.heap.size = g) := by omega
          have HL := Lib.hid hyl
          clear hyl
          go_wp2_with fail
          refine wp_region_ord (S := fun w' => w'.cell? ⟨wo.heap.size, 0, none⟩ = some (.slice (some ⟨g, 0, none⟩) xn xc) ∧ w'.cell? ⟨wo.heap.size, 2, none⟩ = some (.int .i64 xk)) [(0, true), (1, true), (2, true), (3, true), (4, true), (5, false), (6, true), (7, false)] default (by kernel_rfl) (by kernel_rfl) (by kernel_rfl) ⟨l0, l2⟩ ?_
          simp only [getOrd, nth]
          repeat (first | (refine ordS (by rfl) ?_; simp only [Act.put, List.setIfInBounds_toArray, List.set_cons_zero, List.set_cons_succ]) | (refine ordN (by rfl) ?_; simp only [Act.put, List.setIfInBounds_toArray, List.set_cons_zero, List.set_cons_succ]) | (refine ordQ (v := ?_) (by rfl) (fun _ hSw => ?_) ?_; rotate_left; (focus ((have hS1 := hSw.1); (have hS2 := hSw.2); clear hSw; go_simp; (first | done | with_reducible rfl))); simp only [Act.put, List.setIfInBounds_toArray, List.set_cons_zero, List.set_cons_succ]))
          refine ordD (by rfl) ?_
          intro K hK
          go_simp
          refine (mark9Int xk hkk _).mono ?_
          rintro e wm ⟨rfl, hmis0, hbm⟩
          have hbm2 : Below wr.heap.size wr wm := ((Below.refl _ wr).drew).trans hbm
          have hom : Own wm B 3 (some ⟨g, 0, none⟩) xn xc ys := hoq.below hbm2
          have l0m : wm.cell? ⟨wo.heap.size, 0, none⟩ = some (.slice (some ⟨g, 0, none⟩) xn xc) := (hbm2.cell (p := ⟨wo.heap.size, 0, none⟩) hwor).trans l0
          have l2m : wm.cell? ⟨wo.heap.size, 2, none⟩ = some (.int .i64 xk) := (hbm2.cell (p := ⟨wo.heap.size, 2, none⟩) hwor).trans l2
          have hym : ∀ v ∈ ys.take q, mksI.is wm s xk v := fun v hv => mksI.below (hyq.out v hv) hbm2
          have hmis : mksI.is wm s xk (.int .i64 (-(xk : Int))) := mksI.mono hmis0 (by show s ≤ wr.heap.size; have := hbq.size; omega)
          have HY := Lib.hid (fill_stepM (mksI.is wm s xk) ys q (.int .i64 (-(xk : Int))) (by rw [HL.out]; exact hql) hym hmis)
          obtain ⟨u0, hcg⟩ : ∃ u0, wm.cell? ⟨g, q, none⟩ = some u0 := ⟨_, (hom.cell hql).trans (List.getElem?_eq_getElem (by rw [HL.out]; exact hql))⟩
          have hfg := hom.free (by omega) q
          clear hmis0 hym hmis
          go_wp2_with fail
          refine hK _ _ ⟨l0m, l2m⟩ ?_
          clear hK K
          try simp only [Act.put, List.setIfInBounds_toArray, List.set_cons_zero, List.set_cons_succ]
          repeat (first | (refine ordS (by rfl) ?_; simp only [Act.put, List.setIfInBounds_toArray, List.set_cons_zero, List.set_cons_succ]) | (refine ordN (by rfl) ?_; simp only [Act.put, List.setIfInBounds_toArray, List.set_cons_zero, List.set_cons_succ]) | (refine ordQ (v := ?_) (by rfl) (fun _ hSw => ?_) ?_; rotate_left; (focus ((have hS1 := hSw.1); (have hS2 := hSw.2); clear hSw; go_simp; (first | done | with_reducible rfl))); simp only [Act.put, List.setIfInBounds_toArray, List.set_cons_zero, List.set_cons_succ]))
          refine ordD (by rfl) ?_
          intro K hK
          go_simp
          refine hK _ _ ⟨(World.cell?_of_block (w := wm) (setCell_ne (by exact hne'))).trans l0m, (World.cell?_of_block (w := wm) (setCell_ne (by exact hne'))).trans l2m⟩ ?_
          clear hK K
          refine ordE ?_
          have ho3 : Own (wm.setCell ⟨g, q, none⟩ (.int .i64 (-(xk : Int)))) B 3 (some ⟨g, 0, none⟩) xn xc (ys.set q (.int .i64 (-(xk : Int)))) := hom.set (by omega) q _
          have hf3 : Fr (Hit ⟨some ⟨g, 0, none⟩, xn, xc, xL, xln, xlc, xk⟩) w2 (wm.setCell ⟨g, q, none⟩ (.int .i64 (-(xk : Int)))) := (hfq.trans (Fr.of_below hbm2)).setCell (p := ⟨g, q, none⟩) ⟨by show 0 < xc; omega, rfl⟩ _
          have hb3 : Below B w2 (wm.setCell ⟨g, q, none⟩ (.int .i64 (-(xk : Int)))) := (hbq.trans (hbm2.mono (Nat.le_trans (by omega : B ≤ w2.heap.size) hbq.size))).setCell (p := ⟨g, q, none⟩) hBg _
          have HZ := Lib.hid (fun v hv => mksI.store (HY.out v hv) hom (by omega) (by decide) q (.int .i64 (-(xk : Int))))
          clear HY hom l0m l2m hbm hbm2
          go_wp2
          go_roundw
          case rel => exact ⟨q + 1, ys.set q (.int .i64 (-(xk : Int))), by omega, by go_num, ho3, HZ, hf3, hb3⟩
          case measure => simp [intOf]; omega
        · obtain rfl : q = xn := by omega
          have hys : ∀ v ∈ ys, mksI.is wr s xk v := by
            have h := hyq.out
            rw [List.take_of_length_le (by rw [hoq.len]; exact Nat.le_refl _)] at h
            exact h
          clear hyq
          have hfr3 : Fr (Hits (hb.take (j + 1))) w wr := by
            rw [HT.out]
            exact (hfr2.mono fun b ⟨h, hm, hh⟩ => ⟨h, List.mem_append_left _ hm, hh⟩).trans (hfq.mono fun b hh => ⟨_, List.mem_append_right _ (List.mem_singleton.2 rfl), hh⟩)
          have hbel3 : Below B w wr := hb2.trans hbq
          have hdone3 : ∀ h ∈ hb.take (j + 1), OwnM mksI wr B 3 s h.A h.n h.c h.k := by
            intro h hh
            rw [HT.out] at hh
            rcases List.mem_append.1 hh with hm | hm
            · have h1 := (hdone h hm).fr (P := fun _ => False) (w' := w2) ⟨hsz2, fun b hb _ => hw2b b hb⟩ (fun _ _ _ hx => hx) (fun _ _ hx => hx)
              exact h1.fr hfq (fun g hc hA hx => hnot h hm g ⟨hc, hA⟩ hx) (fun g hg hx => by have := (hll g hx).1; omega)
            · rw [List.mem_singleton.1 hm]
              exact ⟨ys, hoq, hys⟩
          have HD := Lib.hid hdone3
          have HF := Lib.hid hfr3
          clear hdone3 hfr3 hdone hfr hnot hown hlt hks hns hll hpk
          go_wp2
          go_roundw
          case rel => exact ⟨j + 1, by omega, by go_num, HF.out, hbel3, HD.out⟩
          case measure => simp [intOf]; omega
    · obtain rfl : j = hb.length := by omega
      rw [List.take_length] at hfr hdone
      go_wp2
      go_end0
      exact ⟨rfl, hfr, hbel, hdone⟩

set_option maxRecDepth 100000 in
set_option maxHeartbeats 1000000 in
theorem fill9IntList (kb N B s : Nat) (T : Nat → Value) (H : Nat → List Hl) (w : World) (hk : Bkn 46 tHs w kb N T H)
    (hown : ∀ h ∈ H 4, ∃ xs, Own w B 22 h.A h.n h.c xs) (hlt : ∀ h ∈ H 4, ∀ g, Hit h g → OffLN kb T s g) (hsep : Sep (H 4)) (hks : ∀ h ∈ H 4, h.k < 1000000000) (hns : ∀ h ∈ H 4, h.n ≤ 1000000000) (hl : (H 4).length ≤ 1000000) (hBk : B ≤ kb) (hs : s ≤ w.heap.size) :
    Calls Tryz.prog 32 #[.pointer (some ⟨kb, 0, none⟩)] w fun e w' => e = .returned (.tuple #[]) ∧ Fr (Hits (H 4)) w w' ∧ Below B w w' ∧ ∀ h ∈ H 4, OwnM mksL w' B 22 s h.A h.n h.c h.k := by
  have hkbl := hk.lt
  obtain ⟨A0, c0, hv0, hl0, hl1⟩ := row_slice (hk.tab 4)
  obtain ⟨hb, hhb⟩ : ∃ hb, hb = H 4 := ⟨_, rfl⟩
  rw [← hhb] at hl0 hv0 hl hown hlt hsep hks hns ⊢
  have HB := Lib.hid hhb
  have HV := Lib.hid hv0
  clear hhb hv0
  unfold maxLen at hl1
  go_enter Tryz.func32, Tryz.ntmps32
  go_wp2_with fail
  go_loopw [2] (fun i wr => ∃ j : Nat, j ≤ hb.length ∧ i = .int .i64 j ∧ Fr (Hits (hb.take j)) w wr ∧ Below B w wr ∧ ∀ h ∈ hb.take j, OwnM mksL wr B 22 s h.A h.n h.c h.k) (fun i _ => hb.length - (intOf i).toNat)
  case atStart => exact ⟨0, Nat.zero_le _, rfl, Fr.refl _ _, Below.refl _ _, fun h hh => by simp at hh⟩
  case round =>
    obtain ⟨j, hj, rfl, hfr, hbel, hdone⟩ := hrel
    obtain ⟨wo, rfl⟩ : ∃ wo, wo = wr := ⟨_, rfl⟩
    have hws := hfr.1
    have hpk : ∀ b, Hits (hb.take j) b → OffN kb T b := fun b ⟨h, hm, hb'⟩ => (hlt h (List.mem_of_mem_take hm) b hb').2
    have hkr := hk.fr hfr hpk
    have hcv : wo.cell? ⟨kb, 4, none⟩ = some (.slice A0 hb.length c0) := (hkr.cell 4).trans (congrArg some HV.out)
    have hkrl := hkr.lt
    have htb := hkr.tab 4
    rw [HV.out, ← HB.out] at htb
    by_cases hlt2 : j < hb.length
    · obtain ⟨gt, ct, hv, hgt1, hgt2, _, _⟩ := row_form htb (by omega)
      cases hv
      have t0 := row_cell htb j 0 hlt2 (by omega)
      have t1 := row_cell htb j 1 hlt2 (by omega)
      have t2 := row_cell htb j 2 hlt2 (by omega)
      have hmem : hb[j] ∈ hb := List.getElem_mem _
      obtain ⟨xs, ho⟩ := hown _ hmem
      have hkk := hks _ hmem
      have hnn := hns _ hmem
      have hll := hlt _ hmem
      have hnot : ∀ h ∈ hb.take j, ∀ g, Hit h g → ¬ Hit hb[j] g := sep_take hsep hlt2
      have htake := List.take_succ_eq_append_getElem hlt2
      obtain ⟨x, hx⟩ : ∃ x, x = hb[j] := ⟨_, rfl⟩
      rw [← hx] at t0 t1 t2 ho hkk hnn hll hnot htake
      have HT := Lib.hid htake
      clear hx htake hmem
      have ho1 := ho.fr hfr (fun g hc hA hh => by obtain ⟨h, hm, hb'⟩ := hh; exact hnot h hm g hb' ⟨hc, hA⟩)
      obtain ⟨xA, xn, xc, xL, xln, xlc, xk⟩ := x
      simp only [Hl.cells, List.getElem?_cons_zero, List.getElem?_cons_succ, Nat.add_zero] at t0 t1 t2 ho ho1 hkk hnn
      clear ho
      go_wp2_with fail
      have hw2b : ∀ b, b < wo.heap.size → (wo.alloc (.cells #[.slice xA xn xc, .slice xL xln xlc, .int .i64 xk] 70)).heap[b]? = wo.heap[b]? := fun b hb => Below.heap_alloc wo _ b hb
      have ho2 : Own (wo.alloc (.cells #[.slice xA xn xc, .slice xL xln xlc, .int .i64 xk] 70)) B 22 xA xn xc xs := ho1.alloc _
      have hx2 : Bx (wo.alloc (.cells #[.slice xA xn xc, .slice xL xln xlc, .int .i64 xk] 70)) wo.heap.size [.slice xA xn xc, .slice xL xln xlc, .int .i64 xk] := Bx.new wo _ _ _
      have hb2 : Below B w (wo.alloc (.cells #[.slice xA xn xc, .slice xL xln xlc, .int .i64 xk] 70)) := hbel.alloc (Nat.le_trans (by omega : B ≤ w.heap.size) hbel.size) _
      have hfr2 : Fr (Hits (hb.take j)) w (wo.alloc (.cells #[.slice xA xn xc, .slice xL xln xlc, .int .i64 xk] 70)) := hfr.alloc _
      have hsz2 : wo.heap.size ≤ (wo.alloc (.cells #[.slice xA xn xc, .slice xL xln xlc, .int .i64 xk] 70)).heap.size := by simp
      generalize wo.alloc (.cells #[.slice xA xn xc, .slice xL xln xlc, .int .i64 xk] 70) = w2 at *
      go_loopw [4] (fun i wr => ∃ (q : Nat) (ys : List Value), q ≤ xn ∧ i = .int .i64 q ∧ Own wr B 22 xA xn xc ys ∧ Hid (∀ v ∈ ys.take q, mksL.is wr s xk v) ∧ Fr (Hit ⟨xA, xn, xc, xL, xln, xlc, xk⟩) w2 wr ∧ Below B w2 wr) (fun i _ => xn - (intOf i).toNat)
      case atStart => exact ⟨0, xs, Nat.zero_le _, rfl, ho2, Lib.hid (by simp), Fr.refl _ _, Below.refl _ _⟩
      case round =>
        obtain ⟨q, ys, hq, rfl, hoq, hyq, hfq, hbq⟩ := hrel
        have hnl : ¬ Hit ⟨xA, xn, xc, xL, xln, xlc, xk⟩ wo.heap.size := fun hh => by have := (hll _ hh).1; omega
        have hbx : ∀ o, wr.cell? ⟨wo.heap.size, o, none⟩ = w2.cell? ⟨wo.heap.size, o, none⟩ := fun o => World.cell?_of_block (w := w2) (hfq.2 wo.heap.size hx2.1 hnl)
        have l0 : wr.cell? ⟨wo.heap.size, 0, none⟩ = some (.slice xA xn xc) := (hbx 0).trans hx2.at0
        have l2 : wr.cell? ⟨wo.heap.size, 2, none⟩ = some (.int .i64 xk) := (hbx 2).trans hx2.at2
        have hwor : wo.heap.size < wr.heap.size := Nat.lt_of_lt_of_le hx2.1 hbq.size
        clear hbx
        by_cases hql : q < xn
        · have hle := hoq.le
          obtain ⟨g, rfl, hBg, hgl⟩ := hoq.lt (by omega)
          have hyl := hoq.len
          have hgk : g < s := (hll g ⟨by show 0 < xc; omega, rfl⟩).1
          have hne : ¬ (g = wo.heap.size) := by omega
          have hne' : ¬ (wo.heap.size = g) := by omega
          have HL := Lib.hid hyl
          clear hyl
          go_wp2_with fail
          refine wp_region_ord (S := fun w' => w'.cell? ⟨wo.heap.size, 0, none⟩ = some (.slice (some ⟨g, 0, none⟩) xn xc) ∧ w'.cell? ⟨wo.heap.size, 2, none⟩ = some (.int .i64 xk)) [(0, true), (1, true), (2, true), (3, true), (4, true), (5, false), (6, true), (7, false)] default (by kernel_rfl) (by kernel_rfl) (by kernel_rfl) ⟨l0, l2⟩ ?_
          simp only [getOrd, nth]
          repeat (first | (refine ordS (by rfl) ?_; simp only [Act.put, List.setIfInBounds_toArray, List.set_cons_zero, List.set_cons_succ]) | (refine ordN (by rfl) ?_; simp only [Act.put, List.setIfInBounds_toArray, List.set_cons_zero, List.set_cons_succ]) | (refine ordQ (v := ?_) (by rfl) (fun _ hSw => ?_) ?_; rotate_left; (focus ((have hS1 := hSw.1); (have hS2 := hSw.2); clear hSw; go_simp; (first | done | with_reducible rfl))); simp only [Act.put, List.setIfInBounds_toArray, List.set_cons_zero, List.set_cons_succ]))
          refine ordD (by rfl) ?_
          intro K hK
          go_simp
          refine (mark9IntList xk hkk _).mono ?_
          rintro e wm ⟨m, rfl, hmis0, hbm⟩
          have hbm2 : Below wr.heap.size wr wm := ((Below.refl _ wr).drew).trans hbm
          have hom : Own wm B 22 (some ⟨g, 0, none⟩) xn xc ys := hoq.below hbm2
          have l0m : wm.cell? ⟨wo.heap.size, 0, none⟩ = some (.slice (some ⟨g, 0, none⟩) xn xc) := (hbm2.cell (p := ⟨wo.heap.size, 0, none⟩) hwor).trans l0
          have l2m : wm.cell? ⟨wo.heap.size, 2, none⟩ = some (.int .i64 xk) := (hbm2.cell (p := ⟨wo.heap.size, 2, none⟩) hwor).trans l2
          have hym : ∀ v ∈ ys.take q, mksL.is wm s xk v := fun v hv => mksL.below (hyq.out v hv) hbm2
          have hmis : mksL.is wm s xk (.slice (some ⟨m, 0, none⟩) 1 1) := mksL.mono hmis0 (by show s ≤ wr.heap.size; have := hbq.size; omega)
          have HY := Lib.hid (fill_stepM (mksL.is wm s xk) ys q (.slice (some ⟨m, 0, none⟩) 1 1) (by rw [HL.out]; exact hql) hym hmis)
          obtain ⟨u0, hcg⟩ : ∃ u0, wm.cell? ⟨g, q, none⟩ = some u0 := ⟨_, (hom.cell hql).trans (List.getElem?_eq_getElem (by rw [HL.out]; exact hql))⟩
          have hfg := hom.free (by omega) q
          clear hmis0 hym hmis
          go_wp2_with fail
          refine hK _ _ ⟨l0m, l2m⟩ ?_
          clear hK K
          try simp only [Act.put, List.setIfInBounds_toArray, List.set_cons_zero, List.set_cons_succ]
          repeat (first | (refine ordS (by rfl) ?_; simp only [Act.put, List.setIfInBounds_toArray, List.set_cons_zero, List.set_cons_succ]) | (refine ordN (by rfl) ?_; simp only [Act.put, List.setIfInBounds_toArray, List.set_cons_zero, List.set_cons_succ]) | (refine ordQ (v := ?_) (by rfl) (fun _ hSw => ?_) ?_; rotate_left; (focus ((have hS1 := hSw.1); (have hS2 := hSw.2); clear hSw; go_simp; (first | done | with_reducible rfl))); simp only [Act.put, List.setIfInBounds_toArray, List.set_cons_zero, List.set_cons_succ]))
          refine ordD (by rfl) ?_
          intro K hK
          go_simp
          refine hK _ _ ⟨(World.cell?_of_block (w := wm) (setCell_ne (by exact hne'))).trans l0m, (World.cell?_of_block (w := wm) (setCell_ne (by exact hne'))).trans l2m⟩ ?_
          clear hK K
          refine ordE ?_
          have ho3 : Own (wm.setCell ⟨g, q, none⟩ (.slice (some ⟨m, 0, none⟩) 1 1)) B 22 (some ⟨g, 0, none⟩) xn xc (ys.set q (.slice (some ⟨m, 0, none⟩) 1 1)) := hom.set (by omega) q _
          have hf3 : Fr (Hit ⟨some ⟨g, 0, none⟩, xn, xc, xL, xln, xlc, xk⟩) w2 (wm.setCell ⟨g, q, none⟩ (.slice (some ⟨m, 0, none⟩) 1 1)) := (hfq.trans (Fr.of_below hbm2)).setCell (p := ⟨g, q, none⟩) ⟨by show 0 < xc; omega, rfl⟩ _
          have hb3 : Below B w2 (wm.setCell ⟨g, q, none⟩ (.slice (some ⟨m, 0, none⟩) 1 1)) := (hbq.trans (hbm2.mono (Nat.le_trans (by omega : B ≤ w2.heap.size) hbq.size))).setCell (p := ⟨g, q, none⟩) hBg _
          have HZ := Lib.hid (fun v hv => mksL.store (HY.out v hv) hom (by omega) (by decide) q (.slice (some ⟨m, 0, none⟩) 1 1))
          clear HY hom l0m l2m hbm hbm2
          go_wp2
          go_roundw
          case rel => exact ⟨q + 1, ys.set q (.slice (some ⟨m, 0, none⟩) 1 1), by omega, by go_num, ho3, HZ, hf3, hb3⟩
          case measure => simp [intOf]; omega
        · obtain rfl : q = xn := by omega
          have hys : ∀ v ∈ ys, mksL.is wr s xk v := by
            have h := hyq.out
            rw [List.take_of_length_le (by rw [hoq.len]; exact Nat.le_refl _)] at h
            exact h
          clear hyq
          have hfr3 : Fr (Hits (hb.take (j + 1))) w wr := by
            rw [HT.out]
            exact (hfr2.mono fun b ⟨h, hm, hh⟩ => ⟨h, List.mem_append_left _ hm, hh⟩).trans (hfq.mono fun b hh => ⟨_, List.mem_append_right _ (List.mem_singleton.2 rfl), hh⟩)
          have hbel3 : Below B w wr := hb2.trans hbq
          have hdone3 : ∀ h ∈ hb.take (j + 1), OwnM mksL wr B 22 s h.A h.n h.c h.k := by
            intro h hh
            rw [HT.out] at hh
            rcases List.mem_append.1 hh with hm | hm
            · have h1 := (hdone h hm).fr (P := fun _ => False) (w' := w2) ⟨hsz2, fun b hb _ => hw2b b hb⟩ (fun _ _ _ hx => hx) (fun _ _ hx => hx)
              exact h1.fr hfq (fun g hc hA hx => hnot h hm g ⟨hc, hA⟩ hx) (fun g hg hx => by have := (hll g hx).1; omega)
            · rw [List.mem_singleton.1 hm]
              exact ⟨ys, hoq, hys⟩
          have HD := Lib.hid hdone3
          have HF := Lib.hid hfr3
          clear hdone3 hfr3 hdone hfr hnot hown hlt hks hns hll hpk
          go_wp2
          go_roundw
          case rel => exact ⟨j + 1, by omega, by go_num, HF.out, hbel3, HD.out⟩
          case measure => simp [intOf]; omega
    · obtain rfl : j = hb.length := by omega
      rw [List.take_length] at hfr hdone
      go_wp2
      go_end0
      exact ⟨rfl, hfr, hbel, hdone⟩

end Go.Proofs.YtjjaajmjcdihoaaGreatDoor
