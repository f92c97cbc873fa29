/-
  Walks of the Book with nine tables: 40 marks are put behind each list.
-/
import Derived.Test.YtjjaajmjcdihoaaGreatDoorProg
import Derived.Test.YtjjaajmjcdihoaaGreatDoorBkF
import Derived.Test.YtjjaajmjcdihoaaGreatDoorKit2
import Derived.BigQuiet
import Derived.Deep.QuietTactic
import Derived.Deep.DeepMust
namespace Go.Proofs.YtjjaajmjcdihoaaGreatDoor
open Go.RowKit
set_option linter.unusedVariables false

theorem book9_info_u8 : (Tryz.prog.info? 5).map (fun i => (i.zero, i.size, i.bytes)) = some (some (.int .u8 0), 1, 1) := by kernel_rfl
theorem book9_info_int : (Tryz.prog.info? 3).map (fun i => (i.zero, i.size, i.bytes)) = some (some (.int .i64 0), 1, 8) := by kernel_rfl
theorem book9_info_ints : (Tryz.prog.info? 22).map (fun i => (i.zero, i.size, i.bytes)) = some (some (.slice none 0 0), 1, 24) := by kernel_rfl

set_option maxRecDepth 100000 in
set_option maxHeartbeats 1000000 in
theorem grow9Byte (kb N B s : Nat) (T : Nat → Value) (H : Nat → List Hl) (w : World) (hk : Bkn 46 tHs w kb N T H)
    (hown : ∀ h ∈ H 1, OwnM mksB w B 5 s h.A h.n h.c h.k) (hlt : ∀ h ∈ H 1, ∀ g, Hit h g → OffLN kb T s g) (hts : ∀ j g, (T j).ownBlock = some g → g < s) (hsep : Sep (H 1)) (hks : ∀ h ∈ H 1, h.k < 1000000000) (hns : ∀ h ∈ H 1, h.n ≤ 1000000000) (hl : (H 1).length ≤ 1000000) (hBk : B ≤ kb) (hs : s ≤ w.heap.size) :
    Calls Tryz.prog 38 #[.pointer (some ⟨kb, 0, none⟩)] w fun e w' => e = .returned (.tuple #[]) ∧ ∃ hs', Bkn 46 tHs w' kb N T (upd H 1 hs') ∧ Fr (fun b => Hits (H 1) b ∨ (T 1).ownBlock = some b) w w' ∧ Below B w w' ∧ AllGrownM mksB 5 w' B s w.heap.size (H 1) hs' := by
  obtain ⟨i0, hi0, hz0, hz1, hz2⟩ := info_parts book9_info_u8
  have hkbl := hk.lt
  obtain ⟨A0, c0, hv0, hl0, hl1⟩ := row_slice (hk.tab 1)
  have hvlt : ∀ g, (Value.slice A0 (H 1).length c0).ownBlock = some g → kb < g ∧ g < s := fun g hg => ⟨(hk.tlt 1 g (by rw [hv0]; exact hg)).1, hts 1 g (by rw [hv0]; exact hg)⟩
  have hupd := upd_same H 1
  obtain ⟨hb, hhb⟩ : ∃ hb, hb = H 1 := ⟨_, rfl⟩
  rw [← hhb] at hl0 hv0 hl hown hlt hsep hks hns hvlt hupd ⊢
  have HV := Lib.hid hv0
  have hk' : Bkn 46 tHs w kb N T (upd H 1 hb) := by rw [hupd]; exact hk
  clear hhb hupd
  rw [hv0]
  have hTne : ∀ g, (T 1).ownBlock = some g ↔ (Value.slice A0 hb.length c0).ownBlock = some g := fun g => by rw [hv0]
  clear hv0
  unfold maxLen at hl1
  go_enter Tryz.func38, Tryz.ntmps38
  go_wp2_with fail
  go_loopw [2] (fun i wr => ∃ (j : Nat) (hs1 : List Hl), j ≤ hb.length ∧ i = .int .i64 j ∧ Bkn 46 tHs wr kb N T (upd H 1 hs1) ∧ Hid (hs1.length = hb.length) ∧ Hid (∀ m : Nat, j ≤ m → hs1[m]? = hb[m]?) ∧ Hid (∀ (m : Nat) (h h' : Hl), m < j → hb[m]? = some h → hs1[m]? = some h' → GrownM mksB 5 wr B s w.heap.size h h') ∧
    Fr (fun b => Hits (hb.take j) b ∨ (Value.slice A0 hb.length c0).ownBlock = some b) w wr ∧ Below B w wr) (fun i _ => hb.length - (intOf i).toNat)
  case atStart => exact ⟨0, hb, Nat.zero_le _, rfl, hk', Lib.hid rfl, Lib.hid fun _ _ => rfl, Lib.hid fun m h h' hm => absurd hm (Nat.not_lt_zero _), Fr.refl _ _, Below.refl _ _⟩
  case round =>
    obtain ⟨j, hs1, hj, rfl, hkr, HLEN, HSAME, HDONE, hfr, hbel⟩ := hrel
    obtain ⟨wo, rfl⟩ : ∃ wo, wo = wr := ⟨_, rfl⟩
    have hcv : wo.cell? ⟨kb, 1, none⟩ = some (.slice A0 hb.length c0) := (hkr.cell 1).trans (congrArg some HV.out)
    have hkrl := hkr.lt
    by_cases hlt2 : j < hb.length
    · have hj1 : j < hs1.length := by rw [HLEN.out]; exact hlt2
      have htb := hkr.tab 1
      rw [upd_self, HV.out, ← HLEN.out] at htb
      obtain ⟨gt, ct, hv, hgt1, hgt2, _, _⟩ := row_form htb (by omega)
      injection hv with e1 e2 e3
      subst e1
      subst e3
      clear e2
      have hgtw := (hvlt gt rfl).2
      have t0 := row_cell htb j 0 hj1 (by omega)
      have t1 := row_cell htb j 1 hj1 (by omega)
      have t2 := row_cell htb j 2 hj1 (by omega)
      have hxe : hs1[j] = hb[j] := by
        have h := HSAME.out j (Nat.le_refl _)
        rw [List.getElem?_eq_getElem hj1, List.getElem?_eq_getElem hlt2] at h
        exact Option.some.inj h
      have hmem : hb[j] ∈ hb := List.getElem_mem _
      have ho := hown _ hmem
      have hkk := hks _ hmem
      have hnn := hns _ hmem
      have hll := hlt _ hmem
      have hnot : ∀ h ∈ hb.take j, ∀ g, Hit h g → ¬ Hit hb[j] g := sep_take hsep hlt2
      have htake := List.take_succ_eq_append_getElem hlt2
      have hjth : hb[j]? = some hb[j] := List.getElem?_eq_getElem hlt2
      rw [hxe] at t0 t1 t2
      have HXE := Lib.hid hxe
      clear hxe htb
      obtain ⟨x, hx⟩ : ∃ x, x = hb[j] := ⟨_, rfl⟩
      rw [← hx] at t0 t1 t2 ho hkk hnn hll hnot htake hjth HXE
      have HT := Lib.hid htake
      have HJ := Lib.hid hjth
      clear hx htake hmem hjth
      have ho1 := ho.fr hfr (fun g hc hA hh => by
        rcases hh with ⟨h, hm, hb'⟩ | hh
        · exact hnot h hm g hb' ⟨hc, hA⟩
        · exact (hll g ⟨hc, hA⟩).2.2 1 ((hTne g).2 hh)) (fun g hg hh => by
        rcases hh with ⟨h, hm, hb'⟩ | hh
        · have := (hlt h (List.mem_of_mem_take hm) g hb').1; omega
        · have := (hvlt g hh).2; omega)
      obtain ⟨xA, xn, xc, xL, xln, xlc, xk⟩ := x
      simp only [Hl.cells, List.getElem?_cons_zero, List.getElem?_cons_succ, Nat.add_zero] at t0 t1 t2 ho ho1 hkk hnn
      clear ho
      go_wp2_with fail
      have hkr2 : Bkn 46 tHs (wo.alloc (.cells #[.slice xA xn xc, .slice xL xln xlc, .int .i64 xk] 73)) kb N T (upd H 1 hs1) := hkr.below ((Below.refl _ wo).alloc (Nat.le_refl _) _)
      have ho2 : OwnM mksB (wo.alloc (.cells #[.slice xA xn xc, .slice xL xln xlc, .int .i64 xk] 73)) B 5 s xA xn xc xk := ho1.below ((Below.refl _ wo).alloc (Nat.le_refl _) _)
      have hx2 : Bx (wo.alloc (.cells #[.slice xA xn xc, .slice xL xln xlc, .int .i64 xk] 73)) wo.heap.size [.slice xA xn xc, .slice xL xln xlc, .int .i64 xk] := Bx.new wo _ _ _
      have hb2 : Below B w (wo.alloc (.cells #[.slice xA xn xc, .slice xL xln xlc, .int .i64 xk] 73)) := hbel.alloc (Nat.le_trans (by omega : B ≤ w.heap.size) hbel.size) _
      have hfro : Fr (fun b => Hit ⟨xA, xn, xc, xL, xln, xlc, xk⟩ b ∨ b = gt) wo (wo.alloc (.cells #[.slice xA xn xc, .slice xL xln xlc, .int .i64 xk] 73)) := (Fr.refl _ _).alloc _
      have hsz2 : wo.heap.size < (wo.alloc (.cells #[.slice xA xn xc, .slice xL xln xlc, .int .i64 xk] 73)).heap.size := by simp
      generalize wo.alloc (.cells #[.slice xA xn xc, .slice xL xln xlc, .int .i64 xk] 73) = w2 at *
      have hwsz : w.heap.size ≤ wo.heap.size := hbel.size
      go_loopw [4, 5] (fun v i wr => ∃ (q : Nat) (A' : Option Addr) (c' : Nat), q ≤ 40 ∧ i = .int .i64 q ∧ v = .slice A' (xn + q) c' ∧ OwnM mksB wr B 5 s A' (xn + q) c' xk ∧ OwnM mksB wr B 5 s xA xn xc xk ∧
        Fr (Hit ⟨xA, xn, xc, xL, xln, xlc, xk⟩) w2 wr ∧ Below B w2 wr ∧ Loc xA xc w2.heap.size A' c') (fun _ i _ => 40 - (intOf i).toNat)
      case atStart => exact ⟨0, xA, xc, by omega, rfl, rfl, ho2, ho2, Fr.refl _ _, Below.refl _ _, .inl ⟨rfl, rfl⟩⟩
      case round =>
        obtain ⟨q, A', c', hq, rfl, rfl, hoq, hox, hfq, hbq, hloc⟩ := hrel
        have hnl : ¬ Hit ⟨xA, xn, xc, xL, xln, xlc, xk⟩ wo.heap.size := fun hh => by have := (hll _ hh).1; omega
        have l2 : wr.cell? ⟨wo.heap.size, 2, none⟩ = some (.int .i64 xk) := (World.cell?_of_block (w := w2) (hfq.2 wo.heap.size hx2.1 hnl)).trans hx2.at2
        have hBwr : B ≤ wr.heap.size := by have := hbq.size; omega
        have hswr : s ≤ wr.heap.size := by have := hbq.size; omega
        by_cases hql : q < 40
        · go_wp2_with fail
          refine (mark9Byte xk hkk _).mono ?_
          rintro e wm ⟨rfl, hmis0, hbm⟩
          have hmis := mksB.mono hmis0 hswr
          obtain ⟨ys, hoq1, hoq2⟩ := hoq.below hbm
          have hoxm := hox.below hbm
          have hBwm : B ≤ wm.heap.size := Nat.le_trans hBwr hbm.size
          clear hmis0 hox hoq
          go_wp2_with (at_builtin; go_must (refine wpList_app1x wm rfl _ _ 71 rfl 5 i0 _ 1 Tryz.underlying71 hi0 hz0 hz1 hz2 rfl B A' (xn + q) c' _ rfl hoq1 1 rfl rfl ?c3 ?c4 ?c5 ?_))
          case c3 => simp only [maxLen]; omega
          case c4 => omega
          case c5 => exact hBwm
          intro A2 c2 w3 ho3 hb3 hf3 hat3 hold3
          have hf4 : ∀ k, k < wm.heap.size → ((xn + q = 0 ∧ c' = 0) ∨ A' ≠ some ⟨k, 0, none⟩) → w3.heap[k]? = wm.heap[k]? := fun k hk hh => hf3 k hk (by
            rcases hh with ⟨h1, h2⟩ | hh
            · first | exact .inl ⟨⟨by omega, by omega⟩, h2⟩ | exact .inl ⟨h1, h2⟩
            · exact .inr hh)
          have hmk3 : ∀ v ∈ ys, mksB.is w3 s xk v := fun v hv => mksB.app (hoq2 v hv) hoq1 (by decide) hf4
          have hmk4 : mksB.is w3 s xk (.int .u8 ((xk : Int) % 256)) := mksB.app hmis hoq1 (by decide) hf4
          have ho4 : OwnM mksB w3 B 5 s A2 (xn + (q + 1)) c2 xk := by
            refine ⟨ys ++ [(.int .u8 ((xk : Int) % 256))], ?_, fun v hv => ?_⟩
            · rw [← Nat.add_assoc]; exact ho3
            · rcases List.mem_append.1 hv with hv | hv
              · exact hmk3 v hv
              · rw [List.mem_singleton.1 hv]; exact hmk4
          have hox4 : OwnM mksB w3 B 5 s xA xn xc xk := by
            rcases hloc with ⟨rfl, rfl⟩ | ⟨g', rfl, hg'⟩
            · exact (show OwnM mksB w3 B 5 s A' (xn + q) c' xk from ⟨ys, hold3, hmk3⟩).less (by omega)
            · obtain ⟨zs, hz1', hz2'⟩ := hoxm
              refine ⟨zs, ?_, fun v hv => mksB.app (hz2' v hv) hoq1 (by decide) hf4⟩
              by_cases hc0 : xc = 0
              · have := hz1'.le
                exact ⟨hz1'.1, .inl ⟨by omega, hc0⟩⟩
              · refine hz1'.keep fun g hA _ _ hg => hf3 g hg (.inr ?_)
                intro he
                have hgg : g' = g := by
                  injection he with h1
                  injection h1
                have := (hll g ⟨by show 0 < xc; omega, hA⟩).1
                omega
          have hfqm : Fr (Hit ⟨xA, xn, xc, xL, xln, xlc, xk⟩) w2 wm := hfq.trans (Fr.of_below hbm)
          have hfq4 : Fr (Hit ⟨xA, xn, xc, xL, xln, xlc, xk⟩) w2 w3 := hfqm.later (s := w2.heap.size) ⟨hb3.size, fun b hb hnp => hf3 b hb (by
            by_cases hc0 : c' = 0
            · have := hoq1.le
              exact .inl ⟨by omega, hc0⟩
            · right
              intro he
              rcases hloc with ⟨h1, h2⟩ | ⟨g', h1, hg'⟩
              · exact hnp (.inl ⟨by show 0 < xc; omega, by rw [← h1]; exact he⟩)
              · rw [h1] at he
                cases he
                exact hnp (.inr hg'))⟩ (Nat.le_refl _)
          have hloc4 : Loc xA xc w2.heap.size A2 c2 := by
            rcases hat3 with ⟨rfl, rfl⟩ | h
            · exact hloc
            · exact .inr ⟨_, h, by have := hbq.size; have := hbm.size; omega⟩
          have hbq4 : Below B w2 w3 := (hbq.trans (hbm.mono hBwr)).trans hb3
          clear ho3 hf3 hf4 hat3 hold3 hmk3 hmk4 hoxm hoq1 hoq2 hfqm hbm hmis
          go_wp2
          go_roundw
          case rel => exact ⟨q + 1, A2, c2, by omega, by go_num, by first | rfl | (congr 1), ho4, hox4, hfq4, hbq4, hloc4⟩
          case measure => simp [intOf]; omega
        · obtain rfl : q = 40 := by omega
          have hk5 := hkr2.fr hfq (fun b hh => (hll b hh).2)
          have hc5 : wr.cell? ⟨kb, 1, none⟩ = some (.slice (some ⟨gt, 0, none⟩) hb.length c0) := (hk5.cell 1).trans (congrArg some HV.out)
          have hk6 := hk5.tab 1
          rw [upd_self, HV.out, ← HLEN.out] at hk6
          obtain ⟨u0, hcg⟩ : ∃ u0, wr.cell? ⟨gt, j * 3 + 1, none⟩ = some u0 := ⟨_, (row_cell hk6 j 1 hj1 (by omega)).trans (List.getElem?_eq_getElem (by show 1 < 3; omega))⟩
          have hfg : wr.frozen? ⟨gt, j * 3 + 1, none⟩ = false := hk6.frozenAt _
          have hk7 := hk5.long 1 (g := gt) (cap := c0) (by rw [upd_self, HLEN.out]; exact HV.out) j (by rw [upd_self]; exact hj1) A' (xn + 40) c'
          rw [upd_upd] at hk7
          simp only [upd_self, HXE.out] at hk7
          have hset : Fr (fun b => b = gt) wr (wr.setCell ⟨gt, j * 3 + 1, none⟩ (.slice A' (xn + 40) c')) := (Fr.refl (fun b => b = gt) wr).setCell (p := ⟨gt, j * 3 + 1, none⟩) rfl _
          have hfin : Fr (fun b => Hit ⟨xA, xn, xc, xL, xln, xlc, xk⟩ b ∨ b = gt) wo (wr.setCell ⟨gt, j * 3 + 1, none⟩ (.slice A' (xn + 40) c')) := (hfro.trans (hfq.mono fun b h => .inl h)).setCell (p := ⟨gt, j * 3 + 1, none⟩) (.inr rfl) _
          have hlen' : (hs1.set j ⟨xA, xn, xc, A', xn + 40, c', xk⟩).length = hb.length := by rw [List.length_set, HLEN.out]
          have hsame' : ∀ m : Nat, j + 1 ≤ m → (hs1.set j ⟨xA, xn, xc, A', xn + 40, c', xk⟩)[m]? = hb[m]? := fun m hm => by
            rw [List.getElem?_set_ne (by omega)]
            exact HSAME.out m (by omega)
          have hngt : ∀ g, s ≤ g → ¬ (g = gt) := fun g hg he => by omega
          have hdone' : ∀ (m : Nat) (h h' : Hl), m < j + 1 → hb[m]? = some h → (hs1.set j ⟨xA, xn, xc, A', xn + 40, c', xk⟩)[m]? = some h' → GrownM mksB 5 (wr.setCell ⟨gt, j * 3 + 1, none⟩ (.slice A' (xn + 40) c')) B s w.heap.size h h' := by
            intro m h h' hm h1 h2
            by_cases hmj : m = j
            · subst hmj
              rw [HJ.out] at h1
              cases h1
              rw [List.getElem?_set_self hj1] at h2
              cases h2
              refine ⟨rfl, rfl, rfl, rfl, rfl, hox.fr hset (fun g hc hA hg => (hll g ⟨hc, hA⟩).2.2 1 ((hTne g).2 (by rw [hg]; rfl))) hngt, hoq.fr hset (fun g hc hA hg => ?_) hngt, fun g hc hA => ?_⟩
              · rcases hloc with ⟨e1, e2⟩ | ⟨g', e1, hg'⟩
                · exact (hll g ⟨by show 0 < xc; omega, by rw [← e1]; exact hA⟩).2.2 1 ((hTne g).2 (by rw [hg]; rfl))
                · rw [e1] at hA
                  have hgg : g' = g := by
                    injection hA with h1
                    injection h1
                  omega
              · have hA : A' = some ⟨g, 0, none⟩ := hA
                have hc : 0 < c' := hc
                rcases hloc with ⟨e1, e2⟩ | ⟨g', e1, hg'⟩
                · exact .inl ⟨by show 0 < xc; omega, by rw [← e1]; exact hA⟩
                · rw [e1] at hA
                  have hgg : g' = g := by
                    injection hA with h1
                    injection h1
                  exact .inr (by omega)
            · rw [List.getElem?_set_ne (by omega)] at h2
              have hg := HDONE.out m h h' (by omega) h1 h2
              have hmm : h ∈ hb.take j := List.mem_of_getElem? (i := m) (by rw [List.getElem?_take, if_pos (by omega)]; exact h1)
              refine hg.fr hfin (fun g hg1 hg2 => ?_) (fun g hs hg2 => ?_) (fun g hs hg2 => ?_)
              · rcases hg2 with hx | hx
                · exact hnot h hmm g hg1 hx
                · exact (hlt h (List.mem_of_mem_take hmm) g hg1).2.2 1 ((hTne g).2 (by rw [hx]; rfl))
              · rcases hg2 with hx | hx
                · have := (hll g hx).1
                  omega
                · omega
              · rcases hg2 with hx | hx
                · have := (hll g hx).1
                  omega
                · omega
          have hfr' : Fr (fun b => Hits (hb.take (j + 1)) b ∨ (Value.slice (some ⟨gt, 0, none⟩) hb.length c0).ownBlock = some b) w (wr.setCell ⟨gt, j * 3 + 1, none⟩ (.slice A' (xn + 40) c')) := by
            rw [HT.out]
            refine (hfr.mono ?_).trans (hfin.mono ?_)
            · rintro b (⟨h, hm, hh⟩ | hh)
              · exact .inl ⟨h, List.mem_append_left _ hm, hh⟩
              · exact .inr hh
            · rintro b (hh | hh)
              · exact .inl ⟨_, List.mem_append_right _ (List.mem_singleton.2 rfl), hh⟩
              · exact .inr (by rw [hh]; rfl)
          have hbel' : Below B w (wr.setCell ⟨gt, j * 3 + 1, none⟩ (.slice A' (xn + 40) c')) := (hb2.trans hbq).setCell (p := ⟨gt, j * 3 + 1, none⟩) (by show B ≤ gt; have := (hvlt gt rfl).1; omega) _
          have H1 := Lib.hid hlen'
          have H2 := Lib.hid hsame'
          have H3 := Lib.hid hdone'
          clear hlen' hsame' hdone' hnot hown hlt hks hns hll hvlt hset hfin hTne hngt hk6
          go_wp2
          go_roundw
          case rel => exact ⟨j + 1, hs1.set j ⟨xA, xn, xc, A', xn + 40, c', xk⟩, by omega, by go_num, hk7, H1, H2, H3, hfr', hbel'⟩
          case measure => simp [intOf]; omega
    · obtain rfl : j = hb.length := by omega
      rw [List.take_length] at hfr
      go_wp2
      go_end0
      exact ⟨rfl, hs1, hkr, hfr, hbel, HLEN.out, fun m h h' hm hm' => HDONE.out m h h' (List.getElem?_eq_some_iff.1 hm).1 hm hm'⟩

set_option maxRecDepth 100000 in
set_option maxHeartbeats 1000000 in
theorem grow9Int (kb N B s : Nat) (T : Nat → Value) (H : Nat → List Hl) (w : World) (hk : Bkn 46 tHs w kb N T H)
    (hown : ∀ h ∈ H 2, OwnM mksI w B 3 s h.A h.n h.c h.k) (hlt : ∀ h ∈ H 2, ∀ g, Hit h g → OffLN kb T s g) (hts : ∀ j g, (T j).ownBlock = some g → g < s) (hsep : Sep (H 2)) (hks : ∀ h ∈ H 2, h.k < 1000000000) (hns : ∀ h ∈ H 2, h.n ≤ 1000000000) (hl : (H 2).length ≤ 1000000) (hBk : B ≤ kb) (hs : s ≤ w.heap.size) :
    Calls Tryz.prog 39 #[.pointer (some ⟨kb, 0, none⟩)] w fun e w' => e = .returned (.tuple #[]) ∧ ∃ hs', Bkn 46 tHs w' kb N T (upd H 2 hs') ∧ Fr (fun b => Hits (H 2) b ∨ (T 2).ownBlock = some b) w w' ∧ Below B w w' ∧ AllGrownM mksI 3 w' B s w.heap.size (H 2) hs' := by
  obtain ⟨i0, hi0, hz0, hz1, hz2⟩ := info_parts book9_info_int
  have hkbl := hk.lt
  obtain ⟨A0, c0, hv0, hl0, hl1⟩ := row_slice (hk.tab 2)
  have hvlt : ∀ g, (Value.slice A0 (H 2).length c0).ownBlock = some g → kb < g ∧ g < s := fun g hg => ⟨(hk.tlt 2 g (by rw [hv0]; exact hg)).1, hts 2 g (by rw [hv0]; exact hg)⟩
  have hupd := upd_same H 2
  obtain ⟨hb, hhb⟩ : ∃ hb, hb = H 2 := ⟨_, rfl⟩
  rw [← hhb] at hl0 hv0 hl hown hlt hsep hks hns hvlt hupd ⊢
  have HV := Lib.hid hv0
  have hk' : Bkn 46 tHs w kb N T (upd H 2 hb) := by rw [hupd]; exact hk
  clear hhb hupd
  rw [hv0]
  have hTne : ∀ g, (T 2).ownBlock = some g ↔ (Value.slice A0 hb.length c0).ownBlock = some g := fun g => by rw [hv0]
  clear hv0
  unfold maxLen at hl1
  go_enter Tryz.func39, Tryz.ntmps39
  go_wp2_with fail
  go_loopw [2] (fun i wr => ∃ (j : Nat) (hs1 : List Hl), j ≤ hb.length ∧ i = .int .i64 j ∧ Bkn 46 tHs wr kb N T (upd H 2 hs1) ∧ Hid (hs1.length = hb.length) ∧ Hid (∀ m : Nat, j ≤ m → hs1[m]? = hb[m]?) ∧ Hid (∀ (m : Nat) (h h' : Hl), m < j → hb[m]? = some h → hs1[m]? = some h' → GrownM mksI 3 wr B s w.heap.size h h') ∧
    Fr (fun b => Hits (hb.take j) b ∨ (Value.slice A0 hb.length c0).ownBlock = some b) w wr ∧ Below B w wr) (fun i _ => hb.length - (intOf i).toNat)
  case atStart => exact ⟨0, hb, Nat.zero_le _, rfl, hk', Lib.hid rfl, Lib.hid fun _ _ => rfl, Lib.hid fun m h h' hm => absurd hm (Nat.not_lt_zero _), Fr.refl _ _, Below.refl _ _⟩
  case round =>
    obtain ⟨j, hs1, hj, rfl, hkr, HLEN, HSAME, HDONE, hfr, hbel⟩ := hrel
    obtain ⟨wo, rfl⟩ : ∃ wo, wo = wr := ⟨_, rfl⟩
    have hcv : wo.cell? ⟨kb, 2, none⟩ = some (.slice A0 hb.length c0) := (hkr.cell 2).trans (congrArg some HV.out)
    have hkrl := hkr.lt
    by_cases hlt2 : j < hb.length
    · have hj1 : j < hs1.length := by rw [HLEN.out]; exact hlt2
      have htb := hkr.tab 2
      rw [upd_self, HV.out, ← HLEN.out] at htb
      obtain ⟨gt, ct, hv, hgt1, hgt2, _, _⟩ := row_form htb (by omega)
      injection hv with e1 e2 e3
      subst e1
      subst e3
      clear e2
      have hgtw := (hvlt gt rfl).2
      have t0 := row_cell htb j 0 hj1 (by omega)
      have t1 := row_cell htb j 1 hj1 (by omega)
      have t2 := row_cell htb j 2 hj1 (by omega)
      have hxe : hs1[j] = hb[j] := by
        have h := HSAME.out j (Nat.le_refl _)
        rw [List.getElem?_eq_getElem hj1, List.getElem?_eq_getElem hlt2] at h
        exact Option.some.inj h
      have hmem : hb[j] ∈ hb := List.getElem_mem _
      have ho := hown _ hmem
      have hkk := hks _ hmem
      have hnn := hns _ hmem
      have hll := hlt _ hmem
      have hnot : ∀ h ∈ hb.take j, ∀ g, Hit h g → ¬ Hit hb[j] g := sep_take hsep hlt2
      have htake := List.take_succ_eq_append_getElem hlt2
      have hjth : hb[j]? = some hb[j] := List.getElem?_eq_getElem hlt2
      rw [hxe] at t0 t1 t2
      have HXE := Lib.hid hxe
      clear hxe htb
      obtain ⟨x, hx⟩ : ∃ x, x = hb[j] := ⟨_, rfl⟩
      rw [← hx] at t0 t1 t2 ho hkk hnn hll hnot htake hjth HXE
      have HT := Lib.hid htake
      have HJ := Lib.hid hjth
      clear hx htake hmem hjth
      have ho1 := ho.fr hfr (fun g hc hA hh => by
        rcases hh with ⟨h, hm, hb'⟩ | hh
        · exact hnot h hm g hb' ⟨hc, hA⟩
        · exact (hll g ⟨hc, hA⟩).2.2 2 ((hTne g).2 hh)) (fun g hg hh => by
        rcases hh with ⟨h, hm, hb'⟩ | hh
        · have := (hlt h (List.mem_of_mem_take hm) g hb').1; omega
        · have := (hvlt g hh).2; omega)
      obtain ⟨xA, xn, xc, xL, xln, xlc, xk⟩ := x
      simp only [Hl.cells, List.getElem?_cons_zero, List.getElem?_cons_succ, Nat.add_zero] at t0 t1 t2 ho ho1 hkk hnn
      clear ho
      go_wp2_with fail
      have hkr2 : Bkn 46 tHs (wo.alloc (.cells #[.slice xA xn xc, .slice xL xln xlc, .int .i64 xk] 68)) kb N T (upd H 2 hs1) := hkr.below ((Below.refl _ wo).alloc (Nat.le_refl _) _)
      have ho2 : OwnM mksI (wo.alloc (.cells #[.slice xA xn xc, .slice xL xln xlc, .int .i64 xk] 68)) B 3 s xA xn xc xk := ho1.below ((Below.refl _ wo).alloc (Nat.le_refl _) _)
      have hx2 : Bx (wo.alloc (.cells #[.slice xA xn xc, .slice xL xln xlc, .int .i64 xk] 68)) wo.heap.size [.slice xA xn xc, .slice xL xln xlc, .int .i64 xk] := Bx.new wo _ _ _
      have hb2 : Below B w (wo.alloc (.cells #[.slice xA xn xc, .slice xL xln xlc, .int .i64 xk] 68)) := hbel.alloc (Nat.le_trans (by omega : B ≤ w.heap.size) hbel.size) _
      have hfro : Fr (fun b => Hit ⟨xA, xn, xc, xL, xln, xlc, xk⟩ b ∨ b = gt) wo (wo.alloc (.cells #[.slice xA xn xc, .slice xL xln xlc, .int .i64 xk] 68)) := (Fr.refl _ _).alloc _
      have hsz2 : wo.heap.size < (wo.alloc (.cells #[.slice xA xn xc, .slice xL xln xlc, .int .i64 xk] 68)).heap.size := by simp
      generalize wo.alloc (.cells #[.slice xA xn xc, .slice xL xln xlc, .int .i64 xk] 68) = w2 at *
      have hwsz : w.heap.size ≤ wo.heap.size := hbel.size
      go_loopw [4, 5] (fun v i wr => ∃ (q : Nat) (A' : Option Addr) (c' : Nat), q ≤ 40 ∧ i = .int .i64 q ∧ v = .slice A' (xn + q) c' ∧ OwnM mksI wr B 3 s A' (xn + q) c' xk ∧ OwnM mksI wr B 3 s xA xn xc xk ∧
        Fr (Hit ⟨xA, xn, xc, xL, xln, xlc, xk⟩) w2 wr ∧ Below B w2 wr ∧ Loc xA xc w2.heap.size A' c') (fun _ i _ => 40 - (intOf i).toNat)
      case atStart => exact ⟨0, xA, xc, by omega, rfl, rfl, ho2, ho2, Fr.refl _ _, Below.refl _ _, .inl ⟨rfl, rfl⟩⟩
      case round =>
        obtain ⟨q, A', c', hq, rfl, rfl, hoq, hox, hfq, hbq, hloc⟩ := hrel
        have hnl : ¬ Hit ⟨xA, xn, xc, xL, xln, xlc, xk⟩ wo.heap.size := fun hh => by have := (hll _ hh).1; omega
        have l2 : wr.cell? ⟨wo.heap.size, 2, none⟩ = some (.int .i64 xk) := (World.cell?_of_block (w := w2) (hfq.2 wo.heap.size hx2.1 hnl)).trans hx2.at2
        have hBwr : B ≤ wr.heap.size := by have := hbq.size; omega
        have hswr : s ≤ wr.heap.size := by have := hbq.size; omega
        by_cases hql : q < 40
        · go_wp2_with fail
          refine (mark9Int xk hkk _).mono ?_
          rintro e wm ⟨rfl, hmis0, hbm⟩
          have hmis := mksI.mono hmis0 hswr
          obtain ⟨ys, hoq1, hoq2⟩ := hoq.below hbm
          have hoxm := hox.below hbm
          have hBwm : B ≤ wm.heap.size := Nat.le_trans hBwr hbm.size
          clear hmis0 hox hoq
          go_wp2_with (at_builtin; go_must (refine wpList_app1x wm rfl _ _ 22 rfl 3 i0 _ 8 Tryz.underlying22 hi0 hz0 hz1 hz2 rfl B A' (xn + q) c' _ rfl hoq1 1 rfl rfl ?c3 ?c4 ?c5 ?_))
          case c3 => simp only [maxLen]; omega
          case c4 => omega
          case c5 => exact hBwm
          intro A2 c2 w3 ho3 hb3 hf3 hat3 hold3
          have hf4 : ∀ k, k < wm.heap.size → ((xn + q = 0 ∧ c' = 0) ∨ A' ≠ some ⟨k, 0, none⟩) → w3.heap[k]? = wm.heap[k]? := fun k hk hh => hf3 k hk (by
            rcases hh with ⟨h1, h2⟩ | hh
            · first | exact .inl ⟨⟨by omega, by omega⟩, h2⟩ | exact .inl ⟨h1, h2⟩
            · exact .inr hh)
          have hmk3 : ∀ v ∈ ys, mksI.is w3 s xk v := fun v hv => mksI.app (hoq2 v hv) hoq1 (by decide) hf4
          have hmk4 : mksI.is w3 s xk (.int .i64 (-(xk : Int))) := mksI.app hmis hoq1 (by decide) hf4
          have ho4 : OwnM mksI w3 B 3 s A2 (xn + (q + 1)) c2 xk := by
            refine ⟨ys ++ [(.int .i64 (-(xk : Int)))], ?_, fun v hv => ?_⟩
            · rw [← Nat.add_assoc]; exact ho3
            · rcases List.mem_append.1 hv with hv | hv
              · exact hmk3 v hv
              · rw [List.mem_singleton.1 hv]; exact hmk4
          have hox4 : OwnM mksI w3 B 3 s xA xn xc xk := by
            rcases hloc with ⟨rfl, rfl⟩ | ⟨g', rfl, hg'⟩
            · exact (show OwnM mksI w3 B 3 s A' (xn + q) c' xk from ⟨ys, hold3, hmk3⟩).less (by omega)
            · obtain ⟨zs, hz1', hz2'⟩ := hoxm
              refine ⟨zs, ?_, fun v hv => mksI.app (hz2' v hv) hoq1 (by decide) hf4⟩
              by_cases hc0 : xc = 0
              · have := hz1'.le
                exact ⟨hz1'.1, .inl ⟨by omega, hc0⟩⟩
              · refine hz1'.keep fun g hA _ _ hg => hf3 g hg (.inr ?_)
                intro he
                have hgg : g' = g := by
                  injection he with h1
                  injection h1
                have := (hll g ⟨by show 0 < xc; omega, hA⟩).1
                omega
          have hfqm : Fr (Hit ⟨xA, xn, xc, xL, xln, xlc, xk⟩) w2 wm := hfq.trans (Fr.of_below hbm)
          have hfq4 : Fr (Hit ⟨xA, xn, xc, xL, xln, xlc, xk⟩) w2 w3 := hfqm.later (s := w2.heap.size) ⟨hb3.size, fun b hb hnp => hf3 b hb (by
            by_cases hc0 : c' = 0
            · have := hoq1.le
              exact .inl ⟨by omega, hc0⟩
            · right
              intro he
              rcases hloc with ⟨h1, h2⟩ | ⟨g', h1, hg'⟩
              · exact hnp (.inl ⟨by show 0 < xc; omega, by rw [← h1]; exact he⟩)
              · rw [h1] at he
                cases he
                exact hnp (.inr hg'))⟩ (Nat.le_refl _)
          have hloc4 : Loc xA xc w2.heap.size A2 c2 := by
            rcases hat3 with ⟨rfl, rfl⟩ | h
            · exact hloc
            · exact .inr ⟨_, h, by have := hbq.size; have := hbm.size; omega⟩
          have hbq4 : Below B w2 w3 := (hbq.trans (hbm.mono hBwr)).trans hb3
          clear ho3 hf3 hf4 hat3 hold3 hmk3 hmk4 hoxm hoq1 hoq2 hfqm hbm hmis
          go_wp2
          go_roundw
          case rel => exact ⟨q + 1, A2, c2, by omega, by go_num, by first | rfl | (congr 1), ho4, hox4, hfq4, hbq4, hloc4⟩
          case measure => simp [intOf]; omega
        · obtain rfl : q = 40 := by omega
          have hk5 := hkr2.fr hfq (fun b hh => (hll b hh).2)
          have hc5 : wr.cell? ⟨kb, 2, none⟩ = some (.slice (some ⟨gt, 0, none⟩) hb.length c0) := (hk5.cell 2).trans (congrArg some HV.out)
          have hk6 := hk5.tab 2
          rw [upd_self, HV.out, ← HLEN.out] at hk6
          obtain ⟨u0, hcg⟩ : ∃ u0, wr.cell? ⟨gt, j * 3 + 1, none⟩ = some u0 := ⟨_, (row_cell hk6 j 1 hj1 (by omega)).trans (List.getElem?_eq_getElem (by show 1 < 3; omega))⟩
          have hfg : wr.frozen? ⟨gt, j * 3 + 1, none⟩ = false := hk6.frozenAt _
          have hk7 := hk5.long 2 (g := gt) (cap := c0) (by rw [upd_self, HLEN.out]; exact HV.out) j (by rw [upd_self]; exact hj1) A' (xn + 40) c'
          rw [upd_upd] at hk7
          simp only [upd_self, HXE.out] at hk7
          have hset : Fr (fun b => b = gt) wr (wr.setCell ⟨gt, j * 3 + 1, none⟩ (.slice A' (xn + 40) c')) := (Fr.refl (fun b => b = gt) wr).setCell (p := ⟨gt, j * 3 + 1, none⟩) rfl _
          have hfin : Fr (fun b => Hit ⟨xA, xn, xc, xL, xln, xlc, xk⟩ b ∨ b = gt) wo (wr.setCell ⟨gt, j * 3 + 1, none⟩ (.slice A' (xn + 40) c')) := (hfro.trans (hfq.mono fun b h => .inl h)).setCell (p := ⟨gt, j * 3 + 1, none⟩) (.inr rfl) _
          have hlen' : (hs1.set j ⟨xA, xn, xc, A', xn + 40, c', xk⟩).length = hb.length := by rw [List.length_set, HLEN.out]
          have hsame' : ∀ m : Nat, j + 1 ≤ m → (hs1.set j ⟨xA, xn, xc, A', xn + 40, c', xk⟩)[m]? = hb[m]? := fun m hm => by
            rw [List.getElem?_set_ne (by omega)]
            exact HSAME.out m (by omega)
          have hngt : ∀ g, s ≤ g → ¬ (g = gt) := fun g hg he => by omega
          have hdone' : ∀ (m : Nat) (h h' : Hl), m < j + 1 → hb[m]? = some h → (hs1.set j ⟨xA, xn, xc, A', xn + 40, c', xk⟩)[m]? = some h' → GrownM mksI 3 (wr.setCell ⟨gt, j * 3 + 1, none⟩ (.slice A' (xn + 40) c')) B s w.heap.size h h' := by
            intro m h h' hm h1 h2
            by_cases hmj : m = j
            · subst hmj
              rw [HJ.out] at h1
              cases h1
              rw [List.getElem?_set_self hj1] at h2
              cases h2
              refine ⟨rfl, rfl, rfl, rfl, rfl, hox.fr hset (fun g hc hA hg => (hll g ⟨hc, hA⟩).2.2 2 ((hTne g).2 (by rw [hg]; rfl))) hngt, hoq.fr hset (fun g hc hA hg => ?_) hngt, fun g hc hA => ?_⟩
              · rcases hloc with ⟨e1, e2⟩ | ⟨g', e1, hg'⟩
                · exact (hll g ⟨by show 0 < xc; omega, by rw [← e1]; exact hA⟩).2.2 2 ((hTne g).2 (by rw [hg]; rfl))
                · rw [e1] at hA
                  have hgg : g' = g := by
                    injection hA with h1
                    injection h1
                  omega
              · have hA : A' = some ⟨g, 0, none⟩ := hA
                have hc : 0 < c' := hc
                rcases hloc with ⟨e1, e2⟩ | ⟨g', e1, hg'⟩
                · exact .inl ⟨by show 0 < xc; omega, by rw [← e1]; exact hA⟩
                · rw [e1] at hA
                  have hgg : g' = g := by
                    injection hA with h1
                    injection h1
                  exact .inr (by omega)
            · rw [List.getElem?_set_ne (by omega)] at h2
              have hg := HDONE.out m h h' (by omega) h1 h2
              have hmm : h ∈ hb.take j := List.mem_of_getElem? (i := m) (by rw [List.getElem?_take, if_pos (by omega)]; exact h1)
              refine hg.fr hfin (fun g hg1 hg2 => ?_) (fun g hs hg2 => ?_) (fun g hs hg2 => ?_)
              · rcases hg2 with hx | hx
                · exact hnot h hmm g hg1 hx
                · exact (hlt h (List.mem_of_mem_take hmm) g hg1).2.2 2 ((hTne g).2 (by rw [hx]; rfl))
              · rcases hg2 with hx | hx
                · have := (hll g hx).1
                  omega
                · omega
              · rcases hg2 with hx | hx
                · have := (hll g hx).1
                  omega
                · omega
          have hfr' : Fr (fun b => Hits (hb.take (j + 1)) b ∨ (Value.slice (some ⟨gt, 0, none⟩) hb.length c0).ownBlock = some b) w (wr.setCell ⟨gt, j * 3 + 1, none⟩ (.slice A' (xn + 40) c')) := by
            rw [HT.out]
            refine (hfr.mono ?_).trans (hfin.mono ?_)
            · rintro b (⟨h, hm, hh⟩ | hh)
              · exact .inl ⟨h, List.mem_append_left _ hm, hh⟩
              · exact .inr hh
            · rintro b (hh | hh)
              · exact .inl ⟨_, List.mem_append_right _ (List.mem_singleton.2 rfl), hh⟩
              · exact .inr (by rw [hh]; rfl)
          have hbel' : Below B w (wr.setCell ⟨gt, j * 3 + 1, none⟩ (.slice A' (xn + 40) c')) := (hb2.trans hbq).setCell (p := ⟨gt, j * 3 + 1, none⟩) (by show B ≤ gt; have := (hvlt gt rfl).1; omega) _
          have H1 := Lib.hid hlen'
          have H2 := Lib.hid hsame'
          have H3 := Lib.hid hdone'
          clear hlen' hsame' hdone' hnot hown hlt hks hns hll hvlt hset hfin hTne hngt hk6
          go_wp2
          go_roundw
          case rel => exact ⟨j + 1, hs1.set j ⟨xA, xn, xc, A', xn + 40, c', xk⟩, by omega, by go_num, hk7, H1, H2, H3, hfr', hbel'⟩
          case measure => simp [intOf]; omega
    · obtain rfl : j = hb.length := by omega
      rw [List.take_length] at hfr
      go_wp2
      go_end0
      exact ⟨rfl, hs1, hkr, hfr, hbel, HLEN.out, fun m h h' hm hm' => HDONE.out m h h' (List.getElem?_eq_some_iff.1 hm).1 hm hm'⟩

set_option maxRecDepth 100000 in
set_option maxHeartbeats 1000000 in
theorem grow9IntList (kb N B s : Nat) (T : Nat → Value) (H : Nat → List Hl) (w : World) (hk : Bkn 46 tHs w kb N T H)
    (hown : ∀ h ∈ H 4, OwnM mksL w B 22 s h.A h.n h.c h.k) (hlt : ∀ h ∈ H 4, ∀ g, Hit h g → OffLN kb T s g) (hts : ∀ j g, (T j).ownBlock = some g → g < s) (hsep : Sep (H 4)) (hks : ∀ h ∈ H 4, h.k < 1000000000) (hns : ∀ h ∈ H 4, h.n ≤ 1000000000) (hl : (H 4).length ≤ 1000000) (hBk : B ≤ kb) (hs : s ≤ w.heap.size) :
    Calls Tryz.prog 41 #[.pointer (some ⟨kb, 0, none⟩)] w fun e w' => e = .returned (.tuple #[]) ∧ ∃ hs', Bkn 46 tHs w' kb N T (upd H 4 hs') ∧ Fr (fun b => Hits (H 4) b ∨ (T 4).ownBlock = some b) w w' ∧ Below B w w' ∧ AllGrownM mksL 22 w' B s w.heap.size (H 4) hs' := by
  obtain ⟨i0, hi0, hz0, hz1, hz2⟩ := info_parts book9_info_ints
  have hkbl := hk.lt
  obtain ⟨A0, c0, hv0, hl0, hl1⟩ := row_slice (hk.tab 4)
  have hvlt : ∀ g, (Value.slice A0 (H 4).length c0).ownBlock = some g → kb < g ∧ g < s := fun g hg => ⟨(hk.tlt 4 g (by rw [hv0]; exact hg)).1, hts 4 g (by rw [hv0]; exact hg)⟩
  have hupd := upd_same H 4
  obtain ⟨hb, hhb⟩ : ∃ hb, hb = H 4 := ⟨_, rfl⟩
  rw [← hhb] at hl0 hv0 hl hown hlt hsep hks hns hvlt hupd ⊢
  have HV := Lib.hid hv0
  have hk' : Bkn 46 tHs w kb N T (upd H 4 hb) := by rw [hupd]; exact hk
  clear hhb hupd
  rw [hv0]
  have hTne : ∀ g, (T 4).ownBlock = some g ↔ (Value.slice A0 hb.length c0).ownBlock = some g := fun g => by rw [hv0]
  clear hv0
  unfold maxLen at hl1
  go_enter Tryz.func41, Tryz.ntmps41
  go_wp2_with fail
  go_loopw [2] (fun i wr => ∃ (j : Nat) (hs1 : List Hl), j ≤ hb.length ∧ i = .int .i64 j ∧ Bkn 46 tHs wr kb N T (upd H 4 hs1) ∧ Hid (hs1.length = hb.length) ∧ Hid (∀ m : Nat, j ≤ m → hs1[m]? = hb[m]?) ∧ Hid (∀ (m : Nat) (h h' : Hl), m < j → hb[m]? = some h → hs1[m]? = some h' → GrownM mksL 22 wr B s w.heap.size h h') ∧
    Fr (fun b => Hits (hb.take j) b ∨ (Value.slice A0 hb.length c0).ownBlock = some b) w wr ∧ Below B w wr) (fun i _ => hb.length - (intOf i).toNat)
  case atStart => exact ⟨0, hb, Nat.zero_le _, rfl, hk', Lib.hid rfl, Lib.hid fun _ _ => rfl, Lib.hid fun m h h' hm => absurd hm (Nat.not_lt_zero _), Fr.refl _ _, Below.refl _ _⟩
  case round =>
    obtain ⟨j, hs1, hj, rfl, hkr, HLEN, HSAME, HDONE, hfr, hbel⟩ := hrel
    obtain ⟨wo, rfl⟩ : ∃ wo, wo = wr := ⟨_, rfl⟩
    have hcv : wo.cell? ⟨kb, 4, none⟩ = some (.slice A0 hb.length c0) := (hkr.cell 4).trans (congrArg some HV.out)
    have hkrl := hkr.lt
    by_cases hlt2 : j < hb.length
    · have hj1 : j < hs1.length := by rw [HLEN.out]; exact hlt2
      have htb := hkr.tab 4
      rw [upd_self, HV.out, ← HLEN.out] at htb
      obtain ⟨gt, ct, hv, hgt1, hgt2, _, _⟩ := row_form htb (by omega)
      injection hv with e1 e2 e3
      subst e1
      subst e3
      clear e2
      have hgtw := (hvlt gt rfl).2
      have t0 := row_cell htb j 0 hj1 (by omega)
      have t1 := row_cell htb j 1 hj1 (by omega)
      have t2 := row_cell htb j 2 hj1 (by omega)
      have hxe : hs1[j] = hb[j] := by
        have h := HSAME.out j (Nat.le_refl _)
        rw [List.getElem?_eq_getElem hj1, List.getElem?_eq_getElem hlt2] at h
        exact Option.some.inj h
      have hmem : hb[j] ∈ hb := List.getElem_mem _
      have ho := hown _ hmem
      have hkk := hks _ hmem
      have hnn := hns _ hmem
      have hll := hlt _ hmem
      have hnot : ∀ h ∈ hb.take j, ∀ g, Hit h g → ¬ Hit hb[j] g := sep_take hsep hlt2
      have htake := List.take_succ_eq_append_getElem hlt2
      have hjth : hb[j]? = some hb[j] := List.getElem?_eq_getElem hlt2
      rw [hxe] at t0 t1 t2
      have HXE := Lib.hid hxe
      clear hxe htb
      obtain ⟨x, hx⟩ : ∃ x, x = hb[j] := ⟨_, rfl⟩
      rw [← hx] at t0 t1 t2 ho hkk hnn hll hnot htake hjth HXE
      have HT := Lib.hid htake
      have HJ := Lib.hid hjth
      clear hx htake hmem hjth
      have ho1 := ho.fr hfr (fun g hc hA hh => by
        rcases hh with ⟨h, hm, hb'⟩ | hh
        · exact hnot h hm g hb' ⟨hc, hA⟩
        · exact (hll g ⟨hc, hA⟩).2.2 4 ((hTne g).2 hh)) (fun g hg hh => by
        rcases hh with ⟨h, hm, hb'⟩ | hh
        · have := (hlt h (List.mem_of_mem_take hm) g hb').1; omega
        · have := (hvlt g hh).2; omega)
      obtain ⟨xA, xn, xc, xL, xln, xlc, xk⟩ := x
      simp only [Hl.cells, List.getElem?_cons_zero, List.getElem?_cons_succ, Nat.add_zero] at t0 t1 t2 ho ho1 hkk hnn
      clear ho
      go_wp2_with fail
      have hkr2 : Bkn 46 tHs (wo.alloc (.cells #[.slice xA xn xc, .slice xL xln xlc, .int .i64 xk] 70)) kb N T (upd H 4 hs1) := hkr.below ((Below.refl _ wo).alloc (Nat.le_refl _) _)
      have ho2 : OwnM mksL (wo.alloc (.cells #[.slice xA xn xc, .slice xL xln xlc, .int .i64 xk] 70)) B 22 s xA xn xc xk := ho1.below ((Below.refl _ wo).alloc (Nat.le_refl _) _)
      have hx2 : Bx (wo.alloc (.cells #[.slice xA xn xc, .slice xL xln xlc, .int .i64 xk] 70)) wo.heap.size [.slice xA xn xc, .slice xL xln xlc, .int .i64 xk] := Bx.new wo _ _ _
      have hb2 : Below B w (wo.alloc (.cells #[.slice xA xn xc, .slice xL xln xlc, .int .i64 xk] 70)) := hbel.alloc (Nat.le_trans (by omega : B ≤ w.heap.size) hbel.size) _
      have hfro : Fr (fun b => Hit ⟨xA, xn, xc, xL, xln, xlc, xk⟩ b ∨ b = gt) wo (wo.alloc (.cells #[.slice xA xn xc, .slice xL xln xlc, .int .i64 xk] 70)) := (Fr.refl _ _).alloc _
      have hsz2 : wo.heap.size < (wo.alloc (.cells #[.slice xA xn xc, .slice xL xln xlc, .int .i64 xk] 70)).heap.size := by simp
      generalize wo.alloc (.cells #[.slice xA xn xc, .slice xL xln xlc, .int .i64 xk] 70) = w2 at *
      have hwsz : w.heap.size ≤ wo.heap.size := hbel.size
      go_loopw [4, 5] (fun v i wr => ∃ (q : Nat) (A' : Option Addr) (c' : Nat), q ≤ 40 ∧ i = .int .i64 q ∧ v = .slice A' (xn + q) c' ∧ OwnM mksL wr B 22 s A' (xn + q) c' xk ∧ OwnM mksL wr B 22 s xA xn xc xk ∧
        Fr (Hit ⟨xA, xn, xc, xL, xln, xlc, xk⟩) w2 wr ∧ Below B w2 wr ∧ Loc xA xc w2.heap.size A' c') (fun _ i _ => 40 - (intOf i).toNat)
      case atStart => exact ⟨0, xA, xc, by omega, rfl, rfl, ho2, ho2, Fr.refl _ _, Below.refl _ _, .inl ⟨rfl, rfl⟩⟩
      case round =>
        obtain ⟨q, A', c', hq, rfl, rfl, hoq, hox, hfq, hbq, hloc⟩ := hrel
        have hnl : ¬ Hit ⟨xA, xn, xc, xL, xln, xlc, xk⟩ wo.heap.size := fun hh => by have := (hll _ hh).1; omega
        have l2 : wr.cell? ⟨wo.heap.size, 2, none⟩ = some (.int .i64 xk) := (World.cell?_of_block (w := w2) (hfq.2 wo.heap.size hx2.1 hnl)).trans hx2.at2
        have hBwr : B ≤ wr.heap.size := by have := hbq.size; omega
        have hswr : s ≤ wr.heap.size := by have := hbq.size; omega
        by_cases hql : q < 40
        · go_wp2_with fail
          refine (mark9IntList xk hkk _).mono ?_
          rintro e wm ⟨m, rfl, hmis0, hbm⟩
          have hmis := mksL.mono hmis0 hswr
          obtain ⟨ys, hoq1, hoq2⟩ := hoq.below hbm
          have hoxm := hox.below hbm
          have hBwm : B ≤ wm.heap.size := Nat.le_trans hBwr hbm.size
          clear hmis0 hox hoq
          go_wp2_with (at_builtin; go_must (refine wpList_app1x wm rfl _ _ 23 rfl 22 i0 _ 24 Tryz.underlying23 hi0 hz0 hz1 hz2 rfl B A' (xn + q) c' _ rfl hoq1 1 rfl rfl ?c3 ?c4 ?c5 ?_))
          case c3 => simp only [maxLen]; omega
          case c4 => omega
          case c5 => exact hBwm
          intro A2 c2 w3 ho3 hb3 hf3 hat3 hold3
          have hf4 : ∀ k, k < wm.heap.size → ((xn + q = 0 ∧ c' = 0) ∨ A' ≠ some ⟨k, 0, none⟩) → w3.heap[k]? = wm.heap[k]? := fun k hk hh => hf3 k hk (by
            rcases hh with ⟨h1, h2⟩ | hh
            · first | exact .inl ⟨⟨by omega, by omega⟩, h2⟩ | exact .inl ⟨h1, h2⟩
            · exact .inr hh)
          have hmk3 : ∀ v ∈ ys, mksL.is w3 s xk v := fun v hv => mksL.app (hoq2 v hv) hoq1 (by decide) hf4
          have hmk4 : mksL.is w3 s xk (.slice (some ⟨m, 0, none⟩) 1 1) := mksL.app hmis hoq1 (by decide) hf4
          have ho4 : OwnM mksL w3 B 22 s A2 (xn + (q + 1)) c2 xk := by
            refine ⟨ys ++ [(.slice (some ⟨m, 0, none⟩) 1 1)], ?_, fun v hv => ?_⟩
            · rw [← Nat.add_assoc]; exact ho3
            · rcases List.mem_append.1 hv with hv | hv
              · exact hmk3 v hv
              · rw [List.mem_singleton.1 hv]; exact hmk4
          have hox4 : OwnM mksL w3 B 22 s xA xn xc xk := by
            rcases hloc with ⟨rfl, rfl⟩ | ⟨g', rfl, hg'⟩
            · exact (show OwnM mksL w3 B 22 s A' (xn + q) c' xk from ⟨ys, hold3, hmk3⟩).less (by omega)
            · obtain ⟨zs, hz1', hz2'⟩ := hoxm
              refine ⟨zs, ?_, fun v hv => mksL.app (hz2' v hv) hoq1 (by decide) hf4⟩
              by_cases hc0 : xc = 0
              · have := hz1'.le
                exact ⟨hz1'.1, .inl ⟨by omega, hc0⟩⟩
              · refine hz1'.keep fun g hA _ _ hg => hf3 g hg (.inr ?_)
                intro he
                have hgg : g' = g := by
                  injection he with h1
                  injection h1
                have := (hll g ⟨by show 0 < xc; omega, hA⟩).1
                omega
          have hfqm : Fr (Hit ⟨xA, xn, xc, xL, xln, xlc, xk⟩) w2 wm := hfq.trans (Fr.of_below hbm)
          have hfq4 : Fr (Hit ⟨xA, xn, xc, xL, xln, xlc, xk⟩) w2 w3 := hfqm.later (s := w2.heap.size) ⟨hb3.size, fun b hb hnp => hf3 b hb (by
            by_cases hc0 : c' = 0
            · have := hoq1.le
              exact .inl ⟨by omega, hc0⟩
            · right
              intro he
              rcases hloc with ⟨h1, h2⟩ | ⟨g', h1, hg'⟩
              · exact hnp (.inl ⟨by show 0 < xc; omega, by rw [← h1]; exact he⟩)
              · rw [h1] at he
                cases he
                exact hnp (.inr hg'))⟩ (Nat.le_refl _)
          have hloc4 : Loc xA xc w2.heap.size A2 c2 := by
            rcases hat3 with ⟨rfl, rfl⟩ | h
            · exact hloc
            · exact .inr ⟨_, h, by have := hbq.size; have := hbm.size; omega⟩
          have hbq4 : Below B w2 w3 := (hbq.trans (hbm.mono hBwr)).trans hb3
          clear ho3 hf3 hf4 hat3 hold3 hmk3 hmk4 hoxm hoq1 hoq2 hfqm hbm hmis
          go_wp2
          go_roundw
          case rel => exact ⟨q + 1, A2, c2, by omega, by go_num, by first | rfl | (congr 1), ho4, hox4, hfq4, hbq4, hloc4⟩
          case measure => simp [intOf]; omega
        · obtain rfl : q = 40 := by omega
          have hk5 := hkr2.fr hfq (fun b hh => (hll b hh).2)
          have hc5 : wr.cell? ⟨kb, 4, none⟩ = some (.slice (some ⟨gt, 0, none⟩) hb.length c0) := (hk5.cell 4).trans (congrArg some HV.out)
          have hk6 := hk5.tab 4
          rw [upd_self, HV.out, ← HLEN.out] at hk6
          obtain ⟨u0, hcg⟩ : ∃ u0, wr.cell? ⟨gt, j * 3 + 1, none⟩ = some u0 := ⟨_, (row_cell hk6 j 1 hj1 (by omega)).trans (List.getElem?_eq_getElem (by show 1 < 3; omega))⟩
          have hfg : wr.frozen? ⟨gt, j * 3 + 1, none⟩ = false := hk6.frozenAt _
          have hk7 := hk5.long 4 (g := gt) (cap := c0) (by rw [upd_self, HLEN.out]; exact HV.out) j (by rw [upd_self]; exact hj1) A' (xn + 40) c'
          rw [upd_upd] at hk7
          simp only [upd_self, HXE.out] at hk7
          have hset : Fr (fun b => b = gt) wr (wr.setCell ⟨gt, j * 3 + 1, none⟩ (.slice A' (xn + 40) c')) := (Fr.refl (fun b => b = gt) wr).setCell (p := ⟨gt, j * 3 + 1, none⟩) rfl _
          have hfin : Fr (fun b => Hit ⟨xA, xn, xc, xL, xln, xlc, xk⟩ b ∨ b = gt) wo (wr.setCell ⟨gt, j * 3 + 1, none⟩ (.slice A' (xn + 40) c')) := (hfro.trans (hfq.mono fun b h => .inl h)).setCell (p := ⟨gt, j * 3 + 1, none⟩) (.inr rfl) _
          have hlen' : (hs1.set j ⟨xA, xn, xc, A', xn + 40, c', xk⟩).length = hb.length := by rw [List.length_set, HLEN.out]
          have hsame' : ∀ m : Nat, j + 1 ≤ m → (hs1.set j ⟨xA, xn, xc, A', xn + 40, c', xk⟩)[m]? = hb[m]? := fun m hm => by
            rw [List.getElem?_set_ne (by omega)]
            exact HSAME.out m (by omega)
          have hngt : ∀ g, s ≤ g → ¬ (g = gt) := fun g hg he => by omega
          have hdone' : ∀ (m : Nat) (h h' : Hl), m < j + 1 → hb[m]? = some h → (hs1.set j ⟨xA, xn, xc, A', xn + 40, c', xk⟩)[m]? = some h' → GrownM mksL 22 (wr.setCell ⟨gt, j * 3 + 1, none⟩ (.slice A' (xn + 40) c')) B s w.heap.size h h' := by
            intro m h h' hm h1 h2
            by_cases hmj : m = j
            · subst hmj
              rw [HJ.out] at h1
              cases h1
              rw [List.getElem?_set_self hj1] at h2
              cases h2
              refine ⟨rfl, rfl, rfl, rfl, rfl, hox.fr hset (fun g hc hA hg => (hll g ⟨hc, hA⟩).2.2 4 ((hTne g).2 (by rw [hg]; rfl))) hngt, hoq.fr hset (fun g hc hA hg => ?_) hngt, fun g hc hA => ?_⟩
              · rcases hloc with ⟨e1, e2⟩ | ⟨g', e1, hg'⟩
                · exact (hll g ⟨by show 0 < xc; omega, by rw [← e1]; exact hA⟩).2.2 4 ((hTne g).2 (by rw [hg]; rfl))
                · rw [e1] at hA
                  have hgg : g' = g := by
                    injection hA with h1
                    injection h1
                  omega
              · have hA : A' = some ⟨g, 0, none⟩ := hA
                have hc : 0 < c' := hc
                rcases hloc with ⟨e1, e2⟩ | ⟨g', e1, hg'⟩
                · exact .inl ⟨by show 0 < xc; omega, by rw [← e1]; exact hA⟩
                · rw [e1] at hA
                  have hgg : g' = g := by
                    injection hA with h1
                    injection h1
                  exact .inr (by omega)
            · rw [List.getElem?_set_ne (by omega)] at h2
              have hg := HDONE.out m h h' (by omega) h1 h2
              have hmm : h ∈ hb.take j := List.mem_of_getElem? (i := m) (by rw [List.getElem?_take, if_pos (by omega)]; exact h1)
              refine hg.fr hfin (fun g hg1 hg2 => ?_) (fun g hs hg2 => ?_) (fun g hs hg2 => ?_)
              · rcases hg2 with hx | hx
                · exact hnot h hmm g hg1 hx
                · exact (hlt h (List.mem_of_mem_take hmm) g hg1).2.2 4 ((hTne g).2 (by rw [hx]; rfl))
              · rcases hg2 with hx | hx
                · have := (hll g hx).1
                  omega
                · omega
              · rcases hg2 with hx | hx
                · have := (hll g hx).1
                  omega
                · omega
          have hfr' : Fr (fun b => Hits (hb.take (j + 1)) b ∨ (Value.slice (some ⟨gt, 0, none⟩) hb.length c0).ownBlock = some b) w (wr.setCell ⟨gt, j * 3 + 1, none⟩ (.slice A' (xn + 40) c')) := by
            rw [HT.out]
            refine (hfr.mono ?_).trans (hfin.mono ?_)
            · rintro b (⟨h, hm, hh⟩ | hh)
              · exact .inl ⟨h, List.mem_append_left _ hm, hh⟩
              · exact .inr hh
            · rintro b (hh | hh)
              · exact .inl ⟨_, List.mem_append_right _ (List.mem_singleton.2 rfl), hh⟩
              · exact .inr (by rw [hh]; rfl)
          have hbel' : Below B w (wr.setCell ⟨gt, j * 3 + 1, none⟩ (.slice A' (xn + 40) c')) := (hb2.trans hbq).setCell (p := ⟨gt, j * 3 + 1, none⟩) (by show B ≤ gt; have := (hvlt gt rfl).1; omega) _
          have H1 := Lib.hid hlen'
          have H2 := Lib.hid hsame'
          have H3 := Lib.hid hdone'
          clear hlen' hsame' hdone' hnot hown hlt hks hns hll hvlt hset hfin hTne hngt hk6
          go_wp2
          go_roundw
          case rel => exact ⟨j + 1, hs1.set j ⟨xA, xn, xc, A', xn + 40, c', xk⟩, by omega, by go_num, hk7, H1, H2, H3, hfr', hbel'⟩
          case measure => simp [intOf]; omega
    · obtain rfl : j = hb.length := by omega
      rw [List.take_length] at hfr
      go_wp2
      go_end0
      exact ⟨rfl, hs1, hkr, hfr, hbel, HLEN.out, fun m h h' hm hm' => HDONE.out m h h' (List.getElem?_eq_some_iff.1 hm).1 hm hm'⟩

end Go.Proofs.YtjjaajmjcdihoaaGreatDoor
