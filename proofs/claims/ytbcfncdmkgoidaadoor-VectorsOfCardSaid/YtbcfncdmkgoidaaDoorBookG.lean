/-
  Walks of the Book: growByte and growInt: 40 marks are put behind each list.
-/
import Derived.Test.YtbcfncdmkgoidaaDoorProg
import Derived.Test.YtbcfncdmkgoidaaDoorBookF
import Derived.Test.YtbcfncdmkgoidaaDoorKit2
import Derived.BigQuiet
import Derived.Deep.QuietTactic
import Derived.Deep.DeepMust
namespace Go.Proofs.YtbcfncdmkgoidaaDoor
open Go.RowKit
set_option linter.unusedVariables false

theorem book_info_u8 : (Tryd.prog.info? 5).map (fun i => (i.zero, i.size, i.bytes)) = some (some (.int .u8 0), 1, 1) := by kernel_rfl
theorem book_info_int : (Tryd.prog.info? 3).map (fun i => (i.zero, i.size, i.bytes)) = some (some (.int .i64 0), 1, 8) := by kernel_rfl

set_option maxRecDepth 100000 in
set_option maxHeartbeats 1000000 in
theorem growByte_any (kb N B : Nat) (vb vi : Value) (hb hi : List Hl) (w : World) (hk : Bk 43 62 60 w kb N vb vi hb hi)
    (hown : ∀ h ∈ hb, Own w B 5 h.A h.n h.c (List.replicate h.n (mkB h.k))) (hlt : ∀ h ∈ hb, ∀ g, Hit h g → OffL kb vb vi w.heap.size g) (hsep : Sep hb) (hks : ∀ h ∈ hb, h.k < 1000) (hns : ∀ h ∈ hb, h.n ≤ 1000000000) (hl : hb.length ≤ 900) (hBk : B ≤ kb) :
    Calls Tryd.prog 36 #[.pointer (some ⟨kb, 0, none⟩)] w fun e w' => e = .returned (.tuple #[]) ∧ ∃ hs', Bk 43 62 60 w' kb N vb vi hs' hi ∧ Fr (fun b => Hits hb b ∨ vb.ownBlock = some b) w w' ∧ Below B w w' ∧ AllGrown 5 mkB w' B w.heap.size hb hs' := by
  obtain ⟨i0, hi0, hz0, hz1, hz2⟩ := info_parts book_info_u8
  have hkbl := hk.lt
  have hvlt : ∀ g, vb.ownBlock = some g → kb < g ∧ g < w.heap.size := fun g hg => by have h := hk.tb.lt g hg; omega
  obtain ⟨A0, c0, hv0, hl0, hl1⟩ := row_slice hk.tb
  subst hv0
  unfold maxLen at hl1
  go_enter Tryd.func36, Tryd.ntmps36
  go_wp2_with fail
  go_loopw [2] (fun i wr => ∃ (j : Nat) (hs1 : List Hl), j ≤ hb.length ∧ i = .int .i64 j ∧ Bk 43 62 60 wr kb N (.slice A0 hb.length c0) vi hs1 hi ∧ Hid (hs1.length = hb.length) ∧ Hid (∀ m : Nat, j ≤ m → hs1[m]? = hb[m]?) ∧ Hid (∀ (m : Nat) (h h' : Hl), m < j → hb[m]? = some h → hs1[m]? = some h' → Grown1 5 mkB wr B w.heap.size h h') ∧
    Fr (fun b => Hits (hb.take j) b ∨ (Value.slice A0 hb.length c0).ownBlock = some b) w wr ∧ Below B w wr) (fun i _ => hb.length - (intOf i).toNat)
  case atStart => exact ⟨0, hb, Nat.zero_le _, rfl, hk, Lib.hid rfl, Lib.hid fun _ _ => rfl, Lib.hid fun m h h' hm => absurd hm (Nat.not_lt_zero _), Fr.refl _ _, Below.refl _ _⟩
  case round =>
    obtain ⟨j, hs1, hj, rfl, hkr, HLEN, HSAME, HDONE, hfr, hbel⟩ := hrel
    obtain ⟨wo, rfl⟩ : ∃ wo, wo = wr := ⟨_, rfl⟩
    have hcv : wo.cell? ⟨kb, 1, none⟩ = some (.slice A0 hb.length c0) := hkr.cell 1
    have hkrl := hkr.lt
    by_cases hlt2 : j < hb.length
    · have hj1 : j < hs1.length := by rw [HLEN.out]; exact hlt2
      obtain ⟨gt, ct, hv, hgt1, hgt2, _, _⟩ := row_form hkr.tb (by omega)
      injection hv with e1 e2 e3
      subst e1
      subst e3
      clear e2
      have hgtw := (hvlt gt rfl).2
      have hkr' := hkr
      rw [← HLEN.out] at hkr'
      have t0 := row_cell hkr'.tb j 0 hj1 (by omega)
      have t1 := row_cell hkr'.tb j 1 hj1 (by omega)
      have t2 := row_cell hkr'.tb j 2 hj1 (by omega)
      have hxe : hs1[j] = hb[j] := by
        have h := HSAME.out j (Nat.le_refl _)
        rw [List.getElem?_eq_getElem hj1, List.getElem?_eq_getElem hlt2] at h
        exact Option.some.inj h
      have hmem : hb[j] ∈ hb := List.getElem_mem _
      have ho := hown _ hmem
      have hkk := hks _ hmem
      have hnn := hns _ hmem
      have hll := hlt _ hmem
      have hnot : ∀ h ∈ hb.take j, ∀ g, Hit h g → ¬ Hit hb[j] g := sep_take hsep hlt2
      have htake := List.take_succ_eq_append_getElem hlt2
      have hjth : hb[j]? = some hb[j] := List.getElem?_eq_getElem hlt2
      rw [hxe] at t0 t1 t2
      have HXE := Lib.hid hxe
      clear hxe
      obtain ⟨x, hx⟩ : ∃ x, x = hb[j] := ⟨_, rfl⟩
      rw [← hx] at t0 t1 t2 ho hkk hnn hll hnot htake hjth HXE
      have HT := Lib.hid htake
      have HJ := Lib.hid hjth
      clear hx htake hmem hjth
      have ho1 := ho.fr hfr (fun g hc hA hh => by
        rcases hh with ⟨h, hm, hb'⟩ | hh
        · exact hnot h hm g hb' ⟨hc, hA⟩
        · exact (hll g ⟨hc, hA⟩).2.2.1 hh)
      obtain ⟨xA, xn, xc, xL, xln, xlc, xk⟩ := x
      simp only [Hl.cells, List.getElem?_cons_zero, List.getElem?_cons_succ, Nat.add_zero] at t0 t1 t2 ho ho1 hkk hnn
      clear ho
      go_wp2_with fail
      have hkr2 : Bk 43 62 60 (wo.alloc (.cells #[.slice xA xn xc, .slice xL xln xlc, .int .i64 xk] 62)) kb N (.slice (some ⟨gt, 0, none⟩) hb.length c0) vi hs1 hi := hkr.below ((Below.refl _ wo).alloc (Nat.le_refl _) _)
      have ho2 : Own (wo.alloc (.cells #[.slice xA xn xc, .slice xL xln xlc, .int .i64 xk] 62)) B 5 xA xn xc (List.replicate xn (mkB xk)) := ho1.alloc _
      have hx2 : Bx (wo.alloc (.cells #[.slice xA xn xc, .slice xL xln xlc, .int .i64 xk] 62)) wo.heap.size [.slice xA xn xc, .slice xL xln xlc, .int .i64 xk] := Bx.new wo _ _ _
      have hb2 : Below B w (wo.alloc (.cells #[.slice xA xn xc, .slice xL xln xlc, .int .i64 xk] 62)) := hbel.alloc (Nat.le_trans (by omega : B ≤ w.heap.size) hbel.size) _
      have hfro : Fr (fun b => Hit ⟨xA, xn, xc, xL, xln, xlc, xk⟩ b ∨ b = gt) wo (wo.alloc (.cells #[.slice xA xn xc, .slice xL xln xlc, .int .i64 xk] 62)) := (Fr.refl _ _).alloc _
      have hsz2 : wo.heap.size < (wo.alloc (.cells #[.slice xA xn xc, .slice xL xln xlc, .int .i64 xk] 62)).heap.size := by simp
      generalize wo.alloc (.cells #[.slice xA xn xc, .slice xL xln xlc, .int .i64 xk] 62) = w2 at *
      have hwsz : w.heap.size ≤ wo.heap.size := hbel.size
      go_loopw [4, 5] (fun v i wr => ∃ (q : Nat) (A' : Option Addr) (c' : Nat), q ≤ 40 ∧ i = .int .i64 q ∧ v = .slice A' (xn + q) c' ∧ Own wr B 5 A' (xn + q) c' (List.replicate (xn + q) (mkB xk)) ∧ Own wr B 5 xA xn xc (List.replicate xn (mkB xk)) ∧
        Fr (Hit ⟨xA, xn, xc, xL, xln, xlc, xk⟩) w2 wr ∧ Below B w2 wr ∧ Loc xA xc w2.heap.size A' c') (fun _ i _ => 40 - (intOf i).toNat)
      case atStart => exact ⟨0, xA, xc, by omega, rfl, rfl, ho2, ho2, Fr.refl _ _, Below.refl _ _, .inl ⟨rfl, rfl⟩⟩
      case round =>
        obtain ⟨q, A', c', hq, rfl, rfl, hoq, hox, hfq, hbq, hloc⟩ := hrel
        have hnl : ¬ Hit ⟨xA, xn, xc, xL, xln, xlc, xk⟩ wo.heap.size := fun hh => by have := (hll _ hh).1; omega
        have l2 : wr.cell? ⟨wo.heap.size, 2, none⟩ = some (.int .i64 xk) := (World.cell?_of_block (w := w2) (hfq.2 wo.heap.size hx2.1 hnl)).trans hx2.at2
        have hBwr : B ≤ wr.heap.size := by have := hbq.size; omega
        by_cases hql : q < 40
        · go_wp2_with fail
          refine (markByte_any xk hkk _).mono ?_
          rintro e wm ⟨rfl, rfl⟩
          simp only [mkB]
          go_wp2_with (at_builtin; go_must (refine wpList_app1x wr rfl _ _ 23 rfl 5 i0 _ 1 Tryd.underlying23 hi0 hz0 hz1 hz2 rfl B A' (xn + q) c' _ rfl hoq 1 rfl rfl ?c3 ?c4 ?c5 ?_))
          case c3 => simp only [maxLen]; omega
          case c4 => omega
          case c5 => exact hBwr
          intro A2 c2 w3 ho3 hb3 hf3 hat3 hold3
          have ho4 : Own w3 B 5 A2 (xn + (q + 1)) c2 (List.replicate (xn + (q + 1)) (mkB xk)) := by
            rw [← Nat.add_assoc, List.replicate_succ']
            exact ho3
          have hox4 : Own w3 B 5 xA xn xc (List.replicate xn (mkB xk)) := by
            rcases hloc with ⟨rfl, rfl⟩ | ⟨g', rfl, hg'⟩
            · have h := hold3.less (m := xn) (by omega)
              rw [List.take_replicate, Nat.min_eq_left (by omega)] at h
              exact h
            · by_cases hc0 : xc = 0
              · have := hox.le
                exact ⟨hox.1, .inl ⟨by omega, hc0⟩⟩
              · refine hox.keep fun g hA _ _ hg => hf3 g hg (.inr ?_)
                intro he
                have hgg : g' = g := by
                  injection he with h1
                  injection h1
                have := (hll g ⟨by show 0 < xc; omega, hA⟩).1
                omega
          have hfq4 : Fr (Hit ⟨xA, xn, xc, xL, xln, xlc, xk⟩) w2 w3 := hfq.later (s := w2.heap.size) ⟨hb3.size, fun b hb hnp => hf3 b hb (by
            by_cases hc0 : c' = 0
            · have := hoq.le
              exact .inl ⟨by omega, hc0⟩
            · right
              intro he
              rcases hloc with ⟨h1, h2⟩ | ⟨g', h1, hg'⟩
              · exact hnp (.inl ⟨by show 0 < xc; omega, by rw [← h1]; exact he⟩)
              · rw [h1] at he
                cases he
                exact hnp (.inr hg'))⟩ (Nat.le_refl _)
          have hloc4 : Loc xA xc w2.heap.size A2 c2 := by
            rcases hat3 with ⟨rfl, rfl⟩ | h
            · exact hloc
            · exact .inr ⟨_, h, by have := hbq.size; omega⟩
          have hbq4 := hbq.trans hb3
          clear ho3 hf3 hat3 hold3
          go_wp2
          go_roundw
          case rel => exact ⟨q + 1, A2, c2, by omega, by go_num, by first | rfl | (congr 1), ho4, hox4, hfq4, hbq4, hloc4⟩
          case measure => simp [intOf]; omega
        · obtain rfl : q = 40 := by omega
          have hk5 := hkr2.fr hfq (fun b hh => (hll b hh).2)
          have hc5 : wr.cell? ⟨kb, 1, none⟩ = some (.slice (some ⟨gt, 0, none⟩) hb.length c0) := hk5.cell 1
          have hk6 := hk5
          rw [← HLEN.out] at hk6
          obtain ⟨u0, hcg⟩ : ∃ u0, wr.cell? ⟨gt, j * 3 + 1, none⟩ = some u0 := ⟨_, (row_cell hk6.tb j 1 hj1 (by omega)).trans (List.getElem?_eq_getElem (by show 1 < 3; omega))⟩
          have hfg : wr.frozen? ⟨gt, j * 3 + 1, none⟩ = false := hk6.tb.frozenAt _
          have hk7 := hk6.longB j hj1 A' (xn + 40) c'
          rw [HXE.out, HLEN.out] at hk7
          have hset : Fr (fun b => b = gt) wr (wr.setCell ⟨gt, j * 3 + 1, none⟩ (.slice A' (xn + 40) c')) := (Fr.refl (fun b => b = gt) wr).setCell (p := ⟨gt, j * 3 + 1, none⟩) rfl _
          have hfin : Fr (fun b => Hit ⟨xA, xn, xc, xL, xln, xlc, xk⟩ b ∨ b = gt) wo (wr.setCell ⟨gt, j * 3 + 1, none⟩ (.slice A' (xn + 40) c')) := (hfro.trans (hfq.mono fun b h => .inl h)).setCell (p := ⟨gt, j * 3 + 1, none⟩) (.inr rfl) _
          have hlen' : (hs1.set j ⟨xA, xn, xc, A', xn + 40, c', xk⟩).length = hb.length := by rw [List.length_set, HLEN.out]
          have hsame' : ∀ m : Nat, j + 1 ≤ m → (hs1.set j ⟨xA, xn, xc, A', xn + 40, c', xk⟩)[m]? = hb[m]? := fun m hm => by
            rw [List.getElem?_set_ne (by omega)]
            exact HSAME.out m (by omega)
          have hdone' : ∀ (m : Nat) (h h' : Hl), m < j + 1 → hb[m]? = some h → (hs1.set j ⟨xA, xn, xc, A', xn + 40, c', xk⟩)[m]? = some h' → Grown1 5 mkB (wr.setCell ⟨gt, j * 3 + 1, none⟩ (.slice A' (xn + 40) c')) B w.heap.size h h' := by
            intro m h h' hm h1 h2
            by_cases hmj : m = j
            · subst hmj
              rw [HJ.out] at h1
              cases h1
              rw [List.getElem?_set_self hj1] at h2
              cases h2
              refine ⟨rfl, rfl, rfl, rfl, rfl, hox.fr hset (fun g hc hA hg => (hll g ⟨hc, hA⟩).2.2.1 (by rw [hg]; rfl)), hoq.fr hset (fun g hc hA hg => ?_), fun g hc hA => ?_⟩
              · rcases hloc with ⟨e1, e2⟩ | ⟨g', e1, hg'⟩
                · exact (hll g ⟨by show 0 < xc; omega, by rw [← e1]; exact hA⟩).2.2.1 (by rw [hg]; rfl)
                · rw [e1] at hA
                  have hgg : g' = g := by
                    injection hA with h1
                    injection h1
                  omega
              · have hA : A' = some ⟨g, 0, none⟩ := hA
                have hc : 0 < c' := hc
                rcases hloc with ⟨e1, e2⟩ | ⟨g', e1, hg'⟩
                · exact .inl ⟨by show 0 < xc; omega, by rw [← e1]; exact hA⟩
                · rw [e1] at hA
                  have hgg : g' = g := by
                    injection hA with h1
                    injection h1
                  exact .inr (by omega)
            · rw [List.getElem?_set_ne (by omega)] at h2
              have hg := HDONE.out m h h' (by omega) h1 h2
              have hmm : h ∈ hb.take j := List.mem_of_getElem? (i := m) (by rw [List.getElem?_take, if_pos (by omega)]; exact h1)
              refine hg.fr hfin (fun g hg1 hg2 => ?_) (fun g hs hg2 => ?_)
              · rcases hg2 with hx | hx
                · exact hnot h hmm g hg1 hx
                · exact (hlt h (List.mem_of_mem_take hmm) g hg1).2.2.1 (by rw [hx]; rfl)
              · rcases hg2 with hx | hx
                · have := (hll g hx).1
                  omega
                · omega
          have hfr' : Fr (fun b => Hits (hb.take (j + 1)) b ∨ (Value.slice (some ⟨gt, 0, none⟩) hb.length c0).ownBlock = some b) w (wr.setCell ⟨gt, j * 3 + 1, none⟩ (.slice A' (xn + 40) c')) := by
            rw [HT.out]
            refine (hfr.mono ?_).trans (hfin.mono ?_)
            · rintro b (⟨h, hm, hh⟩ | hh)
              · exact .inl ⟨h, List.mem_append_left _ hm, hh⟩
              · exact .inr hh
            · rintro b (hh | hh)
              · exact .inl ⟨_, List.mem_append_right _ (List.mem_singleton.2 rfl), hh⟩
              · exact .inr (by rw [hh]; rfl)
          have hbel' : Below B w (wr.setCell ⟨gt, j * 3 + 1, none⟩ (.slice A' (xn + 40) c')) := (hb2.trans hbq).setCell (p := ⟨gt, j * 3 + 1, none⟩) (by show B ≤ gt; omega) _
          have H1 := Lib.hid hlen'
          have H2 := Lib.hid hsame'
          have H3 := Lib.hid hdone'
          clear hlen' hsame' hdone' hnot hown hlt hks hns hll hvlt hset hfin
          go_wp2
          go_roundw
          case rel => exact ⟨j + 1, hs1.set j ⟨xA, xn, xc, A', xn + 40, c', xk⟩, by omega, by go_num, hk7, H1, H2, H3, hfr', hbel'⟩
          case measure => simp [intOf]; omega
    · obtain rfl : j = hb.length := by omega
      rw [List.take_length] at hfr
      go_wp2
      go_end0
      exact ⟨rfl, hs1, hkr, hfr, hbel, HLEN.out, fun m h h' hm hm' => HDONE.out m h h' (List.getElem?_eq_some_iff.1 hm).1 hm hm'⟩

set_option maxRecDepth 100000 in
set_option maxHeartbeats 1000000 in
theorem growInt_any (kb N B : Nat) (vb vi : Value) (hb hi : List Hl) (w : World) (hk : Bk 43 62 60 w kb N vb vi hb hi)
    (hown : ∀ h ∈ hi, Own w B 3 h.A h.n h.c (List.replicate h.n (mkI h.k))) (hlt : ∀ h ∈ hi, ∀ g, Hit h g → OffL kb vb vi w.heap.size g) (hsep : Sep hi) (hks : ∀ h ∈ hi, h.k < 1000) (hns : ∀ h ∈ hi, h.n ≤ 1000000000) (hl : hi.length ≤ 900) (hBk : B ≤ kb) :
    Calls Tryd.prog 37 #[.pointer (some ⟨kb, 0, none⟩)] w fun e w' => e = .returned (.tuple #[]) ∧ ∃ hs', Bk 43 62 60 w' kb N vb vi hb hs' ∧ Fr (fun b => Hits hi b ∨ vi.ownBlock = some b) w w' ∧ Below B w w' ∧ AllGrown 3 mkI w' B w.heap.size hi hs' := by
  obtain ⟨i0, hi0, hz0, hz1, hz2⟩ := info_parts book_info_int
  have hkbl := hk.lt
  have hvlt : ∀ g, vi.ownBlock = some g → kb < g ∧ g < w.heap.size := fun g hg => by have h := hk.ti.lt g hg; omega
  obtain ⟨A0, c0, hv0, hl0, hl1⟩ := row_slice hk.ti
  subst hv0
  unfold maxLen at hl1
  go_enter Tryd.func37, Tryd.ntmps37
  go_wp2_with fail
  go_loopw [2] (fun i wr => ∃ (j : Nat) (hs1 : List Hl), j ≤ hi.length ∧ i = .int .i64 j ∧ Bk 43 62 60 wr kb N vb (.slice A0 hi.length c0) hb hs1 ∧ Hid (hs1.length = hi.length) ∧ Hid (∀ m : Nat, j ≤ m → hs1[m]? = hi[m]?) ∧ Hid (∀ (m : Nat) (h h' : Hl), m < j → hi[m]? = some h → hs1[m]? = some h' → Grown1 3 mkI wr B w.heap.size h h') ∧
    Fr (fun b => Hits (hi.take j) b ∨ (Value.slice A0 hi.length c0).ownBlock = some b) w wr ∧ Below B w wr) (fun i _ => hi.length - (intOf i).toNat)
  case atStart => exact ⟨0, hi, Nat.zero_le _, rfl, hk, Lib.hid rfl, Lib.hid fun _ _ => rfl, Lib.hid fun m h h' hm => absurd hm (Nat.not_lt_zero _), Fr.refl _ _, Below.refl _ _⟩
  case round =>
    obtain ⟨j, hs1, hj, rfl, hkr, HLEN, HSAME, HDONE, hfr, hbel⟩ := hrel
    obtain ⟨wo, rfl⟩ : ∃ wo, wo = wr := ⟨_, rfl⟩
    have hcv : wo.cell? ⟨kb, 2, none⟩ = some (.slice A0 hi.length c0) := hkr.cell 2
    have hkrl := hkr.lt
    by_cases hlt2 : j < hi.length
    · have hj1 : j < hs1.length := by rw [HLEN.out]; exact hlt2
      obtain ⟨gt, ct, hv, hgt1, hgt2, _, _⟩ := row_form hkr.ti (by omega)
      injection hv with e1 e2 e3
      subst e1
      subst e3
      clear e2
      have hgtw := (hvlt gt rfl).2
      have hkr' := hkr
      rw [← HLEN.out] at hkr'
      have t0 := row_cell hkr'.ti j 0 hj1 (by omega)
      have t1 := row_cell hkr'.ti j 1 hj1 (by omega)
      have t2 := row_cell hkr'.ti j 2 hj1 (by omega)
      have hxe : hs1[j] = hi[j] := by
        have h := HSAME.out j (Nat.le_refl _)
        rw [List.getElem?_eq_getElem hj1, List.getElem?_eq_getElem hlt2] at h
        exact Option.some.inj h
      have hmem : hi[j] ∈ hi := List.getElem_mem _
      have ho := hown _ hmem
      have hkk := hks _ hmem
      have hnn := hns _ hmem
      have hll := hlt _ hmem
      have hnot : ∀ h ∈ hi.take j, ∀ g, Hit h g → ¬ Hit hi[j] g := sep_take hsep hlt2
      have htake := List.take_succ_eq_append_getElem hlt2
      have hjth : hi[j]? = some hi[j] := List.getElem?_eq_getElem hlt2
      rw [hxe] at t0 t1 t2
      have HXE := Lib.hid hxe
      clear hxe
      obtain ⟨x, hx⟩ : ∃ x, x = hi[j] := ⟨_, rfl⟩
      rw [← hx] at t0 t1 t2 ho hkk hnn hll hnot htake hjth HXE
      have HT := Lib.hid htake
      have HJ := Lib.hid hjth
      clear hx htake hmem hjth
      have ho1 := ho.fr hfr (fun g hc hA hh => by
        rcases hh with ⟨h, hm, hb'⟩ | hh
        · exact hnot h hm g hb' ⟨hc, hA⟩
        · exact (hll g ⟨hc, hA⟩).2.2.2 hh)
      obtain ⟨xA, xn, xc, xL, xln, xlc, xk⟩ := x
      simp only [Hl.cells, List.getElem?_cons_zero, List.getElem?_cons_succ, Nat.add_zero] at t0 t1 t2 ho ho1 hkk hnn
      clear ho
      go_wp2_with fail
      have hkr2 : Bk 43 62 60 (wo.alloc (.cells #[.slice xA xn xc, .slice xL xln xlc, .int .i64 xk] 60)) kb N vb (.slice (some ⟨gt, 0, none⟩) hi.length c0) hb hs1 := hkr.below ((Below.refl _ wo).alloc (Nat.le_refl _) _)
      have ho2 : Own (wo.alloc (.cells #[.slice xA xn xc, .slice xL xln xlc, .int .i64 xk] 60)) B 3 xA xn xc (List.replicate xn (mkI xk)) := ho1.alloc _
      have hx2 : Bx (wo.alloc (.cells #[.slice xA xn xc, .slice xL xln xlc, .int .i64 xk] 60)) wo.heap.size [.slice xA xn xc, .slice xL xln xlc, .int .i64 xk] := Bx.new wo _ _ _
      have hb2 : Below B w (wo.alloc (.cells #[.slice xA xn xc, .slice xL xln xlc, .int .i64 xk] 60)) := hbel.alloc (Nat.le_trans (by omega : B ≤ w.heap.size) hbel.size) _
      have hfro : Fr (fun b => Hit ⟨xA, xn, xc, xL, xln, xlc, xk⟩ b ∨ b = gt) wo (wo.alloc (.cells #[.slice xA xn xc, .slice xL xln xlc, .int .i64 xk] 60)) := (Fr.refl _ _).alloc _
      have hsz2 : wo.heap.size < (wo.alloc (.cells #[.slice xA xn xc, .slice xL xln xlc, .int .i64 xk] 60)).heap.size := by simp
      generalize wo.alloc (.cells #[.slice xA xn xc, .slice xL xln xlc, .int .i64 xk] 60) = w2 at *
      have hwsz : w.heap.size ≤ wo.heap.size := hbel.size
      go_loopw [4, 5] (fun v i wr => ∃ (q : Nat) (A' : Option Addr) (c' : Nat), q ≤ 40 ∧ i = .int .i64 q ∧ v = .slice A' (xn + q) c' ∧ Own wr B 3 A' (xn + q) c' (List.replicate (xn + q) (mkI xk)) ∧ Own wr B 3 xA xn xc (List.replicate xn (mkI xk)) ∧
        Fr (Hit ⟨xA, xn, xc, xL, xln, xlc, xk⟩) w2 wr ∧ Below B w2 wr ∧ Loc xA xc w2.heap.size A' c') (fun _ i _ => 40 - (intOf i).toNat)
      case atStart => exact ⟨0, xA, xc, by omega, rfl, rfl, ho2, ho2, Fr.refl _ _, Below.refl _ _, .inl ⟨rfl, rfl⟩⟩
      case round =>
        obtain ⟨q, A', c', hq, rfl, rfl, hoq, hox, hfq, hbq, hloc⟩ := hrel
        have hnl : ¬ Hit ⟨xA, xn, xc, xL, xln, xlc, xk⟩ wo.heap.size := fun hh => by have := (hll _ hh).1; omega
        have l2 : wr.cell? ⟨wo.heap.size, 2, none⟩ = some (.int .i64 xk) := (World.cell?_of_block (w := w2) (hfq.2 wo.heap.size hx2.1 hnl)).trans hx2.at2
        have hBwr : B ≤ wr.heap.size := by have := hbq.size; omega
        by_cases hql : q < 40
        · go_wp2_with fail
          refine (markInt_any xk hkk _).mono ?_
          rintro e wm ⟨rfl, rfl⟩
          simp only [mkI]
          go_wp2_with (at_builtin; go_must (refine wpList_app1x wr rfl _ _ 22 rfl 3 i0 _ 8 Tryd.underlying22 hi0 hz0 hz1 hz2 rfl B A' (xn + q) c' _ rfl hoq 1 rfl rfl ?c3 ?c4 ?c5 ?_))
          case c3 => simp only [maxLen]; omega
          case c4 => omega
          case c5 => exact hBwr
          intro A2 c2 w3 ho3 hb3 hf3 hat3 hold3
          have ho4 : Own w3 B 3 A2 (xn + (q + 1)) c2 (List.replicate (xn + (q + 1)) (mkI xk)) := by
            rw [← Nat.add_assoc, List.replicate_succ']
            exact ho3
          have hox4 : Own w3 B 3 xA xn xc (List.replicate xn (mkI xk)) := by
            rcases hloc with ⟨rfl, rfl⟩ | ⟨g', rfl, hg'⟩
            · have h := hold3.less (m := xn) (by omega)
              rw [List.take_replicate, Nat.min_eq_left (by omega)] at h
              exact h
            · by_cases hc0 : xc = 0
              · have := hox.le
                exact ⟨hox.1, .inl ⟨by omega, hc0⟩⟩
              · refine hox.keep fun g hA _ _ hg => hf3 g hg (.inr ?_)
                intro he
                have hgg : g' = g := by
                  injection he with h1
                  injection h1
                have := (hll g ⟨by show 0 < xc; omega, hA⟩).1
                omega
          have hfq4 : Fr (Hit ⟨xA, xn, xc, xL, xln, xlc, xk⟩) w2 w3 := hfq.later (s := w2.heap.size) ⟨hb3.size, fun b hb hnp => hf3 b hb (by
            by_cases hc0 : c' = 0
            · have := hoq.le
              exact .inl ⟨by omega, hc0⟩
            · right
              intro he
              rcases hloc with ⟨h1, h2⟩ | ⟨g', h1, hg'⟩
              · exact hnp (.inl ⟨by show 0 < xc; omega, by rw [← h1]; exact he⟩)
              · rw [h1] at he
                cases he
                exact hnp (.inr hg'))⟩ (Nat.le_refl _)
          have hloc4 : Loc xA xc w2.heap.size A2 c2 := by
            rcases hat3 with ⟨rfl, rfl⟩ | h
            · exact hloc
            · exact .inr ⟨_, h, by have := hbq.size; omega⟩
          have hbq4 := hbq.trans hb3
          clear ho3 hf3 hat3 hold3
          go_wp2
          go_roundw
          case rel => exact ⟨q + 1, A2, c2, by omega, by go_num, by first | rfl | (congr 1), ho4, hox4, hfq4, hbq4, hloc4⟩
          case measure => simp [intOf]; omega
        · obtain rfl : q = 40 := by omega
          have hk5 := hkr2.fr hfq (fun b hh => (hll b hh).2)
          have hc5 : wr.cell? ⟨kb, 2, none⟩ = some (.slice (some ⟨gt, 0, none⟩) hi.length c0) := hk5.cell 2
          have hk6 := hk5
          rw [← HLEN.out] at hk6
          obtain ⟨u0, hcg⟩ : ∃ u0, wr.cell? ⟨gt, j * 3 + 1, none⟩ = some u0 := ⟨_, (row_cell hk6.ti j 1 hj1 (by omega)).trans (List.getElem?_eq_getElem (by show 1 < 3; omega))⟩
          have hfg : wr.frozen? ⟨gt, j * 3 + 1, none⟩ = false := hk6.ti.frozenAt _
          have hk7 := hk6.longI j hj1 A' (xn + 40) c'
          rw [HXE.out, HLEN.out] at hk7
          have hset : Fr (fun b => b = gt) wr (wr.setCell ⟨gt, j * 3 + 1, none⟩ (.slice A' (xn + 40) c')) := (Fr.refl (fun b => b = gt) wr).setCell (p := ⟨gt, j * 3 + 1, none⟩) rfl _
          have hfin : Fr (fun b => Hit ⟨xA, xn, xc, xL, xln, xlc, xk⟩ b ∨ b = gt) wo (wr.setCell ⟨gt, j * 3 + 1, none⟩ (.slice A' (xn + 40) c')) := (hfro.trans (hfq.mono fun b h => .inl h)).setCell (p := ⟨gt, j * 3 + 1, none⟩) (.inr rfl) _
          have hlen' : (hs1.set j ⟨xA, xn, xc, A', xn + 40, c', xk⟩).length = hi.length := by rw [List.length_set, HLEN.out]
          have hsame' : ∀ m : Nat, j + 1 ≤ m → (hs1.set j ⟨xA, xn, xc, A', xn + 40, c', xk⟩)[m]? = hi[m]? := fun m hm => by
            rw [List.getElem?_set_ne (by omega)]
            exact HSAME.out m (by omega)
          have hdone' : ∀ (m : Nat) (h h' : Hl), m < j + 1 → hi[m]? = some h → (hs1.set j ⟨xA, xn, xc, A', xn + 40, c', xk⟩)[m]? = some h' → Grown1 3 mkI (wr.setCell ⟨gt, j * 3 + 1, none⟩ (.slice A' (xn + 40) c')) B w.heap.size h h' := by
            intro m h h' hm h1 h2
            by_cases hmj : m = j
            · subst hmj
              rw [HJ.out] at h1
              cases h1
              rw [List.getElem?_set_self hj1] at h2
              cases h2
              refine ⟨rfl, rfl, rfl, rfl, rfl, hox.fr hset (fun g hc hA hg => (hll g ⟨hc, hA⟩).2.2.2 (by rw [hg]; rfl)), hoq.fr hset (fun g hc hA hg => ?_), fun g hc hA => ?_⟩
              · rcases hloc with ⟨e1, e2⟩ | ⟨g', e1, hg'⟩
                · exact (hll g ⟨by show 0 < xc; omega, by rw [← e1]; exact hA⟩).2.2.2 (by rw [hg]; rfl)
                · rw [e1] at hA
                  have hgg : g' = g := by
                    injection hA with h1
                    injection h1
                  omega
              · have hA : A' = some ⟨g, 0, none⟩ := hA
                have hc : 0 < c' := hc
                rcases hloc with ⟨e1, e2⟩ | ⟨g', e1, hg'⟩
                · exact .inl ⟨by show 0 < xc; omega, by rw [← e1]; exact hA⟩
                · rw [e1] at hA
                  have hgg : g' = g := by
                    injection hA with h1
                    injection h1
                  exact .inr (by omega)
            · rw [List.getElem?_set_ne (by omega)] at h2
              have hg := HDONE.out m h h' (by omega) h1 h2
              have hmm : h ∈ hi.take j := List.mem_of_getElem? (i := m) (by rw [List.getElem?_take, if_pos (by omega)]; exact h1)
              refine hg.fr hfin (fun g hg1 hg2 => ?_) (fun g hs hg2 => ?_)
              · rcases hg2 with hx | hx
                · exact hnot h hmm g hg1 hx
                · exact (hlt h (List.mem_of_mem_take hmm) g hg1).2.2.2 (by rw [hx]; rfl)
              · rcases hg2 with hx | hx
                · have := (hll g hx).1
                  omega
                · omega
          have hfr' : Fr (fun b => Hits (hi.take (j + 1)) b ∨ (Value.slice (some ⟨gt, 0, none⟩) hi.length c0).ownBlock = some b) w (wr.setCell ⟨gt, j * 3 + 1, none⟩ (.slice A' (xn + 40) c')) := by
            rw [HT.out]
            refine (hfr.mono ?_).trans (hfin.mono ?_)
            · rintro b (⟨h, hm, hh⟩ | hh)
              · exact .inl ⟨h, List.mem_append_left _ hm, hh⟩
              · exact .inr hh
            · rintro b (hh | hh)
              · exact .inl ⟨_, List.mem_append_right _ (List.mem_singleton.2 rfl), hh⟩
              · exact .inr (by rw [hh]; rfl)
          have hbel' : Below B w (wr.setCell ⟨gt, j * 3 + 1, none⟩ (.slice A' (xn + 40) c')) := (hb2.trans hbq).setCell (p := ⟨gt, j * 3 + 1, none⟩) (by show B ≤ gt; omega) _
          have H1 := Lib.hid hlen'
          have H2 := Lib.hid hsame'
          have H3 := Lib.hid hdone'
          clear hlen' hsame' hdone' hnot hown hlt hks hns hll hvlt hset hfin
          go_wp2
          go_roundw
          case rel => exact ⟨j + 1, hs1.set j ⟨xA, xn, xc, A', xn + 40, c', xk⟩, by omega, by go_num, hk7, H1, H2, H3, hfr', hbel'⟩
          case measure => simp [intOf]; omega
    · obtain rfl : j = hi.length := by omega
      rw [List.take_length] at hfr
      go_wp2
      go_end0
      exact ⟨rfl, hs1, hkr, hfr, hbel, HLEN.out, fun m h h' hm hm' => HDONE.out m h h' (List.getElem?_eq_some_iff.1 hm).1 hm hm'⟩

end Go.Proofs.YtbcfncdmkgoidaaDoor
