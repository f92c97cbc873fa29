/-
  Walks of package markets: fresh, Without.
-/
import Derived.Test.YtjjaajmjcdihoaaMarkWb
namespace Go.Proofs.Ytjjaajmjcdihoaa
open Go.RowKit
set_option linter.unusedVariables false

set_option maxRecDepth 100000 in
set_option maxHeartbeats 400000 in
theorem mfresh_any (A : Option Addr) (n c : Nat) (zs : List Int) (w : World) (hr : Rd w A n (ci64 zs)) (hn : n ≤ 1000000000) (hf : ∀ z ∈ zs, -9223372036854775808 ≤ z ∧ z ≤ 9223372036854775807) :
    Calls Try.prog 20 #[.slice A n c] w fun e w' => ∃ A' c', e = .returned (.slice A' n c') ∧ OwnI w' w.heap.size ⟨A', n, c', zs⟩ ∧ Below w.heap.size w w' := by
  obtain ⟨i0, hi0, hz0, hz1, hz2⟩ := info_parts info_int
  go_enter Try.func20, Try.ntmps20
  go_wp2_with (at_builtin; go_must (refine wpList_app _ rfl _ _ 22 rfl 3 i0 _ 8 Try.underlying22 hi0 hz0 hz1 hz2 rfl w.heap.size none 0 0 [] rfl (Own.none_ _ _ _ _) A n c _ rfl hr (ci64_one _) ?c3 ?c4 ?c5 ?_))
  case c3 => simp only [maxLen]; omega
  case c4 => omega
  case c5 => exact Nat.le_refl _
  intro A2 c2 w1 hown1 hbel1 hfr1 hat1
  go_wp2
  go_ret
  exact ⟨A2, c2, rfl, ⟨hown1, hf⟩, hbel1⟩

set_option maxRecDepth 100000 in
set_option maxHeartbeats 2000000 in
theorem mwithoutC : WithoutC 14 := by
  intro x i w h hi1 hi2
  obtain ⟨i9, hi9, hy0, hy1, hy2⟩ := info_parts infoB_ints
  obtain ⟨β, hβ⟩ : ∃ β, x.may = β := ⟨_, rfl⟩
  have hck := mcheckC x
  rw [hβ] at hck
  have hlen : x.b.length = x.n := h.len
  have hbox := InBox.new w x
  have tn := Nat.le_trans h.cap h.top
  unfold maxLen at tn
  have hv : x.v = .agg #[.slice x.r.A x.r.n x.r.c, .slice x.A x.n x.c, .slice x.o.A x.o.n x.o.c] := rfl
  rw [hv]
  rw [hv] at hck
  have hW : ∀ W, (w.alloc (.cells #[.slice x.r.A x.r.n x.r.c, .slice x.A x.n x.c, .slice x.o.A x.o.n x.o.c] 35)).alloc (.cells #[.slice none 0 0, .slice none 0 0, .slice none 0 0] 35) = W →
      Own W w.heap.size 35 (some ⟨w.heap.size + 1, 0, none⟩) 3 3 [.slice none 0 0, .slice none 0 0, .slice none 0 0] ∧ InBox W w.heap.size x ∧ Below w.heap.size w W ∧ W.heap.size = w.heap.size + 2 := by
    rintro _ rfl
    have hz : ∀ o1 : Obj, (w.alloc o1).heap.size = w.heap.size + 1 := fun o1 => Array.size_push ..
    have h2 := Own.lit (B := w.heap.size) (w.alloc (.cells #[.slice x.r.A x.r.n x.r.c, .slice x.A x.n x.c, .slice x.o.A x.o.n x.o.c] 35)) 35 #[.slice none 0 0, .slice none 0 0, .slice none 0 0] 3 (by rw [hz]; omega) rfl (by unfold maxLen; omega)
    rw [hz] at h2
    refine ⟨h2, hbox.below ((Below.refl _ _).alloc (Nat.le_refl _) _), ((Below.refl _ w).alloc (Nat.le_refl _) _).alloc (by rw [hz]; omega) _, ?_⟩
    show ((w.heap.push _).push _).size = _
    rw [Array.size_push, Array.size_push]
  clear hbox
  obtain ⟨E, hE⟩ : ∃ E, x.lessErr i = E := ⟨_, rfl⟩
  obtain ⟨PP, hP⟩ : ∃ PP, x.less i = PP := ⟨_, rfl⟩
  rw [hE, hP]
  have HE := Lib.hid hE
  have HP := Lib.hid hP
  clear hE hP
  go_enter Try.func14, Try.ntmps14
  go_wp2_with fail
  generalize hWW : (w.alloc (.cells #[.slice x.r.A x.r.n x.r.c, .slice x.A x.n x.c, .slice x.o.A x.o.n x.o.c] 35)).alloc (.cells #[.slice none 0 0, .slice none 0 0, .slice none 0 0] 35) = W
  obtain ⟨hR, hbox, hBW, hWs⟩ := hW W hWW
  clear hW hWW
  refine (hck _ (h.below hBW)).mono ?_
  rintro e w1 ⟨rfl, hb1⟩
  have hB := hBW.trans (hb1.mono hBW.size)
  have hR1 := hR.below hb1
  have hbox1 := hbox.below hb1
  have hw1s : w.heap.size + 2 ≤ w1.heap.size := by have := hb1.size; omega
  clear hck hb1 hR hbox hBW hWs
  have ⟨c0, c1, c2, clt⟩ := hbox1
  by_cases hhas : x.has i = true
  · obtain ⟨hb1, hb2⟩ : β = true ∧ (0 ≤ i ∧ i < x.n) := by
      unfold Mk.has at hhas
      rw [hβ] at hhas
      simpa using hhas
    have hle : x.lessErr i = 0 := by rw [Mk.lessErr, if_pos hhas]
    have hlp : x.less i = (x.r.zs, Go.Proofs.Ytjjaajmjcdihoaa.less (Ls.all x.b) i.toNat, x.o.zs) := by rw [Mk.less, if_pos hhas]
    have HLE := Lib.hid (HE.out.symm.trans hle)
    have HLP := Lib.hid (HP.out.symm.trans hlp)
    subst hb1
    obtain ⟨l1, l2, l3, l4, l5, l6, l7, l8⟩ := mk_len h hβ
    have lo8 : x.o.n ≤ 8 := by omega
    obtain ⟨m, rfl⟩ : ∃ m : Nat, i = m := ⟨i.toNat, by omega⟩
    have hmn : m < x.n := by omega
    have hrd := h.r.rd
    have hod := h.o.rd
    have hf_r := h.r.fit
    have hf_o := h.o.fit
    obtain ⟨p, q, hA, hp, hat⟩ := bids_at h (by omega)
    have HA := Lib.hid hA
    have HL := Lib.hid hlen
    have H6 := Lib.hid l6
    have e1 : decide ((m : Int) < 0) = false := by simp
    have e2 : decide ((x.n : Int) ≤ (m : Int)) = false := by simp; omega
    have e2' : decide (x.n ≤ m) = false := by simp; omega
    clear l5 l6 l7 l8 hlen hhas hle hlp hβ hb2 hA
    rw [HA.out] at c1
    go_wp2_with (at_make; go_must (refine wpList_mk _ rfl _ _ 33 rfl w1.heap.size 22 i9 _ Try.underlying33 hi9 hy0 hy1 rfl .i64 .i64 _ _ x.n rfl rfl rfl rfl ?c2 ?c3 ?c4 ?_))
    case c2 => rw [hy2]; omega
    case c3 => simp only [maxLen]; omega
    case c4 => exact Nat.le_refl _
    intro w2 hown2 hbel2
    have hf2 := Fill.start hown2
    have hbox2 := hbox1.below hbel2
    have hR2 := hR1.below hbel2
    have hB2 := hB.trans (hbel2.mono hB.size)
    have hs2 := hbel2.size
    obtain ⟨g, hg⟩ : ∃ g, g = w1.heap.size := ⟨_, rfl⟩
    rw [← hg] at hf2 hbel2 hs2 hw1s ⊢
    clear hown2 hbox1 hB c0 c1 c2 clt hbel2 hg hR1
    have ⟨c0, c1, c2, clt⟩ := hbox2
    rw [HA.out] at c1
    go_wp2_with fail
    go_loopw [31] (fun i wr => ∃ (j : Nat) (t : List Ls), j ≤ x.n ∧ i = .int .i64 j ∧ t.length = j ∧ Fill wr g (some ⟨g, 0, none⟩) x.n t ∧ Hid (Ls.all t = (less (Ls.all x.b) m).take j) ∧ Below w.heap.size w wr ∧ InBox wr w.heap.size x ∧ Own wr w.heap.size 35 (some ⟨w.heap.size + 1, 0, none⟩) 3 3 [.slice none 0 0, .slice none 0 0, .slice none 0 0]) (fun i _ => x.n - (intOf i).toNat)
    case atStart => exact ⟨0, [], Nat.zero_le _, rfl, rfl, hf2, Lib.hid rfl, hB2, hbox2, hR2⟩
    case round =>
      obtain ⟨j, t, hj, rfl, hjt, hf, hall, hbel, hbx, hRj⟩ := hrel
      clear hbox2 hB2 hf2 c0 c1 c2 clt hs2 hR2
      have ⟨c0, c1, c2, clt⟩ := hbx
      have hgs : g ≤ wr.heap.size := by
        obtain ⟨g', hA', hg1, hg2⟩ := hf.own.lt (by omega)
        cases hA'
        omega
      by_cases hlt : j < x.n
      · obtain ⟨u, hu, hcu, hk⟩ := hat j hlt
        have hcell : wr.cell? ⟨p, q + j, none⟩ = some (.slice u.A u.n u.c) := (hbel.cell (p := ⟨p, q + j, none⟩) hp).trans hcu
        have hjl : j < (Ls.all x.b).length := by rw [Ls.all, List.length_map, HL.out]; exact hlt
        have hst := lessm_take (i := m) hjl
        have hget : (Ls.all x.b)[j] = u.zs := by
          have h : (Ls.all x.b)[j]? = some u.zs := by rw [Ls.all, List.getElem?_map, hu]; rfl
          rw [List.getElem?_eq_getElem hjl] at h
          exact Option.some.inj h
        rw [hget] at hst
        have un8 := H6.out u (List.mem_of_getElem? hu)
        subst hjt
        by_cases hme : t.length = m
        · subst hme
          rw [if_pos rfl] at hst
          have hall2 : Hid (Ls.all (t ++ [Ls.nil]) = (less (Ls.all x.b) t.length).take (t.length + 1)) := Lib.hid (by rw [all_snoc, hst, hall.out]; rfl)
          have hf2 := hf.skip hlt
          clear hst hf hget hcu
          go_wp2
          go_roundw
          case rel => exact ⟨t.length + 1, _, by omega, by go_num, by simp, hf2, hall2, hbel, hbx, hRj⟩
          case measure => simp [intOf]; omega
        · have hne : ((t.length : Int) != (m : Int)) = true := by rw [bne_iff_ne]; omega
          rw [if_neg (fun h => hme h.symm)] at hst
          have HST := Lib.hid hst
          have hgo := mfresh_any u.A u.n u.c u.zs wr (hk.rd.below hbel) (by omega) hk.fit
          clear hst hget hcu hme
          go_wp2_with fail
          refine hgo.mono ?_
          rintro e w3 ⟨A3, c3, rfl, hnew, hb3⟩
          have hf3 := hf.below hb3
          have hsep := hf.sep
          have hbx3 := hbx.below hb3
          have hR3 := hRj.below hb3
          have hbel3 := hbel.trans (hb3.mono hbel.size)
          obtain ⟨hcl, hfr⟩ := hf3.cell hlt
          have hf4 := hf3.put hlt hnew hgs hsep
          have hbel4 := hbel3.setCell (p := ⟨g, t.length, none⟩) (by show w.heap.size ≤ g; omega) (.slice A3 u.n c3)
          have hne4 : ∀ k, k ≠ g → (w3.setCell ⟨g, t.length, none⟩ (.slice A3 u.n c3)).heap[k]? = w3.heap[k]? := fun k hk => setCell_ne' hk
          have hbx4 : InBox (w3.setCell ⟨g, t.length, none⟩ (.slice A3 u.n c3)) w.heap.size x := by
            obtain ⟨d0, d1, d2, d3⟩ := hbx3
            have hne := hne4 w.heap.size (by omega)
            exact ⟨(World.cell?_of_block hne).trans d0, (World.cell?_of_block hne).trans d1, (World.cell?_of_block hne).trans d2, by simp only [World.setCell, Array.size_modify]; exact d3⟩
          have hR4 := hR3.keep (w' := w3.setCell ⟨g, t.length, none⟩ (.slice A3 u.n c3)) fun k hA _ _ _ => hne4 k (by intro he; injection hA with hA; injection hA with hA; omega)
          have hall4 : Hid (Ls.all (t ++ [(⟨A3, u.n, c3, u.zs⟩ : Ls)]) = (less (Ls.all x.b) m).take (t.length + 1)) := Lib.hid (by rw [all_snoc, HST.out, hall.out])
          clear hgo hb3 hf hf3 hsep hnew hbx hbx3 hbel hbel3 HST hall hRj hR3 hne4
          go_wp2
          go_roundw
          case rel => exact ⟨t.length + 1, _, by omega, by go_num, by simp, hf4, hall4, hbel4, hbx4, hR4⟩
          case measure => simp [intOf]; omega
      · obtain rfl : j = x.n := by omega
        have hout := hf.outs hjt
        have hll : (less (Ls.all x.b) m).length = x.n := by rw [less_len, Ls.all, List.length_map, HL.out]
        have hfin : Hid (Ls.all t = less (Ls.all x.b) m) := Lib.hid (by rw [hall.out, List.take_of_length_le (by rw [hll]; exact Nat.le_refl _)])
        have hsep := hf.sep
        have hS : ∀ w', Below wr.heap.size wr w' → w'.cell? ⟨w.heap.size, 0, none⟩ = some (.slice x.r.A x.r.n x.r.c) ∧ w'.cell? ⟨w.heap.size, 2, none⟩ = some (.slice x.o.A x.o.n x.o.c) := fun w' hb => ⟨(hb.cell (p := ⟨w.heap.size, 0, none⟩) clt).trans c0, (hb.cell (p := ⟨w.heap.size, 2, none⟩) clt).trans c2⟩
        clear hll hjt hf hall hlt c1
        go_wp2_with fail
        refine wp_region_ord (S := fun w' => w'.cell? ⟨w.heap.size, 0, none⟩ = some (.slice x.r.A x.r.n x.r.c) ∧ w'.cell? ⟨w.heap.size, 2, none⟩ = some (.slice x.o.A x.o.n x.o.c)) [(0, true), (1, true), (3, true), (4, true), (5, true), (2, false), (6, false), (7, true), (8, false), (9, true)] default (by kernel_rfl) (by kernel_rfl) (by kernel_rfl) (hS _ ((Below.refl _ wr).drew)) ?_
        simp only [getOrd, nth]
        repeat (first | (refine ordS (by rfl) ?_; simp only [Act.put, List.setIfInBounds_toArray, List.set_cons_zero, List.set_cons_succ]) | (refine ordN (by rfl) ?_; simp only [Act.put, List.setIfInBounds_toArray, List.set_cons_zero, List.set_cons_succ]) | (refine ordQ (v := ?_) (by rfl) (fun _ hSw => ?_) ?_; rotate_left; (focus ((have hS1 := hSw.1); (have hS2 := hSw.2); clear hSw; go_simp; (first | done | with_reducible rfl))); simp only [Act.put, List.setIfInBounds_toArray, List.set_cons_zero, List.set_cons_succ]))
        refine ordD (by rfl) ?_
        intro K hK
        go_simp
        have hdr : Below wr.heap.size wr wr.drew := (Below.refl _ wr).drew
        refine (mfresh_any x.r.A x.r.n x.r.c x.r.zs wr.drew ((hrd.below hbel).drew) (by omega) hf_r).mono ?_
        rintro e w4 ⟨A4, c4, rfl, hn4, hb4⟩
        have hb4 : Below wr.heap.size wr w4 := hdr.trans (hb4.mono hdr.size)
        have hn4 : OwnI w4 wr.heap.size ⟨A4, x.r.n, c4, x.r.zs⟩ := hn4
        have hbel4 := hbel.trans (hb4.mono hbel.size)
        go_wp2_with fail
        refine hK _ _ (hS _ hb4) ?_
        clear hK K
        try simp only [Act.put, List.setIfInBounds_toArray, List.set_cons_zero, List.set_cons_succ]
        refine ordD (by rfl) ?_
        intro K hK
        go_simp
        refine (mfresh_any x.o.A x.o.n x.o.c x.o.zs w4 (hod.below hbel4) (by omega) hf_o).mono ?_
        rintro e w5 ⟨A5, c5, rfl, hn5, hb5⟩
        have hb45 := hb4.trans (hb5.mono hb4.size)
        have hbel5 := hbel4.trans (hb5.mono hbel4.size)
        go_wp2_with fail
        refine hK _ _ (hS _ hb45) ?_
        clear hK K
        try simp only [Act.put, List.setIfInBounds_toArray, List.set_cons_zero, List.set_cons_succ]
        repeat (first | (refine ordS (by rfl) ?_; simp only [Act.put, List.setIfInBounds_toArray, List.set_cons_zero, List.set_cons_succ]) | (refine ordN (by rfl) ?_; simp only [Act.put, List.setIfInBounds_toArray, List.set_cons_zero, List.set_cons_succ]) | (refine ordQ (v := ?_) (by rfl) (fun _ hSw => ?_) ?_; rotate_left; (focus ((have hS1 := hSw.1); (have hS2 := hSw.2); clear hSw; go_simp; (first | done | with_reducible rfl))); simp only [Act.put, List.setIfInBounds_toArray, List.set_cons_zero, List.set_cons_succ]))
        have hR5 := hRj.below hb45
        have f0 := hR5.free (by omega) 0
        have f1 := hR5.free (by omega) 1
        have f2 := hR5.free (by omega) 2
        have r0 := hR5.cell (j := 0) (by omega)
        have r1 := hR5.cell (j := 1) (by omega)
        have r2 := hR5.cell (j := 2) (by omega)
        simp only [List.getElem?_cons_zero, List.getElem?_cons_succ] at r0 r1 r2
        refine ordD (by rfl) ?_
        intro K hK
        go_simp
        have hq : ∀ k, k ≠ w.heap.size + 1 → (((w5.setCell ⟨w.heap.size + 1, 0, none⟩ (.slice A4 x.r.n c4)).setCell ⟨w.heap.size + 1, 1, none⟩ (.slice (some ⟨g, 0, none⟩) x.n x.n)).setCell ⟨w.heap.size + 1, 2, none⟩ (.slice A5 x.o.n c5)).heap[k]? = w5.heap[k]? := fun k hk => ((setCell_ne' hk).trans (setCell_ne' hk)).trans (setCell_ne' hk)
        have hR8 := ((hR5.set (by omega) 0 (.slice A4 x.r.n c4)).set (by omega) 1 (.slice (some ⟨g, 0, none⟩) x.n x.n)).set (by omega) 2 (.slice A5 x.o.n c5)
        simp only [List.set_cons_zero, List.set_cons_succ] at hR8
        have hB8 := ((hbel5.setCell (p := ⟨w.heap.size + 1, 0, none⟩) (Nat.le_succ _) (.slice A4 x.r.n c4)).setCell (p := ⟨w.heap.size + 1, 1, none⟩) (Nat.le_succ _) (.slice (some ⟨g, 0, none⟩) x.n x.n)).setCell (p := ⟨w.heap.size + 1, 2, none⟩) (Nat.le_succ _) (.slice A5 x.o.n c5)
        have hS5 := hS _ hb45
        generalize ((w5.setCell ⟨w.heap.size + 1, 0, none⟩ (.slice A4 x.r.n c4)).setCell ⟨w.heap.size + 1, 1, none⟩ (.slice (some ⟨g, 0, none⟩) x.n x.n)).setCell ⟨w.heap.size + 1, 2, none⟩ (.slice A5 x.o.n c5) = wf at hq hR8 hB8 ⊢
        refine hK _ _ ⟨(World.cell?_of_block (hq w.heap.size (by omega))).trans hS5.1, (World.cell?_of_block (hq w.heap.size (by omega))).trans hS5.2⟩ ?_
        clear hK K hS hS5 f0 f1 f2 r0 r1 r2
        try simp only [Act.put, List.setIfInBounds_toArray, List.set_cons_zero, List.set_cons_succ]
        repeat (first | (refine ordS (by rfl) ?_; simp only [Act.put, List.setIfInBounds_toArray, List.set_cons_zero, List.set_cons_succ]) | (refine ordN (by rfl) ?_; simp only [Act.put, List.setIfInBounds_toArray, List.set_cons_zero, List.set_cons_succ]) | (refine ordQ (v := ?_) (by rfl) (fun _ hSw => ?_) ?_; rotate_left; (focus ((have hS1 := hSw.1); (have hS2 := hSw.2); clear hSw; go_simp; (first | done | with_reducible rfl))); simp only [Act.put, List.setIfInBounds_toArray, List.set_cons_zero, List.set_cons_succ]))
        refine ordE ?_
        have r0 := hR8.cell (j := 0) (by omega)
        have r1 := hR8.cell (j := 1) (by omega)
        have r2 := hR8.cell (j := 2) (by omega)
        simp only [List.getElem?_cons_zero, List.getElem?_cons_succ] at r0 r1 r2
        have hn5' : OwnI w5 w4.heap.size ⟨A5, x.o.n, c5, x.o.zs⟩ := hn5
        have hn45 := hn4.below hb5
        have hapt := aptL_behind (s := wr.heap.size) (s2 := w4.heap.size) hout.apt hsep (fun k hk => hn4.blk hk) (fun k hk => (hn5'.blk hk).1) hb4.size
        have hmk : MkOwn wf w.heap.size ⟨⟨A4, x.r.n, c4, x.r.zs⟩, some ⟨g, 0, none⟩, x.n, x.n, t, ⟨A5, x.o.n, c5, x.o.zs⟩⟩ := by
          have ho5 := (hout.below hb45).keepB (w' := wf) fun k hk => hq k (by omega)
          have h4s := hb4.size
          exact ⟨(hn45.keepB fun k hk => hq k (by omega)).mono hbel.size, (hn5'.keepB fun k hk => hq k (by omega)).mono (by omega), ho5.own.mono (by omega), fun u hu => (ho5.each u hu).mono (by omega), hapt⟩
        have HMK := Lib.hid hmk
        clear hmk hapt hn45 hn5' hn5 hn4 hq hR8
        go_wp2
        (try simp only [Exit.inBlock, Exit.then])
        refine bodyPost_ret (v := .tuple #[.agg #[.slice A4 x.r.n c4, .slice (some ⟨g, 0, none⟩) x.n x.n, .slice A5 x.o.n c5], .int .i64 0]) ?rr rfl ?_
        case rr =>
          simp only [results, Try.f14]
          go_simp
        exact ⟨⟨⟨A4, x.r.n, c4, x.r.zs⟩, some ⟨g, 0, none⟩, x.n, x.n, t, ⟨A5, x.o.n, c5, x.o.zs⟩⟩, by rw [HLE.out]; rfl, HMK.out, by rw [HLP.out]; show (_, Ls.all t, _) = _; rw [hfin.out, Int.toNat_natCast], hB8⟩
  · have hle : x.lessErr i = 1 := by rw [Mk.lessErr, if_neg hhas]
    have hlp : x.less i = ([], [], []) := by rw [Mk.less, if_neg hhas]
    have HLE := Lib.hid (HE.out.symm.trans hle)
    have HLP := Lib.hid (HP.out.symm.trans hlp)
    have hR0 := hR1.free (by omega) 0
    have hR4 := hR1.free (by omega) 1
    have hR5 := hR1.free (by omega) 2
    have hR6 := hR1.cell (j := 0) (by omega)
    have hR7 := hR1.cell (j := 1) (by omega)
    have hR8 := hR1.cell (j := 2) (by omega)
    simp only [List.getElem?_cons_zero, List.getElem?_cons_succ] at hR6 hR7 hR8
    have hcase : β = false ∨ (β = true ∧ i < 0) ∨ (β = true ∧ ¬ i < 0 ∧ (x.n : Int) ≤ i) := by
      unfold Mk.has at hhas
      rw [hβ] at hhas
      cases β
      · exact .inl rfl
      · right
        simp only [Bool.true_and, decide_eq_true_eq] at hhas
        by_cases g1 : i < 0
        · exact .inl ⟨rfl, g1⟩
        · exact .inr ⟨rfl, g1, by omega⟩
    clear hhas hle hlp hβ
    rcases hcase with rfl | ⟨rfl, g1⟩ | ⟨rfl, g1, g2⟩
    all_goals
      (try have e1 : decide (i < 0) = true := decide_eq_true g1)
      (try have e1 : decide (i < 0) = false := decide_eq_false g1)
      (try have e2 : decide ((x.n : Int) ≤ i) = true := decide_eq_true g2)
      go_wp2
      (try simp only [Exit.inBlock, Exit.then])
      refine bodyPost_ret (v := .tuple #[.agg #[.slice none 0 0, .slice none 0 0, .slice none 0 0], .int .i64 1]) ?r rfl ?_
      case r =>
        simp only [results, Try.f14]
        go_simp
      refine ⟨Mk.nil, by rw [HLE.out]; rfl, MkOwn.nil _ _, by rw [HLP.out]; rfl, ?_⟩
      exact ((hB.setCell (p := ⟨w.heap.size + 1, 0, none⟩) (Nat.le_succ _) _).setCell (p := ⟨w.heap.size + 1, 1, none⟩) (Nat.le_succ _) _).setCell (p := ⟨w.heap.size + 1, 2, none⟩) (Nat.le_succ _) _

end Go.Proofs.Ytjjaajmjcdihoaa
