/-
  Walk of package graphs: Turned.
-/
import Derived.Test.YtcjfgkihmhdhlaaGrWf
namespace Go.Proofs.Ytcjfgkihmhdhlaa
open Go.RowKit Go.Shelf
set_option linter.unusedVariables false
attribute [local go_sem] Oper.semAt_some

theorem ginfo_int : (Try.prog.info? 3).map (fun i => (i.zero, i.size, i.bytes)) = some (some (.int .i64 0), 1, 8) := by kernel_rfl
theorem ginfo_ints : (Try.prog.info? 25).map (fun i => (i.zero, i.size, i.bytes)) = some (some (.slice none 0 0), 1, 24) := by kernel_rfl
set_option maxRecDepth 100000 in
set_option maxHeartbeats 1000000 in
theorem gturnedC : TurnedC 17 := by
  intro x m w hx h1 h2
  have HG := Lib.hid hx.glen
  have tx := Nat.le_trans hx.cap hx.top
  unfold maxLen at tx
  obtain ⟨i0, hi0, hz0, hz1, hz2⟩ := info_parts ginfo_int
  obtain ⟨i1, hi1', hy0, hy1, hy2⟩ := info_parts ginfo_ints
  refine (callsIn_wide (n := 3)).1 ?_
  refine callsIn_of_wp_marks Try.func17 rfl trivial ?_ rfl
  have hck := gcheckC x m w hx h1 h2
  unfold Gr.v at hck ⊢
  simp only [Try.ntmps17, List.size_toArray, List.length_cons, List.length_nil, Nat.reduceAdd, Nat.reduceSub, Array.replicate_succ, Array.replicate_zero, List.push_toArray, List.append_toArray, List.nil_append, List.cons_append]
  refine wpIn_wide.2 ?_
  go_wp2_with fail
  obtain ⟨γ, hγ⟩ : ∃ γ, checkG x.g m = γ := ⟨_, rfl⟩
  have HC := Lib.hid hγ
  rw [hγ] at hck
  clear hγ
  refine hck.mono ?_
  rintro e w2 ⟨rfl, hb2⟩
  clear hck
  cases γ
  · go_wp2
    refine postM_ret (results_tmp2 rfl _ _ _) rfl ?_
    refine ⟨none, 0, 0, by simp [errG, HC.out], [], Outs.none_ _ _, ?_, hb2⟩
    simp [turnedE, HC.out, Ls.all]
  obtain ⟨r1, r2, r3, r4⟩ := checkG_iff.1 HC.out
  obtain ⟨k, rfl⟩ : ∃ k : Nat, m = k := ⟨m.toNat, by omega⟩
  have hk8 : k ≤ 8 := by omega
  have HR := Lib.hid r4
  clear r1 r2 r3 r4
  go_wp2_with (at_make; go_must (refine wpList_mk _ rfl _ _ 22 rfl w.heap.size 25 i1 _ Try.underlying22 hi1' hy0 hy1 rfl .i64 .i64 _ _ k rfl rfl rfl rfl ?c2 ?c3 ?c4 ?_))
  case c2 => rw [hy2]; omega
  case c3 => simp only [maxLen]; omega
  case c4 => exact hb2.size
  intro w3 hown3 hbel3
  have hB3 := hb2.trans (hbel3.mono hb2.size)
  have hout := Outs.fresh hown3
  clear hown3
  go_wp2_with fail
  obtain ⟨g, hg⟩ : ∃ g, g = w2.heap.size := ⟨_, rfl⟩
  rw [← hg] at hout ⊢
  have hgw : g < w3.heap.size ∨ k = 0 := by
    rcases Nat.eq_zero_or_pos k with h0 | h0
    · exact .inr h0
    · exact .inl (hout.own.blk (by omega) rfl).2
  clear hg hbel3 hb2
  have b3 := Boxed.new w3 22 (.slice (some ⟨g, 0, none⟩) k k)
  have hB4 := hB3.alloc hB3.size (.cells #[.slice (some ⟨g, 0, none⟩) k k] 22)
  have hout4 := hout.below ((Below.refl _ w3).alloc (Nat.le_refl _) (.cells #[.slice (some ⟨g, 0, none⟩) k k] 22))
  have hs3 := hB3.size
  obtain ⟨tb, htb⟩ : ∃ tb, tb = w3.heap.size := ⟨_, rfl⟩
  rw [← htb] at b3 hgw hs3 ⊢
  generalize w3.alloc (.cells #[.slice (some ⟨g, 0, none⟩) k k] 22) = w4 at b3 hB4 hout4 ⊢
  clear htb hout hB3
  have hpr := pairs_any x w4
  unfold Gr.v at hpr
  refine hpr.mono ?_
  rintro e w' ⟨rfl, rfl⟩
  clear hpr
  have bP := Boxed.new w4 22 (.slice x.A x.n x.c)
  have hB5 := hB4.alloc hB4.size (.cells #[.slice x.A x.n x.c] 22)
  have hout5 := hout4.below ((Below.refl _ w4).alloc (Nat.le_refl _) (.cells #[.slice x.A x.n x.c] 22))
  have b5 := boxed_below b3 ((Below.refl _ w4).alloc (Nat.le_refl _) (.cells #[.slice x.A x.n x.c] 22))
  obtain ⟨pb, hpb⟩ : ∃ pb, pb = w4.heap.size := ⟨_, rfl⟩
  rw [← hpb] at bP ⊢
  generalize w4.alloc (.cells #[.slice x.A x.n x.c] 22) = w5 at bP hB5 hout5 b5 ⊢
  clear hpb hout4 b3 hB4
  go_wp2
  refine (wpIn_wide (n := 3)).1 ?_
  refine wpIn_rangeFunc_ownG rfl (by omega) (gf := 32) (lb := #[.pointer (some ⟨pb, 0, none⟩)]) rfl trivial (enters_of Try.func32 (by kernel_rfl) rfl)
    (pairs_stops 2 (by omega) pb x w5 bP.lt bP.cell (hx.below hB5)) (fun h k a => k (h a)) (keepsK_b (fun a b h k => Gr.Ok.cel k h) w5) (Below.refl _ _) (fun _ => rfl)
    (fun pre W => (Boxed W tb 22 (.slice (some ⟨g, 0, none⟩) k k) ∧ ∃ t, Outs W w.heap.size (some ⟨g, 0, none⟩) k k t ∧ Hid (Ls.all t = turnTo (pre.map (·.1)) k)) ∧ Below w.heap.size w W)
    (fun _ _ _ => False)
    (OwnFrom.and (ownFrom_cel _ fun s A B hc h => by obtain ⟨a, t, b, d⟩ := h; exact ⟨boxed_cel a hc, t, b.cel hc, d⟩) (ownFrom_below (Nat.le_refl _) hB5.size))
    (fun _ _ _ _ _ hs _ _ => hs)
    ⟨⟨b5, _, hout5, Lib.hid (by rw [all_replicate]; exact (turnTo_nil k).symm)⟩, hB5⟩
    (fun y => { tmps := #[.slice x.A x.n x.c, .int .i64 (k : Int), undef, undef, .slice none 0 0, .int .i64 0, .pointer (some ⟨tb, 0, none⟩), .int .i64 (y.1.1 : Int), .int .i64 y.1.2, .slice x.A x.n x.c, .int .i64 (k : Int), .bool true, .bool false, .int .i64 (k : Int), .slice (some ⟨g, 0, none⟩) k k, .slice x.A x.n x.c, .func (.func 32) #[] #[.pointer (some ⟨pb, 0, none⟩)], .int .i64 (y.1.1 : Int), .int .i64 y.1.2, undef, undef, undef, undef, undef, undef, undef, undef, undef, undef, undef], defers := [] }) ?assign ?body ?done ?stop
  case assign =>
    intro l y W K hK
    simp only [encPair, List.zip_toArray, List.zip_cons_cons, List.zip_nil_right, List.foldl_toArray', List.foldl_cons, List.foldl_nil, List.size_toArray, List.setIfInBounds_toArray, List.set_cons_succ, List.set_cons_zero]
    gi_wp2
    exact hK
  case body =>
    rintro l pre ⟨⟨i, z⟩, hi, hz⟩ W ⟨⟨aB, t, hO, hall⟩, hB⟩ hlen
    dsimp only at hi hz ⊢
    have hzr := (HR.out _ (getD_mem hi)).1 z hz
    obtain ⟨j, rfl⟩ : ∃ j : Nat, z = j := ⟨z.toNat, by omega⟩
    have hjk : j < k := by omega
    have hjk' : (j : Int) < k := by omega
    have hin : i < x.n := by rw [← HG.out]; exact hi
    have hjt : j < t.length := by rw [hO.len]; exact hjk
    obtain ⟨u, hu⟩ : ∃ u, t[j]? = some u := ⟨_, List.getElem?_eq_getElem hjt⟩
    have hrow : u.zs = rowOf (pre.map (·.1)) j := by
      have h3 := turnTo_get (l := pre.map (·.1)) hjk
      rw [← hall.out, Ls.all, List.getElem?_map, hu] at h3
      exact Option.some.inj h3
    have hcell := hO.own.cell hjk
    rw [List.getElem?_map, hu] at hcell
    have hc0 : W.cell? ⟨g, j, none⟩ = some (.slice u.A u.n u.c) := hcell
    have c1 := aB.cell
    have huO := hO.each u (List.mem_of_getElem? hu)
    have HNew : Hid (∀ A2 c2, Ls.all (t.set j ⟨A2, u.n + 1, c2, u.zs ++ [(i : Int)]⟩) = turnTo ((pre ++ [(⟨(i, (j : Int)), hi, hz⟩ : PairOf x.g)]).map (·.1)) k) := Lib.hid (fun A2 c2 => by
      rw [List.map_append, all_set, hall.out, hrow]
      exact (turnTo_snoc hjk).symm)
    clear hzr hcell
    gi_wp2
    have hunl : u.n ≤ 64 := by
      have h4 := (hO.each u (List.mem_of_getElem? hu)).len
      have h5 := rowOf_len (pre.map (·.1)) j
      rw [← hrow, h4, List.length_map] at h5
      have h6 := pairsTo_len (g := x.g) (c := 8) (n := x.n) (fun l hl => by have := rises_len (HR.out l hl); omega) (by rw [HG.out]; exact Nat.le_refl _)
      have h7 := (checkG_iff.1 HC.out).2.2.1
      rw [HG.out] at h7
      omega
    have hS : ∀ w', Below W.heap.size W w' → w'.cell? ⟨tb, 0, none⟩ = some (.slice (some ⟨g, 0, none⟩) k k) := fun w' hb => (World.cell?_of_block (hb.block tb aB.lt)).trans c1
    refine wpIn_region_trR (S := fun w' => w'.cell? ⟨tb, 0, none⟩ = some (.slice (some ⟨g, 0, none⟩) k k)) (.q 0 (.q 1 (.q 2 (.q 3 (.q 4 (.q 6 (.b 5 7 (.d 7 (.d 8 (.q 9 (.d 10 .nil)))) (.d 5 (.d 8 (.q 9 (.d 10 .nil))))))))))) default (by kernel_rfl) (by kernel_rfl) (by kernel_rfl) (by kernel_rfl) (hS _ ((Below.refl _ W).drew)) ?_
    simp only [getTr, nth]
    obtain ⟨y0, hy0e⟩ : ∃ y0, y0 = W.drew := ⟨_, rfl⟩
    have yW0 : Below W.heap.size W y0 := by rw [hy0e]; exact (Below.refl _ W).drew
    have yK0 : KeepsOthers W y0 := by rw [hy0e]; exact KeepsOthers.drew W
    rw [← hy0e]
    clear hy0e
    repeat (first | (refine trS (by rfl) ?_; simp only [Act.put, List.setIfInBounds_toArray, List.set_cons_zero, List.set_cons_succ]) | (refine trN (by rfl) ?_; simp only [Act.put, List.setIfInBounds_toArray, List.set_cons_zero, List.set_cons_succ]) | (refine trQ (v := ?_) (by rfl) (fun _ hSw => ?_) ?_; rotate_left; (focus ((have hS1 := hSw); clear hSw; go_simp; (first | done | with_reducible rfl))); simp only [Act.put, List.setIfInBounds_toArray, List.set_cons_zero, List.set_cons_succ]))
    have hg0 : g < W.heap.size := (hO.own.blk (by omega) rfl).2
    refine trB ?_ ?_
    have o1 : y0.cell? ⟨g, j, none⟩ = some (.slice u.A u.n u.c) := (yW0.cell (p := ⟨g, j, none⟩) hg0).trans hc0
    refine trD (by rfl) ?_
    intro K hK
    go_simp
    refine hK _ _ (hS _ yW0) ?_
    clear hK K
    try simp only [Act.put, List.setIfInBounds_toArray, List.set_cons_zero, List.set_cons_succ]
    refine trD (by rfl) ?_
    intro K hK
    go_simp
    have yb1 : Below y0.heap.size y0 (y0.alloc (.cells #[.int .i64 (i : Int)] 3)) := (Below.refl _ y0).alloc (Nat.le_refl _) _
    have hrdb : Rd (y0.alloc (.cells #[.int .i64 (i : Int)] 3)) (some ⟨y0.heap.size, 0, none⟩) 1 [.int .i64 (i : Int)] := by
      refine ⟨rfl, fun _ => ⟨y0.heap.size, 0, rfl, fun jj hj => ?_⟩⟩
      obtain rfl : jj = 0 := by omega
      rw [cell_of_row _ _ _ _ _ _ (heap_alloc_new y0 _)]
      rfl
    refine hK _ _ (hS _ (yW0.trans (yb1.mono yW0.size))) ?_
    clear hK K
    try simp only [Act.put, List.setIfInBounds_toArray, List.set_cons_zero, List.set_cons_succ]
    generalize hy1e : y0.alloc (.cells #[.int .i64 (i : Int)] 3) = y1 at hrdb yb1 ⊢
    have yW1 := yW0.trans (yb1.mono yW0.size)
    have yK1 : KeepsOthers y0 y1 := by rw [← hy1e]; exact KeepsOthers.alloc _ _
    clear hy1e
    refine trD (by rfl) ?_
    intro K hK
    have hO1 := hO.below yW1
    have huO1 := huO.below yW1
    refine wp_app _ _ _ _ rfl 3 i0 _ 8 Try.underlying25 hi0 hz0 hz1 hz2 rfl w.heap.size u.A u.n u.c (ci64 u.zs) (by rfl) huO1.own _ _ _ [.int .i64 (i : Int)] (by rfl) hrdb (by simp; rfl) (by simp only [maxLen]; omega) (by omega) (Nat.le_trans hB.size yW1.size) ?_
    intro A3 c3 y2 hown2 hbel2 hf2 hat2
    have hOs := fun hz => hO1.app_row hu hown2 hf2 hat2 (Nat.le_refl _) (z := (i : Int)) hz
    have hB2 := (hB.trans (yW1.mono hB.size)).trans hbel2
    have a2 : Boxed y2 tb 22 (.slice (some ⟨g, 0, none⟩) k k) := by
      have a1 := boxed_below aB yW1
      exact boxed_keep a1 (hf2 tb a1.lt (own_apart huO1.own a1 (by decide)))
    refine hK _ _ a2.cell ?_
    clear hK K
    try simp only [Act.put, List.setIfInBounds_toArray, List.set_cons_zero, List.set_cons_succ]
    repeat (first | (refine trS (by rfl) ?_; simp only [Act.put, List.setIfInBounds_toArray, List.set_cons_zero, List.set_cons_succ]) | (refine trN (by rfl) ?_; simp only [Act.put, List.setIfInBounds_toArray, List.set_cons_zero, List.set_cons_succ]) | (refine trQ (v := ?_) (by rfl) (fun _ hSw => ?_) ?_; rotate_left; (focus ((have hS1 := hSw); clear hSw; go_simp; (first | done | with_reducible rfl))); simp only [Act.put, List.setIfInBounds_toArray, List.set_cons_zero, List.set_cons_succ]))
    have hO2 : Own y2 w.heap.size 25 (some ⟨g, 0, none⟩) k k (t.map Ls.v) := hO1.own.other huO1.own (by decide) hf2
    have c5 := hO2.cell hjk
    rw [List.getElem?_map, hu] at c5
    have c6 : y2.cell? ⟨g, j, none⟩ = some (.slice u.A u.n u.c) := c5
    have f6 := hO2.free (by omega) j
    have hB3 := hB2.setCell (p := ⟨g, j, none⟩) (hO2.base (by omega)) (.slice A3 (u.n + 1) c3)
    have a3 := boxed_keep a2 (heap_setCell_other y2 ⟨g, j, none⟩ tb (.slice A3 (u.n + 1) c3) (by show tb ≠ g; omega))
    refine trD (by rfl) ?_
    intro K hK
    go_simp
    refine hK _ _ a3.cell ?_
    clear hK K
    refine trER ?_
    gi_wp2
    exact ⟨((yK0.trans (yK1.trans (others_app huO1.own hbel2.size hf2))).trans (KeepsOthers.setCell _ _ _)).from _, fun _ => hx.below hB3, ⟨a3, _, hOs (by omega), Lib.hid (HNew.out A3 c3)⟩, hB3⟩
    refine trD (by rfl) ?_
    intro K hK
    go_simp
    have yb1 : Below y0.heap.size y0 (y0.alloc (.cells #[.int .i64 (i : Int)] 3)) := (Below.refl _ y0).alloc (Nat.le_refl _) _
    have hrdb : Rd (y0.alloc (.cells #[.int .i64 (i : Int)] 3)) (some ⟨y0.heap.size, 0, none⟩) 1 [.int .i64 (i : Int)] := by
      refine ⟨rfl, fun _ => ⟨y0.heap.size, 0, rfl, fun jj hj => ?_⟩⟩
      obtain rfl : jj = 0 := by omega
      rw [cell_of_row _ _ _ _ _ _ (heap_alloc_new y0 _)]
      rfl
    refine hK _ _ (hS _ (yW0.trans (yb1.mono yW0.size))) ?_
    clear hK K
    try simp only [Act.put, List.setIfInBounds_toArray, List.set_cons_zero, List.set_cons_succ]
    generalize hy1e : y0.alloc (.cells #[.int .i64 (i : Int)] 3) = y1 at hrdb yb1 ⊢
    have yW1 := yW0.trans (yb1.mono yW0.size)
    have yK1 : KeepsOthers y0 y1 := by rw [← hy1e]; exact KeepsOthers.alloc _ _
    clear hy1e
    have o1 : y1.cell? ⟨g, j, none⟩ = some (.slice u.A u.n u.c) := (yW1.cell (p := ⟨g, j, none⟩) hg0).trans hc0
    refine trD (by rfl) ?_
    intro K hK
    go_simp
    refine hK _ _ (hS _ yW1) ?_
    clear hK K
    try simp only [Act.put, List.setIfInBounds_toArray, List.set_cons_zero, List.set_cons_succ]
    refine trD (by rfl) ?_
    intro K hK
    have hO1 := hO.below yW1
    have huO1 := huO.below yW1
    refine wp_app _ _ _ _ rfl 3 i0 _ 8 Try.underlying25 hi0 hz0 hz1 hz2 rfl w.heap.size u.A u.n u.c (ci64 u.zs) (by rfl) huO1.own _ _ _ [.int .i64 (i : Int)] (by rfl) hrdb (by simp; rfl) (by simp only [maxLen]; omega) (by omega) (Nat.le_trans hB.size yW1.size) ?_
    intro A3 c3 y2 hown2 hbel2 hf2 hat2
    have hOs := fun hz => hO1.app_row hu hown2 hf2 hat2 (Nat.le_refl _) (z := (i : Int)) hz
    have hB2 := (hB.trans (yW1.mono hB.size)).trans hbel2
    have a2 : Boxed y2 tb 22 (.slice (some ⟨g, 0, none⟩) k k) := by
      have a1 := boxed_below aB yW1
      exact boxed_keep a1 (hf2 tb a1.lt (own_apart huO1.own a1 (by decide)))
    refine hK _ _ a2.cell ?_
    clear hK K
    try simp only [Act.put, List.setIfInBounds_toArray, List.set_cons_zero, List.set_cons_succ]
    repeat (first | (refine trS (by rfl) ?_; simp only [Act.put, List.setIfInBounds_toArray, List.set_cons_zero, List.set_cons_succ]) | (refine trN (by rfl) ?_; simp only [Act.put, List.setIfInBounds_toArray, List.set_cons_zero, List.set_cons_succ]) | (refine trQ (v := ?_) (by rfl) (fun _ hSw => ?_) ?_; rotate_left; (focus ((have hS1 := hSw); clear hSw; go_simp; (first | done | with_reducible rfl))); simp only [Act.put, List.setIfInBounds_toArray, List.set_cons_zero, List.set_cons_succ]))
    have hO2 : Own y2 w.heap.size 25 (some ⟨g, 0, none⟩) k k (t.map Ls.v) := hO1.own.other huO1.own (by decide) hf2
    have c5 := hO2.cell hjk
    rw [List.getElem?_map, hu] at c5
    have c6 : y2.cell? ⟨g, j, none⟩ = some (.slice u.A u.n u.c) := c5
    have f6 := hO2.free (by omega) j
    have hB3 := hB2.setCell (p := ⟨g, j, none⟩) (hO2.base (by omega)) (.slice A3 (u.n + 1) c3)
    have a3 := boxed_keep a2 (heap_setCell_other y2 ⟨g, j, none⟩ tb (.slice A3 (u.n + 1) c3) (by show tb ≠ g; omega))
    refine trD (by rfl) ?_
    intro K hK
    go_simp
    refine hK _ _ a3.cell ?_
    clear hK K
    refine trER ?_
    gi_wp2
    exact ⟨((yK0.trans (yK1.trans (others_app huO1.own hbel2.size hf2))).trans (KeepsOthers.setCell _ _ _)).from _, fun _ => hx.below hB3, ⟨a3, _, hOs (by omega), Lib.hid (HNew.out A3 c3)⟩, hB3⟩
  case done =>
    rintro D ys W hD hys ⟨⟨aB, t, hO, hall⟩, hB⟩ hK
    have c1 := aB.cell
    go_wp2
    have hc := cel_putObj (w := W) (l := D) (.deferred none) hK rfl
    refine postM_mark hK (results_tmp2 rfl _ _ _) rfl ?_
    refine ⟨some ⟨g, 0, none⟩, k, k, by simp [errG, HC.out], t, hO.cel hc, ?_, hB.trans (belowK_b (w := w) (Nat.le_refl _) _ D _ _ (Nat.le_trans hB5.size hD) hK rfl rfl)⟩
    rw [hall.out, hys, ← HG.out, turnTo_all HR.out, turnedE, if_pos HC.out]
    rfl
  case stop =>
    rintro D c pre W hD hsp h _
    exact h.elim
end Go.Proofs.Ytcjfgkihmhdhlaa
