/-
  Walks of the document's own disk: New, Blown, Writes, Len, Fuse, Read, Write, Copy.
-/
import Derived.Test.YthgbenncheoemaaDoorProg
import Derived.Test.YthgbenncheoemaaDoorRef03D
import Derived.Test.YthgbenncheoemaaDoorDisksW3
import Derived.Test.YthgbenncheoemaaDoorReg2
import Derived.Lib.SlBuf
import Derived.BigQuiet
import Derived.Deep.QuietTactic
import Derived.Deep.DeepMust
namespace Go.Proofs.YthgbenncheoemaaDoor
open Go.RowKit
set_option linter.unusedVariables false

theorem infob_bytes : (Tryd.prog.info? 42).map (fun i => (i.zero, i.size, i.bytes)) = some (some (.slice none 0 0), 1, 24) := by kernel_rfl

/-- make([]E, n), E of one cell: one operation. -/
theorem wp_mk {P : Program} (w : World) {o : Oper} {a : Act} {K : Act → World → Prop} {Q : Exit → Act → World → Prop} (l c : Operand) (t : TypeId) (hop : o.op = Op.makeSlice t l c)
    (B : Nat) (e : TypeId) (i : TypeInfo) (z : Value) (h1 : P.underlying t = some (.slice e)) (h2 : P.info? e = some i) (h3 : i.zero = some z) (h4 : i.size = 1) (hz : z.cells = #[z])
    (kl kc : IntKind) (n : Nat) (hl : a.eval l = .int kl n) (hc : a.eval c = .int kc n) (b2 : i.bytes * n ≤ 281474976710656) (b3 : n ≤ maxLen) (b4 : B ≤ w.heap.size)
    (hK : ∀ w', Own w' B e (some ⟨w.heap.size, 0, none⟩) n n (List.replicate n z) → Below w.heap.size w w' → K (a.put o.dst (.slice (some ⟨w.heap.size, 0, none⟩) n n)) w') : o.wp P a w K Q := by
  obtain ⟨w', hrun, r1, r2⟩ := run_make_full (P := P) w B t e i z 1 h1 h2 h3 h4 kl kc n b2 b3 b4
  unfold Oper.wp
  simp only [execOp, hop, hl, hc, hrun, Sem.run_bind, Sem.run_pure, Result.andThen_ok]
  refine hK w' ?_ ((Below.refl _ w).grown r2 (Nat.le_refl _) (by intro k hk; cases hk))
  obtain ⟨A2, c2, hv, h⟩ := Own.of_row r1
  cases hv
  rw [hz, Nat.mul_one, toList_madeCells_one] at h
  exact h

/-- What the call has made whole. -/
theorem Own.whole {w : World} {B g : Nat} {e : TypeId} {n : Nat} {xs : List Value} (h : Own w B e (some ⟨g, 0, none⟩) n n xs) (hn : 0 < n) : w.heap[g]? = some (.cells xs.toArray e (0, 0)) := by
  obtain ⟨g', cur, hA, _, hh, _, _, hs, ht⟩ := h.2.resolve_left (by omega)
  cases hA
  rw [List.take_of_length_le (by simp [hs])] at ht
  have hcur : cur = xs.toArray := Array.ext' ht
  rw [hh, hcur]

theorem blank_snoc (j : Nat) : blankD (j + 1) = { blankD j with ss := (blankD j).ss ++ [List.replicate 64 0] } := by simp [blankD, List.replicate_succ']
theorem blank_length (j : Nat) : (blankD j).ss.length = j := by simp [blankD]

set_option maxRecDepth 100000 in
theorem refnew_arg (n : Int) (w : World) (h : n < 1 ∨ 1024 < n) : Calls Tryd.prog 6 #[.int .i64 n] w fun e w' => e = .returned (.tuple #[.pointer none, .int .i64 1]) ∧ w = w' := by
  by_cases h1 : n < 1
  · go_enter Tryd.func6, Tryd.ntmps6
    go_wp2
    go_ret2
    exact ⟨rfl, rfl⟩
  · have h2 : 1024 < n := by omega
    go_enter Tryd.func6, Tryd.ntmps6
    go_wp2
    go_ret2
    exact ⟨rfl, rfl⟩

set_option maxRecDepth 100000 in
set_option maxHeartbeats 1000000 in
theorem refnew_ok (n : Nat) (w : World) (h1 : 1 ≤ n) (hn : n ≤ 1024) : Calls Tryd.prog 6 #[.int .i64 n] w fun e w' =>
    ∃ q A c gs, e = .returned (.tuple #[.pointer (some ⟨q, 0, none⟩), .int .i64 0]) ∧ RfAt w' w.heap.size q (blankD n) A c gs ∧ gs.Nodup ∧ Below w.heap.size w w' := by
  obtain ⟨i0, hi0, hz0, hz1, hz2⟩ := info_parts infod_u8
  obtain ⟨j0, hj0, hy0, hy1, hy2⟩ := info_parts infob_bytes
  have s1 : decide ((n : Int) < 1) = false := by simp; omega
  have s2 : decide (1024 < (n : Int)) = false := by simp; omega
  have s2' : decide (1024 < n) = false := by simp; omega
  go_enter Tryd.func6, Tryd.ntmps6
  go_wp2_with fail
  clear s1 s2 s2'
  have hst : RfAt (w.alloc (.cells #[.slice none 0 0, .int .i64 (-1), .bool false, .int .i64 0] 60)) w.heap.size w.heap.size (blankD 0) none 0 [] :=
    ⟨by rw [heap_alloc_new]; rfl, Nat.le_refl _, Own.none_ _ _ _ _, fun j g s hg => by simp at hg, fun s hs => by simp [blankD] at hs, by simp [blankD], by simp [blankD], by simp [blankD]⟩
  have hBst : Below w.heap.size w (w.alloc (.cells #[.slice none 0 0, .int .i64 (-1), .bool false, .int .i64 0] 60)) := (Below.refl _ w).alloc (Nat.le_refl _) _
  have HST := Lib.hid hst
  have HBST := Lib.hid hBst
  clear hst hBst
  go_loopw [5] (fun i wr => ∃ (j : Nat) (A : Option Addr) (c : Nat) (gs : List Nat), j ≤ n ∧ i = .int .i64 j ∧ RfAt wr w.heap.size w.heap.size (blankD j) A c gs ∧ gs.Nodup ∧ Below w.heap.size w wr) (fun i _ => n - (intOf i).toNat)
  case atStart => exact ⟨0, none, 0, [], Nat.zero_le _, rfl, HST.out, List.nodup_nil, HBST.out⟩
  case round =>
    obtain ⟨j, A, c, gs, hj, rfl, hr, hN, hB⟩ := hrel
    have HN := Lib.hid hN
    clear hN
    by_cases hlt : j < n
    · have hc0 := hr.c0
      rw [blank_length] at hc0
      have kq0 : wr.drew.cell? ⟨w.heap.size, 0, none⟩ = some (.slice A j c) := hc0
      have hql := hr.ltq
      have hgl : gs.length = j := by rw [hr.gl, blank_length]
      have hglt : ∀ x ∈ gs, x < wr.heap.size := fun x hx => by
        obtain ⟨k, hk⟩ := List.getElem?_of_mem hx
        have hkl := (List.getElem?_eq_some_iff.1 hk).1
        exact (Array.getElem?_eq_some_iff.1 (hr.row k x _ hk (List.getElem?_eq_getElem (by rw [blank_length]; omega))).2).1
      have HLT := Lib.hid hglt
      clear hglt hgl
      go_wp2_with fail
      refine wp_region_tr (S := fun _ => True) (.q 0 (.q 1 (.q 2 (.q 3 (.b 4 5 (.d 5 (.d 6 (.d 7 (.q 8 (.q 9 (.d 10 .nil)))))) (.b 4 6 (.d 6 (.d 7 (.q 8 (.q 9 (.d 10 .nil))))) (.d 4 (.d 7 (.q 8 (.q 9 (.d 10 .nil))))))))))) default (by kernel_rfl) (by kernel_rfl) (by kernel_rfl) trivial ?_
      simp only [getTr, nth]
      repeat (first | (refine trS (by rfl) ?_; simp only [Act.put, List.setIfInBounds_toArray, List.set_cons_zero, List.set_cons_succ]) | (refine trN (by rfl) ?_; simp only [Act.put, List.setIfInBounds_toArray, List.set_cons_zero, List.set_cons_succ]) | (refine trQ (v := ?_) (by rfl) (fun _ hSw => ?_) ?_; rotate_left; (focus (go_simp; (first | done | with_reducible rfl))); simp only [Act.put, List.setIfInBounds_toArray, List.set_cons_zero, List.set_cons_succ]))
      refine trB ?_ ?_
      · refine trD (by rfl) ?_
        intro K hK
        go_simp
        refine hK _ _ trivial ?_
        clear hK K
        try simp only [Act.put, List.setIfInBounds_toArray, List.set_cons_zero, List.set_cons_succ]
        refine trD (by rfl) ?_
        intro K hK
        refine wp_mk _ _ _ 42 rfl w.heap.size 5 i0 _ Tryd.underlying42 hi0 hz0 hz1 rfl .i64 .i64 64 (by rfl) (by rfl) (by rw [hz2]; omega) (by simp only [maxLen]; omega) (by show w.heap.size ≤ wr.heap.size; omega) ?_
        intro w1 ho1 hb1
        refine hK _ _ trivial ?_
        clear hK K
        try simp only [Act.put, List.setIfInBounds_toArray, List.set_cons_zero, List.set_cons_succ]
        have kq1 : w1.cell? ⟨w.heap.size, 0, none⟩ = some (.slice A j c) := by rw [hb1.cell (p := ⟨w.heap.size, 0, none⟩) (by show w.heap.size < wr.heap.size; exact hql)]; exact kq0
        have hw1 := ho1.whole (by omega)
        have r1 := hr.drew.below hb1
        have sz1 : wr.heap.size ≤ w1.heap.size := hb1.size
        have hl1 : wr.heap.size < w1.heap.size := (Array.getElem?_eq_some_iff.1 hw1).1
        refine trD (by rfl) ?_
        intro K hK
        go_simp
        refine hK _ _ trivial ?_
        clear hK K
        try simp only [Act.put, List.setIfInBounds_toArray, List.set_cons_zero, List.set_cons_succ]
        have kq2 : (w1.alloc (.cells #[.slice (some ⟨wr.heap.size, 0, none⟩) 64 64] 42)).cell? ⟨w.heap.size, 0, none⟩ = some (.slice A j c) := by rw [World.cell?_of_block (w := w1) (Below.heap_alloc w1 _ _ (by show w.heap.size < w1.heap.size; omega))]; exact kq1
        have lit : Rd (w1.alloc (.cells #[.slice (some ⟨wr.heap.size, 0, none⟩) 64 64] 42)) (some ⟨w1.heap.size, 0, none⟩) 1 [sl64 wr.heap.size] := by
          refine ⟨rfl, fun _ => ⟨_, 0, rfl, fun i hi => ?_⟩⟩
          obtain rfl : i = 0 := by omega
          rw [cell_of_row _ _ _ _ _ _ (heap_alloc_new w1 _)]
          rfl
        have r2 := r1.alloc (.cells #[.slice (some ⟨wr.heap.size, 0, none⟩) 64 64] 42)
        have hw2 : (w1.alloc (.cells #[.slice (some ⟨wr.heap.size, 0, none⟩) 64 64] 42)).heap[wr.heap.size]? = _ := (Below.heap_alloc w1 _ _ hl1).trans hw1
        have hb2 : Below wr.heap.size wr (w1.alloc (.cells #[.slice (some ⟨wr.heap.size, 0, none⟩) 64 64] 42)) := (Below.refl _ wr).drew.trans (hb1.alloc hb1.size _)
        have sz2 : w1.heap.size < (w1.alloc (.cells #[.slice (some ⟨wr.heap.size, 0, none⟩) 64 64] 42)).heap.size := by simp
        generalize w1.alloc (.cells #[.slice (some ⟨wr.heap.size, 0, none⟩) 64 64] 42) = w2 at kq2 lit r2 hw2 hb2 sz2 ⊢
        have ow := r2.own
        rw [blank_length] at ow
        refine trD (by rfl) ?_
        intro K hK
        refine wp_app _ _ _ _ rfl 42 j0 _ 24 Tryd.underlying58 hj0 hy0 hy1 hy2 rfl w.heap.size A j c (gs.map sl64) (by rfl) ow _ 1 _ [sl64 wr.heap.size] (by rfl) lit (by intro u hu; rw [List.mem_singleton.1 hu]; rfl) (by simp only [maxLen]; omega) (by omega) (by omega) ?_
        intro A2 c2 w3 ho3 hb3 hf3 hat3
        refine hK _ _ trivial ?_
        clear hK K
        try simp only [Act.put, List.setIfInBounds_toArray, List.set_cons_zero, List.set_cons_succ]
        have hkeep : ∀ (k : Nat) (cs : Array Value) (t : TypeId), t ≠ 42 → w2.heap[k]? = some (.cells cs t (0, 0)) → w3.heap[k]? = w2.heap[k]? := by
          intro k cs t ht hk
          refine hf3 k (Array.getElem?_eq_some_iff.1 hk).1 ?_
          rcases ow.2 with h0 | ⟨g, cur, hA, _, hh, _⟩
          · exact .inl h0
          · right
            rw [hA]
            intro he
            cases he
            rw [hh] at hk
            cases hk
            exact ht rfl
        have hq3 := (hkeep _ _ _ (by decide) r2.hq).trans r2.hq
        have kq3 : w3.cell? ⟨w.heap.size, 0, none⟩ = some (.slice A j c) := by rw [cell_of_row _ _ _ _ _ _ hq3]; rw [← kq2, r2.c0]; rfl
        have kf3 : w3.frozen? ⟨w.heap.size, 0, none⟩ = false := by simp [World.frozen?, hq3]
        have hN3 := (hkeep _ _ _ (by decide) hw2).trans hw2
        have hkg : ∀ (k : Nat) (cs : Array Value), wr.heap[k]? = some (.cells cs 5 (0, 0)) → w3.heap[k]? = wr.heap[k]? := by
          intro k cs hk
          have h2 := hb2.block k (Array.getElem?_eq_some_iff.1 hk).1
          rw [hkeep k cs _ (by decide) (h2.trans hk), h2]
        repeat (first | (refine trS (by rfl) ?_; simp only [Act.put, List.setIfInBounds_toArray, List.set_cons_zero, List.set_cons_succ]) | (refine trN (by rfl) ?_; simp only [Act.put, List.setIfInBounds_toArray, List.set_cons_zero, List.set_cons_succ]) | (refine trQ (v := ?_) (by rfl) (fun _ hSw => ?_) ?_; rotate_left; (focus (go_simp; (first | done | with_reducible rfl))); simp only [Act.put, List.setIfInBounds_toArray, List.set_cons_zero, List.set_cons_succ]))
        refine trD (by rfl) ?_
        intro K hK
        go_simp
        refine hK _ _ trivial ?_
        clear hK K
        refine trE ?_
        have hq4 := heap_setCell_same w3 w.heap.size 0 _ _ (.slice A2 (j + 1) c2) hq3
        have hft : FrT [60] w3 (w3.setCell ⟨w.heap.size, 0, none⟩ (.slice A2 (j + 1) c2)) := (FrT.refl _ w3).setCell (a := ⟨w.heap.size, 0, none⟩) hq3 (by simp) _
        have nd : (gs ++ [wr.heap.size]).Nodup := by
          rw [List.nodup_append]
          refine ⟨HN.out, by simp, fun x hx y hy => ?_⟩
          rw [List.mem_singleton.1 hy]
          have := HLT.out x hx
          omega
        have hfin : RfAt (w3.setCell ⟨w.heap.size, 0, none⟩ (.slice A2 (j + 1) c2)) w.heap.size w.heap.size (blankD (j + 1)) A2 c2 (gs ++ [wr.heap.size]) := by
          rw [blank_snoc]
          refine hr.push (w' := w3.setCell ⟨w.heap.size, 0, none⟩ (.slice A2 (j + 1) c2)) (List.replicate 64 0) (by simp) wr.heap.size A2 c2 (by rw [blank_length]; omega) ?_ ?_ ?_ ?_ (by omega)
          · rw [hq4]
            simp [Dk.rcells, blankD]
          · rw [blank_length, List.map_append]
            exact ho3.frt hft (by decide)
          · intro k cs hk
            rw [hft.2 k cs _ _ ((hkg k cs hk).trans hk) (by decide), hkg k cs hk]
          · rw [hft.2 _ _ _ _ hN3 (by decide), hN3]
            simp [cu8, bV]
        have hBfin : Below w.heap.size w (w3.setCell ⟨w.heap.size, 0, none⟩ (.slice A2 (j + 1) c2)) := ((hB.trans (hb2.mono (by omega))).trans hb3).setCell (p := ⟨w.heap.size, 0, none⟩) (Nat.le_refl _) _
        have HF := Lib.hid hfin
        have HBF := Lib.hid hBfin
        have ND := Lib.hid nd
        clear hfin hBfin nd hq4 hft hkg hN3 kf3 kq3 hq3 hkeep ho3 hb3 hf3 hat3 ow kq2 lit r2 hw2 hb2 r1 hw1 kq1 ho1 hb1 hr hB
        go_wp2
        go_roundw
        case rel => exact ⟨j + 1, A2, c2, gs ++ [wr.heap.size], by omega, by go_num, HF.out, ND.out, HBF.out⟩
        case measure => simp [intOf]; omega
      · refine trD (by rfl) ?_
        intro K hK
        refine wp_mk _ _ _ 42 rfl w.heap.size 5 i0 _ Tryd.underlying42 hi0 hz0 hz1 rfl .i64 .i64 64 (by rfl) (by rfl) (by rw [hz2]; omega) (by simp only [maxLen]; omega) (by show w.heap.size ≤ wr.heap.size; omega) ?_
        intro w1 ho1 hb1
        refine hK _ _ trivial ?_
        clear hK K
        try simp only [Act.put, List.setIfInBounds_toArray, List.set_cons_zero, List.set_cons_succ]
        have kq1 : w1.cell? ⟨w.heap.size, 0, none⟩ = some (.slice A j c) := by rw [hb1.cell (p := ⟨w.heap.size, 0, none⟩) (by show w.heap.size < wr.heap.size; exact hql)]; exact kq0
        have hw1 := ho1.whole (by omega)
        have r1 := hr.drew.below hb1
        have sz1 : wr.heap.size ≤ w1.heap.size := hb1.size
        have hl1 : wr.heap.size < w1.heap.size := (Array.getElem?_eq_some_iff.1 hw1).1
        refine trB ?_ ?_
        · refine trD (by rfl) ?_
          intro K hK
          go_simp
          refine hK _ _ trivial ?_
          clear hK K
          try simp only [Act.put, List.setIfInBounds_toArray, List.set_cons_zero, List.set_cons_succ]
          refine trD (by rfl) ?_
          intro K hK
          go_simp
          refine hK _ _ trivial ?_
          clear hK K
          try simp only [Act.put, List.setIfInBounds_toArray, List.set_cons_zero, List.set_cons_succ]
          have kq2 : (w1.alloc (.cells #[.slice (some ⟨wr.heap.size, 0, none⟩) 64 64] 42)).cell? ⟨w.heap.size, 0, none⟩ = some (.slice A j c) := by rw [World.cell?_of_block (w := w1) (Below.heap_alloc w1 _ _ (by show w.heap.size < w1.heap.size; omega))]; exact kq1
          have lit : Rd (w1.alloc (.cells #[.slice (some ⟨wr.heap.size, 0, none⟩) 64 64] 42)) (some ⟨w1.heap.size, 0, none⟩) 1 [sl64 wr.heap.size] := by
            refine ⟨rfl, fun _ => ⟨_, 0, rfl, fun i hi => ?_⟩⟩
            obtain rfl : i = 0 := by omega
            rw [cell_of_row _ _ _ _ _ _ (heap_alloc_new w1 _)]
            rfl
          have r2 := r1.alloc (.cells #[.slice (some ⟨wr.heap.size, 0, none⟩) 64 64] 42)
          have hw2 : (w1.alloc (.cells #[.slice (some ⟨wr.heap.size, 0, none⟩) 64 64] 42)).heap[wr.heap.size]? = _ := (Below.heap_alloc w1 _ _ hl1).trans hw1
          have hb2 : Below wr.heap.size wr (w1.alloc (.cells #[.slice (some ⟨wr.heap.size, 0, none⟩) 64 64] 42)) := (Below.refl _ wr).drew.trans (hb1.alloc hb1.size _)
          have sz2 : w1.heap.size < (w1.alloc (.cells #[.slice (some ⟨wr.heap.size, 0, none⟩) 64 64] 42)).heap.size := by simp
          generalize w1.alloc (.cells #[.slice (some ⟨wr.heap.size, 0, none⟩) 64 64] 42) = w2 at kq2 lit r2 hw2 hb2 sz2 ⊢
          have ow := r2.own
          rw [blank_length] at ow
          refine trD (by rfl) ?_
          intro K hK
          refine wp_app _ _ _ _ rfl 42 j0 _ 24 Tryd.underlying58 hj0 hy0 hy1 hy2 rfl w.heap.size A j c (gs.map sl64) (by rfl) ow _ 1 _ [sl64 wr.heap.size] (by rfl) lit (by intro u hu; rw [List.mem_singleton.1 hu]; rfl) (by simp only [maxLen]; omega) (by omega) (by omega) ?_
          intro A2 c2 w3 ho3 hb3 hf3 hat3
          refine hK _ _ trivial ?_
          clear hK K
          try simp only [Act.put, List.setIfInBounds_toArray, List.set_cons_zero, List.set_cons_succ]
          have hkeep : ∀ (k : Nat) (cs : Array Value) (t : TypeId), t ≠ 42 → w2.heap[k]? = some (.cells cs t (0, 0)) → w3.heap[k]? = w2.heap[k]? := by
            intro k cs t ht hk
            refine hf3 k (Array.getElem?_eq_some_iff.1 hk).1 ?_
            rcases ow.2 with h0 | ⟨g, cur, hA, _, hh, _⟩
            · exact .inl h0
            · right
              rw [hA]
              intro he
              cases he
              rw [hh] at hk
              cases hk
              exact ht rfl
          have hq3 := (hkeep _ _ _ (by decide) r2.hq).trans r2.hq
          have kq3 : w3.cell? ⟨w.heap.size, 0, none⟩ = some (.slice A j c) := by rw [cell_of_row _ _ _ _ _ _ hq3]; rw [← kq2, r2.c0]; rfl
          have kf3 : w3.frozen? ⟨w.heap.size, 0, none⟩ = false := by simp [World.frozen?, hq3]
          have hN3 := (hkeep _ _ _ (by decide) hw2).trans hw2
          have hkg : ∀ (k : Nat) (cs : Array Value), wr.heap[k]? = some (.cells cs 5 (0, 0)) → w3.heap[k]? = wr.heap[k]? := by
            intro k cs hk
            have h2 := hb2.block k (Array.getElem?_eq_some_iff.1 hk).1
            rw [hkeep k cs _ (by decide) (h2.trans hk), h2]
          repeat (first | (refine trS (by rfl) ?_; simp only [Act.put, List.setIfInBounds_toArray, List.set_cons_zero, List.set_cons_succ]) | (refine trN (by rfl) ?_; simp only [Act.put, List.setIfInBounds_toArray, List.set_cons_zero, List.set_cons_succ]) | (refine trQ (v := ?_) (by rfl) (fun _ hSw => ?_) ?_; rotate_left; (focus (go_simp; (first | done | with_reducible rfl))); simp only [Act.put, List.setIfInBounds_toArray, List.set_cons_zero, List.set_cons_succ]))
          refine trD (by rfl) ?_
          intro K hK
          go_simp
          refine hK _ _ trivial ?_
          clear hK K
          refine trE ?_
          have hq4 := heap_setCell_same w3 w.heap.size 0 _ _ (.slice A2 (j + 1) c2) hq3
          have hft : FrT [60] w3 (w3.setCell ⟨w.heap.size, 0, none⟩ (.slice A2 (j + 1) c2)) := (FrT.refl _ w3).setCell (a := ⟨w.heap.size, 0, none⟩) hq3 (by simp) _
          have nd : (gs ++ [wr.heap.size]).Nodup := by
            rw [List.nodup_append]
            refine ⟨HN.out, by simp, fun x hx y hy => ?_⟩
            rw [List.mem_singleton.1 hy]
            have := HLT.out x hx
            omega
          have hfin : RfAt (w3.setCell ⟨w.heap.size, 0, none⟩ (.slice A2 (j + 1) c2)) w.heap.size w.heap.size (blankD (j + 1)) A2 c2 (gs ++ [wr.heap.size]) := by
            rw [blank_snoc]
            refine hr.push (w' := w3.setCell ⟨w.heap.size, 0, none⟩ (.slice A2 (j + 1) c2)) (List.replicate 64 0) (by simp) wr.heap.size A2 c2 (by rw [blank_length]; omega) ?_ ?_ ?_ ?_ (by omega)
            · rw [hq4]
              simp [Dk.rcells, blankD]
            · rw [blank_length, List.map_append]
              exact ho3.frt hft (by decide)
            · intro k cs hk
              rw [hft.2 k cs _ _ ((hkg k cs hk).trans hk) (by decide), hkg k cs hk]
            · rw [hft.2 _ _ _ _ hN3 (by decide), hN3]
              simp [cu8, bV]
          have hBfin : Below w.heap.size w (w3.setCell ⟨w.heap.size, 0, none⟩ (.slice A2 (j + 1) c2)) := ((hB.trans (hb2.mono (by omega))).trans hb3).setCell (p := ⟨w.heap.size, 0, none⟩) (Nat.le_refl _) _
          have HF := Lib.hid hfin
          have HBF := Lib.hid hBfin
          have ND := Lib.hid nd
          clear hfin hBfin nd hq4 hft hkg hN3 kf3 kq3 hq3 hkeep ho3 hb3 hf3 hat3 ow kq2 lit r2 hw2 hb2 r1 hw1 kq1 ho1 hb1 hr hB
          go_wp2
          go_roundw
          case rel => exact ⟨j + 1, A2, c2, gs ++ [wr.heap.size], by omega, by go_num, HF.out, ND.out, HBF.out⟩
          case measure => simp [intOf]; omega
        · refine trD (by rfl) ?_
          intro K hK
          go_simp
          refine hK _ _ trivial ?_
          clear hK K
          try simp only [Act.put, List.setIfInBounds_toArray, List.set_cons_zero, List.set_cons_succ]
          have kq2 : (w1.alloc (.cells #[.slice (some ⟨wr.heap.size, 0, none⟩) 64 64] 42)).cell? ⟨w.heap.size, 0, none⟩ = some (.slice A j c) := by rw [World.cell?_of_block (w := w1) (Below.heap_alloc w1 _ _ (by show w.heap.size < w1.heap.size; omega))]; exact kq1
          refine trD (by rfl) ?_
          intro K hK
          go_simp
          refine hK _ _ trivial ?_
          clear hK K
          try simp only [Act.put, List.setIfInBounds_toArray, List.set_cons_zero, List.set_cons_succ]
          have lit : Rd (w1.alloc (.cells #[.slice (some ⟨wr.heap.size, 0, none⟩) 64 64] 42)) (some ⟨w1.heap.size, 0, none⟩) 1 [sl64 wr.heap.size] := by
            refine ⟨rfl, fun _ => ⟨_, 0, rfl, fun i hi => ?_⟩⟩
            obtain rfl : i = 0 := by omega
            rw [cell_of_row _ _ _ _ _ _ (heap_alloc_new w1 _)]
            rfl
          have r2 := r1.alloc (.cells #[.slice (some ⟨wr.heap.size, 0, none⟩) 64 64] 42)
          have hw2 : (w1.alloc (.cells #[.slice (some ⟨wr.heap.size, 0, none⟩) 64 64] 42)).heap[wr.heap.size]? = _ := (Below.heap_alloc w1 _ _ hl1).trans hw1
          have hb2 : Below wr.heap.size wr (w1.alloc (.cells #[.slice (some ⟨wr.heap.size, 0, none⟩) 64 64] 42)) := (Below.refl _ wr).drew.trans (hb1.alloc hb1.size _)
          have sz2 : w1.heap.size < (w1.alloc (.cells #[.slice (some ⟨wr.heap.size, 0, none⟩) 64 64] 42)).heap.size := by simp
          generalize w1.alloc (.cells #[.slice (some ⟨wr.heap.size, 0, none⟩) 64 64] 42) = w2 at kq2 lit r2 hw2 hb2 sz2 ⊢
          have ow := r2.own
          rw [blank_length] at ow
          refine trD (by rfl) ?_
          intro K hK
          refine wp_app _ _ _ _ rfl 42 j0 _ 24 Tryd.underlying58 hj0 hy0 hy1 hy2 rfl w.heap.size A j c (gs.map sl64) (by rfl) ow _ 1 _ [sl64 wr.heap.size] (by rfl) lit (by intro u hu; rw [List.mem_singleton.1 hu]; rfl) (by simp only [maxLen]; omega) (by omega) (by omega) ?_
          intro A2 c2 w3 ho3 hb3 hf3 hat3
          refine hK _ _ trivial ?_
          clear hK K
          try simp only [Act.put, List.setIfInBounds_toArray, List.set_cons_zero, List.set_cons_succ]
          have hkeep : ∀ (k : Nat) (cs : Array Value) (t : TypeId), t ≠ 42 → w2.heap[k]? = some (.cells cs t (0, 0)) → w3.heap[k]? = w2.heap[k]? := by
            intro k cs t ht hk
            refine hf3 k (Array.getElem?_eq_some_iff.1 hk).1 ?_
            rcases ow.2 with h0 | ⟨g, cur, hA, _, hh, _⟩
            · exact .inl h0
            · right
              rw [hA]
              intro he
              cases he
              rw [hh] at hk
              cases hk
              exact ht rfl
          have hq3 := (hkeep _ _ _ (by decide) r2.hq).trans r2.hq
          have kq3 : w3.cell? ⟨w.heap.size, 0, none⟩ = some (.slice A j c) := by rw [cell_of_row _ _ _ _ _ _ hq3]; rw [← kq2, r2.c0]; rfl
          have kf3 : w3.frozen? ⟨w.heap.size, 0, none⟩ = false := by simp [World.frozen?, hq3]
          have hN3 := (hkeep _ _ _ (by decide) hw2).trans hw2
          have hkg : ∀ (k : Nat) (cs : Array Value), wr.heap[k]? = some (.cells cs 5 (0, 0)) → w3.heap[k]? = wr.heap[k]? := by
            intro k cs hk
            have h2 := hb2.block k (Array.getElem?_eq_some_iff.1 hk).1
            rw [hkeep k cs _ (by decide) (h2.trans hk), h2]
          repeat (first | (refine trS (by rfl) ?_; simp only [Act.put, List.setIfInBounds_toArray, List.set_cons_zero, List.set_cons_succ]) | (refine trN (by rfl) ?_; simp only [Act.put, List.setIfInBounds_toArray, List.set_cons_zero, List.set_cons_succ]) | (refine trQ (v := ?_) (by rfl) (fun _ hSw => ?_) ?_; rotate_left; (focus (go_simp; (first | done | with_reducible rfl))); simp only [Act.put, List.setIfInBounds_toArray, List.set_cons_zero, List.set_cons_succ]))
          refine trD (by rfl) ?_
          intro K hK
          go_simp
          refine hK _ _ trivial ?_
          clear hK K
          refine trE ?_
          have hq4 := heap_setCell_same w3 w.heap.size 0 _ _ (.slice A2 (j + 1) c2) hq3
          have hft : FrT [60] w3 (w3.setCell ⟨w.heap.size, 0, none⟩ (.slice A2 (j + 1) c2)) := (FrT.refl _ w3).setCell (a := ⟨w.heap.size, 0, none⟩) hq3 (by simp) _
          have nd : (gs ++ [wr.heap.size]).Nodup := by
            rw [List.nodup_append]
            refine ⟨HN.out, by simp, fun x hx y hy => ?_⟩
            rw [List.mem_singleton.1 hy]
            have := HLT.out x hx
            omega
          have hfin : RfAt (w3.setCell ⟨w.heap.size, 0, none⟩ (.slice A2 (j + 1) c2)) w.heap.size w.heap.size (blankD (j + 1)) A2 c2 (gs ++ [wr.heap.size]) := by
            rw [blank_snoc]
            refine hr.push (w' := w3.setCell ⟨w.heap.size, 0, none⟩ (.slice A2 (j + 1) c2)) (List.replicate 64 0) (by simp) wr.heap.size A2 c2 (by rw [blank_length]; omega) ?_ ?_ ?_ ?_ (by omega)
            · rw [hq4]
              simp [Dk.rcells, blankD]
            · rw [blank_length, List.map_append]
              exact ho3.frt hft (by decide)
            · intro k cs hk
              rw [hft.2 k cs _ _ ((hkg k cs hk).trans hk) (by decide), hkg k cs hk]
            · rw [hft.2 _ _ _ _ hN3 (by decide), hN3]
              simp [cu8, bV]
          have hBfin : Below w.heap.size w (w3.setCell ⟨w.heap.size, 0, none⟩ (.slice A2 (j + 1) c2)) := ((hB.trans (hb2.mono (by omega))).trans hb3).setCell (p := ⟨w.heap.size, 0, none⟩) (Nat.le_refl _) _
          have HF := Lib.hid hfin
          have HBF := Lib.hid hBfin
          have ND := Lib.hid nd
          clear hfin hBfin nd hq4 hft hkg hN3 kf3 kq3 hq3 hkeep ho3 hb3 hf3 hat3 ow kq2 lit r2 hw2 hb2 r1 hw1 kq1 ho1 hb1 hr hB
          go_wp2
          go_roundw
          case rel => exact ⟨j + 1, A2, c2, gs ++ [wr.heap.size], by omega, by go_num, HF.out, ND.out, HBF.out⟩
          case measure => simp [intOf]; omega

    · obtain rfl : j = n := by omega
      have HR := Lib.hid hr
      clear hr
      go_wp2
      go_ret2
      exact ⟨_, A, c, gs, rfl, HR.out, HN.out, hB⟩

theorem refblown_ok (B q : Nat) (d : Dk) (A : Option Addr) (c : Nat) (gs : List Nat) (w : World) (h : RfAt w B q d A c gs) : Calls Tryd.prog 20 #[.pointer (some ⟨q, 0, none⟩)] w fun e w' => e = .returned (.bool d.blown) ∧ w = w' := by
  have k := h.c2
  have k1 := h.top
  clear h
  go_enter Tryd.func20, Tryd.ntmps20
  go_wp2
  go_ret
  exact ⟨rfl, rfl⟩

theorem refwrites_ok (B q : Nat) (d : Dk) (A : Option Addr) (c : Nat) (gs : List Nat) (w : World) (h : RfAt w B q d A c gs) : Calls Tryd.prog 21 #[.pointer (some ⟨q, 0, none⟩)] w fun e w' => e = .returned (.int .i64 d.writes) ∧ w = w' := by
  have k := h.c3
  have k1 := h.top
  clear h
  go_enter Tryd.func21, Tryd.ntmps21
  go_wp2
  go_ret
  exact ⟨rfl, rfl⟩

theorem reflen_ok (B q : Nat) (d : Dk) (A : Option Addr) (c : Nat) (gs : List Nat) (w : World) (h : RfAt w B q d A c gs) : Calls Tryd.prog 23 #[.pointer (some ⟨q, 0, none⟩)] w fun e w' => e = .returned (.int .i64 d.ss.length) ∧ w = w' := by
  have k := h.c0
  have k1 := h.top
  clear h
  go_enter Tryd.func23, Tryd.ntmps23
  go_wp2
  go_ret
  exact ⟨rfl, rfl⟩

theorem reffuse_blown (B q : Nat) (d : Dk) (A : Option Addr) (c : Nat) (gs : List Nat) (n : Int) (w : World) (h : RfAt w B q d A c gs) (hb : d.blown = true) : Calls Tryd.prog 13 #[.pointer (some ⟨q, 0, none⟩), .int .i64 n] w fun e w' => e = .returned (.int .i64 8) ∧ w = w' := by
  have k := h.c2
  rw [hb] at k
  clear h hb
  go_enter Tryd.func13, Tryd.ntmps13
  go_wp2
  go_ret
  exact ⟨rfl, rfl⟩

theorem reffuse_ok (B q : Nat) (d : Dk) (A : Option Addr) (c : Nat) (gs : List Nat) (n : Int) (w : World) (h : RfAt w B q d A c gs) (hb : d.blown = false) (hn : n ≤ 9223372036854775807) : Calls Tryd.prog 13 #[.pointer (some ⟨q, 0, none⟩), .int .i64 n] w fun e w' =>
    e = .returned (.int .i64 0) ∧ RfAt w' B q { d with left := max n (-1) } A c gs ∧ FrT [60, 42] w w' ∧ Below B w w' := by
  have k := h.c2
  have k1 := h.c1
  have f1 := h.free 1
  rw [hb] at k
  have H := Lib.hid h
  clear h hb
  go_enter Tryd.func13, Tryd.ntmps13
  go_wp2
  all_goals
    go_ret
    refine ⟨rfl, ?_⟩
    refine H.out.setq 1 _ _ ?_ rfl ?_ ?_
    · unfold Dk.rcells
      show #[_, _, _, _] = #[_, Value.int .i64 (max n (-1)), _, _]
      rw [show max (-1 : Int) n = max n (-1) by omega]
    · show -1 ≤ max n (-1); omega
    · show max n (-1) ≤ _; omega

set_option maxRecDepth 100000 in
set_option maxHeartbeats 1000000 in
theorem refread_arg (B q : Nat) (d : Dk) (A : Option Addr) (c : Nat) (gs : List Nat) (n : Int) (w : World) (h : RfAt w B q d A c gs) (hn : n < 0 ∨ (d.ss.length : Int) ≤ n) : Calls Tryd.prog 9 #[.pointer (some ⟨q, 0, none⟩), .int .i64 n] w fun e w' =>
    e = .returned (.tuple #[.slice none 0 0, .int .i64 1]) ∧ w = w' := by
  have k := h.c0
  have k1 := h.top
  clear h
  by_cases h1 : n < 0
  · go_enter Tryd.func9, Tryd.ntmps9
    go_wp2
    go_ret2
    exact ⟨rfl, rfl⟩
  · have h2 : decide ((d.ss.length : Int) ≤ n) = true := by simp; omega
    go_enter Tryd.func9, Tryd.ntmps9
    go_wp2
    go_ret2
    exact ⟨rfl, rfl⟩

set_option maxRecDepth 100000 in
set_option maxHeartbeats 1000000 in
theorem refread_ok (B q : Nat) (d : Dk) (A : Option Addr) (c : Nat) (gs : List Nat) (n : Nat) (w : World) (h : RfAt w B q d A c gs) (hn : n < d.ss.length) : Calls Tryd.prog 9 #[.pointer (some ⟨q, 0, none⟩), .int .i64 n] w fun e w' =>
    ∃ A' c', e = .returned (.tuple #[.slice A' 64 c', .int .i64 0]) ∧ Own w' w.heap.size 5 A' 64 c' (cu8 d.ss[n]) ∧ Below w.heap.size w w' := by
  obtain ⟨i0, hi0, hz0, hz1, hz2⟩ := info_parts infod_u8
  obtain ⟨b, g, rfl, hg, hcell, hrd⟩ := h.sec hn
  have k := h.c0
  have k1 := h.top
  have h2 : decide ((d.ss.length : Int) ≤ (n : Int)) = false := by simp; omega
  have h2' : decide (d.ss.length ≤ n) = false := by simp; omega
  unfold sl64 at hcell
  have HG := Lib.hid hg
  clear h hg
  go_enter Tryd.func9, Tryd.ntmps9
  go_wp2_with (at_builtin; go_must (refine wpList_app _ rfl _ _ 42 rfl 5 i0 _ 1 Tryd.underlying42 hi0 hz0 hz1 hz2 rfl w.heap.size none 0 0 [] rfl (Own.none_ _ _ _ _) _ 64 _ (cu8 d.ss[n]) rfl hrd (cu8_one _) ?c3 ?c4 ?c5 ?_))
  case c3 => simp only [maxLen]; omega
  case c4 => omega
  case c5 => exact Nat.le_refl _
  intro A2 c2 w2 ho2 hb2 _ _
  have ho3 : Own w2 w.heap.size 5 A2 64 c2 (cu8 d.ss[n]) := by simpa using ho2
  have HO := Lib.hid ho3
  clear ho2 ho3 hrd hcell
  go_wp2
  go_ret2
  exact ⟨A2, c2, rfl, HO.out, hb2⟩

set_option maxRecDepth 100000 in
set_option maxHeartbeats 1000000 in
theorem refwrite_arg (B q : Nat) (d : Dk) (A : Option Addr) (c : Nat) (gs : List Nat) (n : Int) (A1 : Option Addr) (m c1 : Nat) (w : World) (h : RfAt w B q d A c gs) (hn : n < 0 ∨ (d.ss.length : Int) ≤ n ∨ 64 < m) : Calls Tryd.prog 19 #[.pointer (some ⟨q, 0, none⟩), .int .i64 n, .slice A1 m c1] w fun e w' =>
    e = .returned (.int .i64 1) ∧ w = w' := by
  have k := h.c0
  have k1 := h.top
  clear h
  by_cases h1 : n < 0
  · go_enter Tryd.func19, Tryd.ntmps19
    go_wp2
    go_ret
    exact ⟨rfl, rfl⟩
  · by_cases h3 : (d.ss.length : Int) ≤ n
    · have h2 : decide ((d.ss.length : Int) ≤ n) = true := by simp; omega
      go_enter Tryd.func19, Tryd.ntmps19
      go_wp2
      go_ret
      exact ⟨rfl, rfl⟩
    · have h2 : decide ((d.ss.length : Int) ≤ n) = false := by simp; omega
      have h4 : decide (64 < m) = true := by simp; omega
      go_enter Tryd.func19, Tryd.ntmps19
      go_wp2
      go_ret
      exact ⟨rfl, rfl⟩
end Go.Proofs.YthgbenncheoemaaDoor
