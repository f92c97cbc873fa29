/-
  Walks of the Book: what it is told, ints.
-/
import Derived.Test.YtbcfncdmkgoidaaDoorProg
import Derived.Test.YtbcfncdmkgoidaaDoorBookW
import Derived.Test.YtbcfncdmkgoidaaDoorReg2
import Derived.Lib.AppendZeros
import Derived.BigQuiet
import Derived.Deep.QuietTactic
import Derived.Deep.DeepMust
namespace Go.Proofs.YtbcfncdmkgoidaaDoor
open Go.RowKit
set_option linter.unusedVariables false

theorem info_heldInt : (Tryd.prog.info? 60).map (fun i => (i.zero, i.size, i.bytes)) = some (some (.agg #[.slice none 0 0, .slice none 0 0, .int .i64 0]), 3, 56) := by kernel_rfl

set_option maxRecDepth 100000 in
set_option maxHeartbeats 1000000 in
theorem keepInt_any (kb N : Nat) (vb vi : Value) (hb hi : List Hl) (A : Option Addr) (n c : Nat) (w : World) (hk : Bk 43 62 60 w kb N vb vi hb hi) (hN : N < 900) (hl : hi.length ≤ 900) :
    Calls Tryd.prog 25 #[.pointer (some ⟨kb, 0, none⟩), .slice A n c] w fun e w' => e = .returned (.tuple #[]) ∧ ∃ v', Bk 43 62 60 w' kb (N + 1) vb v' hb (hi ++ [⟨A, n, c, none, 0, 0, N + 1⟩]) ∧ Below kb w w' := by
  obtain ⟨i0, hi0, hz0, hz1, hz2⟩ := info_parts info_heldInt
  have hc0 : w.cell? ⟨kb, 0, none⟩ = some (.int .i64 N) := hk.cell 0
  have hf0 := hk.free 0
  have hblk := heap_setCell_same w kb 0 _ _ (.int .i64 ((N + 1 : Nat) : Int)) hk.blk
  have hlt := hk.lt
  obtain ⟨A0, c0, hv0, hl0, hl1⟩ := row_slice hk.ti
  subst hv0
  unfold maxLen at hl1
  go_enter Tryd.func25, Tryd.ntmps25
  go_wp2_with fail
  have eN : (N : Int) + 1 = ((N + 1 : Nat) : Int) := by omega
  simp only [eN]
  generalize hw1 : w.setCell ⟨kb, 0, none⟩ (.int .i64 ((N + 1 : Nat) : Int)) = w1 at hblk ⊢
  have hb1 : Below kb w w1 := by rw [← hw1]; exact (Below.refl kb w).setCell (p := ⟨kb, 0, none⟩) (Nat.le_refl _) _
  have htb1 := ownsRow_setCell_below hk.tb (a := ⟨kb, 0, none⟩) (Nat.lt_succ_self _) (.int .i64 ((N + 1 : Nat) : Int))
  have hti1 := ownsRow_setCell_below hk.ti (a := ⟨kb, 0, none⟩) (Nat.lt_succ_self _) (.int .i64 ((N + 1 : Nat) : Int))
  rw [hw1] at htb1 hti1
  have hc1 : w1.cell? ⟨kb, 2, none⟩ = some (.slice A0 hi.length c0) := by rw [cell_of_row w1 kb 2 _ _ _ hblk]; rfl
  have hc2 : w1.cell? ⟨kb, 0, none⟩ = some (.int .i64 ((N + 1 : Nat) : Int)) := by rw [cell_of_row w1 kb 0 _ _ _ hblk]; rfl
  have hlt1 : kb < w1.heap.size := (Array.getElem?_eq_some_iff.1 hblk).1
  clear hw1 eN hc0 hf0
  generalize hM : N + 1 = M at hblk hc2 ⊢
  have HM := Lib.hid hM
  clear hM
  refine wp_region_tr (S := fun _ => True) (.q 0 (.q 1 (.q 2 (.q 3 (.q 5 (.q 6 (.q 7 (.q 8 (.b 4 9 (.d 9 (.q 10 (.d 11 (.d 12 (.q 13 (.q 14 (.d 15 .nil))))))) (.q 10 (.b 4 11 (.d 11 (.d 12 (.q 13 (.q 14 (.d 15 .nil))))) (.d 4 (.d 12 (.q 13 (.q 14 (.d 15 .nil)))))))))))))))) default (by kernel_rfl) (by kernel_rfl) (by kernel_rfl) trivial ?_
  simp only [getTr, nth]
  have hcd1 : w1.drew.cell? ⟨kb, 2, none⟩ = some (.slice A0 hi.length c0) := hc1
  have hcd2 : w1.drew.cell? ⟨kb, 0, none⟩ = some (.int .i64 M) := hc2
  have hcd3 : (w1.alloc (.cells #[.slice A n c, .slice none 0 0, .int .i64 M] 60)).cell? ⟨kb, 2, none⟩ = some (.slice A0 hi.length c0) := (World.cell?_of_block (w := w1) (Below.heap_alloc w1 _ kb hlt1)).trans hc1
  repeat (first | (refine trS (by rfl) ?_; simp only [Act.put, List.setIfInBounds_toArray, List.set_cons_zero, List.set_cons_succ]) | (refine trN (by rfl) ?_; simp only [Act.put, List.setIfInBounds_toArray, List.set_cons_zero, List.set_cons_succ]) | (refine trQ (v := ?_) (by rfl) (fun _ hSw => ?_) ?_; rotate_left; (focus (go_simp; (first | done | with_reducible rfl))); simp only [Act.put, List.setIfInBounds_toArray, List.set_cons_zero, List.set_cons_succ]))
  refine trB ?_ ?_
  refine trD (by rfl) ?_
  intro K hK
  go_simp
  refine hK _ _ trivial ?_
  clear hK K
  try simp only [Act.put, List.setIfInBounds_toArray, List.set_cons_zero, List.set_cons_succ]
  refine trD (by rfl) ?_
  intro K hK
  go_simp
  refine hK _ _ trivial ?_
  clear hK K
  try simp only [Act.put, List.setIfInBounds_toArray, List.set_cons_zero, List.set_cons_succ]
  repeat (first | (refine trS (by rfl) ?_; simp only [Act.put, List.setIfInBounds_toArray, List.set_cons_zero, List.set_cons_succ]) | (refine trN (by rfl) ?_; simp only [Act.put, List.setIfInBounds_toArray, List.set_cons_zero, List.set_cons_succ]) | (refine trQ (v := ?_) (by rfl) (fun _ hSw => ?_) ?_; rotate_left; (focus (go_simp; (first | done | with_reducible rfl))); simp only [Act.put, List.setIfInBounds_toArray, List.set_cons_zero, List.set_cons_succ]))
  refine trD (by rfl) ?_
  intro K hK
  go_simp
  refine hK _ _ trivial ?_
  clear hK K
  try simp only [Act.put, List.setIfInBounds_toArray, List.set_cons_zero, List.set_cons_succ]
  rotate_left
  refine trD (by rfl) ?_
  intro K hK
  go_simp
  refine hK _ _ trivial ?_
  clear hK K
  try simp only [Act.put, List.setIfInBounds_toArray, List.set_cons_zero, List.set_cons_succ]
  repeat (first | (refine trS (by rfl) ?_; simp only [Act.put, List.setIfInBounds_toArray, List.set_cons_zero, List.set_cons_succ]) | (refine trN (by rfl) ?_; simp only [Act.put, List.setIfInBounds_toArray, List.set_cons_zero, List.set_cons_succ]) | (refine trQ (v := ?_) (by rfl) (fun _ hSw => ?_) ?_; rotate_left; (focus (go_simp; (first | done | with_reducible rfl))); simp only [Act.put, List.setIfInBounds_toArray, List.set_cons_zero, List.set_cons_succ]))
  refine trB ?_ ?_
  refine trD (by rfl) ?_
  intro K hK
  go_simp
  refine hK _ _ trivial ?_
  clear hK K
  try simp only [Act.put, List.setIfInBounds_toArray, List.set_cons_zero, List.set_cons_succ]
  refine trD (by rfl) ?_
  intro K hK
  go_simp
  refine hK _ _ trivial ?_
  clear hK K
  try simp only [Act.put, List.setIfInBounds_toArray, List.set_cons_zero, List.set_cons_succ]
  rotate_left
  refine trD (by rfl) ?_
  intro K hK
  go_simp
  refine hK _ _ trivial ?_
  clear hK K
  try simp only [Act.put, List.setIfInBounds_toArray, List.set_cons_zero, List.set_cons_succ]
  refine trD (by rfl) ?_
  intro K hK
  go_simp
  refine hK _ _ trivial ?_
  clear hK K
  try simp only [Act.put, List.setIfInBounds_toArray, List.set_cons_zero, List.set_cons_succ]
  all_goals
    clear hcd1 hcd2 hcd3
    have hlit : ∀ j u, (Hl.cells ⟨A, n, c, none, 0, 0, M⟩)[j]? = some u → (w1.alloc (.cells #[.slice A n c, .slice none 0 0, .int .i64 M] 60)).drew.cell? ((⟨w1.heap.size, 0, none⟩ : Addr).add j) = some u :=
      fun j u hu => lit_cell w1 #[.slice A n c, .slice none 0 0, .int .i64 M] 60 j u hu
    generalize hw2 : (w1.alloc (.cells #[.slice A n c, .slice none 0 0, .int .i64 M] 60)).drew = w2 at hlit ⊢
    have hs2 : w2.heap.size = w1.heap.size + 1 := by rw [← hw2]; simp
    have hblk2 : ∀ b, b < w1.heap.size → w2.heap[b]? = w1.heap[b]? := fun b hb => by rw [← hw2]; exact Below.heap_alloc w1 _ b hb
    have hb2 : Below kb w w2 := by rw [← hw2]; exact (hb1.alloc (Nat.le_of_lt hlt1) _).drew
    have htb2 := (htb1.alloc (.cells #[.slice A n c, .slice none 0 0, .int .i64 M] 60)).drew
    have hti2 := (hti1.alloc (.cells #[.slice A n c, .slice none 0 0, .int .i64 M] 60)).drew
    rw [hw2] at htb2 hti2
    clear hw2
    obtain ⟨v', w3, hrun, hown3, hgr3, _, hat3⟩ := run_append_own_at (P := Tryd.prog) w2 (kb + 1) 34 34 60 i0 _ 3 56 Tryd.underlying34 hi0 hz0 hz1 hz2 rfl (by omega) (.slice A0 hi.length c0) hi.length (rowsOf hi) hti2 ⟨w1.heap.size, 0, none⟩ 1 1 (Hl.cells ⟨A, n, c, none, 0, 0, M⟩) rfl hlit (by intro u hu; simp [Hl.cells] at hu; rcases hu with rfl | rfl | rfl <;> rfl) (by simp only [maxLen]; omega) (by omega) (by omega)
    obtain ⟨A3, c3, rfl⟩ := own_slice hown3
    have hkb3 : w3.heap[kb]? = w1.heap[kb]? := by
      rw [hgr3.block kb (by omega) ?_, hblk2 kb hlt1]
      intro he
      have := (hti2.lt kb he.symm).1
      omega
    have hne3 : (Value.slice A3 (hi.length + 1) c3).ownBlock ≠ some kb := by
      intro he
      have := (hown3.lt kb he).1
      omega
    have hc31 : w3.cell? ⟨kb, 2, none⟩ = some (.slice A0 hi.length c0) := by rw [World.cell?_of_block (w := w1) hkb3]; exact hc1
    have hc32 : w3.cell? ⟨kb, 0, none⟩ = some (.int .i64 M) := by rw [World.cell?_of_block (w := w1) hkb3]; exact hc2
    have hblk3 := hkb3.trans hblk
    have hfr3 : w3.frozen? ⟨kb, 2, none⟩ = false := by simp [World.frozen?, hblk3]
    have hb3 : Below kb w w3 := hb2.grown hgr3 (Nat.le_of_lt (by omega)) (fun k hk' => by have := (hti2.lt k hk').1; omega)
    refine trD (by rfl) ?_
    intro K hK
    refine Lib.wp_append_run _ _ _ 34 34 rfl _ _ (by rfl) (by rfl) (.slice A3 (hi.length + 1) c3) w3 hrun ?_
    refine hK _ _ trivial ?_
    clear hK K
    try simp only [Act.put, List.setIfInBounds_toArray, List.set_cons_zero, List.set_cons_succ]
    repeat (first | (refine trS (by rfl) ?_; simp only [Act.put, List.setIfInBounds_toArray, List.set_cons_zero, List.set_cons_succ]) | (refine trN (by rfl) ?_; simp only [Act.put, List.setIfInBounds_toArray, List.set_cons_zero, List.set_cons_succ]) | (refine trQ (v := ?_) (by rfl) (fun _ hSw => ?_) ?_; rotate_left; (focus (go_simp; (first | done | with_reducible rfl))); simp only [Act.put, List.setIfInBounds_toArray, List.set_cons_zero, List.set_cons_succ]))
    refine trD (by rfl) ?_
    intro K hK
    go_simp
    refine hK _ _ trivial ?_
    clear hK K
    refine trE ?_
    go_wp2
    go_end0
    have hblk4 := heap_setCell_same w3 kb 2 _ _ (.slice A3 (hi.length + 1) c3) hblk3
    have hB4 : Below kb w (w3.setCell ⟨kb, 2, none⟩ (.slice A3 (hi.length + 1) c3)) := hb3.setCell (p := ⟨kb, 2, none⟩) (Nat.le_refl _) _
    have hm4 := ownsRow_setCell_other hown3 (a := ⟨kb, 2, none⟩) hne3 (.slice A3 (hi.length + 1) c3)
    have hoth3 := htb2.kept hgr3 (by
      rcases hv : vb.ownBlock with _ | g
      · exact .inl rfl
      · right
        intro he
        exact hk.ne g hv he.symm)
    have hoth4 := ownsRow_setCell_other hoth3 (a := ⟨kb, 2, none⟩) (u := .slice A3 (hi.length + 1) c3) (by
      intro he
      have := (hoth3.lt kb he).1
      omega)
    have hrow : rowsOf hi ++ Hl.cells ⟨A, n, c, none, 0, 0, M⟩ = rowsOf (hi ++ [⟨A, n, c, none, 0, 0, M⟩]) := by rw [rowsOf_app]; rfl
    have hlen : hi.length + 1 = (hi ++ [(⟨A, n, c, none, 0, 0, M⟩ : Hl)]).length := by simp
    rw [hrow] at hm4
    rw [HM.out]
    refine ⟨rfl, _, ⟨hblk4, ?_, ?_, ?_⟩, hB4⟩
    · exact hoth4
    · rw [← hlen]; exact hm4
    · intro g hg he
      rcases hat3 with h | h
      · exact hk.ne g hg (h.symm.trans he)
      · have h2 := (htb2.lt g hg).2
        rw [he] at h
        cases h
        omega
end Go.Proofs.YtbcfncdmkgoidaaDoor
