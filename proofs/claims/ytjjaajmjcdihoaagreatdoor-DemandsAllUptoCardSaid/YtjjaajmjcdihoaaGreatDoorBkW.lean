/-
  Walks of the Book with nine tables: the marks; what it is told.
-/
import Derived.Test.YtjjaajmjcdihoaaGreatDoorProg
import Derived.Test.YtjjaajmjcdihoaaGreatDoorBkD
import Derived.Test.YtjjaajmjcdihoaaGreatDoorReg2
import Derived.Lib.AppendZeros
import Derived.BigQuiet
import Derived.Deep.QuietTactic
import Derived.Deep.DeepMust
namespace Go.Proofs.YtjjaajmjcdihoaaGreatDoor
open Go.RowKit
set_option linter.unusedVariables false

/-- The types of what the tables hold. -/
def tHs : Nat → TypeId
  | 1 => 73
  | 2 => 68
  | 3 => 78
  | 4 => 70
  | 5 => 83
  | 6 => 87
  | 7 => 93
  | 8 => 102
  | _ => 109

/-- The marks. -/
def ksB (k : Nat) : Value := .int .u8 ((k : Int) % 256)
def ksI (k : Nat) : Value := .int .i64 (-(k : Int))
def mksB : Marks := plainMarks ksB (fun _ => rfl)
def mksI : Marks := plainMarks ksI (fun _ => rfl)
def mksL : Marks := listMarks 3

theorem mark9Byte (k : Nat) (hk : k < 1000000000) (w : World) : Calls Tryz.prog 64 #[.int .i64 k] w fun e w' => e = .returned (.int .u8 ((k : Int) % 256)) ∧ mksB.is w' w.heap.size k (.int .u8 ((k : Int) % 256)) ∧ Below w.heap.size w w' := by
  go_enter Tryz.func64, Tryz.ntmps64
  go_wp2
  go_ret
  exact ⟨by simp, rfl, Below.refl _ _⟩
theorem mark9Int (k : Nat) (hk : k < 1000000000) (w : World) : Calls Tryz.prog 65 #[.int .i64 k] w fun e w' => e = .returned (.int .i64 (-(k : Int))) ∧ mksI.is w' w.heap.size k (.int .i64 (-(k : Int))) ∧ Below w.heap.size w w' := by
  have v1 : IntKind.i64.wrap (-(k : Int)) = -(k : Int) := by rw [IntKind.wrap_i64]; omega
  go_enter Tryz.func65, Tryz.ntmps65
  go_wp2
  go_ret
  exact ⟨by simp, rfl, Below.refl _ _⟩
theorem mark9IntList (k : Nat) (hk : k < 1000000000) (w : World) : Calls Tryz.prog 67 #[.int .i64 k] w fun e w' => ∃ m, e = .returned (.slice (some ⟨m, 0, none⟩) 1 1) ∧ mksL.is w' w.heap.size k (.slice (some ⟨m, 0, none⟩) 1 1) ∧ Below w.heap.size w w' := by
  go_enter Tryz.func67, Tryz.ntmps67
  go_wp2
  go_ret
  exact ⟨w.heap.size, rfl, ⟨w.heap.size, rfl, Nat.le_refl _, heap_alloc_new w _⟩, (Below.refl _ w).alloc (Nat.le_refl _) _⟩
theorem is9Byte (k s : Nat) (v : Value) (hk : k < 1000000000) (w : World) (hv : mksB.is w s k v) : Calls Tryz.prog 73 #[v, .int .i64 k] w fun e w' => e = .returned (.bool true) ∧ Below w.heap.size w w' := by
  obtain rfl : v = ksB k := hv
  unfold ksB
  go_enter Tryz.func73, Tryz.ntmps73
  go_wp2
  go_ret
  exact ⟨by simp, Below.refl _ _⟩
theorem is9Int (k s : Nat) (v : Value) (hk : k < 1000000000) (w : World) (hv : mksI.is w s k v) : Calls Tryz.prog 74 #[v, .int .i64 k] w fun e w' => e = .returned (.bool true) ∧ Below w.heap.size w w' := by
  obtain rfl : v = ksI k := hv
  have v1 : IntKind.i64.wrap (-(k : Int)) = -(k : Int) := by rw [IntKind.wrap_i64]; omega
  unfold ksI
  go_enter Tryz.func74, Tryz.ntmps74
  go_wp2
  go_ret
  exact ⟨by simp, Below.refl _ _⟩
theorem is9IntList (k s : Nat) (v : Value) (hk : k < 1000000000) (w : World) (hv : mksL.is w s k v) : Calls Tryz.prog 76 #[v, .int .i64 k] w fun e w' => e = .returned (.bool true) ∧ Below w.heap.size w w' := by
  obtain ⟨g, rfl, _, hg⟩ := hv
  have hc : w.cell? ⟨g, 0, none⟩ = some (.int .i64 k) := by rw [cell_of_row w g 0 _ _ _ hg]; rfl
  go_enter Tryz.func76, Tryz.ntmps76
  go_wp2
  go_ret
  exact ⟨by simp, Below.refl _ _⟩

theorem info9_heldByte : (Tryz.prog.info? 73).map (fun i => (i.zero, i.size, i.bytes)) = some (some (.agg #[.slice none 0 0, .slice none 0 0, .int .i64 0]), 3, 56) := by kernel_rfl
theorem info9_heldInt : (Tryz.prog.info? 68).map (fun i => (i.zero, i.size, i.bytes)) = some (some (.agg #[.slice none 0 0, .slice none 0 0, .int .i64 0]), 3, 56) := by kernel_rfl
set_option maxRecDepth 100000 in
set_option maxHeartbeats 1000000 in
theorem keep9Int (kb N : Nat) (T : Nat → Value) (H : Nat → List Hl) (A : Option Addr) (n c : Nat) (w : World) (hk : Bkn 46 tHs w kb N T H) (hN : N < 1000000) (hl : (H 2).length ≤ 1000000) :
    Calls Tryz.prog 27 #[.pointer (some ⟨kb, 0, none⟩), .slice A n c] w fun e w' => e = .returned (.tuple #[]) ∧ ∃ v', Bkn 46 tHs w' kb (N + 1) (upd T 2 v') (upd H 2 (H 2 ++ [⟨A, n, c, none, 0, 0, N + 1⟩])) ∧ Below kb w w' ∧ Fr (fun b => b = kb ∨ (T 2).ownBlock = some b) w w' := by
  obtain ⟨i0, hi0, hz0, hz1, hz2⟩ := info_parts info9_heldInt
  have hc0 : w.cell? ⟨kb, 0, none⟩ = some (.int .i64 N) := hk.cell 0
  have hf0 := hk.free 0
  have hblk := heap_setCell_same w kb 0 _ _ (.int .i64 ((N + 1 : Nat) : Int)) hk.blk
  have hlt := hk.lt
  obtain ⟨A0, c0, hv0, hl0, hl1⟩ := row_slice (hk.tab 2)
  have htb := hk.tab 2
  rw [hv0] at htb
  obtain ⟨hb, hhb⟩ : ∃ hb, hb = H 2 := ⟨_, rfl⟩
  rw [← hhb] at htb hl0 hv0 hl
  have HB := Lib.hid hhb
  have HV := Lib.hid hv0
  clear hhb
  unfold maxLen at hl1
  go_enter Tryz.func27, Tryz.ntmps27
  go_wp2_with fail
  have eN : (N : Int) + 1 = ((N + 1 : Nat) : Int) := by omega
  simp only [eN]
  generalize hw1 : w.setCell ⟨kb, 0, none⟩ (.int .i64 ((N + 1 : Nat) : Int)) = w1 at hblk ⊢
  have hF1 : Fr (fun b => b = kb ∨ (Value.slice A0 hb.length c0).ownBlock = some b) w w1 := by rw [← hw1]; exact (Fr.refl _ w).setCell (p := ⟨kb, 0, none⟩) (.inl rfl) _
  have hb1 : Below kb w w1 := by rw [← hw1]; exact (Below.refl kb w).setCell (p := ⟨kb, 0, none⟩) (Nat.le_refl _) _
  have htb1 := ownsRow_setCell_below htb (a := ⟨kb, 0, none⟩) (Nat.lt_succ_self _) (.int .i64 ((N + 1 : Nat) : Int))
  have hti1 := fun i => ownsRow_setCell_below (hk.tab i) (a := ⟨kb, 0, none⟩) (Nat.lt_succ_self _) (.int .i64 ((N + 1 : Nat) : Int))
  rw [hw1] at htb1
  simp only [hw1] at hti1
  have hc1 : w1.cell? ⟨kb, 2, none⟩ = some (.slice A0 hb.length c0) := by rw [cell_of_row w1 kb 2 _ _ _ hblk, ← HV.out]; rfl
  have hc2 : w1.cell? ⟨kb, 0, none⟩ = some (.int .i64 ((N + 1 : Nat) : Int)) := by rw [cell_of_row w1 kb 0 _ _ _ hblk]; rfl
  have hlt1 : kb < w1.heap.size := (Array.getElem?_eq_some_iff.1 hblk).1
  clear hw1 eN hc0 hf0
  generalize hM : N + 1 = M at hblk hc2 ⊢
  have HM := Lib.hid hM
  clear hM
  refine wp_region_tr (S := fun _ => True) (.q 0 (.q 1 (.q 2 (.q 3 (.q 5 (.q 6 (.q 7 (.q 8 (.b 4 9 (.d 9 (.q 10 (.d 11 (.d 12 (.q 13 (.q 14 (.d 15 .nil))))))) (.q 10 (.b 4 11 (.d 11 (.d 12 (.q 13 (.q 14 (.d 15 .nil))))) (.d 4 (.d 12 (.q 13 (.q 14 (.d 15 .nil)))))))))))))))) default (by kernel_rfl) (by kernel_rfl) (by kernel_rfl) trivial ?_
  simp only [getTr, nth]
  have hcd1 : w1.drew.cell? ⟨kb, 2, none⟩ = some (.slice A0 hb.length c0) := hc1
  have hcd2 : w1.drew.cell? ⟨kb, 0, none⟩ = some (.int .i64 M) := hc2
  have hcd3 : (w1.alloc (.cells #[.slice A n c, .slice none 0 0, .int .i64 M] 68)).cell? ⟨kb, 2, none⟩ = some (.slice A0 hb.length c0) := (World.cell?_of_block (w := w1) (Below.heap_alloc w1 _ kb hlt1)).trans hc1
  repeat (first | (refine trS (by rfl) ?_; simp only [Act.put, List.setIfInBounds_toArray, List.set_cons_zero, List.set_cons_succ]) | (refine trN (by rfl) ?_; simp only [Act.put, List.setIfInBounds_toArray, List.set_cons_zero, List.set_cons_succ]) | (refine trQ (v := ?_) (by rfl) (fun _ hSw => ?_) ?_; rotate_left; (focus (go_simp; (first | done | with_reducible rfl))); simp only [Act.put, List.setIfInBounds_toArray, List.set_cons_zero, List.set_cons_succ]))
  refine trB ?_ ?_
  refine trD (by rfl) ?_
  intro K hK
  go_simp
  refine hK _ _ trivial ?_
  clear hK K
  try simp only [Act.put, List.setIfInBounds_toArray, List.set_cons_zero, List.set_cons_succ]
  refine trD (by rfl) ?_
  intro K hK
  go_simp
  refine hK _ _ trivial ?_
  clear hK K
  try simp only [Act.put, List.setIfInBounds_toArray, List.set_cons_zero, List.set_cons_succ]
  repeat (first | (refine trS (by rfl) ?_; simp only [Act.put, List.setIfInBounds_toArray, List.set_cons_zero, List.set_cons_succ]) | (refine trN (by rfl) ?_; simp only [Act.put, List.setIfInBounds_toArray, List.set_cons_zero, List.set_cons_succ]) | (refine trQ (v := ?_) (by rfl) (fun _ hSw => ?_) ?_; rotate_left; (focus (go_simp; (first | done | with_reducible rfl))); simp only [Act.put, List.setIfInBounds_toArray, List.set_cons_zero, List.set_cons_succ]))
  refine trD (by rfl) ?_
  intro K hK
  go_simp
  refine hK _ _ trivial ?_
  clear hK K
  try simp only [Act.put, List.setIfInBounds_toArray, List.set_cons_zero, List.set_cons_succ]
  rotate_left
  refine trD (by rfl) ?_
  intro K hK
  go_simp
  refine hK _ _ trivial ?_
  clear hK K
  try simp only [Act.put, List.setIfInBounds_toArray, List.set_cons_zero, List.set_cons_succ]
  repeat (first | (refine trS (by rfl) ?_; simp only [Act.put, List.setIfInBounds_toArray, List.set_cons_zero, List.set_cons_succ]) | (refine trN (by rfl) ?_; simp only [Act.put, List.setIfInBounds_toArray, List.set_cons_zero, List.set_cons_succ]) | (refine trQ (v := ?_) (by rfl) (fun _ hSw => ?_) ?_; rotate_left; (focus (go_simp; (first | done | with_reducible rfl))); simp only [Act.put, List.setIfInBounds_toArray, List.set_cons_zero, List.set_cons_succ]))
  refine trB ?_ ?_
  refine trD (by rfl) ?_
  intro K hK
  go_simp
  refine hK _ _ trivial ?_
  clear hK K
  try simp only [Act.put, List.setIfInBounds_toArray, List.set_cons_zero, List.set_cons_succ]
  refine trD (by rfl) ?_
  intro K hK
  go_simp
  refine hK _ _ trivial ?_
  clear hK K
  try simp only [Act.put, List.setIfInBounds_toArray, List.set_cons_zero, List.set_cons_succ]
  rotate_left
  refine trD (by rfl) ?_
  intro K hK
  go_simp
  refine hK _ _ trivial ?_
  clear hK K
  try simp only [Act.put, List.setIfInBounds_toArray, List.set_cons_zero, List.set_cons_succ]
  refine trD (by rfl) ?_
  intro K hK
  go_simp
  refine hK _ _ trivial ?_
  clear hK K
  try simp only [Act.put, List.setIfInBounds_toArray, List.set_cons_zero, List.set_cons_succ]
  all_goals
    clear hcd1 hcd2 hcd3
    have hlit : ∀ j u, (Hl.cells ⟨A, n, c, none, 0, 0, M⟩)[j]? = some u → (w1.alloc (.cells #[.slice A n c, .slice none 0 0, .int .i64 M] 68)).drew.cell? ((⟨w1.heap.size, 0, none⟩ : Addr).add j) = some u :=
      fun j u hu => lit_cell w1 #[.slice A n c, .slice none 0 0, .int .i64 M] 68 j u hu
    generalize hw2 : (w1.alloc (.cells #[.slice A n c, .slice none 0 0, .int .i64 M] 68)).drew = w2 at hlit ⊢
    have hs2 : w2.heap.size = w1.heap.size + 1 := by rw [← hw2]; simp
    have hblk2 : ∀ b, b < w1.heap.size → w2.heap[b]? = w1.heap[b]? := fun b hb => by rw [← hw2]; exact Below.heap_alloc w1 _ b hb
    have hb2 : Below kb w w2 := by rw [← hw2]; exact (hb1.alloc (Nat.le_of_lt hlt1) _).drew
    have hF2 : Fr (fun b => b = kb ∨ (Value.slice A0 hb.length c0).ownBlock = some b) w w2 := by rw [← hw2]; exact hF1.alloc _
    have htb2 := (htb1.alloc (.cells #[.slice A n c, .slice none 0 0, .int .i64 M] 68)).drew
    have hti2 := fun i => ((hti1 i).alloc (.cells #[.slice A n c, .slice none 0 0, .int .i64 M] 68)).drew
    rw [hw2] at htb2
    simp only [hw2] at hti2
    clear hw2
    obtain ⟨v', w3, hrun, hown3, hgr3, _, hat3⟩ := run_append_own_at (P := Tryz.prog) w2 (kb + 1) 37 37 68 i0 _ 3 56 Tryz.underlying37 hi0 hz0 hz1 hz2 rfl (by omega) (.slice A0 hb.length c0) hb.length (rowsOf hb) htb2 ⟨w1.heap.size, 0, none⟩ 1 1 (Hl.cells ⟨A, n, c, none, 0, 0, M⟩) rfl hlit (by intro u hu; simp [Hl.cells] at hu; rcases hu with rfl | rfl | rfl <;> rfl) (by simp only [maxLen]; omega) (by omega) (by omega)
    obtain ⟨A3, c3, rfl⟩ := own_slice hown3
    have hkb3 : w3.heap[kb]? = w1.heap[kb]? := by
      rw [hgr3.block kb (by omega) ?_, hblk2 kb hlt1]
      intro he
      have := (htb2.lt kb he.symm).1
      omega
    have hne3 : (Value.slice A3 (hb.length + 1) c3).ownBlock ≠ some kb := by
      intro he
      have := (hown3.lt kb he).1
      omega
    have hc31 : w3.cell? ⟨kb, 2, none⟩ = some (.slice A0 hb.length c0) := by rw [World.cell?_of_block (w := w1) hkb3]; exact hc1
    have hc32 : w3.cell? ⟨kb, 0, none⟩ = some (.int .i64 M) := by rw [World.cell?_of_block (w := w1) hkb3]; exact hc2
    have hblk3 := hkb3.trans hblk
    have hfr3 : w3.frozen? ⟨kb, 2, none⟩ = false := by simp [World.frozen?, hblk3]
    have hb3 : Below kb w w3 := hb2.grown hgr3 (Nat.le_of_lt (by omega)) (fun k hk' => by have := (htb2.lt k hk').1; omega)
    refine trD (by rfl) ?_
    intro K hK
    refine Lib.wp_append_run _ _ _ 37 37 rfl _ _ (by rfl) (by rfl) (.slice A3 (hb.length + 1) c3) w3 hrun ?_
    refine hK _ _ trivial ?_
    clear hK K
    try simp only [Act.put, List.setIfInBounds_toArray, List.set_cons_zero, List.set_cons_succ]
    repeat (first | (refine trS (by rfl) ?_; simp only [Act.put, List.setIfInBounds_toArray, List.set_cons_zero, List.set_cons_succ]) | (refine trN (by rfl) ?_; simp only [Act.put, List.setIfInBounds_toArray, List.set_cons_zero, List.set_cons_succ]) | (refine trQ (v := ?_) (by rfl) (fun _ hSw => ?_) ?_; rotate_left; (focus (go_simp; (first | done | with_reducible rfl))); simp only [Act.put, List.setIfInBounds_toArray, List.set_cons_zero, List.set_cons_succ]))
    refine trD (by rfl) ?_
    intro K hK
    go_simp
    refine hK _ _ trivial ?_
    clear hK K
    refine trE ?_
    go_wp2
    go_end0
    have hblk4 := heap_setCell_same w3 kb 2 _ _ (.slice A3 (hb.length + 1) c3) hblk3
    have hF4 : Fr (fun b => b = kb ∨ (Value.slice A0 hb.length c0).ownBlock = some b) w (w3.setCell ⟨kb, 2, none⟩ (.slice A3 (hb.length + 1) c3)) := (hF2.grown hgr3 (fun k hk' => .inr hk')).setCell (p := ⟨kb, 2, none⟩) (.inl rfl) _
    have hB4 : Below kb w (w3.setCell ⟨kb, 2, none⟩ (.slice A3 (hb.length + 1) c3)) := hb3.setCell (p := ⟨kb, 2, none⟩) (Nat.le_refl _) _
    have hm4 := ownsRow_setCell_other hown3 (a := ⟨kb, 2, none⟩) hne3 (.slice A3 (hb.length + 1) c3)
    have hVb : (T 2).ownBlock = (Value.slice A0 hb.length c0).ownBlock := congrArg Value.ownBlock HV.out
    have hoth3 := fun i (hi : i ≠ 2) => (hti2 i).kept hgr3 (by
      rcases hv : (T i).ownBlock with _ | g
      · exact .inl rfl
      · right
        intro he
        exact hk.ne i 2 hi g hv (hVb.trans he.symm))
    have hoth4 := fun i (hi : i ≠ 2) => ownsRow_setCell_other (hoth3 i hi) (a := ⟨kb, 2, none⟩) (u := .slice A3 (hb.length + 1) c3) (by
      intro he
      have := ((hoth3 i hi).lt kb he).1
      omega)
    have hrow : rowsOf hb ++ Hl.cells ⟨A, n, c, none, 0, 0, M⟩ = rowsOf (hb ++ [⟨A, n, c, none, 0, 0, M⟩]) := by rw [rowsOf_app]; rfl
    have hlen : hb.length + 1 = (hb ++ [(⟨A, n, c, none, 0, 0, M⟩ : Hl)]).length := by simp
    rw [hrow] at hm4
    rw [HM.out, ← HB.out]
    refine ⟨rfl, _, hk.put 2 (by omega) hblk4 (by rw [← hlen]; exact hm4) hoth4 ?_, hB4, ?_⟩
    · intro i hi g hg he
      rcases hat3 with h | h
      · exact hk.ne i 2 hi g he (hVb.trans (h.symm.trans hg))
      · have h2 := ((hti2 i).lt g he).2
        rw [hg] at h
        cases h
        omega
    · rw [hVb]; exact hF4

theorem info9_heldIntList : (Tryz.prog.info? 70).map (fun i => (i.zero, i.size, i.bytes)) = some (some (.agg #[.slice none 0 0, .slice none 0 0, .int .i64 0]), 3, 56) := by kernel_rfl
set_option maxRecDepth 100000 in
set_option maxHeartbeats 1000000 in
theorem keep9IntList (kb N : Nat) (T : Nat → Value) (H : Nat → List Hl) (A : Option Addr) (n c : Nat) (w : World) (hk : Bkn 46 tHs w kb N T H) (hN : N < 1000000) (hl : (H 4).length ≤ 1000000) :
    Calls Tryz.prog 28 #[.pointer (some ⟨kb, 0, none⟩), .slice A n c] w fun e w' => e = .returned (.tuple #[]) ∧ ∃ v', Bkn 46 tHs w' kb (N + 1) (upd T 4 v') (upd H 4 (H 4 ++ [⟨A, n, c, none, 0, 0, N + 1⟩])) ∧ Below kb w w' ∧ Fr (fun b => b = kb ∨ (T 4).ownBlock = some b) w w' := by
  obtain ⟨i0, hi0, hz0, hz1, hz2⟩ := info_parts info9_heldIntList
  have hc0 : w.cell? ⟨kb, 0, none⟩ = some (.int .i64 N) := hk.cell 0
  have hf0 := hk.free 0
  have hblk := heap_setCell_same w kb 0 _ _ (.int .i64 ((N + 1 : Nat) : Int)) hk.blk
  have hlt := hk.lt
  obtain ⟨A0, c0, hv0, hl0, hl1⟩ := row_slice (hk.tab 4)
  have htb := hk.tab 4
  rw [hv0] at htb
  obtain ⟨hb, hhb⟩ : ∃ hb, hb = H 4 := ⟨_, rfl⟩
  rw [← hhb] at htb hl0 hv0 hl
  have HB := Lib.hid hhb
  have HV := Lib.hid hv0
  clear hhb
  unfold maxLen at hl1
  go_enter Tryz.func28, Tryz.ntmps28
  go_wp2_with fail
  have eN : (N : Int) + 1 = ((N + 1 : Nat) : Int) := by omega
  simp only [eN]
  generalize hw1 : w.setCell ⟨kb, 0, none⟩ (.int .i64 ((N + 1 : Nat) : Int)) = w1 at hblk ⊢
  have hF1 : Fr (fun b => b = kb ∨ (Value.slice A0 hb.length c0).ownBlock = some b) w w1 := by rw [← hw1]; exact (Fr.refl _ w).setCell (p := ⟨kb, 0, none⟩) (.inl rfl) _
  have hb1 : Below kb w w1 := by rw [← hw1]; exact (Below.refl kb w).setCell (p := ⟨kb, 0, none⟩) (Nat.le_refl _) _
  have htb1 := ownsRow_setCell_below htb (a := ⟨kb, 0, none⟩) (Nat.lt_succ_self _) (.int .i64 ((N + 1 : Nat) : Int))
  have hti1 := fun i => ownsRow_setCell_below (hk.tab i) (a := ⟨kb, 0, none⟩) (Nat.lt_succ_self _) (.int .i64 ((N + 1 : Nat) : Int))
  rw [hw1] at htb1
  simp only [hw1] at hti1
  have hc1 : w1.cell? ⟨kb, 4, none⟩ = some (.slice A0 hb.length c0) := by rw [cell_of_row w1 kb 4 _ _ _ hblk, ← HV.out]; rfl
  have hc2 : w1.cell? ⟨kb, 0, none⟩ = some (.int .i64 ((N + 1 : Nat) : Int)) := by rw [cell_of_row w1 kb 0 _ _ _ hblk]; rfl
  have hlt1 : kb < w1.heap.size := (Array.getElem?_eq_some_iff.1 hblk).1
  clear hw1 eN hc0 hf0
  generalize hM : N + 1 = M at hblk hc2 ⊢
  have HM := Lib.hid hM
  clear hM
  refine wp_region_tr (S := fun _ => True) (.q 0 (.q 1 (.q 2 (.q 3 (.q 5 (.q 6 (.q 7 (.q 8 (.b 4 9 (.d 9 (.q 10 (.d 11 (.d 12 (.q 13 (.q 14 (.d 15 .nil))))))) (.q 10 (.b 4 11 (.d 11 (.d 12 (.q 13 (.q 14 (.d 15 .nil))))) (.d 4 (.d 12 (.q 13 (.q 14 (.d 15 .nil)))))))))))))))) default (by kernel_rfl) (by kernel_rfl) (by kernel_rfl) trivial ?_
  simp only [getTr, nth]
  have hcd1 : w1.drew.cell? ⟨kb, 4, none⟩ = some (.slice A0 hb.length c0) := hc1
  have hcd2 : w1.drew.cell? ⟨kb, 0, none⟩ = some (.int .i64 M) := hc2
  have hcd3 : (w1.alloc (.cells #[.slice A n c, .slice none 0 0, .int .i64 M] 70)).cell? ⟨kb, 4, none⟩ = some (.slice A0 hb.length c0) := (World.cell?_of_block (w := w1) (Below.heap_alloc w1 _ kb hlt1)).trans hc1
  repeat (first | (refine trS (by rfl) ?_; simp only [Act.put, List.setIfInBounds_toArray, List.set_cons_zero, List.set_cons_succ]) | (refine trN (by rfl) ?_; simp only [Act.put, List.setIfInBounds_toArray, List.set_cons_zero, List.set_cons_succ]) | (refine trQ (v := ?_) (by rfl) (fun _ hSw => ?_) ?_; rotate_left; (focus (go_simp; (first | done | with_reducible rfl))); simp only [Act.put, List.setIfInBounds_toArray, List.set_cons_zero, List.set_cons_succ]))
  refine trB ?_ ?_
  refine trD (by rfl) ?_
  intro K hK
  go_simp
  refine hK _ _ trivial ?_
  clear hK K
  try simp only [Act.put, List.setIfInBounds_toArray, List.set_cons_zero, List.set_cons_succ]
  refine trD (by rfl) ?_
  intro K hK
  go_simp
  refine hK _ _ trivial ?_
  clear hK K
  try simp only [Act.put, List.setIfInBounds_toArray, List.set_cons_zero, List.set_cons_succ]
  repeat (first | (refine trS (by rfl) ?_; simp only [Act.put, List.setIfInBounds_toArray, List.set_cons_zero, List.set_cons_succ]) | (refine trN (by rfl) ?_; simp only [Act.put, List.setIfInBounds_toArray, List.set_cons_zero, List.set_cons_succ]) | (refine trQ (v := ?_) (by rfl) (fun _ hSw => ?_) ?_; rotate_left; (focus (go_simp; (first | done | with_reducible rfl))); simp only [Act.put, List.setIfInBounds_toArray, List.set_cons_zero, List.set_cons_succ]))
  refine trD (by rfl) ?_
  intro K hK
  go_simp
  refine hK _ _ trivial ?_
  clear hK K
  try simp only [Act.put, List.setIfInBounds_toArray, List.set_cons_zero, List.set_cons_succ]
  rotate_left
  refine trD (by rfl) ?_
  intro K hK
  go_simp
  refine hK _ _ trivial ?_
  clear hK K
  try simp only [Act.put, List.setIfInBounds_toArray, List.set_cons_zero, List.set_cons_succ]
  repeat (first | (refine trS (by rfl) ?_; simp only [Act.put, List.setIfInBounds_toArray, List.set_cons_zero, List.set_cons_succ]) | (refine trN (by rfl) ?_; simp only [Act.put, List.setIfInBounds_toArray, List.set_cons_zero, List.set_cons_succ]) | (refine trQ (v := ?_) (by rfl) (fun _ hSw => ?_) ?_; rotate_left; (focus (go_simp; (first | done | with_reducible rfl))); simp only [Act.put, List.setIfInBounds_toArray, List.set_cons_zero, List.set_cons_succ]))
  refine trB ?_ ?_
  refine trD (by rfl) ?_
  intro K hK
  go_simp
  refine hK _ _ trivial ?_
  clear hK K
  try simp only [Act.put, List.setIfInBounds_toArray, List.set_cons_zero, List.set_cons_succ]
  refine trD (by rfl) ?_
  intro K hK
  go_simp
  refine hK _ _ trivial ?_
  clear hK K
  try simp only [Act.put, List.setIfInBounds_toArray, List.set_cons_zero, List.set_cons_succ]
  rotate_left
  refine trD (by rfl) ?_
  intro K hK
  go_simp
  refine hK _ _ trivial ?_
  clear hK K
  try simp only [Act.put, List.setIfInBounds_toArray, List.set_cons_zero, List.set_cons_succ]
  refine trD (by rfl) ?_
  intro K hK
  go_simp
  refine hK _ _ trivial ?_
  clear hK K
  try simp only [Act.put, List.setIfInBounds_toArray, List.set_cons_zero, List.set_cons_succ]
  all_goals
    clear hcd1 hcd2 hcd3
    have hlit : ∀ j u, (Hl.cells ⟨A, n, c, none, 0, 0, M⟩)[j]? = some u → (w1.alloc (.cells #[.slice A n c, .slice none 0 0, .int .i64 M] 70)).drew.cell? ((⟨w1.heap.size, 0, none⟩ : Addr).add j) = some u :=
      fun j u hu => lit_cell w1 #[.slice A n c, .slice none 0 0, .int .i64 M] 70 j u hu
    generalize hw2 : (w1.alloc (.cells #[.slice A n c, .slice none 0 0, .int .i64 M] 70)).drew = w2 at hlit ⊢
    have hs2 : w2.heap.size = w1.heap.size + 1 := by rw [← hw2]; simp
    have hblk2 : ∀ b, b < w1.heap.size → w2.heap[b]? = w1.heap[b]? := fun b hb => by rw [← hw2]; exact Below.heap_alloc w1 _ b hb
    have hb2 : Below kb w w2 := by rw [← hw2]; exact (hb1.alloc (Nat.le_of_lt hlt1) _).drew
    have hF2 : Fr (fun b => b = kb ∨ (Value.slice A0 hb.length c0).ownBlock = some b) w w2 := by rw [← hw2]; exact hF1.alloc _
    have htb2 := (htb1.alloc (.cells #[.slice A n c, .slice none 0 0, .int .i64 M] 70)).drew
    have hti2 := fun i => ((hti1 i).alloc (.cells #[.slice A n c, .slice none 0 0, .int .i64 M] 70)).drew
    rw [hw2] at htb2
    simp only [hw2] at hti2
    clear hw2
    obtain ⟨v', w3, hrun, hown3, hgr3, _, hat3⟩ := run_append_own_at (P := Tryz.prog) w2 (kb + 1) 39 39 70 i0 _ 3 56 Tryz.underlying39 hi0 hz0 hz1 hz2 rfl (by omega) (.slice A0 hb.length c0) hb.length (rowsOf hb) htb2 ⟨w1.heap.size, 0, none⟩ 1 1 (Hl.cells ⟨A, n, c, none, 0, 0, M⟩) rfl hlit (by intro u hu; simp [Hl.cells] at hu; rcases hu with rfl | rfl | rfl <;> rfl) (by simp only [maxLen]; omega) (by omega) (by omega)
    obtain ⟨A3, c3, rfl⟩ := own_slice hown3
    have hkb3 : w3.heap[kb]? = w1.heap[kb]? := by
      rw [hgr3.block kb (by omega) ?_, hblk2 kb hlt1]
      intro he
      have := (htb2.lt kb he.symm).1
      omega
    have hne3 : (Value.slice A3 (hb.length + 1) c3).ownBlock ≠ some kb := by
      intro he
      have := (hown3.lt kb he).1
      omega
    have hc31 : w3.cell? ⟨kb, 4, none⟩ = some (.slice A0 hb.length c0) := by rw [World.cell?_of_block (w := w1) hkb3]; exact hc1
    have hc32 : w3.cell? ⟨kb, 0, none⟩ = some (.int .i64 M) := by rw [World.cell?_of_block (w := w1) hkb3]; exact hc2
    have hblk3 := hkb3.trans hblk
    have hfr3 : w3.frozen? ⟨kb, 4, none⟩ = false := by simp [World.frozen?, hblk3]
    have hb3 : Below kb w w3 := hb2.grown hgr3 (Nat.le_of_lt (by omega)) (fun k hk' => by have := (htb2.lt k hk').1; omega)
    refine trD (by rfl) ?_
    intro K hK
    refine Lib.wp_append_run _ _ _ 39 39 rfl _ _ (by rfl) (by rfl) (.slice A3 (hb.length + 1) c3) w3 hrun ?_
    refine hK _ _ trivial ?_
    clear hK K
    try simp only [Act.put, List.setIfInBounds_toArray, List.set_cons_zero, List.set_cons_succ]
    repeat (first | (refine trS (by rfl) ?_; simp only [Act.put, List.setIfInBounds_toArray, List.set_cons_zero, List.set_cons_succ]) | (refine trN (by rfl) ?_; simp only [Act.put, List.setIfInBounds_toArray, List.set_cons_zero, List.set_cons_succ]) | (refine trQ (v := ?_) (by rfl) (fun _ hSw => ?_) ?_; rotate_left; (focus (go_simp; (first | done | with_reducible rfl))); simp only [Act.put, List.setIfInBounds_toArray, List.set_cons_zero, List.set_cons_succ]))
    refine trD (by rfl) ?_
    intro K hK
    go_simp
    refine hK _ _ trivial ?_
    clear hK K
    refine trE ?_
    go_wp2
    go_end0
    have hblk4 := heap_setCell_same w3 kb 4 _ _ (.slice A3 (hb.length + 1) c3) hblk3
    have hF4 : Fr (fun b => b = kb ∨ (Value.slice A0 hb.length c0).ownBlock = some b) w (w3.setCell ⟨kb, 4, none⟩ (.slice A3 (hb.length + 1) c3)) := (hF2.grown hgr3 (fun k hk' => .inr hk')).setCell (p := ⟨kb, 4, none⟩) (.inl rfl) _
    have hB4 : Below kb w (w3.setCell ⟨kb, 4, none⟩ (.slice A3 (hb.length + 1) c3)) := hb3.setCell (p := ⟨kb, 4, none⟩) (Nat.le_refl _) _
    have hm4 := ownsRow_setCell_other hown3 (a := ⟨kb, 4, none⟩) hne3 (.slice A3 (hb.length + 1) c3)
    have hVb : (T 4).ownBlock = (Value.slice A0 hb.length c0).ownBlock := congrArg Value.ownBlock HV.out
    have hoth3 := fun i (hi : i ≠ 4) => (hti2 i).kept hgr3 (by
      rcases hv : (T i).ownBlock with _ | g
      · exact .inl rfl
      · right
        intro he
        exact hk.ne i 4 hi g hv (hVb.trans he.symm))
    have hoth4 := fun i (hi : i ≠ 4) => ownsRow_setCell_other (hoth3 i hi) (a := ⟨kb, 4, none⟩) (u := .slice A3 (hb.length + 1) c3) (by
      intro he
      have := ((hoth3 i hi).lt kb he).1
      omega)
    have hrow : rowsOf hb ++ Hl.cells ⟨A, n, c, none, 0, 0, M⟩ = rowsOf (hb ++ [⟨A, n, c, none, 0, 0, M⟩]) := by rw [rowsOf_app]; rfl
    have hlen : hb.length + 1 = (hb ++ [(⟨A, n, c, none, 0, 0, M⟩ : Hl)]).length := by simp
    rw [hrow] at hm4
    rw [HM.out, ← HB.out]
    refine ⟨rfl, _, hk.put 4 (by omega) hblk4 (by rw [← hlen]; exact hm4) hoth4 ?_, hB4, ?_⟩
    · intro i hi g hg he
      rcases hat3 with h | h
      · exact hk.ne i 4 hi g he (hVb.trans (h.symm.trans hg))
      · have h2 := ((hti2 i).lt g he).2
        rw [hg] at h
        cases h
        omega
    · rw [hVb]; exact hF4

end Go.Proofs.YtjjaajmjcdihoaaGreatDoor
