/-
  Walks of package disks: New.
-/
import Derived.Test.YthgbenncheoemaaDoorDisksW
namespace Go.Proofs.YthgbenncheoemaaDoor
open Go.RowKit
set_option linter.unusedVariables false

/-- A sector of noughts, as a value. -/
def z64 : Value := .agg (List.replicate 64 (.int .u8 0)).toArray
theorem info_sector : (Tryd.prog.info? 62).map (fun i => (i.zero, i.size, i.bytes)) = some (some z64, 64, 64) := by kernel_rfl
theorem size_sector : (Tryd.prog.info? 62).map (·.size) = some 64 := by kernel_rfl

theorem made_rep (K n : Nat) (v : Value) : (madeCells (List.replicate K v).toArray (n * K)).toList = List.replicate (n * K) v := by
  apply List.ext_getElem?
  intro j
  by_cases hj : j < n * K
  · have hK : 0 < K := by rcases Nat.eq_zero_or_pos K with h | h; (subst h; omega); exact h
    have hm : j % K < K := Nat.mod_lt _ hK
    simp [madeCells, hj, hm]
  · simp [madeCells, hj]
theorem made_sectors (n : Nat) : (madeCells z64.cells (n * 64)).toList = cu8 (List.replicate n (List.replicate 64 0)).flatten := by
  rw [List.flatten_replicate_replicate, show z64.cells = (List.replicate 64 (Value.int .u8 0)).toArray from rfl, made_rep]
  simp only [cu8, List.map_replicate]
  rfl

/-- make([]sector, n). -/
theorem wpList_mk_sectors (w : World) {ops : Array Oper} {rest : List Oper} {o : Oper} {a : Act} {Q : Exit → Act → World → Prop} (hg : o.guard = none) (l c : Operand) (hop : o.op = Op.makeSlice 63 l c) (n : Nat)
    (hl : a.eval l = .int .i64 n) (hc : a.eval c = .int .i64 n) (hn : n ≤ 1024)
    (hK : ∀ w', w'.heap[w.heap.size]? = some (.cells (cu8 (blankD n).ss.flatten).toArray 62 (0, 0)) → Below w.heap.size w w' → wpList Tryd.prog ops Q rest (a.put o.dst (.slice (some ⟨w.heap.size, 0, none⟩) n n)) w') :
    wpList Tryd.prog ops Q (o :: rest) a w := by
  obtain ⟨i0, hi0, hz0, hz1, hz2⟩ := info_parts info_sector
  refine wpList_make_full (P := Tryd.prog) w hg l c 63 hop w.heap.size 62 i0 _ 64 Tryd.underlying63 hi0 hz0 hz1 .i64 .i64 _ _ n hl hc rfl rfl (by rw [hz2]; omega) (by simp only [maxLen]; omega) (Nat.le_refl _) fun w1 hown hgr => hK w1 ?_ ?_
  · rw [made_sectors] at hown
    rcases hown.2 with ⟨hv, _⟩ | ⟨g, cap, cur, hv, _, hg, _, _, hs, ht⟩
    · cases hv
    · cases hv
      rw [List.take_of_length_le (by simp [hs])] at ht
      have hcur : cur = (cu8 (blankD n).ss.flatten).toArray := Array.ext' ht
      rw [hg, hcur]
  · exact (Below.refl _ w).grown hgr (Nat.le_refl _) (by intro k hk; cases hk)

set_option maxRecDepth 100000 in
set_option maxHeartbeats 1000000 in
theorem blank_any (n : Nat) (w : World) (h1 : 1 ≤ n) (hn : n ≤ 1024) : Calls Tryd.prog 26 #[.int .i64 n] w fun e w' =>
    ∃ p g, e = .returned (.pointer (some ⟨p, 0, none⟩)) ∧ DkAt w' p g (blankD n) ∧ w.heap.size ≤ p ∧ w.heap.size ≤ g ∧ Below w.heap.size w w' := by
  go_enter Tryd.func26, Tryd.ntmps26
  go_wp2_with (at_make; go_must (refine wpList_mk_sectors _ rfl _ _ rfl n rfl rfl hn ?_))
  intro w1 hh hB
  have hlt : w.heap.size < w1.heap.size := (Array.getElem?_eq_some_iff.1 hh).1
  have H := Lib.hid hh
  clear hh
  go_wp2
  go_ret
  refine ⟨_, w.heap.size, rfl, ?_, Nat.le_of_lt hlt, Nat.le_refl _, hB.alloc (Nat.le_of_lt hlt) _⟩
  refine ⟨?_, ?_, by omega, ?_, by simp only [blankD, List.length_replicate]; omega, by simp only [blankD, List.length_replicate]; omega, by simp [blankD], by simp [blankD]⟩
  · rw [heap_alloc_new]
    simp [Dk.cells, blankD]
  · rw [Below.heap_alloc _ _ _ hlt]
    exact H.out
  · intro s hs
    simp only [blankD, List.mem_replicate] at hs
    rw [hs.2]
    simp

set_option maxRecDepth 100000 in
theorem new_ok (n : Nat) (w : World) (h1 : 1 ≤ n) (hn : n ≤ 1024) : Calls Tryd.prog 5 #[.int .i64 n] w fun e w' =>
    ∃ p g, e = .returned (.tuple #[.pointer (some ⟨p, 0, none⟩), .int .i64 0]) ∧ DkAt w' p g (blankD n) ∧ w.heap.size ≤ p ∧ w.heap.size ≤ g ∧ Below w.heap.size w w' := by
  have s1 : decide ((n : Int) < 1) = false := by simp; omega
  have s2 : decide (1024 < (n : Int)) = false := by simp; omega
  have s2' : decide (1024 < n) = false := by simp; omega
  go_enter Tryd.func5, Tryd.ntmps5
  go_wp2_with fail
  refine (blank_any n w h1 hn).mono ?_
  rintro e w1 ⟨p, g, rfl, hd, hp, hg, hb⟩
  go_wp2
  go_ret2
  exact ⟨p, g, rfl, hd, hp, hg, hb⟩

set_option maxRecDepth 100000 in
theorem new_arg (n : Int) (w : World) (h : n < 1 ∨ 1024 < n) : Calls Tryd.prog 5 #[.int .i64 n] w fun e w' => e = .returned (.tuple #[.pointer none, .int .i64 1]) ∧ w = w' := by
  by_cases h1 : n < 1
  · go_enter Tryd.func5, Tryd.ntmps5
    go_wp2
    go_ret2
    exact ⟨rfl, rfl⟩
  · have h2 : 1024 < n := by omega
    go_enter Tryd.func5, Tryd.ntmps5
    go_wp2
    go_ret2
    exact ⟨rfl, rfl⟩
end Go.Proofs.YthgbenncheoemaaDoor
