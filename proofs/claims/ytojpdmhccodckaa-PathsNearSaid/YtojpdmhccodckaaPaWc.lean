/-
  Walks of package paths: how a search begins.
-/
import Derived.Test.YtojpdmhccodckaaPaWb
namespace Go.Proofs.Ytojpdmhccodckaa
open Go.RowKit
set_option linter.unusedVariables false

theorem SrAt.new (w : World) (t : TypeId) (a : Int) (A : Option Addr) (n c : Nat) : SrAt (w.alloc (.cells #[.int .i64 a, .int .i64 a, .int .i64 a, .int .i64 a, .int .i64 a, .int .i64 a, .int .i64 a, .int .i64 a, .slice A n c] t)) w.heap.size t (fun _ => a) A n c := by
  refine ⟨_, World.alloc_heap_new w _, rfl, fun k hk => ?_, rfl⟩
  match k, hk with
  | 0, _ => rfl
  | 1, _ => rfl
  | 2, _ => rfl
  | 3, _ => rfl
  | 4, _ => rfl
  | 5, _ => rfl
  | 6, _ => rfl
  | 7, _ => rfl
  | k + 8, h => omega
set_option maxRecDepth 100000 in
set_option maxHeartbeats 1000000 in
theorem pbegin_any (z : Int) (w : World) (hz1 : -9223372036854775808 ≤ z) (hz2 : z ≤ 9223372036854775807) :
    Calls Try.prog 19 #[.int .i64 z] w fun e w' => ∃ A c, e = .returned (.agg #[.int .i64 (-1), .int .i64 (-1), .int .i64 (-1), .int .i64 (-1), .int .i64 (-1), .int .i64 (-1), .int .i64 (-1), .int .i64 (-1), .slice A 1 c]) ∧ OwnI w' w.heap.size ⟨A, 1, c, [z]⟩ ∧ Below w.heap.size w w' := by
  go_enter Try.func19, Try.ntmps19
  go_wp2
  have hl := World.alloc_heap_new w (.cells #[.int .i64 0, .int .i64 0, .int .i64 0, .int .i64 0, .int .i64 0, .int .i64 0, .int .i64 0, .int .i64 0, .slice none 0 0] 43)
  have hB := (Below.refl w.heap.size w).alloc (Nat.le_refl _) (.cells #[.int .i64 0, .int .i64 0, .int .i64 0, .int .i64 0, .int .i64 0, .int .i64 0, .int .i64 0, .int .i64 0, .slice none 0 0] 43)
  have hs1 : (w.alloc (.cells #[.int .i64 0, .int .i64 0, .int .i64 0, .int .i64 0, .int .i64 0, .int .i64 0, .int .i64 0, .int .i64 0, .slice none 0 0] 43)).heap.size = w.heap.size + 1 := by simp
  generalize w.alloc (.cells #[.int .i64 0, .int .i64 0, .int .i64 0, .int .i64 0, .int .i64 0, .int .i64 0, .int .i64 0, .int .i64 0, .slice none 0 0] 43) = w1 at *
  have own := Own.lit (B := w.heap.size) w1 3 #[.int .i64 z] 1 (by omega) rfl (by unfold maxLen; omega)
  have hb2 : Below w1.heap.size w1 (w1.alloc (.cells #[.int .i64 z] 3)) := (Below.refl _ w1).alloc (Nat.le_refl _) _
  have hs2 : (w1.alloc (.cells #[.int .i64 z] 3)).heap.size = w.heap.size + 1 + 1 := by simp [hs1]
  rw [hs1] at own
  have hl2 := (hb2.block w.heap.size (by omega)).trans hl
  have hB2 := hB.trans (hb2.mono hB.size)
  generalize w1.alloc (.cells #[.int .i64 z] 3) = w2 at *
  have bS := SrAt.new w2 43 0 (some ⟨w.heap.size + 1, 0, none⟩) 1 1
  have hb3 : Below w2.heap.size w2 (w2.alloc (.cells #[.int .i64 0, .int .i64 0, .int .i64 0, .int .i64 0, .int .i64 0, .int .i64 0, .int .i64 0, .int .i64 0, .slice (some ⟨w.heap.size + 1, 0, none⟩) 1 1] 43)) := (Below.refl _ w2).alloc (Nat.le_refl _) _
  have hl3 := (hb3.block w.heap.size (by omega)).trans hl2
  have hB3 := hB2.trans (hb3.mono hB2.size)
  have own3 := own.below (hb3.mono (Nat.le_refl _))
  rw [hs2] at bS
  clear own hs1 hb2 hl hl2 hB hB2 hb3
  generalize w2.alloc (.cells #[.int .i64 0, .int .i64 0, .int .i64 0, .int .i64 0, .int .i64 0, .int .i64 0, .int .i64 0, .int .i64 0, .slice (some ⟨w.heap.size + 1, 0, none⟩) 1 1] 43) = w3 at *
  clear hs2
  go_loopw [8] (fun i wr => ∃ j : Nat, j ≤ 8 ∧ i = .int .i64 j ∧ SrAt wr (w.heap.size + 1 + 1) 43 (fun k => if k < j then -1 else 0) (some ⟨w.heap.size + 1, 0, none⟩) 1 1 ∧
    wr.heap[w.heap.size]? = some (.cells #[.int .i64 0, .int .i64 0, .int .i64 0, .int .i64 0, .int .i64 0, .int .i64 0, .int .i64 0, .int .i64 0, .slice none 0 0] 43 (0, 0)) ∧ Own wr w.heap.size 3 (some ⟨w.heap.size + 1, 0, none⟩) 1 1 [.int .i64 z] ∧ Below w.heap.size w wr) (fun i _ => 8 - (intOf i).toNat)
  case atStart => exact ⟨0, by omega, rfl, by simpa using bS, hl3, own3, hB3⟩
  case round =>
    obtain ⟨j, hj, rfl, aS, hl, own, hB⟩ := hrel
    clear bS hl3 own3 hB3
    by_cases hlt : j < 8
    · have hlt' : (j : Int) < 8 := by omega
      have c0 := aS.cell hlt
      have f0 := aS.frozen j
      have aS2 := aS.set (v := -1) (F' := fun k => if k < j + 1 then -1 else 0) hlt (fun a ha => by
        by_cases h1 : a = j
        · rw [if_pos h1, if_pos (by omega)]
        · rw [if_neg h1]
          by_cases h2 : a < j
          · rw [if_pos h2, if_pos (by omega)]
          · rw [if_neg h2, if_neg (by omega)])
      have own2 := own.setS aS (by decide) j (.int .i64 (-1))
      have hl2 : (wr.setCell ⟨w.heap.size + 1 + 1, j, none⟩ (.int .i64 (-1))).heap[w.heap.size]? = _ := (heap_setCell_other wr ⟨w.heap.size + 1 + 1, j, none⟩ w.heap.size (.int .i64 (-1)) (by show w.heap.size ≠ w.heap.size + 1 + 1; omega)).trans hl
      have hB2 := hB.setCell (p := ⟨w.heap.size + 1 + 1, j, none⟩) (by show w.heap.size ≤ w.heap.size + 1 + 1; omega) (.int .i64 (-1))
      clear hl own hB
      go_wp2
      go_roundw
      case rel => exact ⟨j + 1, by omega, by go_num, aS2, hl2, own2, hB2⟩
      case measure => simp [intOf]; omega
    · obtain rfl : j = 8 := by omega
      have d0 := aS.cell (k := 0) (by omega)
      have d1 := aS.cell (k := 1) (by omega)
      have d2 := aS.cell (k := 2) (by omega)
      have d3 := aS.cell (k := 3) (by omega)
      have d4 := aS.cell (k := 4) (by omega)
      have d5 := aS.cell (k := 5) (by omega)
      have d6 := aS.cell (k := 6) (by omega)
      have d7 := aS.cell (k := 7) (by omega)
      have d8 := aS.waits
      simp only [Nat.zero_lt_succ, Nat.reduceLT, if_true] at d0 d1 d2 d3 d4 d5 d6 d7
      have r0 : wr.cell? ⟨w.heap.size, 0, none⟩ = some (.int .i64 0) := by simp [World.cell?, hl]
      have r1 : wr.cell? ⟨w.heap.size, 1, none⟩ = some (.int .i64 0) := by simp [World.cell?, hl]
      have r2 : wr.cell? ⟨w.heap.size, 2, none⟩ = some (.int .i64 0) := by simp [World.cell?, hl]
      have r3 : wr.cell? ⟨w.heap.size, 3, none⟩ = some (.int .i64 0) := by simp [World.cell?, hl]
      have r4 : wr.cell? ⟨w.heap.size, 4, none⟩ = some (.int .i64 0) := by simp [World.cell?, hl]
      have r5 : wr.cell? ⟨w.heap.size, 5, none⟩ = some (.int .i64 0) := by simp [World.cell?, hl]
      have r6 : wr.cell? ⟨w.heap.size, 6, none⟩ = some (.int .i64 0) := by simp [World.cell?, hl]
      have r7 : wr.cell? ⟨w.heap.size, 7, none⟩ = some (.int .i64 0) := by simp [World.cell?, hl]
      have r8 : wr.cell? ⟨w.heap.size, 8, none⟩ = some (.slice none 0 0) := by simp [World.cell?, hl]
      have rf : ∀ j, wr.frozen? ⟨w.heap.size, j, none⟩ = false := fun j => by simp [World.frozen?, hl]
      have hh := Lib.hid hl
      clear hl
      have hso : ∀ (v : World) j u, Own v w.heap.size 3 (some ⟨w.heap.size + 1, 0, none⟩) 1 1 [.int .i64 z] → Own (v.setCell ⟨w.heap.size, j, none⟩ u) w.heap.size 3 (some ⟨w.heap.size + 1, 0, none⟩) 1 1 [.int .i64 z] := fun v j u h => h.keep fun g hA _ _ _ => heap_setCell_other _ _ _ _ (by cases hA; show w.heap.size + 1 ≠ w.heap.size; omega)
      have hsb : ∀ (v : World) j u, Below w.heap.size w v → Below w.heap.size w (v.setCell ⟨w.heap.size, j, none⟩ u) := fun v j u h => h.setCell (p := ⟨w.heap.size, j, none⟩) (Nat.le_refl _) u
      have hown := hso _ 8 (.slice (some ⟨w.heap.size + 1, 0, none⟩) 1 1) (hso _ 7 (.int .i64 (-1)) (hso _ 6 (.int .i64 (-1)) (hso _ 5 (.int .i64 (-1)) (hso _ 4 (.int .i64 (-1)) (hso _ 3 (.int .i64 (-1)) (hso _ 2 (.int .i64 (-1)) (hso _ 1 (.int .i64 (-1)) (hso _ 0 (.int .i64 (-1)) own))))))))
      have hbel := hsb _ 8 (.slice (some ⟨w.heap.size + 1, 0, none⟩) 1 1) (hsb _ 7 (.int .i64 (-1)) (hsb _ 6 (.int .i64 (-1)) (hsb _ 5 (.int .i64 (-1)) (hsb _ 4 (.int .i64 (-1)) (hsb _ 3 (.int .i64 (-1)) (hsb _ 2 (.int .i64 (-1)) (hsb _ 1 (.int .i64 (-1)) (hsb _ 0 (.int .i64 (-1)) hB))))))))
      clear hso hsb own hB aS
      go_wp2
      refine bodyPost_ret (v := .agg #[.int .i64 (-1), .int .i64 (-1), .int .i64 (-1), .int .i64 (-1), .int .i64 (-1), .int .i64 (-1), .int .i64 (-1), .int .i64 (-1), .slice (some ⟨w.heap.size + 1, 0, none⟩) 1 1]) ?r rfl ?_
      case r =>
        simp only [results, Try.f19]
        go_simp
      exact ⟨_, _, rfl, ⟨hown, by simpa using ⟨hz1, hz2⟩⟩, hbel⟩
end Go.Proofs.Ytojpdmhccodckaa
