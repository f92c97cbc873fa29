/-
  Walks of package disks: Copy.
-/
import Derived.Test.YthgbenncheoemaaDoorDisksW3
import Derived.Test.YthgbenncheoemaaDoorReg
import Derived.Lib.SlBuf
namespace Go.Proofs.YthgbenncheoemaaDoor
open Go.RowKit
set_option linter.unusedVariables false

theorem blank_len (n : Nat) : (blankD n).ss.length = n := by simp [blankD]

set_option maxRecDepth 100000 in
set_option maxHeartbeats 1000000 in
theorem copy_ok (p g : Nat) (d : Dk) (w : World) (h : DkAt w p g d) : Calls Tryd.prog 14 #[.pointer (some ⟨p, 0, none⟩)] w fun e w' =>
    ∃ p' g', e = .returned (.tuple #[.pointer (some ⟨p', 0, none⟩), .int .i64 0]) ∧ DkAt w' p' g' d.copy ∧ w.heap.size ≤ p' ∧ w.heap.size ≤ g' ∧ Below w.heap.size w w' := by
  have c0 := h.c0
  have k1 := h.pos
  have k2 := h.top
  go_enter Tryd.func14, Tryd.ntmps14
  go_wp2_with fail
  refine (there_ok p g d w h).mono ?_
  rintro e w1 ⟨rfl, rfl⟩
  go_wp2_with fail
  refine (blank_any d.ss.length w k1 k2).mono ?_
  rintro e w1 ⟨p', g', rfl, h1, hp, hg, hb⟩
  have hd1 := h.below hb
  have x0 := hd1.c0
  have y0 := h1.c0
  rw [blank_len] at y0
  have q1 := hd1.ltp
  have q2 := hd1.ltg
  have q3 := h.ltp
  have q4 := h.ltg
  have hfl := flat_len d.ss h.len
  have cp := run_copy_rowK (P := Tryd.prog) w1.drew 63 63 3 62 64 g' 0 d.ss.length d.ss.length ⟨g, 0, none⟩ d.ss.length d.ss.length _ _ (cu8 d.ss.flatten) Tryd.underlying63 size_sector h1.hg
    (by rw [cu8_len, hfl]; congr 1; exact (Nat.min_self _).symm) (fun j v hv => by rw [Addr.add_lit, cell_of_row _ _ _ _ _ _ hd1.drew.hg, Nat.zero_add]; simpa using hv)
    (by have := flat_len (blankD d.ss.length).ss h1.len; rw [blank_len] at this; simp [cu8_len, hfl, this]) (cu8_one _)
  have e1 : (cu8 (blankD d.ss.length).ss.flatten).toArray.toList.take 0 ++ cu8 d.ss.flatten ++ (cu8 (blankD d.ss.length).ss.flatten).toArray.toList.drop (0 + (cu8 d.ss.flatten).length) = cu8 d.ss.flatten := by
    have := flat_len (blankD d.ss.length).ss h1.len
    rw [blank_len] at this
    rw [List.take_zero, List.nil_append, List.drop_eq_nil_of_le (by simp only [Nat.zero_add, cu8_len, hfl, this, Nat.le_refl]), List.append_nil]
  rw [e1] at cp
  have hD : DkAt (w1.drew.setRow g' (cu8 d.ss.flatten).toArray) p' g' d.copy := by
    refine ⟨?_, setRow_heap _ _ _ _ _ _ h1.drew.hg, h1.ne, h.len, h.pos, h.top, by simp [Dk.copy], by simp [Dk.copy]⟩
    rw [setRow_other _ _ _ _ h1.ne, h1.drew.hp]
    simp [Dk.cells, Dk.copy, blankD]
  have hB : Below w.heap.size w (w1.drew.setRow g' (cu8 d.ss.flatten).toArray) := below_setRow hb.drew hg _
  have z0 : (w1.drew.setRow g' (cu8 d.ss.flatten).toArray).cell? ⟨p', 0, none⟩ = some (.slice (some ⟨g', 0, none⟩) d.ss.length d.ss.length) := by rw [hD.c0]; rfl
  have z1 : (w1.drew.setRow g' (cu8 d.ss.flatten).toArray).cell? ⟨p, 0, none⟩ = some (.slice (some ⟨g, 0, none⟩) d.ss.length d.ss.length) := by rw [hB.cell (p := ⟨p, 0, none⟩) q3]; exact c0
  generalize w1.drew.setRow g' (cu8 d.ss.flatten).toArray = w2 at cp hD hB z0 z1
  have HD := Lib.hid hD
  have HB := Lib.hid hB
  have CP := Lib.hid cp
  clear hb h1 hd1 h hfl e1 hD hB cp
  go_wp2_with fail
  refine wp_region_ord (S := fun w' => w'.cell? ⟨p', 0, none⟩ = some (.slice (some ⟨g', 0, none⟩) d.ss.length d.ss.length) ∧ w'.cell? ⟨p, 0, none⟩ = some (.slice (some ⟨g, 0, none⟩) d.ss.length d.ss.length)) [(0, true), (1, true), (2, true), (3, true), (4, true), (5, true), (6, true), (7, true), (8, false)] default (by kernel_rfl) (by kernel_rfl) (by kernel_rfl) ⟨y0, x0⟩ ?_
  simp only [getOrd, nth]
  repeat (first | (refine ordS (by rfl) ?_; simp only [Act.put, List.setIfInBounds_toArray, List.set_cons_zero, List.set_cons_succ]) | (refine ordN (by rfl) ?_; simp only [Act.put, List.setIfInBounds_toArray, List.set_cons_zero, List.set_cons_succ]) | (refine ordQ (v := ?_) (by rfl) (fun _ hSw => ?_) ?_; rotate_left; (focus (have hS1 := hSw.1; have hS2 := hSw.2; go_simp; (first | done | with_reducible rfl))); simp only [Act.put, List.setIfInBounds_toArray, List.set_cons_zero, List.set_cons_succ]))
  refine ordD (by rfl) ?_
  intro K hK
  refine Lib.wp_copy_run _ _ _ _ _ rfl _ _ (by rfl) (by rfl) CP.out ?_
  refine hK _ _ ⟨z0, z1⟩ ?_
  refine ordE ?_
  go_wp2
  go_ret2
  exact ⟨p', g', rfl, HD.out, hp, hg, HB.out⟩

end Go.Proofs.YthgbenncheoemaaDoor
