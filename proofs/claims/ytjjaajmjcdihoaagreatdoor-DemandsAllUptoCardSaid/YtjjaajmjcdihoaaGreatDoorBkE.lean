/-
  Walks of the Book with nine tables: what is empty; Apart: no two lists share memory, so it answers true.
-/
import Derived.Test.YtjjaajmjcdihoaaGreatDoorProg
import Derived.Test.YtjjaajmjcdihoaaGreatDoorBkL
import Derived.BigQuiet
import Derived.Deep.QuietTactic
import Derived.Deep.DeepMust
namespace Go.Proofs.YtjjaajmjcdihoaaGreatDoor
open Go.RowKit
set_option linter.unusedVariables false

set_option maxRecDepth 100000 in
theorem fillNoneText (kb : Nat) (w : World) (hc : w.cell? ⟨kb, 3, none⟩ = some (.slice none 0 0)) : Calls Tryz.prog 31 #[.pointer (some ⟨kb, 0, none⟩)] w fun e w' => e = .returned (.tuple #[]) ∧ w = w' := by
  go_enter Tryz.func31, Tryz.ntmps31
  go_wp2_with fail
  go_loop [2] (fun i => i = .int .i64 0) (fun _ => 0)
  case atStart => rfl
  case round =>
    subst hrel
    go_wp2
    go_end0
    exact ⟨rfl, rfl⟩
set_option maxRecDepth 100000 in
theorem growNoneText (kb : Nat) (w : World) (hc : w.cell? ⟨kb, 3, none⟩ = some (.slice none 0 0)) : Calls Tryz.prog 40 #[.pointer (some ⟨kb, 0, none⟩)] w fun e w' => e = .returned (.tuple #[]) ∧ w = w' := by
  go_enter Tryz.func40, Tryz.ntmps40
  go_wp2_with fail
  go_loop [2] (fun i => i = .int .i64 0) (fun _ => 0)
  case atStart => rfl
  case round =>
    subst hrel
    go_wp2
    go_end0
    exact ⟨rfl, rfl⟩
set_option maxRecDepth 100000 in
theorem lookNoneText (kb : Nat) (w : World) (hc : w.cell? ⟨kb, 3, none⟩ = some (.slice none 0 0)) : Calls Tryz.prog 49 #[.pointer (some ⟨kb, 0, none⟩)] w fun e w' => e = .returned (.bool true) ∧ w = w' := by
  go_enter Tryz.func49, Tryz.ntmps49
  go_wp2_with fail
  go_loop [3] (fun i => i = .int .i64 0) (fun _ => 0)
  case atStart => rfl
  case round =>
    subst hrel
    go_wp2
    go_ret
    exact ⟨rfl, rfl⟩
set_option maxRecDepth 100000 in
theorem fillNoneByteList (kb : Nat) (w : World) (hc : w.cell? ⟨kb, 5, none⟩ = some (.slice none 0 0)) : Calls Tryz.prog 33 #[.pointer (some ⟨kb, 0, none⟩)] w fun e w' => e = .returned (.tuple #[]) ∧ w = w' := by
  go_enter Tryz.func33, Tryz.ntmps33
  go_wp2_with fail
  go_loop [2] (fun i => i = .int .i64 0) (fun _ => 0)
  case atStart => rfl
  case round =>
    subst hrel
    go_wp2
    go_end0
    exact ⟨rfl, rfl⟩
set_option maxRecDepth 100000 in
theorem growNoneByteList (kb : Nat) (w : World) (hc : w.cell? ⟨kb, 5, none⟩ = some (.slice none 0 0)) : Calls Tryz.prog 42 #[.pointer (some ⟨kb, 0, none⟩)] w fun e w' => e = .returned (.tuple #[]) ∧ w = w' := by
  go_enter Tryz.func42, Tryz.ntmps42
  go_wp2_with fail
  go_loop [2] (fun i => i = .int .i64 0) (fun _ => 0)
  case atStart => rfl
  case round =>
    subst hrel
    go_wp2
    go_end0
    exact ⟨rfl, rfl⟩
set_option maxRecDepth 100000 in
theorem lookNoneByteList (kb : Nat) (w : World) (hc : w.cell? ⟨kb, 5, none⟩ = some (.slice none 0 0)) : Calls Tryz.prog 51 #[.pointer (some ⟨kb, 0, none⟩)] w fun e w' => e = .returned (.bool true) ∧ w = w' := by
  go_enter Tryz.func51, Tryz.ntmps51
  go_wp2_with fail
  go_loop [3] (fun i => i = .int .i64 0) (fun _ => 0)
  case atStart => rfl
  case round =>
    subst hrel
    go_wp2
    go_ret
    exact ⟨rfl, rfl⟩
set_option maxRecDepth 100000 in
theorem fillNoneWhy (kb : Nat) (w : World) (hc : w.cell? ⟨kb, 6, none⟩ = some (.slice none 0 0)) : Calls Tryz.prog 34 #[.pointer (some ⟨kb, 0, none⟩)] w fun e w' => e = .returned (.tuple #[]) ∧ w = w' := by
  go_enter Tryz.func34, Tryz.ntmps34
  go_wp2_with fail
  go_loop [2] (fun i => i = .int .i64 0) (fun _ => 0)
  case atStart => rfl
  case round =>
    subst hrel
    go_wp2
    go_end0
    exact ⟨rfl, rfl⟩
set_option maxRecDepth 100000 in
theorem growNoneWhy (kb : Nat) (w : World) (hc : w.cell? ⟨kb, 6, none⟩ = some (.slice none 0 0)) : Calls Tryz.prog 43 #[.pointer (some ⟨kb, 0, none⟩)] w fun e w' => e = .returned (.tuple #[]) ∧ w = w' := by
  go_enter Tryz.func43, Tryz.ntmps43
  go_wp2_with fail
  go_loop [2] (fun i => i = .int .i64 0) (fun _ => 0)
  case atStart => rfl
  case round =>
    subst hrel
    go_wp2
    go_end0
    exact ⟨rfl, rfl⟩
set_option maxRecDepth 100000 in
theorem lookNoneWhy (kb : Nat) (w : World) (hc : w.cell? ⟨kb, 6, none⟩ = some (.slice none 0 0)) : Calls Tryz.prog 52 #[.pointer (some ⟨kb, 0, none⟩)] w fun e w' => e = .returned (.bool true) ∧ w = w' := by
  go_enter Tryz.func52, Tryz.ntmps52
  go_wp2_with fail
  go_loop [3] (fun i => i = .int .i64 0) (fun _ => 0)
  case atStart => rfl
  case round =>
    subst hrel
    go_wp2
    go_ret
    exact ⟨rfl, rfl⟩
set_option maxRecDepth 100000 in
theorem fillNoneFrame (kb : Nat) (w : World) (hc : w.cell? ⟨kb, 7, none⟩ = some (.slice none 0 0)) : Calls Tryz.prog 35 #[.pointer (some ⟨kb, 0, none⟩)] w fun e w' => e = .returned (.tuple #[]) ∧ w = w' := by
  go_enter Tryz.func35, Tryz.ntmps35
  go_wp2_with fail
  go_loop [2] (fun i => i = .int .i64 0) (fun _ => 0)
  case atStart => rfl
  case round =>
    subst hrel
    go_wp2
    go_end0
    exact ⟨rfl, rfl⟩
set_option maxRecDepth 100000 in
theorem growNoneFrame (kb : Nat) (w : World) (hc : w.cell? ⟨kb, 7, none⟩ = some (.slice none 0 0)) : Calls Tryz.prog 44 #[.pointer (some ⟨kb, 0, none⟩)] w fun e w' => e = .returned (.tuple #[]) ∧ w = w' := by
  go_enter Tryz.func44, Tryz.ntmps44
  go_wp2_with fail
  go_loop [2] (fun i => i = .int .i64 0) (fun _ => 0)
  case atStart => rfl
  case round =>
    subst hrel
    go_wp2
    go_end0
    exact ⟨rfl, rfl⟩
set_option maxRecDepth 100000 in
theorem lookNoneFrame (kb : Nat) (w : World) (hc : w.cell? ⟨kb, 7, none⟩ = some (.slice none 0 0)) : Calls Tryz.prog 53 #[.pointer (some ⟨kb, 0, none⟩)] w fun e w' => e = .returned (.bool true) ∧ w = w' := by
  go_enter Tryz.func53, Tryz.ntmps53
  go_wp2_with fail
  go_loop [3] (fun i => i = .int .i64 0) (fun _ => 0)
  case atStart => rfl
  case round =>
    subst hrel
    go_wp2
    go_ret
    exact ⟨rfl, rfl⟩
set_option maxRecDepth 100000 in
theorem fillNoneReply (kb : Nat) (w : World) (hc : w.cell? ⟨kb, 8, none⟩ = some (.slice none 0 0)) : Calls Tryz.prog 36 #[.pointer (some ⟨kb, 0, none⟩)] w fun e w' => e = .returned (.tuple #[]) ∧ w = w' := by
  go_enter Tryz.func36, Tryz.ntmps36
  go_wp2_with fail
  go_loop [2] (fun i => i = .int .i64 0) (fun _ => 0)
  case atStart => rfl
  case round =>
    subst hrel
    go_wp2
    go_end0
    exact ⟨rfl, rfl⟩
set_option maxRecDepth 100000 in
theorem growNoneReply (kb : Nat) (w : World) (hc : w.cell? ⟨kb, 8, none⟩ = some (.slice none 0 0)) : Calls Tryz.prog 45 #[.pointer (some ⟨kb, 0, none⟩)] w fun e w' => e = .returned (.tuple #[]) ∧ w = w' := by
  go_enter Tryz.func45, Tryz.ntmps45
  go_wp2_with fail
  go_loop [2] (fun i => i = .int .i64 0) (fun _ => 0)
  case atStart => rfl
  case round =>
    subst hrel
    go_wp2
    go_end0
    exact ⟨rfl, rfl⟩
set_option maxRecDepth 100000 in
theorem lookNoneReply (kb : Nat) (w : World) (hc : w.cell? ⟨kb, 8, none⟩ = some (.slice none 0 0)) : Calls Tryz.prog 54 #[.pointer (some ⟨kb, 0, none⟩)] w fun e w' => e = .returned (.bool true) ∧ w = w' := by
  go_enter Tryz.func54, Tryz.ntmps54
  go_wp2_with fail
  go_loop [3] (fun i => i = .int .i64 0) (fun _ => 0)
  case atStart => rfl
  case round =>
    subst hrel
    go_wp2
    go_ret
    exact ⟨rfl, rfl⟩
set_option maxRecDepth 100000 in
theorem fillNoneRecord (kb : Nat) (w : World) (hc : w.cell? ⟨kb, 9, none⟩ = some (.slice none 0 0)) : Calls Tryz.prog 37 #[.pointer (some ⟨kb, 0, none⟩)] w fun e w' => e = .returned (.tuple #[]) ∧ w = w' := by
  go_enter Tryz.func37, Tryz.ntmps37
  go_wp2_with fail
  go_loop [2] (fun i => i = .int .i64 0) (fun _ => 0)
  case atStart => rfl
  case round =>
    subst hrel
    go_wp2
    go_end0
    exact ⟨rfl, rfl⟩
set_option maxRecDepth 100000 in
theorem growNoneRecord (kb : Nat) (w : World) (hc : w.cell? ⟨kb, 9, none⟩ = some (.slice none 0 0)) : Calls Tryz.prog 46 #[.pointer (some ⟨kb, 0, none⟩)] w fun e w' => e = .returned (.tuple #[]) ∧ w = w' := by
  go_enter Tryz.func46, Tryz.ntmps46
  go_wp2_with fail
  go_loop [2] (fun i => i = .int .i64 0) (fun _ => 0)
  case atStart => rfl
  case round =>
    subst hrel
    go_wp2
    go_end0
    exact ⟨rfl, rfl⟩
set_option maxRecDepth 100000 in
theorem lookNoneRecord (kb : Nat) (w : World) (hc : w.cell? ⟨kb, 9, none⟩ = some (.slice none 0 0)) : Calls Tryz.prog 55 #[.pointer (some ⟨kb, 0, none⟩)] w fun e w' => e = .returned (.bool true) ∧ w = w' := by
  go_enter Tryz.func55, Tryz.ntmps55
  go_wp2_with fail
  go_loop [3] (fun i => i = .int .i64 0) (fun _ => 0)
  case atStart => rfl
  case round =>
    subst hrel
    go_wp2
    go_ret
    exact ⟨rfl, rfl⟩

/-- Lists of one kind share no block with those of another one. -/
def Cross (a b : List Hl) : Prop := ∀ h ∈ a, ∀ g, Hit h g → ¬ Hits b g
theorem Cross.of {a b : List Hl} (h : ∀ x ∈ a, ∀ y ∈ b, ∀ g, Hit x g → ¬ Hit y g) : Cross a b := fun x hx g hg ⟨y, hy, hg2⟩ => h x hx y hy g hg hg2
theorem Cross.symm {a b : List Hl} (h : Cross a b) : Cross b a := fun y hy g hg ⟨x, hx, hg2⟩ => h x hx g hg2 ⟨y, hy, hg⟩

set_option maxRecDepth 100000 in
set_option maxHeartbeats 4000000 in
theorem apart9 (kb N B : Nat) (T : Nat → Value) (H : Nat → List Hl) (w : World) (hk : Bkn 46 tHs w kb N T H)
    (hT : ∀ j, j = 3 ∨ 5 ≤ j → T j = .slice none 0 0)
    (o1 : ∀ h ∈ H 1, ∃ xs, Own w B 5 h.A h.n h.c xs) (o2 : ∀ h ∈ H 2, ∃ xs, Own w B 3 h.A h.n h.c xs) (o4 : ∀ h ∈ H 4, ∃ xs, Own w B 22 h.A h.n h.c xs)
    (hlt : ∀ j, ∀ h ∈ H j, ∀ g, Hit h g → OffLN kb T w.heap.size g) (hsep : ∀ j, Sep (H j)) (c12 : Cross (H 1) (H 2)) (c14 : Cross (H 1) (H 4)) (c24 : Cross (H 2) (H 4))
    (hks : ∀ j, ∀ h ∈ H j, h.k < 1000000000 ∧ h.n ≤ 1000000000) (hln : ∀ j, (H j).length ≤ 1000000) (hBk : B ≤ kb) :
    Calls Tryz.prog 15 #[.pointer (some ⟨kb, 0, none⟩)] w fun e w' => e = .returned (.bool true) ∧ Below B w w' := by
  have hBw : B ≤ w.heap.size := Nat.le_trans hBk (Nat.le_of_lt hk.lt)
  obtain ⟨s, hs⟩ : ∃ s, s = w.heap.size := ⟨_, rfl⟩
  have hts : ∀ j g, (T j).ownBlock = some g → g < s := fun j g hg => by rw [hs]; exact (hk.tlt j g hg).2
  rw [← hs] at hlt
  have hsw : s ≤ w.heap.size := Nat.le_of_eq hs
  clear hs
  have hoff : ∀ j b, Hits (H j) b → OffN kb T b := fun j b ⟨h, hm, hg⟩ => (hlt j h hm b hg).2
  have hss : ∀ j b, Hits (H j) b → b < s := fun j b ⟨h, hm, hg⟩ => (hlt j h hm b hg).1
  have h3 : T 3 = .slice none 0 0 := hT 3 (by omega)
  have h5 : T 5 = .slice none 0 0 := hT 5 (by omega)
  have h6 : T 6 = .slice none 0 0 := hT 6 (by omega)
  have h7 : T 7 = .slice none 0 0 := hT 7 (by omega)
  have h8 : T 8 = .slice none 0 0 := hT 8 (by omega)
  have h9 : T 9 = .slice none 0 0 := hT 9 (by omega)
  clear hT
  go_enter Tryz.func15, Tryz.ntmps15
  go_wp2_with fail
  refine (fill9Byte kb N B s T H w hk o1 (hlt 1) (hsep 1) (fun h hm => (hks 1 h hm).1) (fun h hm => (hks 1 h hm).2) (hln 1) hBk hsw).mono ?_
  rintro e w1 ⟨rfl, f1, b1, p1⟩
  have hk1 := hk.fr f1 (hoff 1)
  have z1 : s ≤ w1.heap.size := Nat.le_trans hsw f1.1
  have o21 : ∀ h ∈ H 2, ∃ xs, Own w1 B 3 h.A h.n h.c xs := fun h hm => by
    obtain ⟨xs, hx⟩ := o2 h hm
    exact ⟨xs, hx.fr f1 fun g hc hA hx => c12.symm h hm g ⟨hc, hA⟩ hx⟩
  clear o2
  have o41 : ∀ h ∈ H 4, ∃ xs, Own w1 B 22 h.A h.n h.c xs := fun h hm => by
    obtain ⟨xs, hx⟩ := o4 h hm
    exact ⟨xs, hx.fr f1 fun g hc hA hx => c14.symm h hm g ⟨hc, hA⟩ hx⟩
  clear o4
  clear o1 hk f1
  have B1 : Below B w w1 := b1
  go_wp2_with fail
  refine (fill9Int kb N B s T H w1 hk1 o21 (hlt 2) (hsep 2) (fun h hm => (hks 2 h hm).1) (fun h hm => (hks 2 h hm).2) (hln 2) hBk z1).mono ?_
  rintro e w2 ⟨rfl, f2, b2, p2⟩
  have hk2 := hk1.fr f2 (hoff 2)
  have z2 : s ≤ w2.heap.size := Nat.le_trans z1 f2.1
  have p12 : ∀ h ∈ H 1, OwnM mksB w2 B 5 s h.A h.n h.c h.k := fun h hm => (p1 h hm).fr f2 (fun g hc hA hx => c12 h hm g ⟨hc, hA⟩ hx) (fun g hg hx => by have := hss 2 g hx; omega)
  clear p1
  have o412 : ∀ h ∈ H 4, ∃ xs, Own w2 B 22 h.A h.n h.c xs := fun h hm => by
    obtain ⟨xs, hx⟩ := o41 h hm
    exact ⟨xs, hx.fr f2 fun g hc hA hx => c24.symm h hm g ⟨hc, hA⟩ hx⟩
  clear o41
  clear o21 hk1 f2
  have B2 := B1.trans b2
  clear B1
  go_wp2_with fail
  refine (fillNoneText kb w2 ((hk2.cell 3).trans (congrArg some h3))).mono ?_
  rintro e wm ⟨rfl, rfl⟩
  go_wp2_with fail
  refine (fill9IntList kb N B s T H w2 hk2 o412 (hlt 4) (hsep 4) (fun h hm => (hks 4 h hm).1) (fun h hm => (hks 4 h hm).2) (hln 4) hBk z2).mono ?_
  rintro e w3 ⟨rfl, f3, b3, p4⟩
  have hk3 := hk2.fr f3 (hoff 4)
  have z3 : s ≤ w3.heap.size := Nat.le_trans z2 f3.1
  have p123 : ∀ h ∈ H 1, OwnM mksB w3 B 5 s h.A h.n h.c h.k := fun h hm => (p12 h hm).fr f3 (fun g hc hA hx => c14 h hm g ⟨hc, hA⟩ hx) (fun g hg hx => by have := hss 4 g hx; omega)
  clear p12
  have p23 : ∀ h ∈ H 2, OwnM mksI w3 B 3 s h.A h.n h.c h.k := fun h hm => (p2 h hm).fr f3 (fun g hc hA hx => c24 h hm g ⟨hc, hA⟩ hx) (fun g hg hx => by have := hss 4 g hx; omega)
  clear p2
  clear o412 hk2 f3
  have B3 := B2.trans b3
  clear B2
  go_wp2_with fail
  refine (fillNoneByteList kb w3 ((hk3.cell 5).trans (congrArg some h5))).mono ?_
  rintro e wm ⟨rfl, rfl⟩
  go_wp2_with fail
  refine (fillNoneWhy kb w3 ((hk3.cell 6).trans (congrArg some h6))).mono ?_
  rintro e wm ⟨rfl, rfl⟩
  go_wp2_with fail
  refine (fillNoneFrame kb w3 ((hk3.cell 7).trans (congrArg some h7))).mono ?_
  rintro e wm ⟨rfl, rfl⟩
  go_wp2_with fail
  refine (fillNoneReply kb w3 ((hk3.cell 8).trans (congrArg some h8))).mono ?_
  rintro e wm ⟨rfl, rfl⟩
  go_wp2_with fail
  refine (fillNoneRecord kb w3 ((hk3.cell 9).trans (congrArg some h9))).mono ?_
  rintro e wm ⟨rfl, rfl⟩
  go_wp2_with fail
  refine (grow9Byte kb N B s T H w3 hk3 p123 (hlt 1) hts (hsep 1) (fun h hm => (hks 1 h hm).1) (fun h hm => (hks 1 h hm).2) (hln 1) hBk z3).mono ?_
  rintro e w4 ⟨rfl, l1, hk4, f4, b4, a1⟩
  have z4 : s ≤ w4.heap.size := Nat.le_trans z3 f4.1
  have f4' : Fr (fun b => Hits (H 1) b ∨ (T 1).ownBlock = some b) w3 w4 := f4
  have a1' : AllGrownM mksB 5 w4 B s w3.heap.size (H 1) l1 := a1
  clear p123 hk3 f4 a1
  have p234 : ∀ h ∈ H 2, OwnM mksI w4 B 3 s h.A h.n h.c h.k := fun h hm => (p23 h hm).fr f4' (fun g hc hA hx => by
    rcases hx with hx | hx
    · exact c12.symm h hm g ⟨hc, hA⟩ hx
    · exact (hlt 2 h hm g ⟨hc, hA⟩).2.2 1 hx) (fun g hg hx => by
    rcases hx with hx | hx
    · have := hss 1 g hx; omega
    · have := hts 1 g hx; omega)
  clear p23
  have p44 : ∀ h ∈ H 4, OwnM mksL w4 B 22 s h.A h.n h.c h.k := fun h hm => (p4 h hm).fr f4' (fun g hc hA hx => by
    rcases hx with hx | hx
    · exact c14.symm h hm g ⟨hc, hA⟩ hx
    · exact (hlt 4 h hm g ⟨hc, hA⟩).2.2 1 hx) (fun g hg hx => by
    rcases hx with hx | hx
    · have := hss 1 g hx; omega
    · have := hts 1 g hx; omega)
  clear p4
  have B4 := B3.trans b4
  clear B3 f4'
  go_wp2_with fail
  refine (grow9Int kb N B s T (upd H 1 l1) w4 hk4 p234 (hlt 2) hts (hsep 2) (fun h hm => (hks 2 h hm).1) (fun h hm => (hks 2 h hm).2) (hln 2) hBk z4).mono ?_
  rintro e w5 ⟨rfl, l2, hk5, f5, b5, a2⟩
  have z5 : s ≤ w5.heap.size := Nat.le_trans z4 f5.1
  have f5' : Fr (fun b => Hits (H 2) b ∨ (T 2).ownBlock = some b) w4 w5 := f5
  have a2' : AllGrownM mksI 3 w5 B s w4.heap.size (H 2) l2 := a2
  clear p234 hk4 f5 a2
  have a1'5 := a1'.fr f5' (fun h hm g hg hx => by
    rcases hx with hx | hx
    · exact c12 h hm g hg hx
    · exact (hlt 1 h hm g hg).2.2 2 hx) (fun g hg hx => by
    rcases hx with hx | hx
    · have := hss 2 g hx; omega
    · have := hts 2 g hx; omega) (fun g hg hx => by
    rcases hx with hx | hx
    · have := hss 2 g hx; omega
    · have := hts 2 g hx; omega)
  clear a1'
  have p445 : ∀ h ∈ H 4, OwnM mksL w5 B 22 s h.A h.n h.c h.k := fun h hm => (p44 h hm).fr f5' (fun g hc hA hx => by
    rcases hx with hx | hx
    · exact c24.symm h hm g ⟨hc, hA⟩ hx
    · exact (hlt 4 h hm g ⟨hc, hA⟩).2.2 2 hx) (fun g hg hx => by
    rcases hx with hx | hx
    · have := hss 2 g hx; omega
    · have := hts 2 g hx; omega)
  clear p44
  have B5 := B4.trans b5
  clear B4 f5'
  go_wp2_with fail
  refine (growNoneText kb w5 ((hk5.cell 3).trans (congrArg some h3))).mono ?_
  rintro e wm ⟨rfl, rfl⟩
  go_wp2_with fail
  refine (grow9IntList kb N B s T (upd (upd H 1 l1) 2 l2) w5 hk5 p445 (hlt 4) hts (hsep 4) (fun h hm => (hks 4 h hm).1) (fun h hm => (hks 4 h hm).2) (hln 4) hBk z5).mono ?_
  rintro e w6 ⟨rfl, l4, hk6, f6, b6, a4⟩
  have z6 : s ≤ w6.heap.size := Nat.le_trans z5 f6.1
  have f6' : Fr (fun b => Hits (H 4) b ∨ (T 4).ownBlock = some b) w5 w6 := f6
  have a4' : AllGrownM mksL 22 w6 B s w5.heap.size (H 4) l4 := a4
  clear p445 hk5 f6 a4
  have a1'56 := a1'5.fr f6' (fun h hm g hg hx => by
    rcases hx with hx | hx
    · exact c14 h hm g hg hx
    · exact (hlt 1 h hm g hg).2.2 4 hx) (fun g hg hx => by
    rcases hx with hx | hx
    · have := hss 4 g hx; omega
    · have := hts 4 g hx; omega) (fun g hg hx => by
    rcases hx with hx | hx
    · have := hss 4 g hx; omega
    · have := hts 4 g hx; omega)
  clear a1'5
  have a2'6 := a2'.fr f6' (fun h hm g hg hx => by
    rcases hx with hx | hx
    · exact c24 h hm g hg hx
    · exact (hlt 2 h hm g hg).2.2 4 hx) (fun g hg hx => by
    rcases hx with hx | hx
    · have := hss 4 g hx; omega
    · have := hts 4 g hx; omega) (fun g hg hx => by
    rcases hx with hx | hx
    · have := hss 4 g hx; omega
    · have := hts 4 g hx; omega)
  clear a2'
  have B6 := B5.trans b6
  clear B5 f6'
  go_wp2_with fail
  refine (growNoneByteList kb w6 ((hk6.cell 5).trans (congrArg some h5))).mono ?_
  rintro e wm ⟨rfl, rfl⟩
  go_wp2_with fail
  refine (growNoneWhy kb w6 ((hk6.cell 6).trans (congrArg some h6))).mono ?_
  rintro e wm ⟨rfl, rfl⟩
  go_wp2_with fail
  refine (growNoneFrame kb w6 ((hk6.cell 7).trans (congrArg some h7))).mono ?_
  rintro e wm ⟨rfl, rfl⟩
  go_wp2_with fail
  refine (growNoneReply kb w6 ((hk6.cell 8).trans (congrArg some h8))).mono ?_
  rintro e wm ⟨rfl, rfl⟩
  go_wp2_with fail
  refine (growNoneRecord kb w6 ((hk6.cell 9).trans (congrArg some h9))).mono ?_
  rintro e wm ⟨rfl, rfl⟩
  have L1 : Looked mksB 5 w6 B s l1 := a1'56.look
  have K1 : ∀ h ∈ l1, h.k < 1000000000 ∧ h.n ≤ 1000000000 := a1'56.same (fun k n => k < 1000000000 ∧ n ≤ 1000000000) (hks 1)
  have N1 : l1.length ≤ 1000000 := by rw [a1'56.1]; exact hln 1
  clear a1'56
  have L2 : Looked mksI 3 w6 B s l2 := a2'6.look
  have K2 : ∀ h ∈ l2, h.k < 1000000000 ∧ h.n ≤ 1000000000 := a2'6.same (fun k n => k < 1000000000 ∧ n ≤ 1000000000) (hks 2)
  have N2 : l2.length ≤ 1000000 := by rw [a2'6.1]; exact hln 2
  clear a2'6
  have L4 : Looked mksL 22 w6 B s l4 := a4'.look
  have K4 : ∀ h ∈ l4, h.k < 1000000000 ∧ h.n ≤ 1000000000 := a4'.same (fun k n => k < 1000000000 ∧ n ≤ 1000000000) (hks 4)
  have N4 : l4.length ≤ 1000000 := by rw [a4'.1]; exact hln 4
  clear a4'
  clear hlt hsep c12 c14 c24 hks hln hoff hss hts
  go_wp2_with fail
  refine (look9Byte kb N B s T (upd (upd (upd H 1 l1) 2 l2) 4 l4) w6 hk6 L1 K1 N1).mono ?_
  rintro e w7 ⟨rfl, b7⟩
  have hk7 := hk6.below b7
  have B7 := B6.trans (b7.mono (Nat.le_trans hBw B6.size))
  replace L2 := L2.below b7
  replace L4 := L4.below b7
  clear hk6 B6 b7
  go_wp2_with fail
  refine (look9Int kb N B s T (upd (upd (upd H 1 l1) 2 l2) 4 l4) w7 hk7 L2 K2 N2).mono ?_
  rintro e w8 ⟨rfl, b8⟩
  have hk8 := hk7.below b8
  have B8 := B7.trans (b8.mono (Nat.le_trans hBw B7.size))
  replace L4 := L4.below b8
  clear hk7 B7 b8
  go_wp2_with fail
  refine (lookNoneText kb w8 ((hk8.cell 3).trans (congrArg some h3))).mono ?_
  rintro e wm ⟨rfl, rfl⟩
  go_wp2_with fail
  refine (look9IntList kb N B s T (upd (upd (upd H 1 l1) 2 l2) 4 l4) w8 hk8 L4 K4 N4).mono ?_
  rintro e w9 ⟨rfl, b9⟩
  have hk9 := hk8.below b9
  have B9 := B8.trans (b9.mono (Nat.le_trans hBw B8.size))
  clear hk8 B8 b9
  go_wp2_with fail
  refine (lookNoneByteList kb w9 ((hk9.cell 5).trans (congrArg some h5))).mono ?_
  rintro e wm ⟨rfl, rfl⟩
  go_wp2_with fail
  refine (lookNoneWhy kb w9 ((hk9.cell 6).trans (congrArg some h6))).mono ?_
  rintro e wm ⟨rfl, rfl⟩
  go_wp2_with fail
  refine (lookNoneFrame kb w9 ((hk9.cell 7).trans (congrArg some h7))).mono ?_
  rintro e wm ⟨rfl, rfl⟩
  go_wp2_with fail
  refine (lookNoneReply kb w9 ((hk9.cell 8).trans (congrArg some h8))).mono ?_
  rintro e wm ⟨rfl, rfl⟩
  go_wp2_with fail
  refine (lookNoneRecord kb w9 ((hk9.cell 9).trans (congrArg some h9))).mono ?_
  rintro e wm ⟨rfl, rfl⟩
  go_wp2
  go_ret
  exact ⟨rfl, B9⟩
end Go.Proofs.YtjjaajmjcdihoaaGreatDoor
