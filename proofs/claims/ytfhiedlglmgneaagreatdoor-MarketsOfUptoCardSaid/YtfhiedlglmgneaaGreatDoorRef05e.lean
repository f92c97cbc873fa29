/-
  Walk of the document's Without.
-/
import Derived.Test.YtfhiedlglmgneaaGreatDoorRef05b
import Derived.Test.YtfhiedlglmgneaaGreatDoorBookD
import Derived.Test.YtfhiedlglmgneaaGreatDoorReg2
namespace Go.Proofs.YtfhiedlglmgneaaGreatDoor
open Go.RowKit
set_option linter.unusedVariables false

theorem info6_int : (Tryz.prog.info? 3).map (fun i => (i.zero, i.size, i.bytes)) = some (some (.int .i64 0), 1, 8) := by kernel_rfl
theorem info6_ints : (Tryz.prog.info? 22).map (fun i => (i.zero, i.size, i.bytes)) = some (some (.slice none 0 0), 1, 24) := by kernel_rfl
theorem ls_set_take {b : List (List Int)} {i j : Nat} (hj : j < b.length) : (less b i).take (j + 1) = (less b i).take j ++ [if i = j then [] else b[j]] := by
  unfold less
  have hj2 : j < (b.set i []).length := by rw [List.length_set]; exact hj
  rw [List.take_succ_eq_append_getElem hj2, List.getElem_set]
/-- Lists that were made behind two others, which are apart. -/
theorem aptL_two {r o : Ls} {t : List Ls} {s : Nat} (h : AptL t) (ht : ∀ x ∈ t, ∀ g, Blk x g → s ≤ g) (hr : ∀ g, Blk r g → g < s) (ho : ∀ g, Blk o g → g < s) (hro : ∀ g, Blk r g → ¬ Blk o g) : AptL (r :: (t ++ [o])) := by
  refine List.pairwise_cons.2 ⟨fun a ha g hg hg2 => ?_, List.pairwise_append.2 ⟨h, List.pairwise_singleton _ _, fun a ha b hb g hg hg2 => ?_⟩⟩
  · rcases List.mem_append.1 ha with ha | ha
    · have := ht a ha g hg2
      have := hr g hg
      omega
    · rw [List.mem_singleton.1 ha] at hg2
      exact hro g hg hg2
  · rw [List.mem_singleton.1 hb] at hg2
    have := ht a ha g hg
    have := ho g hg2
    omega

set_option maxRecDepth 100000 in
set_option maxHeartbeats 2000000 in
theorem rwithoutC : WithoutC 9 := by
  intro x i w h hi1 hi2
  obtain ⟨i0, hi0, hz0, hz1, hz2⟩ := info_parts info6_int
  obtain ⟨i9, hi9, hy0, hy1, hy2⟩ := info_parts info6_ints
  obtain ⟨β, hβ⟩ : ∃ β, x.may = β := ⟨_, rfl⟩
  have hck := rcheckC x
  rw [hβ] at hck
  have hlen : x.b.length = x.n := h.len
  have hbox := InBox.new w x
  have tn := Nat.le_trans h.cap h.top
  unfold maxLen at tn
  have hv : x.v = .agg #[.slice x.r.A x.r.n x.r.c, .slice x.A x.n x.c, .slice x.o.A x.o.n x.o.c] := rfl
  rw [hv]
  rw [hv] at hck
  have hW : ∀ W, (w.alloc (.cells #[.slice x.r.A x.r.n x.r.c, .slice x.A x.n x.c, .slice x.o.A x.o.n x.o.c] 25)).alloc (.cells #[.slice none 0 0, .slice none 0 0, .slice none 0 0] 25) = W →
      Own W w.heap.size 25 (some ⟨w.heap.size + 1, 0, none⟩) 3 3 [.slice none 0 0, .slice none 0 0, .slice none 0 0] ∧ InBox W w.heap.size x ∧ Below w.heap.size w W ∧ W.heap.size = w.heap.size + 2 := by
    rintro _ rfl
    have hz : ∀ o1 : Obj, (w.alloc o1).heap.size = w.heap.size + 1 := fun o1 => Array.size_push ..
    have h2 := Own.lit (B := w.heap.size) (w.alloc (.cells #[.slice x.r.A x.r.n x.r.c, .slice x.A x.n x.c, .slice x.o.A x.o.n x.o.c] 25)) 25 #[.slice none 0 0, .slice none 0 0, .slice none 0 0] 3 (by rw [hz]; omega) rfl (by unfold maxLen; omega)
    rw [hz] at h2
    refine ⟨h2, hbox.below ((Below.refl _ _).alloc (Nat.le_refl _) _), ((Below.refl _ w).alloc (Nat.le_refl _) _).alloc (by rw [hz]; omega) _, ?_⟩
    show ((w.heap.push _).push _).size = _
    rw [Array.size_push, Array.size_push]
  clear hbox
  obtain ⟨E, hE⟩ : ∃ E, x.lessErr i = E := ⟨_, rfl⟩
  obtain ⟨PP, hP⟩ : ∃ PP, x.less i = PP := ⟨_, rfl⟩
  rw [hE, hP]
  have HE := Lib.hid hE
  have HP := Lib.hid hP
  clear hE hP
  go_enter Tryz.func9, Tryz.ntmps9
  go_wp2_with fail
  generalize hWW : (w.alloc (.cells #[.slice x.r.A x.r.n x.r.c, .slice x.A x.n x.c, .slice x.o.A x.o.n x.o.c] 25)).alloc (.cells #[.slice none 0 0, .slice none 0 0, .slice none 0 0] 25) = W
  obtain ⟨hR, hbox, hBW, hWs⟩ := hW W hWW
  clear hW hWW
  refine (hck _ (h.below hBW)).mono ?_
  rintro e w1 ⟨rfl, hb1⟩
  have hB := hBW.trans (hb1.mono hBW.size)
  have hR1 := hR.below hb1
  have hbox1 := hbox.below hb1
  have hw1s : w.heap.size + 2 ≤ w1.heap.size := by have := hb1.size; omega
  clear hck hb1 hR hbox hBW hWs
  have ⟨c0, c1, c2, clt⟩ := hbox1
  by_cases hhas : x.has i = true
  · obtain ⟨hb1, hb2⟩ : β = true ∧ (0 ≤ i ∧ i < x.n) := by
      unfold Mk.has at hhas
      rw [hβ] at hhas
      simpa using hhas
    have hle : x.lessErr i = 0 := by rw [Mk.lessErr, if_pos hhas]
    have hlp : x.less i = (x.r.zs, Go.Proofs.YtfhiedlglmgneaaGreatDoor.less (Ls.all x.b) i.toNat, x.o.zs) := by rw [Mk.less, if_pos hhas]
    have HLE := Lib.hid (HE.out.symm.trans hle)
    have HLP := Lib.hid (HP.out.symm.trans hlp)
    subst hb1
    obtain ⟨l1, l2, l3, l4, l5, l6, l7, l8⟩ := mk_len h hβ
    have lo8 : x.o.n ≤ 8 := by omega
    obtain ⟨m, rfl⟩ : ∃ m : Nat, i = m := ⟨i.toNat, by omega⟩
    have hmn : m < x.n := by omega
    have hrd := h.r.rd
    have hod := h.o.rd
    have hls := h.lss
    have hf_r := h.r.fit
    have hf_o := h.o.fit
    have HL := Lib.hid hlen
    have H6 := Lib.hid l6
    have e1 : decide ((m : Int) < 0) = false := by simp
    have e2 : decide ((x.n : Int) ≤ (m : Int)) = false := by simp; omega
    have e2' : decide (x.n ≤ m) = false := by simp; omega
    clear l5 l6 l7 l8 hlen hhas hle hlp hβ hb2
    go_wp2_with fail
    have hS : ∀ w', Below w1.heap.size w1 w' → w'.cell? ⟨w.heap.size, 0, none⟩ = some (.slice x.r.A x.r.n x.r.c) ∧ w'.cell? ⟨w.heap.size, 2, none⟩ = some (.slice x.o.A x.o.n x.o.c) := fun w' hb => ⟨(hb.cell (p := ⟨w.heap.size, 0, none⟩) clt).trans c0, (hb.cell (p := ⟨w.heap.size, 2, none⟩) clt).trans c2⟩
    refine wp_region_tr (S := fun w' => w'.cell? ⟨w.heap.size, 0, none⟩ = some (.slice x.r.A x.r.n x.r.c) ∧ w'.cell? ⟨w.heap.size, 2, none⟩ = some (.slice x.o.A x.o.n x.o.c)) (.q 0 (.q 1 (.q 3 (.q 4 (.b 2 7 (.b 5 7 (.q 6 (.d 7 (.d 8 .nil))) (.d 5 (.q 6 (.d 8 .nil)))) (.d 2 (.d 5 (.q 6 (.d 8 .nil))))))))) default (by kernel_rfl) (by kernel_rfl) (by kernel_rfl) (hS _ ((Below.refl _ w1).drew)) ?_
    simp only [getTr, nth]
    obtain ⟨v0, hv0⟩ : ∃ v0, v0 = w1.drew := ⟨_, rfl⟩
    have vW0 : Below w1.heap.size w1 v0 := by rw [hv0]; exact (Below.refl _ w1).drew
    rw [← hv0]
    have vB0 := hB.trans (vW0.mono hB.size)
    have z0 := vW0.size
    clear hv0
    repeat (first | (refine trS (by rfl) ?_; simp only [Act.put, List.setIfInBounds_toArray, List.set_cons_zero, List.set_cons_succ]) | (refine trN (by rfl) ?_; simp only [Act.put, List.setIfInBounds_toArray, List.set_cons_zero, List.set_cons_succ]) | (refine trQ (v := ?_) (by rfl) (fun _ hSw => ?_) ?_; rotate_left; (focus ((have hS1 := hSw.1); (have hS2 := hSw.2); clear hSw; go_simp; (first | done | with_reducible rfl))); simp only [Act.put, List.setIfInBounds_toArray, List.set_cons_zero, List.set_cons_succ]))
    refine trB ?_ ?_
    refine trD (by rfl) ?_
    intro K hK
    refine wp_app _ _ _ _ rfl 3 i0 _ 8 Tryz.underlying22 hi0 hz0 hz1 hz2 rfl v0.heap.size none 0 0 [] (by rfl) (Own.none_ _ _ _ _) _ _ _ (ci64 x.r.zs) (by rfl) (hrd.below vB0) (ci64_one _) (by simp only [maxLen]; omega) (by omega) (Nat.le_refl _) ?_
    intro Ar kr v1 hown0 vb1 _ _
    have hcq_r : OwnI v1 v0.heap.size ⟨Ar, x.r.n, kr, x.r.zs⟩ := ⟨by simpa using hown0, hf_r⟩
    have hlo_r : ∀ g, Blk ⟨Ar, x.r.n, kr, x.r.zs⟩ g → v0.heap.size ≤ g ∧ g < v1.heap.size := fun g hg => hcq_r.blk hg
    have hcp_r := hcq_r.mono vW0.size
    have vB1 := vB0.trans (vb1.mono vB0.size)
    have vW1 := vW0.trans (vb1.mono vW0.size)
    have z1 := vb1.size
    clear hown0 hcq_r
    refine hK _ _ (hS _ vW1) ?_
    clear hK K
    try simp only [Act.put, List.setIfInBounds_toArray, List.set_cons_zero, List.set_cons_succ]
    try simp only [Nat.zero_add]
    refine trB ?_ ?_
    refine trD (by rfl) ?_
    intro K hK
    refine wp_app _ _ _ _ rfl 3 i0 _ 8 Tryz.underlying22 hi0 hz0 hz1 hz2 rfl v1.heap.size none 0 0 [] (by rfl) (Own.none_ _ _ _ _) _ _ _ (ci64 x.o.zs) (by rfl) (hod.below vB1) (ci64_one _) (by simp only [maxLen]; omega) (by omega) (Nat.le_refl _) ?_
    intro Ao ko v2 hown0 vb2 _ _
    have hcq_o : OwnI v2 v1.heap.size ⟨Ao, x.o.n, ko, x.o.zs⟩ := ⟨by simpa using hown0, hf_o⟩
    have hlo_o : ∀ g, Blk ⟨Ao, x.o.n, ko, x.o.zs⟩ g → v1.heap.size ≤ g ∧ g < v2.heap.size := fun g hg => hcq_o.blk hg
    have hcp_o := hcq_o.mono vW1.size
    have vB2 := vB1.trans (vb2.mono vB1.size)
    have vW2 := vW1.trans (vb2.mono vW1.size)
    have z2 := vb2.size
    clear hown0 hcq_o
    refine hK _ _ (hS _ vW2) ?_
    clear hK K
    try simp only [Act.put, List.setIfInBounds_toArray, List.set_cons_zero, List.set_cons_succ]
    try simp only [Nat.zero_add]
    replace hcp_r := hcp_r.below vb2
    repeat (first | (refine trS (by rfl) ?_; simp only [Act.put, List.setIfInBounds_toArray, List.set_cons_zero, List.set_cons_succ]) | (refine trN (by rfl) ?_; simp only [Act.put, List.setIfInBounds_toArray, List.set_cons_zero, List.set_cons_succ]) | (refine trQ (v := ?_) (by rfl) (fun _ hSw => ?_) ?_; rotate_left; (focus ((have hS1 := hSw.1); (have hS2 := hSw.2); clear hSw; go_simp; (first | done | with_reducible rfl))); simp only [Act.put, List.setIfInBounds_toArray, List.set_cons_zero, List.set_cons_succ]))
    refine trD (by rfl) ?_
    intro K hK
    go_simp
    have hOb : Own (v2.alloc (.cells #[.slice none 0 0, .slice none 0 0, .slice none 0 0] 25)) v2.heap.size 25 (some ⟨v2.heap.size, 0, none⟩) 3 3 [.slice none 0 0, .slice none 0 0, .slice none 0 0] := Own.lit (B := v2.heap.size) v2 25 #[.slice none 0 0, .slice none 0 0, .slice none 0 0] 3 (Nat.le_refl _) rfl (by unfold maxLen; omega)
    have vb3 : Below v2.heap.size v2 (v2.alloc (.cells #[.slice none 0 0, .slice none 0 0, .slice none 0 0] 25)) := (Below.refl _ v2).alloc (Nat.le_refl _) _
    refine hK _ _ (hS _ (vW2.trans (vb3.mono vW2.size))) ?_
    clear hK K
    try simp only [Act.put, List.setIfInBounds_toArray, List.set_cons_zero, List.set_cons_succ]
    generalize v2.alloc (.cells #[.slice none 0 0, .slice none 0 0, .slice none 0 0] 25) = v3 at hOb vb3 ⊢
    have hOlo : w1.heap.size ≤ v2.heap.size := vW2.size
    generalize v2.heap.size = gO at hOb hOlo ⊢
    have vB3 := vB2.trans (vb3.mono vB2.size)
    have vW3 := vW2.trans (vb3.mono vW2.size)
    have z3 := vb3.size
    replace hcp_r := hcp_r.below vb3
    replace hcp_o := hcp_o.below vb3
    have hap : ∀ g, Blk ⟨Ar, x.r.n, kr, x.r.zs⟩ g → ¬ Blk ⟨Ao, x.o.n, ko, x.o.zs⟩ g := fun g hg hg2 => by
      have h1 := hlo_r g hg
      have h2 := hlo_o g hg2
      omega
    have hrr : ∀ g, Blk ⟨Ar, x.r.n, kr, x.r.zs⟩ g → g < v3.heap.size := fun g hg => (hcp_r.blk hg).2
    have hoo : ∀ g, Blk ⟨Ao, x.o.n, ko, x.o.zs⟩ g → g < v3.heap.size := fun g hg => (hcp_o.blk hg).2
    clear hlo_r hlo_o z1 z2 z3 vb1 vb2 vb3 vW1 vW2 vB1 vB2
    rotate_left

    refine trD (by rfl) ?_
    intro K hK
    go_simp
    have hOb : Own (v1.alloc (.cells #[.slice none 0 0, .slice none 0 0, .slice none 0 0] 25)) v1.heap.size 25 (some ⟨v1.heap.size, 0, none⟩) 3 3 [.slice none 0 0, .slice none 0 0, .slice none 0 0] := Own.lit (B := v1.heap.size) v1 25 #[.slice none 0 0, .slice none 0 0, .slice none 0 0] 3 (Nat.le_refl _) rfl (by unfold maxLen; omega)
    have vb2 : Below v1.heap.size v1 (v1.alloc (.cells #[.slice none 0 0, .slice none 0 0, .slice none 0 0] 25)) := (Below.refl _ v1).alloc (Nat.le_refl _) _
    refine hK _ _ (hS _ (vW1.trans (vb2.mono vW1.size))) ?_
    clear hK K
    try simp only [Act.put, List.setIfInBounds_toArray, List.set_cons_zero, List.set_cons_succ]
    generalize v1.alloc (.cells #[.slice none 0 0, .slice none 0 0, .slice none 0 0] 25) = v2 at hOb vb2 ⊢
    have hOlo : w1.heap.size ≤ v1.heap.size := vW1.size
    generalize v1.heap.size = gO at hOb hOlo ⊢
    have vB2 := vB1.trans (vb2.mono vB1.size)
    have vW2 := vW1.trans (vb2.mono vW1.size)
    have z2 := vb2.size
    replace hcp_r := hcp_r.below vb2
    refine trD (by rfl) ?_
    intro K hK
    refine wp_app _ _ _ _ rfl 3 i0 _ 8 Tryz.underlying22 hi0 hz0 hz1 hz2 rfl v2.heap.size none 0 0 [] (by rfl) (Own.none_ _ _ _ _) _ _ _ (ci64 x.o.zs) (by rfl) (hod.below vB2) (ci64_one _) (by simp only [maxLen]; omega) (by omega) (Nat.le_refl _) ?_
    intro Ao ko v3 hown0 vb3 _ _
    have hcq_o : OwnI v3 v2.heap.size ⟨Ao, x.o.n, ko, x.o.zs⟩ := ⟨by simpa using hown0, hf_o⟩
    have hlo_o : ∀ g, Blk ⟨Ao, x.o.n, ko, x.o.zs⟩ g → v2.heap.size ≤ g ∧ g < v3.heap.size := fun g hg => hcq_o.blk hg
    have hcp_o := hcq_o.mono vW2.size
    have vB3 := vB2.trans (vb3.mono vB2.size)
    have vW3 := vW2.trans (vb3.mono vW2.size)
    have z3 := vb3.size
    clear hown0 hcq_o
    refine hK _ _ (hS _ vW3) ?_
    clear hK K
    try simp only [Act.put, List.setIfInBounds_toArray, List.set_cons_zero, List.set_cons_succ]
    try simp only [Nat.zero_add]
    replace hcp_r := hcp_r.below vb3
    replace hOb := hOb.below vb3
    repeat (first | (refine trS (by rfl) ?_; simp only [Act.put, List.setIfInBounds_toArray, List.set_cons_zero, List.set_cons_succ]) | (refine trN (by rfl) ?_; simp only [Act.put, List.setIfInBounds_toArray, List.set_cons_zero, List.set_cons_succ]) | (refine trQ (v := ?_) (by rfl) (fun _ hSw => ?_) ?_; rotate_left; (focus ((have hS1 := hSw.1); (have hS2 := hSw.2); clear hSw; go_simp; (first | done | with_reducible rfl))); simp only [Act.put, List.setIfInBounds_toArray, List.set_cons_zero, List.set_cons_succ]))
    have hap : ∀ g, Blk ⟨Ar, x.r.n, kr, x.r.zs⟩ g → ¬ Blk ⟨Ao, x.o.n, ko, x.o.zs⟩ g := fun g hg hg2 => by
      have h1 := hlo_r g hg
      have h2 := hlo_o g hg2
      omega
    have hrr : ∀ g, Blk ⟨Ar, x.r.n, kr, x.r.zs⟩ g → g < v3.heap.size := fun g hg => (hcp_r.blk hg).2
    have hoo : ∀ g, Blk ⟨Ao, x.o.n, ko, x.o.zs⟩ g → g < v3.heap.size := fun g hg => (hcp_o.blk hg).2
    clear hlo_r hlo_o z1 z2 z3 vb1 vb2 vb3 vW1 vW2 vB1 vB2
    rotate_left

    refine trD (by rfl) ?_
    intro K hK
    go_simp
    have hOb : Own (v0.alloc (.cells #[.slice none 0 0, .slice none 0 0, .slice none 0 0] 25)) v0.heap.size 25 (some ⟨v0.heap.size, 0, none⟩) 3 3 [.slice none 0 0, .slice none 0 0, .slice none 0 0] := Own.lit (B := v0.heap.size) v0 25 #[.slice none 0 0, .slice none 0 0, .slice none 0 0] 3 (Nat.le_refl _) rfl (by unfold maxLen; omega)
    have vb1 : Below v0.heap.size v0 (v0.alloc (.cells #[.slice none 0 0, .slice none 0 0, .slice none 0 0] 25)) := (Below.refl _ v0).alloc (Nat.le_refl _) _
    refine hK _ _ (hS _ (vW0.trans (vb1.mono vW0.size))) ?_
    clear hK K
    try simp only [Act.put, List.setIfInBounds_toArray, List.set_cons_zero, List.set_cons_succ]
    generalize v0.alloc (.cells #[.slice none 0 0, .slice none 0 0, .slice none 0 0] 25) = v1 at hOb vb1 ⊢
    have hOlo : w1.heap.size ≤ v0.heap.size := vW0.size
    generalize v0.heap.size = gO at hOb hOlo ⊢
    have vB1 := vB0.trans (vb1.mono vB0.size)
    have vW1 := vW0.trans (vb1.mono vW0.size)
    have z1 := vb1.size
    refine trD (by rfl) ?_
    intro K hK
    refine wp_app _ _ _ _ rfl 3 i0 _ 8 Tryz.underlying22 hi0 hz0 hz1 hz2 rfl v1.heap.size none 0 0 [] (by rfl) (Own.none_ _ _ _ _) _ _ _ (ci64 x.r.zs) (by rfl) (hrd.below vB1) (ci64_one _) (by simp only [maxLen]; omega) (by omega) (Nat.le_refl _) ?_
    intro Ar kr v2 hown0 vb2 _ _
    have hcq_r : OwnI v2 v1.heap.size ⟨Ar, x.r.n, kr, x.r.zs⟩ := ⟨by simpa using hown0, hf_r⟩
    have hlo_r : ∀ g, Blk ⟨Ar, x.r.n, kr, x.r.zs⟩ g → v1.heap.size ≤ g ∧ g < v2.heap.size := fun g hg => hcq_r.blk hg
    have hcp_r := hcq_r.mono vW1.size
    have vB2 := vB1.trans (vb2.mono vB1.size)
    have vW2 := vW1.trans (vb2.mono vW1.size)
    have z2 := vb2.size
    clear hown0 hcq_r
    refine hK _ _ (hS _ vW2) ?_
    clear hK K
    try simp only [Act.put, List.setIfInBounds_toArray, List.set_cons_zero, List.set_cons_succ]
    try simp only [Nat.zero_add]
    replace hOb := hOb.below vb2
    refine trD (by rfl) ?_
    intro K hK
    refine wp_app _ _ _ _ rfl 3 i0 _ 8 Tryz.underlying22 hi0 hz0 hz1 hz2 rfl v2.heap.size none 0 0 [] (by rfl) (Own.none_ _ _ _ _) _ _ _ (ci64 x.o.zs) (by rfl) (hod.below vB2) (ci64_one _) (by simp only [maxLen]; omega) (by omega) (Nat.le_refl _) ?_
    intro Ao ko v3 hown0 vb3 _ _
    have hcq_o : OwnI v3 v2.heap.size ⟨Ao, x.o.n, ko, x.o.zs⟩ := ⟨by simpa using hown0, hf_o⟩
    have hlo_o : ∀ g, Blk ⟨Ao, x.o.n, ko, x.o.zs⟩ g → v2.heap.size ≤ g ∧ g < v3.heap.size := fun g hg => hcq_o.blk hg
    have hcp_o := hcq_o.mono vW2.size
    have vB3 := vB2.trans (vb3.mono vB2.size)
    have vW3 := vW2.trans (vb3.mono vW2.size)
    have z3 := vb3.size
    clear hown0 hcq_o
    refine hK _ _ (hS _ vW3) ?_
    clear hK K
    try simp only [Act.put, List.setIfInBounds_toArray, List.set_cons_zero, List.set_cons_succ]
    try simp only [Nat.zero_add]
    replace hcp_r := hcp_r.below vb3
    replace hOb := hOb.below vb3
    repeat (first | (refine trS (by rfl) ?_; simp only [Act.put, List.setIfInBounds_toArray, List.set_cons_zero, List.set_cons_succ]) | (refine trN (by rfl) ?_; simp only [Act.put, List.setIfInBounds_toArray, List.set_cons_zero, List.set_cons_succ]) | (refine trQ (v := ?_) (by rfl) (fun _ hSw => ?_) ?_; rotate_left; (focus ((have hS1 := hSw.1); (have hS2 := hSw.2); clear hSw; go_simp; (first | done | with_reducible rfl))); simp only [Act.put, List.setIfInBounds_toArray, List.set_cons_zero, List.set_cons_succ]))
    have hap : ∀ g, Blk ⟨Ar, x.r.n, kr, x.r.zs⟩ g → ¬ Blk ⟨Ao, x.o.n, ko, x.o.zs⟩ g := fun g hg hg2 => by
      have h1 := hlo_r g hg
      have h2 := hlo_o g hg2
      omega
    have hrr : ∀ g, Blk ⟨Ar, x.r.n, kr, x.r.zs⟩ g → g < v3.heap.size := fun g hg => (hcp_r.blk hg).2
    have hoo : ∀ g, Blk ⟨Ao, x.o.n, ko, x.o.zs⟩ g → g < v3.heap.size := fun g hg => (hcp_o.blk hg).2
    clear hlo_r hlo_o z1 z2 z3 vb1 vb2 vb3 vW1 vW2 vB1 vB2

    all_goals
      have hw3 := vB3.size
      have g0 := hOb.free (by omega) 0
      have g1 := hOb.cell (j := 0) (by omega)
      have s1 := hOb.set (by omega) 0 (.slice Ar x.r.n kr)
      have g2 := s1.free (by omega) 1
      have g3 := s1.cell (j := 1) (by omega)
      have s2 := s1.set (by omega) 1 (.slice none 0 0)
      have g4 := s2.free (by omega) 2
      have g5 := s2.cell (j := 2) (by omega)
      have s3 := s2.set (by omega) 2 (.slice Ao x.o.n ko)
      simp only [List.getElem?_cons_zero, List.getElem?_cons_succ, List.set_cons_zero, List.set_cons_succ] at g1 g3 g5 s3
      refine trD (by rfl) ?_
      intro K hK
      go_simp
      have hB4 : Below w1.heap.size w1 (((v3.setCell ⟨gO, 0, none⟩ (.slice Ar x.r.n kr)).setCell ⟨gO, 1, none⟩ (.slice none 0 0)).setCell ⟨gO, 2, none⟩ (.slice Ao x.o.n ko)) := ((vW3.setCell (p := ⟨gO, 0, none⟩) hOlo _).setCell (p := ⟨gO, 1, none⟩) hOlo _).setCell (p := ⟨gO, 2, none⟩) hOlo _
      refine hK _ _ (hS _ hB4) ?_
      clear hK K
      refine trE ?_
      have hr4 : OwnI (((v3.setCell ⟨gO, 0, none⟩ (.slice Ar x.r.n kr)).setCell ⟨gO, 1, none⟩ (.slice none 0 0)).setCell ⟨gO, 2, none⟩ (.slice Ao x.o.n ko)) w1.heap.size ⟨Ar, x.r.n, kr, x.r.zs⟩ := ((hcp_r.setO hOb (by omega) (by decide) 0 _).setO s1 (by omega) (by decide) 1 _).setO s2 (by omega) (by decide) 2 _
      have ho4 : OwnI (((v3.setCell ⟨gO, 0, none⟩ (.slice Ar x.r.n kr)).setCell ⟨gO, 1, none⟩ (.slice none 0 0)).setCell ⟨gO, 2, none⟩ (.slice Ao x.o.n ko)) w1.heap.size ⟨Ao, x.o.n, ko, x.o.zs⟩ := ((hcp_o.setO hOb (by omega) (by decide) 0 _).setO s1 (by omega) (by decide) 1 _).setO s2 (by omega) (by decide) 2 _
      have hsz4 : (((v3.setCell ⟨gO, 0, none⟩ (.slice Ar x.r.n kr)).setCell ⟨gO, 1, none⟩ (.slice none 0 0)).setCell ⟨gO, 2, none⟩ (.slice Ao x.o.n ko)).heap.size = v3.heap.size := by simp only [World.setCell, Array.size_modify]
      rw [← hsz4] at hrr hoo
      clear g0 g1 g2 g3 g4 g5 s1 s2 hOb hcp_r hcp_o vW3 hS
      generalize (((v3.setCell ⟨gO, 0, none⟩ (.slice Ar x.r.n kr)).setCell ⟨gO, 1, none⟩ (.slice none 0 0)).setCell ⟨gO, 2, none⟩ (.slice Ao x.o.n ko)) = w4 at s3 hB4 hr4 ho4 hrr hoo hsz4 ⊢
      have hgO : gO < w4.heap.size := (s3.blk (by omega) rfl).2
      have hB1 := hB4.size
      obtain ⟨s1, hs1⟩ : ∃ s1, s1 = w4.heap.size := ⟨_, rfl⟩
      rw [← hs1] at hrr hoo hgO
      have hs1le : s1 ≤ w4.heap.size := Nat.le_of_eq hs1
      have hs1w : w1.heap.size ≤ s1 := by omega
      clear hs1 hsz4 hB1 hw3 vB3 c0 c2
      go_wp2_with fail
      go_loopw [7] (fun i wr => ∃ (j : Nat) (A' : Option Addr) (c' : Nat) (t : List Ls), j ≤ x.n ∧ i = .int .i64 j ∧ Own wr gO 25 (some ⟨gO, 0, none⟩) 3 3 [.slice Ar x.r.n kr, .slice A' j c', .slice Ao x.o.n ko] ∧ OwnI wr w1.heap.size ⟨Ar, x.r.n, kr, x.r.zs⟩ ∧ OwnI wr w1.heap.size ⟨Ao, x.o.n, ko, x.o.zs⟩ ∧ Outs wr s1 A' j c' t ∧ Hid (Ls.all t = (less (Ls.all x.b) m).take j) ∧ s1 ≤ wr.heap.size ∧ Below w1.heap.size w1 wr) (fun i _ => x.n - (intOf i).toNat)
      case atStart => exact ⟨0, none, 0, [], Nat.zero_le _, rfl, s3, hr4, ho4, Outs.none_ _ _, Lib.hid rfl, hs1le, hB4⟩
      case round =>
        obtain ⟨j, A', c', t, hj, rfl, hOj, hrj, hoj, hout, hall, hsj, hBj⟩ := hrel
        have hBw : Below w.heap.size w wr := hB.trans (hBj.mono hB.size)
        have ⟨c0, c1, c2, clt2⟩ := hbox1.below hBj
        by_cases hlt : j < x.n
        · obtain ⟨p, q, u, hA, hu, hp, hc, hk⟩ := hls.get hlt
          have hun := H6.out u (List.mem_of_getElem? hu)
          have hjl : j < (Ls.all x.b).length := by rw [Ls.all, List.length_map, HL.out]; exact hlt
          have hget : (Ls.all x.b)[j] = u.zs := by
            have h : (Ls.all x.b)[j]? = some u.zs := by rw [Ls.all, List.getElem?_map, hu]; rfl
            rw [List.getElem?_eq_getElem hjl] at h
            exact Option.some.inj h
          have htake := ls_set_take (i := m) hjl
          rw [hget] at htake
          have HT := Lib.hid htake
          have hcell : wr.cell? ⟨p, q + j, none⟩ = some (.slice u.A u.n u.c) := (hBw.cell (p := ⟨p, q + j, none⟩) hp).trans hc
          have hurd := hk.rd.below hBw
          have hufit := hk.fit
          have hul := hk.len
          have hpw : p < wr.heap.size := Nat.lt_of_lt_of_le hp hBw.size
          have hpw1 : p < w1.heap.size := Nat.lt_of_lt_of_le hp hB.size
          rw [hA] at c1
          obtain ⟨uA, un, uc, uz⟩ := u
          simp only at hcell hun hurd hufit hul HT
          have hsep : ∀ y ∈ t, ∀ g, Blk y g → g < wr.heap.size := fun y hy g hg => ((hout.each y hy).blk hg).2
          have o1 := hOj.cell (j := 1) (by omega)
          simp only [List.getElem?_cons_zero, List.getElem?_cons_succ] at o1
          clear hget htake hu hk hc hjl hA
          by_cases hjm : j = m
          · have hjm' : ((j : Int) == (m : Int)) = true := by rw [hjm]; simp
            have hjm2 : decide ((j : Int) = (m : Int)) = true := by rw [hjm]; simp
            have hgn : Hid (Ls.all (t ++ [Ls.nil]) = (less (Ls.all x.b) m).take (j + 1)) := Lib.hid (by rw [HT.out, if_pos hjm.symm, ← hall.out]; simp [Ls.all, Ls.nil])
            have HJM := Lib.hid hjm
            clear hjm hcell hurd
            go_wp2_with (at_builtin; go_must (refine wpList_app1 wr rfl _ _ 23 rfl 22 i9 _ 24 Tryz.underlying23 hi9 hy0 hy1 hy2 rfl s1 A' j c' _ rfl hout.own 1 rfl rfl ?xx3 ?xx4 ?xx5 ?_))
            case xx3 => simp only [maxLen]; omega
            case xx4 => omega
            case xx5 => exact hsj
            intro A3 c3 w5 hown5 hbel5 hfr5 hat5
            have hf5 : ∀ k, k < wr.heap.size → ((j = 0 ∧ c' = 0) ∨ A' ≠ some ⟨k, 0, none⟩) → w5.heap[k]? = wr.heap[k]? := fun k hk hh => hfr5 k hk hh
            have hout4 : Outs w5 s1 A3 (j + 1) c3 (t ++ [Ls.nil]) := hout.snoc (OwnI.nil wr wr.heap.size) hsj hsep hown5 hf5
            have hO4 := hOj.other hout.own (by decide) hf5
            have hr4 := hrj.app hout.own hf5
            have ho4 := hoj.app hout.own hf5
            have hB4 : Below w1.heap.size w1 w5 := hBj.trans (hbel5.mono hs1w)
            have hs4 : s1 ≤ w5.heap.size := Nat.le_trans hsj hbel5.size
            have o3 := hO4.cell (j := 1) (by omega)
            have o4 := hO4.free (by omega) 1
            simp only [List.getElem?_cons_zero, List.getElem?_cons_succ] at o3
            have hO5 := hO4.set (by omega) 1 (.slice A3 (j + 1) c3)
            simp only [List.set_cons_zero, List.set_cons_succ] at hO5
            have hr5 := hr4.setO hO4 (by omega) (by decide) 1 (.slice A3 (j + 1) c3)
            have ho5 := ho4.setO hO4 (by omega) (by decide) 1 (.slice A3 (j + 1) c3)
            have hout5 := hout4.setO hO4 (by omega) (by decide) (by decide) 1 (.slice A3 (j + 1) c3)
            have hB5 := hB4.setCell (p := ⟨gO, 1, none⟩) hOlo (.slice A3 (j + 1) c3)
            have hs5 : s1 ≤ (w5.setCell ⟨gO, 1, none⟩ (.slice A3 (j + 1) c3)).heap.size := by simp only [World.setCell, Array.size_modify]; exact hs4
            clear hown5 hbel5 hfr5 hat5 hf5 hout hOj hrj hoj hBj hout4 hr4 ho4 hB4 hO4 hsep o1
            go_wp2
            go_roundw
            case rel => exact ⟨j + 1, A3, c3, _, by omega, by go_num, hO5, hr5, ho5, hout5, hgn, hs5, hB5⟩
            case measure => simp [intOf]; omega
          · have hjm' : ((j : Int) == (m : Int)) = false := by rw [beq_eq_false_iff_ne]; omega
            have hjm2 : decide ((j : Int) = (m : Int)) = false := by simp; omega
            have hgn : ∀ A2 c2, Hid (Ls.all (t ++ [(⟨A2, un, c2, uz⟩ : Ls)]) = (less (Ls.all x.b) m).take (j + 1)) := fun A2 c2 => Lib.hid (by rw [HT.out, if_neg (fun e => hjm e.symm), ← hall.out]; simp [Ls.all])
            have hlt' : (j : Int) < x.n := by omega
            have hun8 : un ≤ 8 := by omega
            clear hjm
            go_wp2_with fail
            have hgOr : gO < wr.heap.size := Nat.lt_of_lt_of_le hgO hsj
            have hS1 : ∀ w', Below w1.heap.size w1 w' → w'.cell? ⟨w.heap.size, 1, none⟩ = some (.slice (some ⟨p, q, none⟩) x.n x.c) ∧ w'.cell? ⟨p, q + j, none⟩ = some (.slice uA un uc) := fun w' hb => ⟨(World.cell?_of_block (hb.block w.heap.size clt)).trans ((World.cell?_of_block (hBj.block w.heap.size clt)).symm.trans c1), (World.cell?_of_block (hb.block p hpw1)).trans ((World.cell?_of_block (hBj.block p hpw1)).symm.trans hcell)⟩
            have hS9 : ∀ w', Below wr.heap.size wr w' → w'.cell? ⟨w.heap.size, 1, none⟩ = some (.slice (some ⟨p, q, none⟩) x.n x.c) ∧ w'.cell? ⟨p, q + j, none⟩ = some (.slice uA un uc) := fun w' hb => hS1 w' (hBj.trans (hb.mono hBj.size))
            refine wp_region_tr (S := fun w' => w'.cell? ⟨w.heap.size, 1, none⟩ = some (.slice (some ⟨p, q, none⟩) x.n x.c) ∧ w'.cell? ⟨p, q + j, none⟩ = some (.slice uA un uc)) (.q 0 (.q 2 (.q 3 (.q 4 (.q 5 (.q 6 (.b 1 7 (.d 7 (.d 8 (.d 9 (.q 10 (.d 11 .nil))))) (.b 1 8 (.d 8 (.d 9 (.q 10 (.d 11 .nil)))) (.d 1 (.d 9 (.q 10 (.d 11 .nil)))))))))))) default (by kernel_rfl) (by kernel_rfl) (by kernel_rfl) (hS9 _ ((Below.refl _ wr).drew)) ?_
            simp only [getTr, nth]
            obtain ⟨y0, hy0'⟩ : ∃ y0, y0 = wr.drew := ⟨_, rfl⟩
            have yW0 : Below wr.heap.size wr y0 := by rw [hy0']; exact (Below.refl _ wr).drew
            rw [← hy0']
            clear hy0'
            repeat (first | (refine trS (by rfl) ?_; simp only [Act.put, List.setIfInBounds_toArray, List.set_cons_zero, List.set_cons_succ]) | (refine trN (by rfl) ?_; simp only [Act.put, List.setIfInBounds_toArray, List.set_cons_zero, List.set_cons_succ]) | (refine trQ (v := ?_) (by rfl) (fun _ hSw => ?_) ?_; rotate_left; (focus ((have hS1 := hSw.1); (have hS2 := hSw.2); clear hSw; go_simp; (first | done | with_reducible rfl))); simp only [Act.put, List.setIfInBounds_toArray, List.set_cons_zero, List.set_cons_succ]))
            refine trB ?_ ?_
            have o1' : y0.cell? ⟨gO, 1, none⟩ = some (.slice A' j c') := (yW0.cell (p := ⟨gO, 1, none⟩) hgOr).trans o1
            refine trD (by rfl) ?_
            intro K hK
            go_simp
            refine hK _ _ (hS9 _ yW0) ?_
            clear hK K
            try simp only [Act.put, List.setIfInBounds_toArray, List.set_cons_zero, List.set_cons_succ]
            refine trD (by rfl) ?_
            intro K hK
            refine wp_app _ _ _ _ rfl 3 i0 _ 8 Tryz.underlying22 hi0 hz0 hz1 hz2 rfl y0.heap.size none 0 0 [] (by rfl) (Own.none_ _ _ _ _) _ _ _ (ci64 uz) (by rfl) (hurd.below yW0) (ci64_one _) (by simp only [maxLen]; omega) (by omega) (Nat.le_refl _) ?_
            intro Ac kc y1 hown0 yb1 _ _
            have hcp : OwnI y1 wr.heap.size ⟨Ac, un, kc, uz⟩ := ⟨by simpa using hown0.mono yW0.size, hufit⟩
            have yW1 := yW0.trans (yb1.mono yW0.size)
            clear hown0
            refine hK _ _ (hS9 _ yW1) ?_
            clear hK K
            try simp only [Act.put, List.setIfInBounds_toArray, List.set_cons_zero, List.set_cons_succ]
            try simp only [Nat.zero_add]
            refine trD (by rfl) ?_
            intro K hK
            go_simp
            have yb2 : Below y1.heap.size y1 (y1.alloc (.cells #[.slice Ac un kc] 22)) := (Below.refl _ y1).alloc (Nat.le_refl _) _
            have hrdb : Rd (y1.alloc (.cells #[.slice Ac un kc] 22)) (some ⟨y1.heap.size, 0, none⟩) 1 [.slice Ac un kc] := by
              refine ⟨rfl, fun _ => ⟨y1.heap.size, 0, rfl, fun jj hj => ?_⟩⟩
              obtain rfl : jj = 0 := by omega
              rw [cell_of_row _ _ _ _ _ _ (heap_alloc_new y1 _)]
              rfl
            refine hK _ _ (hS9 _ (yW1.trans (yb2.mono yW1.size))) ?_
            clear hK K
            try simp only [Act.put, List.setIfInBounds_toArray, List.set_cons_zero, List.set_cons_succ]
            generalize y1.alloc (.cells #[.slice Ac un kc] 22) = y2 at hrdb yb2 ⊢
            have yW2 := yW1.trans (yb2.mono yW1.size)
            replace hcp := hcp.below yb2
            have houtY := hout.below yW2
            refine trD (by rfl) ?_
            intro K hK
            refine wp_app _ _ _ _ rfl 22 i9 _ 24 Tryz.underlying23 hi9 hy0 hy1 hy2 rfl s1 A' j c' _ (by rfl) houtY.own _ _ _ [.slice Ac un kc] (by rfl) hrdb (by simp; rfl) (by simp only [maxLen]; omega) (by omega) (Nat.le_trans hsj yW2.size) ?_
            intro A3 c3 w5 hown5 hbel5 hf5 hat5
            have hout4 : Outs w5 s1 A3 (j + 1) c3 (t ++ [(⟨Ac, un, kc, uz⟩ : Ls)]) := houtY.snoc hcp hsj hsep hown5 hf5
            have hO4 := (hOj.below yW2).other houtY.own (by decide) hf5
            have hr4 := (hrj.below yW2).app houtY.own hf5
            have ho4 := (hoj.below yW2).app houtY.own hf5
            have hB4 : Below w1.heap.size w1 w5 := (hBj.trans (yW2.mono hBj.size)).trans (hbel5.mono hs1w)
            have hs4 : s1 ≤ w5.heap.size := Nat.le_trans (Nat.le_trans hsj yW2.size) hbel5.size
            refine hK _ _ (hS1 _ hB4) ?_
            clear hK K
            try simp only [Act.put, List.setIfInBounds_toArray, List.set_cons_zero, List.set_cons_succ]
            repeat (first | (refine trS (by rfl) ?_; simp only [Act.put, List.setIfInBounds_toArray, List.set_cons_zero, List.set_cons_succ]) | (refine trN (by rfl) ?_; simp only [Act.put, List.setIfInBounds_toArray, List.set_cons_zero, List.set_cons_succ]) | (refine trQ (v := ?_) (by rfl) (fun _ hSw => ?_) ?_; rotate_left; (focus ((have hS1 := hSw.1); (have hS2 := hSw.2); clear hSw; go_simp; (first | done | with_reducible rfl))); simp only [Act.put, List.setIfInBounds_toArray, List.set_cons_zero, List.set_cons_succ]))
            have o3 := hO4.cell (j := 1) (by omega)
            have o4 := hO4.free (by omega) 1
            simp only [List.getElem?_cons_zero, List.getElem?_cons_succ] at o3
            have hO5 := hO4.set (by omega) 1 (.slice A3 (j + 1) c3)
            simp only [List.set_cons_zero, List.set_cons_succ] at hO5
            have hr5 := hr4.setO hO4 (by omega) (by decide) 1 (.slice A3 (j + 1) c3)
            have ho5 := ho4.setO hO4 (by omega) (by decide) 1 (.slice A3 (j + 1) c3)
            have hout5 := hout4.setO hO4 (by omega) (by decide) (by decide) 1 (.slice A3 (j + 1) c3)
            have hB5 := hB4.setCell (p := ⟨gO, 1, none⟩) hOlo (.slice A3 (j + 1) c3)
            have hs5 : s1 ≤ (w5.setCell ⟨gO, 1, none⟩ (.slice A3 (j + 1) c3)).heap.size := by simp only [World.setCell, Array.size_modify]; exact hs4
            refine trD (by rfl) ?_
            intro K hK
            go_simp
            refine hK _ _ (hS1 _ hB5) ?_
            clear hK K
            refine trE ?_
            have hgn' := hgn Ac kc
            rotate_left
            refine trD (by rfl) ?_
            intro K hK
            refine wp_app _ _ _ _ rfl 3 i0 _ 8 Tryz.underlying22 hi0 hz0 hz1 hz2 rfl y0.heap.size none 0 0 [] (by rfl) (Own.none_ _ _ _ _) _ _ _ (ci64 uz) (by rfl) (hurd.below yW0) (ci64_one _) (by simp only [maxLen]; omega) (by omega) (Nat.le_refl _) ?_
            intro Ac kc y1 hown0 yb1 _ _
            have hcp : OwnI y1 wr.heap.size ⟨Ac, un, kc, uz⟩ := ⟨by simpa using hown0.mono yW0.size, hufit⟩
            have yW1 := yW0.trans (yb1.mono yW0.size)
            clear hown0
            refine hK _ _ (hS9 _ yW1) ?_
            clear hK K
            try simp only [Act.put, List.setIfInBounds_toArray, List.set_cons_zero, List.set_cons_succ]
            try simp only [Nat.zero_add]
            refine trB ?_ ?_
            have o1' : y1.cell? ⟨gO, 1, none⟩ = some (.slice A' j c') := (yW1.cell (p := ⟨gO, 1, none⟩) hgOr).trans o1
            refine trD (by rfl) ?_
            intro K hK
            go_simp
            refine hK _ _ (hS9 _ yW1) ?_
            clear hK K
            try simp only [Act.put, List.setIfInBounds_toArray, List.set_cons_zero, List.set_cons_succ]
            refine trD (by rfl) ?_
            intro K hK
            go_simp
            have yb2 : Below y1.heap.size y1 (y1.alloc (.cells #[.slice Ac un kc] 22)) := (Below.refl _ y1).alloc (Nat.le_refl _) _
            have hrdb : Rd (y1.alloc (.cells #[.slice Ac un kc] 22)) (some ⟨y1.heap.size, 0, none⟩) 1 [.slice Ac un kc] := by
              refine ⟨rfl, fun _ => ⟨y1.heap.size, 0, rfl, fun jj hj => ?_⟩⟩
              obtain rfl : jj = 0 := by omega
              rw [cell_of_row _ _ _ _ _ _ (heap_alloc_new y1 _)]
              rfl
            refine hK _ _ (hS9 _ (yW1.trans (yb2.mono yW1.size))) ?_
            clear hK K
            try simp only [Act.put, List.setIfInBounds_toArray, List.set_cons_zero, List.set_cons_succ]
            generalize y1.alloc (.cells #[.slice Ac un kc] 22) = y2 at hrdb yb2 ⊢
            have yW2 := yW1.trans (yb2.mono yW1.size)
            replace hcp := hcp.below yb2
            have houtY := hout.below yW2
            refine trD (by rfl) ?_
            intro K hK
            refine wp_app _ _ _ _ rfl 22 i9 _ 24 Tryz.underlying23 hi9 hy0 hy1 hy2 rfl s1 A' j c' _ (by rfl) houtY.own _ _ _ [.slice Ac un kc] (by rfl) hrdb (by simp; rfl) (by simp only [maxLen]; omega) (by omega) (Nat.le_trans hsj yW2.size) ?_
            intro A3 c3 w5 hown5 hbel5 hf5 hat5
            have hout4 : Outs w5 s1 A3 (j + 1) c3 (t ++ [(⟨Ac, un, kc, uz⟩ : Ls)]) := houtY.snoc hcp hsj hsep hown5 hf5
            have hO4 := (hOj.below yW2).other houtY.own (by decide) hf5
            have hr4 := (hrj.below yW2).app houtY.own hf5
            have ho4 := (hoj.below yW2).app houtY.own hf5
            have hB4 : Below w1.heap.size w1 w5 := (hBj.trans (yW2.mono hBj.size)).trans (hbel5.mono hs1w)
            have hs4 : s1 ≤ w5.heap.size := Nat.le_trans (Nat.le_trans hsj yW2.size) hbel5.size
            refine hK _ _ (hS1 _ hB4) ?_
            clear hK K
            try simp only [Act.put, List.setIfInBounds_toArray, List.set_cons_zero, List.set_cons_succ]
            repeat (first | (refine trS (by rfl) ?_; simp only [Act.put, List.setIfInBounds_toArray, List.set_cons_zero, List.set_cons_succ]) | (refine trN (by rfl) ?_; simp only [Act.put, List.setIfInBounds_toArray, List.set_cons_zero, List.set_cons_succ]) | (refine trQ (v := ?_) (by rfl) (fun _ hSw => ?_) ?_; rotate_left; (focus ((have hS1 := hSw.1); (have hS2 := hSw.2); clear hSw; go_simp; (first | done | with_reducible rfl))); simp only [Act.put, List.setIfInBounds_toArray, List.set_cons_zero, List.set_cons_succ]))
            have o3 := hO4.cell (j := 1) (by omega)
            have o4 := hO4.free (by omega) 1
            simp only [List.getElem?_cons_zero, List.getElem?_cons_succ] at o3
            have hO5 := hO4.set (by omega) 1 (.slice A3 (j + 1) c3)
            simp only [List.set_cons_zero, List.set_cons_succ] at hO5
            have hr5 := hr4.setO hO4 (by omega) (by decide) 1 (.slice A3 (j + 1) c3)
            have ho5 := ho4.setO hO4 (by omega) (by decide) 1 (.slice A3 (j + 1) c3)
            have hout5 := hout4.setO hO4 (by omega) (by decide) (by decide) 1 (.slice A3 (j + 1) c3)
            have hB5 := hB4.setCell (p := ⟨gO, 1, none⟩) hOlo (.slice A3 (j + 1) c3)
            have hs5 : s1 ≤ (w5.setCell ⟨gO, 1, none⟩ (.slice A3 (j + 1) c3)).heap.size := by simp only [World.setCell, Array.size_modify]; exact hs4
            refine trD (by rfl) ?_
            intro K hK
            go_simp
            refine hK _ _ (hS1 _ hB5) ?_
            clear hK K
            refine trE ?_
            have hgn' := hgn Ac kc
            rotate_left
            refine trD (by rfl) ?_
            intro K hK
            go_simp
            have yb2 : Below y1.heap.size y1 (y1.alloc (.cells #[.slice Ac un kc] 22)) := (Below.refl _ y1).alloc (Nat.le_refl _) _
            have hrdb : Rd (y1.alloc (.cells #[.slice Ac un kc] 22)) (some ⟨y1.heap.size, 0, none⟩) 1 [.slice Ac un kc] := by
              refine ⟨rfl, fun _ => ⟨y1.heap.size, 0, rfl, fun jj hj => ?_⟩⟩
              obtain rfl : jj = 0 := by omega
              rw [cell_of_row _ _ _ _ _ _ (heap_alloc_new y1 _)]
              rfl
            refine hK _ _ (hS9 _ (yW1.trans (yb2.mono yW1.size))) ?_
            clear hK K
            try simp only [Act.put, List.setIfInBounds_toArray, List.set_cons_zero, List.set_cons_succ]
            generalize y1.alloc (.cells #[.slice Ac un kc] 22) = y2 at hrdb yb2 ⊢
            have yW2 := yW1.trans (yb2.mono yW1.size)
            replace hcp := hcp.below yb2
            have o1' : y2.cell? ⟨gO, 1, none⟩ = some (.slice A' j c') := (yW2.cell (p := ⟨gO, 1, none⟩) hgOr).trans o1
            refine trD (by rfl) ?_
            intro K hK
            go_simp
            refine hK _ _ (hS9 _ yW2) ?_
            clear hK K
            try simp only [Act.put, List.setIfInBounds_toArray, List.set_cons_zero, List.set_cons_succ]
            have houtY := hout.below yW2
            refine trD (by rfl) ?_
            intro K hK
            refine wp_app _ _ _ _ rfl 22 i9 _ 24 Tryz.underlying23 hi9 hy0 hy1 hy2 rfl s1 A' j c' _ (by rfl) houtY.own _ _ _ [.slice Ac un kc] (by rfl) hrdb (by simp; rfl) (by simp only [maxLen]; omega) (by omega) (Nat.le_trans hsj yW2.size) ?_
            intro A3 c3 w5 hown5 hbel5 hf5 hat5
            have hout4 : Outs w5 s1 A3 (j + 1) c3 (t ++ [(⟨Ac, un, kc, uz⟩ : Ls)]) := houtY.snoc hcp hsj hsep hown5 hf5
            have hO4 := (hOj.below yW2).other houtY.own (by decide) hf5
            have hr4 := (hrj.below yW2).app houtY.own hf5
            have ho4 := (hoj.below yW2).app houtY.own hf5
            have hB4 : Below w1.heap.size w1 w5 := (hBj.trans (yW2.mono hBj.size)).trans (hbel5.mono hs1w)
            have hs4 : s1 ≤ w5.heap.size := Nat.le_trans (Nat.le_trans hsj yW2.size) hbel5.size
            refine hK _ _ (hS1 _ hB4) ?_
            clear hK K
            try simp only [Act.put, List.setIfInBounds_toArray, List.set_cons_zero, List.set_cons_succ]
            repeat (first | (refine trS (by rfl) ?_; simp only [Act.put, List.setIfInBounds_toArray, List.set_cons_zero, List.set_cons_succ]) | (refine trN (by rfl) ?_; simp only [Act.put, List.setIfInBounds_toArray, List.set_cons_zero, List.set_cons_succ]) | (refine trQ (v := ?_) (by rfl) (fun _ hSw => ?_) ?_; rotate_left; (focus ((have hS1 := hSw.1); (have hS2 := hSw.2); clear hSw; go_simp; (first | done | with_reducible rfl))); simp only [Act.put, List.setIfInBounds_toArray, List.set_cons_zero, List.set_cons_succ]))
            have o3 := hO4.cell (j := 1) (by omega)
            have o4 := hO4.free (by omega) 1
            simp only [List.getElem?_cons_zero, List.getElem?_cons_succ] at o3
            have hO5 := hO4.set (by omega) 1 (.slice A3 (j + 1) c3)
            simp only [List.set_cons_zero, List.set_cons_succ] at hO5
            have hr5 := hr4.setO hO4 (by omega) (by decide) 1 (.slice A3 (j + 1) c3)
            have ho5 := ho4.setO hO4 (by omega) (by decide) 1 (.slice A3 (j + 1) c3)
            have hout5 := hout4.setO hO4 (by omega) (by decide) (by decide) 1 (.slice A3 (j + 1) c3)
            have hB5 := hB4.setCell (p := ⟨gO, 1, none⟩) hOlo (.slice A3 (j + 1) c3)
            have hs5 : s1 ≤ (w5.setCell ⟨gO, 1, none⟩ (.slice A3 (j + 1) c3)).heap.size := by simp only [World.setCell, Array.size_modify]; exact hs4
            refine trD (by rfl) ?_
            intro K hK
            go_simp
            refine hK _ _ (hS1 _ hB5) ?_
            clear hK K
            refine trE ?_
            have hgn' := hgn Ac kc
            all_goals
              clear hS1 hS9 hsep hgn hcell hurd hO4 hr4 ho4 hout4 hB4 hs4 hown5 hbel5 hf5 hat5 houtY hrdb hcp
              go_wp2
              go_roundw
              case rel => exact ⟨j + 1, A3, c3, _, by omega, by go_num, hO5, hr5, ho5, hout5, hgn', hs5, hB5⟩
              case measure => simp [intOf]; omega
        · obtain rfl : j = x.n := by omega
          have hfull : Ls.all t = less (Ls.all x.b) m := by
            rw [hall.out]
            exact List.take_of_length_le (by rw [less_len, Ls.all, List.length_map, HL.out]; exact Nat.le_refl _)
          have HF := Lib.hid hfull
          have hR6 := hR1.below hBj
          have r0 := hR6.free (by omega) 0
          have r1 := hR6.free (by omega) 1
          have r2 := hR6.free (by omega) 2
          have r3 := hR6.cell (j := 0) (by omega)
          have r4 := hR6.cell (j := 1) (by omega)
          have r5 := hR6.cell (j := 2) (by omega)
          have k0 := hOj.cell (j := 0) (by omega)
          have k1 := hOj.cell (j := 1) (by omega)
          have k2 := hOj.cell (j := 2) (by omega)
          simp only [List.getElem?_cons_zero, List.getElem?_cons_succ] at r3 r4 r5 k0 k1 k2
          have HAPT := Lib.hid (aptL_two hout.apt (fun y hy g hg => ((hout.each y hy).blk hg).1) hrr hoo hap)
          clear hfull
          go_wp2
          (try simp only [Exit.inBlock, Exit.then])
          refine bodyPost_ret (v := .tuple #[.agg #[.slice Ar x.r.n kr, .slice A' x.n c', .slice Ao x.o.n ko], .int .i64 0]) ?rr rfl ?_
          case rr =>
            simp only [results, Tryz.f9]
            go_simp
          have hq : ∀ g, w1.heap.size ≤ g → (((wr.setCell ⟨w.heap.size + 1, 0, none⟩ (.slice Ar x.r.n kr)).setCell ⟨w.heap.size + 1, 1, none⟩ (.slice A' x.n c')).setCell ⟨w.heap.size + 1, 2, none⟩ (.slice Ao x.o.n ko)).heap[g]? = wr.heap[g]? := fun g hg => ((setCell_ne (by show g ≠ w.heap.size + 1; omega)).trans (setCell_ne (by show g ≠ w.heap.size + 1; omega))).trans (setCell_ne (by show g ≠ w.heap.size + 1; omega))
          refine ⟨⟨⟨Ar, x.r.n, kr, x.r.zs⟩, A', x.n, c', t, ⟨Ao, x.o.n, ko, x.o.zs⟩⟩, by rw [HLE.out]; rfl, ?_, by rw [HLP.out]; show (_, Ls.all t, _) = _; rw [HF.out, Int.toNat_natCast], ?_⟩
          · exact (⟨hrj.keepB hq, hoj.keepB hq, (hout.own.mono hs1w).keep (fun g _ _ hg _ => hq g hg), fun u hu => ((hout.each u hu).mono hs1w).keepB hq, HAPT.out⟩ : MkOwn _ w1.heap.size _).mono hB.size
          · exact ((hBw.setCell (p := ⟨w.heap.size + 1, 0, none⟩) (Nat.le_succ _) _).setCell (p := ⟨w.heap.size + 1, 1, none⟩) (Nat.le_succ _) _).setCell (p := ⟨w.heap.size + 1, 2, none⟩) (Nat.le_succ _) _
  · have hle : x.lessErr i = 1 := by rw [Mk.lessErr, if_neg hhas]
    have hlp : x.less i = ([], [], []) := by rw [Mk.less, if_neg hhas]
    have HLE := Lib.hid (HE.out.symm.trans hle)
    have HLP := Lib.hid (HP.out.symm.trans hlp)
    have hR0 := hR1.free (by omega) 0
    have hR4 := hR1.free (by omega) 1
    have hR5 := hR1.free (by omega) 2
    have hR6 := hR1.cell (j := 0) (by omega)
    have hR7 := hR1.cell (j := 1) (by omega)
    have hR8 := hR1.cell (j := 2) (by omega)
    simp only [List.getElem?_cons_zero, List.getElem?_cons_succ] at hR6 hR7 hR8
    have hcase : β = false ∨ (β = true ∧ i < 0) ∨ (β = true ∧ ¬ i < 0 ∧ (x.n : Int) ≤ i) := by
      unfold Mk.has at hhas
      rw [hβ] at hhas
      cases β
      · exact .inl rfl
      · right
        simp only [Bool.true_and, decide_eq_true_eq] at hhas
        by_cases g1 : i < 0
        · exact .inl ⟨rfl, g1⟩
        · exact .inr ⟨rfl, g1, by omega⟩
    clear hhas hle hlp hβ
    rcases hcase with rfl | ⟨rfl, g1⟩ | ⟨rfl, g1, g2⟩
    all_goals
      (try have e1 : decide (i < 0) = true := decide_eq_true g1)
      (try have e1 : decide (i < 0) = false := decide_eq_false g1)
      (try have e2 : decide ((x.n : Int) ≤ i) = true := decide_eq_true g2)
      go_wp2
      (try simp only [Exit.inBlock, Exit.then])
      refine bodyPost_ret (v := .tuple #[.agg #[.slice none 0 0, .slice none 0 0, .slice none 0 0], .int .i64 1]) ?r rfl ?_
      case r =>
        simp only [results, Tryz.f9]
        go_simp
      refine ⟨Mk.nil, by rw [HLE.out]; rfl, MkOwn.nil _ _, by rw [HLP.out]; rfl, ?_⟩
      exact ((hB.setCell (p := ⟨w.heap.size + 1, 0, none⟩) (Nat.le_succ _) _).setCell (p := ⟨w.heap.size + 1, 1, none⟩) (Nat.le_succ _) _).setCell (p := ⟨w.heap.size + 1, 2, none⟩) (Nat.le_succ _) _
end Go.Proofs.YtfhiedlglmgneaaGreatDoor
