/-
  Proved: salesroomlaw06.GraphsFits answers true, for any lists, any items, any matching and any number, in whatever memory. No conditions.
-/
import Derived.Test.YtllnpghpbhikmaaRows
import Derived.Test.YtllnpghpbhikmaaLift
import Derived.Test.YtllnpghpbhikmaaAlive6
import Derived.Test.YtllnpghpbhikmaaGrF
import Derived.Deep.CutRange
import Derived.Test.YtllnpghpbhikmaaGrH
import Derived.Test.YtllnpghpbhikmaaReg
namespace Go.Proofs.Ytllnpghpbhikmaa.graphsFits
open Go.ChangeShapes Go.WideShapes Go.ChangeAt Go.RowKit
set_option linter.unusedVariables false

theorem info6_int : (Try.prog.info? 3).map (fun i => (i.zero, i.size, i.bytes)) = some (some (.int .i64 0), 1, 8) := by kernel_rfl
theorem fits_nil {g : List (List Int)} {m : Int} (hc : checkG g m = true) : fitsG g m [] = decide (g.length = 0) := by
  rw [fitsG, hc]
  simp [eq_comm]
/-- The i-th, by those ahead of it. -/
theorem okAt_all {g : List (List Int)} {l : List Int} {i : Nat} {z : Int} (hz : l.getD i (-1) = z) : okAt g l i = ((decide (z = -1) || decide (z ∈ g.getD i [])) && (l.take i).all fun y => decide (z = -1) || decide (y ≠ z)) := by
  rw [okAt, hz]
  by_cases h : z = -1
  · simp [h]
  · rw [decide_eq_false h, Bool.false_or, Bool.false_or]
    congr 1
    rw [Bool.eq_iff_iff, List.all_eq_true]
    simp only [Bool.not_eq_true', decide_eq_false_iff_not, Bool.false_or, decide_eq_true_eq]
    exact ⟨fun hn y hy he => hn (he ▸ hy), fun ha hm => ha z hm rfl⟩
theorem all_take {l : List Int} {i : Nat} (hi : i < l.length) (p : Int → Bool) : (l.take (i + 1)).all p = ((l.take i).all p && p l[i]) := by
  rw [List.take_succ_eq_append_getElem hi, List.all_append]; simp
theorem getD_get {l : List Int} {i : Nat} (hi : i < l.length) : l.getD i (-1) = l[i] := by
  rw [List.getD_eq_getElem?_getD, List.getElem?_eq_getElem hi]; rfl
theorem fits_bad {g : List (List Int)} {m : Int} {l : List Int} {i : Nat} (hi : i < l.length) (h : okAt g l i = false) : fitsG g m l = false := by
  by_cases hf : fitsG g m l = true
  · rw [(fitsG_iff.1 hf).2.2 i hi] at h; cases h
  · simpa using hf
theorem mk_set (l : List Int) (k M : Nat) (hk : k < M) (z : Int) (hl : l.length = k) : (ci64 (l ++ List.replicate (M - k) 0)).set k (.int .i64 z) = ci64 (l ++ z :: List.replicate (M - k - 1) 0) := by
  rw [ci64_app, List.set_append_right _ _ (by rw [ci64_len, hl]; exact Nat.le_refl _), ci64_len, hl, Nat.sub_self, ci64_app]
  congr 1
  rw [show M - k = (M - k - 1) + 1 by omega, List.replicate_succ]
  rfl
theorem mk_set2 (l : List Int) (y : Int) (r : List Int) (k : Nat) (z : Int) (hl : l.length = k) : (ci64 (l ++ y :: r)).set k (.int .i64 z) = ci64 (l ++ z :: r) := by
  rw [ci64_app, List.set_append_right _ _ (by rw [ci64_len, hl]; exact Nat.le_refl _), ci64_len, hl, Nat.sub_self, ci64_app]
  rfl

set_option maxRecDepth 100000 in
set_option maxHeartbeats 4000000 in
theorem walk (x : Gr) (m : Int) (A1 : Option Addr) (n1 c1 : Nat) (zs : List Int) (at_ : Int) (w : World) (h : x.Ok w) (hm1 : -9223372036854775808 ≤ m) (hm2 : m ≤ 9223372036854775807) (h1 : Ls.Ok w ⟨A1, n1, c1, zs⟩) (hat : 0 ≤ at_ ∧ at_ ≤ 255) :
    Calls Try.prog 4 #[.agg #[x.v, .int .i64 m], .slice A1 n1 c1, .int .u8 at_] w fun e w' => e = .returned (.bool true) ∧ Below w.heap.size w w' := by
  have hx := h
  have hB := Below.refl w.heap.size w
  have hxv : x.v = .slice x.A x.n x.c := rfl
  have Vx := Lib.hid hxv
  rw [hxv]
  have hgl := h.glen
  have HGL := Lib.hid hgl
  have htop := Nat.le_trans h.cap h.top
  unfold maxLen at htop
  obtain ⟨B, hB0⟩ : ∃ B, checkG x.g m = B := ⟨_, rfl⟩
  clear hxv hgl h
  have HZL : Hid (zs.length = n1) := Lib.hid h1.len
  go_enter Try.func4, Try.ntmps4
  have bg := GBox.new w x m
  have hbx : Below w.heap.size w (w.alloc (.cells #[.slice x.A x.n x.c, .int .i64 m] 24)) := (Below.refl _ w).alloc (Nat.le_refl _) _
  replace hx := hx.below hbx
  replace h1 := h1.below hbx
  replace hB := hB.trans (hbx.mono hB.size)
  clear hbx
  have eg0 := bg.c0
  have eg1 := bg.c1
  have hc := gcheckC x m (w.alloc (.cells #[.slice x.A x.n x.c, .int .i64 m] 24)) hx hm1 hm2
  rw [Vx.out, hB0] at hc
  go_wp2_with fail
  clear eg0 eg1
  generalize w.alloc (.cells #[.slice x.A x.n x.c, .int .i64 m] 24) = W1 at *
  refine hc.mono ?_
  rintro e v2 ⟨rfl, hb⟩
  clear hc
  replace hx := hx.below hb
  replace h1 := h1.below hb
  replace bg := bg.below hb
  replace hB := hB.trans (hb.mono hB.size)
  clear hb
  cases B
  · have hfn : fitsG x.g m [] = false := by rw [fitsG, hB0]; rfl
    have hS : ∀ w', Below v2.heap.size v2 w' → w'.cell? ⟨w.heap.size, 0, none⟩ = some (.slice x.A x.n x.c) ∧ w'.cell? ⟨w.heap.size, 1, none⟩ = some (.int .i64 m) := fun w' hb => ⟨(bg.below hb).c0, (bg.below hb).c1⟩
    obtain ⟨nl, vnl, znl, hnl⟩ := nil_ls v2
    go_wp2_with fail
    refine wp_region_ord (S := fun w' => w'.cell? ⟨w.heap.size, 0, none⟩ = some (.slice x.A x.n x.c) ∧ w'.cell? ⟨w.heap.size, 1, none⟩ = some (.int .i64 m)) [(0, false), (1, true), (2, true), (3, true), (4, true), (5, true), (8, true), (9, true), (10, true), (11, true), (6, false), (7, true), (12, false), (13, true), (14, true), (15, true), (16, true), (17, true), (18, true), (19, true), (20, true), (21, true), (22, true)] default (by kernel_rfl) (by kernel_rfl) (by kernel_rfl) (hS _ ((Below.refl _ v2).drew)) ?_
    simp only [getOrd, nth]
    obtain ⟨u0, hu0⟩ : ∃ u0, u0 = v2.drew := ⟨_, rfl⟩
    have b0 : Below v2.heap.size v2 u0 := by rw [hu0]; exact (Below.refl _ v2).drew
    rw [← hu0]
    clear hu0
    repeat (first | (refine ordS (by rfl) ?_; simp only [Act.put, List.setIfInBounds_toArray, List.set_cons_zero, List.set_cons_succ]) | (refine ordN (by rfl) ?_; simp only [Act.put, List.setIfInBounds_toArray, List.set_cons_zero, List.set_cons_succ]) | (refine ordQ (v := ?_) (by rfl) (fun _ hSw => ?_) ?_; rotate_left; (focus ((have hS1 := hSw.1); (have hS2 := hSw.2); clear hSw; go_simp; (first | done | with_reducible rfl))); simp only [Act.put, List.setIfInBounds_toArray, List.set_cons_zero, List.set_cons_succ]))
    refine ordD (by rfl) ?_
    intro K hK
    go_simp
    refine (alive6_any u0).mono ?_
    rintro e u1 ⟨rfl, hb⟩
    have b1 := b0.trans (hb.mono b0.size)
    go_wp2_with fail
    refine hK _ _ (hS _ b1) ?_
    clear hK K hb
    try simp only [Act.put, List.setIfInBounds_toArray, List.set_cons_zero, List.set_cons_succ]
    repeat (first | (refine ordS (by rfl) ?_; simp only [Act.put, List.setIfInBounds_toArray, List.set_cons_zero, List.set_cons_succ]) | (refine ordN (by rfl) ?_; simp only [Act.put, List.setIfInBounds_toArray, List.set_cons_zero, List.set_cons_succ]) | (refine ordQ (v := ?_) (by rfl) (fun _ hSw => ?_) ?_; rotate_left; (focus ((have hS1 := hSw.1); (have hS2 := hSw.2); clear hSw; go_simp; (first | done | with_reducible rfl))); simp only [Act.put, List.setIfInBounds_toArray, List.set_cons_zero, List.set_cons_succ]))
    have hf := gfitsC x m nl u1 (hx.below b1) (hnl.below b1) hm1 hm2
    rw [Vx.out, vnl, znl, hfn] at hf
    refine ordD (by rfl) ?_
    intro K hK
    go_simp
    refine hf.mono ?_
    rintro e u2 ⟨rfl, hb⟩
    have b2 := b1.trans (hb.mono b1.size)
    go_wp2_with fail
    refine hK _ _ (hS _ b2) ?_
    clear hK K hb hf
    try simp only [Act.put, List.setIfInBounds_toArray, List.set_cons_zero, List.set_cons_succ]
    repeat (first | (refine ordS (by rfl) ?_; simp only [Act.put, List.setIfInBounds_toArray, List.set_cons_zero, List.set_cons_succ]) | (refine ordN (by rfl) ?_; simp only [Act.put, List.setIfInBounds_toArray, List.set_cons_zero, List.set_cons_succ]) | (refine ordQ (v := ?_) (by rfl) (fun _ hSw => ?_) ?_; rotate_left; (focus ((have hS1 := hSw.1); (have hS2 := hSw.2); clear hSw; go_simp; (first | done | with_reducible rfl))); simp only [Act.put, List.setIfInBounds_toArray, List.set_cons_zero, List.set_cons_succ]))
    have hf := gcheckC x m u2 (hx.below b2) hm1 hm2
    rw [Vx.out, hB0] at hf
    refine ordD (by rfl) ?_
    intro K hK
    go_simp
    refine hf.mono ?_
    rintro e u3 ⟨rfl, hb⟩
    have b3 := b2.trans (hb.mono b2.size)
    go_wp2_with fail
    refine hK _ _ (hS _ b3) ?_
    clear hK K hb hf
    try simp only [Act.put, List.setIfInBounds_toArray, List.set_cons_zero, List.set_cons_succ]
    repeat (first | (refine ordS (by rfl) ?_; simp only [Act.put, List.setIfInBounds_toArray, List.set_cons_zero, List.set_cons_succ]) | (refine ordN (by rfl) ?_; simp only [Act.put, List.setIfInBounds_toArray, List.set_cons_zero, List.set_cons_succ]) | (refine ordQ (v := ?_) (by rfl) (fun _ hSw => ?_) ?_; rotate_left; (focus ((have hS1 := hSw.1); (have hS2 := hSw.2); clear hSw; go_simp; (first | done | with_reducible rfl))); simp only [Act.put, List.setIfInBounds_toArray, List.set_cons_zero, List.set_cons_succ]))
    refine ordE ?_
    have hB3 := hB.trans (b3.mono hB.size)
    go_wp2
    go_ret
    exact ⟨rfl, hB3⟩
  by_cases hn : 100 < n1
  · have hb2 : decide (100 < n1) = true := decide_eq_true hn
    have hb3 : decide (100 < (n1 : Int)) = true := decide_eq_true (by omega)
    by_cases hx0 : x.n = 0
    · have hfn : fitsG x.g m [] = true := by rw [fits_nil hB0, HGL.out, hx0]; rfl
      have hpos : decide (0 < (x.n : Int)) = false := decide_eq_false (by omega)
      have hpos2 : decide (0 < x.n) = false := decide_eq_false (by omega)
      clear hx0
      have hS : ∀ w', Below v2.heap.size v2 w' → w'.cell? ⟨w.heap.size, 0, none⟩ = some (.slice x.A x.n x.c) ∧ w'.cell? ⟨w.heap.size, 1, none⟩ = some (.int .i64 m) := fun w' hb => ⟨(bg.below hb).c0, (bg.below hb).c1⟩
      obtain ⟨nl, vnl, znl, hnl⟩ := nil_ls v2
      go_wp2_with fail
      refine wp_region_ord (S := fun w' => w'.cell? ⟨w.heap.size, 0, none⟩ = some (.slice x.A x.n x.c) ∧ w'.cell? ⟨w.heap.size, 1, none⟩ = some (.int .i64 m)) [(0, false), (1, true), (2, true), (3, true), (4, true), (5, true), (8, true), (9, true), (10, true), (11, true), (6, false), (7, true), (12, false), (13, true), (14, true), (15, true), (16, true), (17, true), (18, true), (19, true), (20, true), (21, true), (22, true)] default (by kernel_rfl) (by kernel_rfl) (by kernel_rfl) (hS _ ((Below.refl _ v2).drew)) ?_
      simp only [getOrd, nth]
      obtain ⟨u0, hu0⟩ : ∃ u0, u0 = v2.drew := ⟨_, rfl⟩
      have b0 : Below v2.heap.size v2 u0 := by rw [hu0]; exact (Below.refl _ v2).drew
      rw [← hu0]
      clear hu0
      repeat (first | (refine ordS (by rfl) ?_; simp only [Act.put, List.setIfInBounds_toArray, List.set_cons_zero, List.set_cons_succ]) | (refine ordN (by rfl) ?_; simp only [Act.put, List.setIfInBounds_toArray, List.set_cons_zero, List.set_cons_succ]) | (refine ordQ (v := ?_) (by rfl) (fun _ hSw => ?_) ?_; rotate_left; (focus ((have hS1 := hSw.1); (have hS2 := hSw.2); clear hSw; go_simp; (first | done | with_reducible rfl))); simp only [Act.put, List.setIfInBounds_toArray, List.set_cons_zero, List.set_cons_succ]))
      refine ordD (by rfl) ?_
      intro K hK
      go_simp
      refine (alive6_any u0).mono ?_
      rintro e u1 ⟨rfl, hb⟩
      have b1 := b0.trans (hb.mono b0.size)
      go_wp2_with fail
      refine hK _ _ (hS _ b1) ?_
      clear hK K hb
      try simp only [Act.put, List.setIfInBounds_toArray, List.set_cons_zero, List.set_cons_succ]
      repeat (first | (refine ordS (by rfl) ?_; simp only [Act.put, List.setIfInBounds_toArray, List.set_cons_zero, List.set_cons_succ]) | (refine ordN (by rfl) ?_; simp only [Act.put, List.setIfInBounds_toArray, List.set_cons_zero, List.set_cons_succ]) | (refine ordQ (v := ?_) (by rfl) (fun _ hSw => ?_) ?_; rotate_left; (focus ((have hS1 := hSw.1); (have hS2 := hSw.2); clear hSw; go_simp; (first | done | with_reducible rfl))); simp only [Act.put, List.setIfInBounds_toArray, List.set_cons_zero, List.set_cons_succ]))
      have hf := gfitsC x m nl u1 (hx.below b1) (hnl.below b1) hm1 hm2
      rw [Vx.out, vnl, znl, hfn] at hf
      refine ordD (by rfl) ?_
      intro K hK
      go_simp
      refine hf.mono ?_
      rintro e u2 ⟨rfl, hb⟩
      have b2 := b1.trans (hb.mono b1.size)
      go_wp2_with fail
      refine hK _ _ (hS _ b2) ?_
      clear hK K hb hf
      try simp only [Act.put, List.setIfInBounds_toArray, List.set_cons_zero, List.set_cons_succ]
      repeat (first | (refine ordS (by rfl) ?_; simp only [Act.put, List.setIfInBounds_toArray, List.set_cons_zero, List.set_cons_succ]) | (refine ordN (by rfl) ?_; simp only [Act.put, List.setIfInBounds_toArray, List.set_cons_zero, List.set_cons_succ]) | (refine ordQ (v := ?_) (by rfl) (fun _ hSw => ?_) ?_; rotate_left; (focus ((have hS1 := hSw.1); (have hS2 := hSw.2); clear hSw; go_simp; (first | done | with_reducible rfl))); simp only [Act.put, List.setIfInBounds_toArray, List.set_cons_zero, List.set_cons_succ]))
      have hf := gcheckC x m u2 (hx.below b2) hm1 hm2
      rw [Vx.out, hB0] at hf
      refine ordD (by rfl) ?_
      intro K hK
      go_simp
      refine hf.mono ?_
      rintro e u3 ⟨rfl, hb⟩
      have b3 := b2.trans (hb.mono b2.size)
      go_wp2_with fail
      refine hK _ _ (hS _ b3) ?_
      clear hK K hb hf
      try simp only [Act.put, List.setIfInBounds_toArray, List.set_cons_zero, List.set_cons_succ]
      repeat (first | (refine ordS (by rfl) ?_; simp only [Act.put, List.setIfInBounds_toArray, List.set_cons_zero, List.set_cons_succ]) | (refine ordN (by rfl) ?_; simp only [Act.put, List.setIfInBounds_toArray, List.set_cons_zero, List.set_cons_succ]) | (refine ordQ (v := ?_) (by rfl) (fun _ hSw => ?_) ?_; rotate_left; (focus ((have hS1 := hSw.1); (have hS2 := hSw.2); clear hSw; go_simp; (first | done | with_reducible rfl))); simp only [Act.put, List.setIfInBounds_toArray, List.set_cons_zero, List.set_cons_succ]))
      refine ordE ?_
      have hB3 := hB.trans (b3.mono hB.size)
      go_wp2
      go_ret
      exact ⟨rfl, hB3⟩
    · have hfn : fitsG x.g m [] = false := by rw [fits_nil hB0, HGL.out]; exact decide_eq_false hx0
      have hpos : decide (0 < (x.n : Int)) = true := decide_eq_true (by omega)
      have hpos2 : decide (0 < x.n) = true := decide_eq_true (by omega)
      clear hx0
      have hS : ∀ w', Below v2.heap.size v2 w' → w'.cell? ⟨w.heap.size, 0, none⟩ = some (.slice x.A x.n x.c) ∧ w'.cell? ⟨w.heap.size, 1, none⟩ = some (.int .i64 m) := fun w' hb => ⟨(bg.below hb).c0, (bg.below hb).c1⟩
      obtain ⟨nl, vnl, znl, hnl⟩ := nil_ls v2
      go_wp2_with fail
      refine wp_region_ord (S := fun w' => w'.cell? ⟨w.heap.size, 0, none⟩ = some (.slice x.A x.n x.c) ∧ w'.cell? ⟨w.heap.size, 1, none⟩ = some (.int .i64 m)) [(0, false), (1, true), (2, true), (3, true), (4, true), (5, true), (8, true), (9, true), (10, true), (11, true), (6, false), (7, true), (12, false), (13, true), (14, true), (15, true), (16, true), (17, true), (18, true), (19, true), (20, true), (21, true), (22, true)] default (by kernel_rfl) (by kernel_rfl) (by kernel_rfl) (hS _ ((Below.refl _ v2).drew)) ?_
      simp only [getOrd, nth]
      obtain ⟨u0, hu0⟩ : ∃ u0, u0 = v2.drew := ⟨_, rfl⟩
      have b0 : Below v2.heap.size v2 u0 := by rw [hu0]; exact (Below.refl _ v2).drew
      rw [← hu0]
      clear hu0
      repeat (first | (refine ordS (by rfl) ?_; simp only [Act.put, List.setIfInBounds_toArray, List.set_cons_zero, List.set_cons_succ]) | (refine ordN (by rfl) ?_; simp only [Act.put, List.setIfInBounds_toArray, List.set_cons_zero, List.set_cons_succ]) | (refine ordQ (v := ?_) (by rfl) (fun _ hSw => ?_) ?_; rotate_left; (focus ((have hS1 := hSw.1); (have hS2 := hSw.2); clear hSw; go_simp; (first | done | with_reducible rfl))); simp only [Act.put, List.setIfInBounds_toArray, List.set_cons_zero, List.set_cons_succ]))
      refine ordD (by rfl) ?_
      intro K hK
      go_simp
      refine (alive6_any u0).mono ?_
      rintro e u1 ⟨rfl, hb⟩
      have b1 := b0.trans (hb.mono b0.size)
      go_wp2_with fail
      refine hK _ _ (hS _ b1) ?_
      clear hK K hb
      try simp only [Act.put, List.setIfInBounds_toArray, List.set_cons_zero, List.set_cons_succ]
      repeat (first | (refine ordS (by rfl) ?_; simp only [Act.put, List.setIfInBounds_toArray, List.set_cons_zero, List.set_cons_succ]) | (refine ordN (by rfl) ?_; simp only [Act.put, List.setIfInBounds_toArray, List.set_cons_zero, List.set_cons_succ]) | (refine ordQ (v := ?_) (by rfl) (fun _ hSw => ?_) ?_; rotate_left; (focus ((have hS1 := hSw.1); (have hS2 := hSw.2); clear hSw; go_simp; (first | done | with_reducible rfl))); simp only [Act.put, List.setIfInBounds_toArray, List.set_cons_zero, List.set_cons_succ]))
      have hf := gfitsC x m nl u1 (hx.below b1) (hnl.below b1) hm1 hm2
      rw [Vx.out, vnl, znl, hfn] at hf
      refine ordD (by rfl) ?_
      intro K hK
      go_simp
      refine hf.mono ?_
      rintro e u2 ⟨rfl, hb⟩
      have b2 := b1.trans (hb.mono b1.size)
      go_wp2_with fail
      refine hK _ _ (hS _ b2) ?_
      clear hK K hb hf
      try simp only [Act.put, List.setIfInBounds_toArray, List.set_cons_zero, List.set_cons_succ]
      repeat (first | (refine ordS (by rfl) ?_; simp only [Act.put, List.setIfInBounds_toArray, List.set_cons_zero, List.set_cons_succ]) | (refine ordN (by rfl) ?_; simp only [Act.put, List.setIfInBounds_toArray, List.set_cons_zero, List.set_cons_succ]) | (refine ordQ (v := ?_) (by rfl) (fun _ hSw => ?_) ?_; rotate_left; (focus ((have hS1 := hSw.1); (have hS2 := hSw.2); clear hSw; go_simp; (first | done | with_reducible rfl))); simp only [Act.put, List.setIfInBounds_toArray, List.set_cons_zero, List.set_cons_succ]))
      have hf := gcheckC x m u2 (hx.below b2) hm1 hm2
      rw [Vx.out, hB0] at hf
      refine ordD (by rfl) ?_
      intro K hK
      go_simp
      refine hf.mono ?_
      rintro e u3 ⟨rfl, hb⟩
      have b3 := b2.trans (hb.mono b2.size)
      go_wp2_with fail
      refine hK _ _ (hS _ b3) ?_
      clear hK K hb hf
      try simp only [Act.put, List.setIfInBounds_toArray, List.set_cons_zero, List.set_cons_succ]
      repeat (first | (refine ordS (by rfl) ?_; simp only [Act.put, List.setIfInBounds_toArray, List.set_cons_zero, List.set_cons_succ]) | (refine ordN (by rfl) ?_; simp only [Act.put, List.setIfInBounds_toArray, List.set_cons_zero, List.set_cons_succ]) | (refine ordQ (v := ?_) (by rfl) (fun _ hSw => ?_) ?_; rotate_left; (focus ((have hS1 := hSw.1); (have hS2 := hSw.2); clear hSw; go_simp; (first | done | with_reducible rfl))); simp only [Act.put, List.setIfInBounds_toArray, List.set_cons_zero, List.set_cons_succ]))
      refine ordE ?_
      have hB3 := hB.trans (b3.mono hB.size)
      go_wp2
      go_ret
      exact ⟨rfl, hB3⟩
  have hb2 : decide (100 < n1) = false := decide_eq_false hn
  have hb3 : decide (100 < (n1 : Int)) = false := decide_eq_false (by omega)
  obtain ⟨q1, q2, q3, _⟩ := checkG_iff.1 hB0
  rw [HGL.out] at q3
  obtain ⟨M, rfl⟩ : ∃ M : Nat, m = M := ⟨m.toNat, by omega⟩
  have hM8 : M ≤ 8 := by omega
  have HC := Lib.hid hB0
  obtain ⟨i0, hi0', hz0, hz1, hz2⟩ := info_parts info6_int
  obtain ⟨R, hR⟩ : ∃ R, fitsG x.g M zs = R := ⟨_, rfl⟩
  have HR := Lib.hid hR
  obtain ⟨δ, hδ⟩ : ∃ δ, ((n1 : Int) == (x.n : Int)) = δ := ⟨_, rfl⟩
  have HD : Hid (δ = decide (zs.length = x.g.length)) := Lib.hid (by
    rw [← hδ, HZL.out, HGL.out, Bool.eq_iff_iff, beq_iff_eq, decide_eq_true_eq]
    omega)
  have h1c := Nat.le_trans h1.cap h1.top
  clear hB0 q1 q2 hm1 hm2 hR
  have eg0 := bg.c0
  have eg1 := bg.c1
  go_wp2_with fail
  clear eg0 eg1
  go_loopw [7, 8] (fun o v wr => ∃ (i : Nat) (β : Bool), i ≤ n1 ∧ v = .int .i64 i ∧ o = .bool β ∧ Hid ((β = true → zs.length = x.g.length ∧ ∀ i', i' < i → okAt x.g zs i' = true) ∧ (β = false → fitsG x.g M zs = false)) ∧ Below v2.heap.size v2 wr) (fun _ v _ => n1 - (intOf v).toNat)
  case atStart => exact ⟨0, δ, Nat.zero_le _, rfl, rfl, Lib.hid ⟨fun hd => ⟨by have := HD.out; rw [hd] at this; exact of_decide_eq_true this.symm, fun i hi => absurd hi (by omega)⟩, fun hd => by have := HD.out; rw [hd] at this; rw [fitsG, ← this]; simp⟩, Below.refl _ _⟩
  case round =>
    obtain ⟨i, β, hi, rfl, rfl, hinv, hbel⟩ := hrel
    obtain ⟨wo, rfl⟩ : ∃ wo, wo = wr := ⟨_, rfl⟩
    have hgo := bg.below hbel
    have eg0 := hgo.c0
    have eg1 := hgo.c1
    by_cases hin : i < n1
    · cases β
      · obtain ⟨wq, hwq⟩ : ∃ wq, wq = wo := ⟨_, rfl⟩
        have bg := bg
        have hx := hx
        have h1 := h1
        have hB := hB
        clear hgo eg0 eg1
        rw [← hwq] at hbel ⊢
        clear hwq
        replace hx := hx.below hbel
        replace h1 := h1.below hbel
        replace bg := bg.below hbel
        replace hB := hB.trans (hbel.mono hB.size)
        clear hbel
        have HRF : Hid (fitsG x.g M zs = false) := Lib.hid (hinv.out.2 rfl)
        clear hinv
        have eg0 := bg.c0
        have eg1 := bg.c1
        have hc := gfitsC x M ⟨A1, n1, c1, zs⟩ wq hx h1 (by omega) (by omega)
        rw [Vx.out, HRF.out] at hc
        go_wp2_with fail
        clear eg0 eg1
        refine hc.mono ?_
        rintro e v101 ⟨rfl, hb⟩
        clear hc
        replace hx := hx.below hb
        replace h1 := h1.below hb
        replace bg := bg.below hb
        replace hB := hB.trans (hb.mono hB.size)
        clear hb
        have eg0 := bg.c0
        have eg1 := bg.c1
        have hc := alive6_any v101
        go_wp2_with fail
        clear eg0 eg1
        refine hc.mono ?_
        rintro e v102 ⟨rfl, hb⟩
        clear hc
        replace hx := hx.below hb
        replace h1 := h1.below hb
        replace bg := bg.below hb
        replace hB := hB.trans (hb.mono hB.size)
        clear hb
        have eg0 := bg.c0
        have eg1 := bg.c1
        go_wp2
        go_ret
        exact ⟨rfl, hB⟩
      · have hinw := Lib.hid (hinv.out.1 rfl)
        clear hinv
        have hin' : (i : Int) < n1 := by omega
        have hnn : n1 = x.n := by rw [← HZL.out, hinw.out.1, HGL.out]
        have hix : i < x.n := by omega
        have hix' : (i : Int) < x.n := by omega
        have hxo := hx.below hbel
        have h1o := h1.below hbel
        have hil : i < zs.length := by rw [HZL.out]; exact hin
        obtain ⟨p, q, rfl, hp, z0, hz0', hcz0⟩ := h1o.rd.get hin
        rw [ci64_get _ _ hil] at hz0'
        obtain rfl : iV zs[i] = z0 := Option.some.inj hz0'
        unfold iV at hcz0
        have hgd := getD_get hil
        obtain ⟨z, hz⟩ : ∃ z, zs[i] = z := ⟨_, rfl⟩
        rw [hz] at hcz0 hgd
        have HZ := Lib.hid hgd
        have hcw : wo.cell? ⟨p, q + i, none⟩ = some (.int .i64 z) := hcz0
        obtain ⟨p3, q3, u, hA, hu, hg, hp3, hcl, hku⟩ := hxo.get hix
        have hcu : wo.cell? ⟨p3, q3 + i, none⟩ = some (.slice u.A u.n u.c) := hcl
        rw [hA] at eg0
        have hbd : Below wo.heap.size wo wo.drew := (Below.refl _ wo).drew
        have hh := lhas_any u.A u.n u.c u.zs z wo.drew hku.rd.drew (Nat.le_trans hku.cap hku.top)
        clear hz0' hcz0 hgd hz hA hu hcl hku hnn
        have HGD := Lib.hid hg
        clear hg
        by_cases hz1 : z = -1
        · have g1 : (z == -1) = true := by rw [hz1]; rfl
          have HOK : Hid ((decide (z = -1) || decide (z ∈ x.g.getD i [])) = true) := Lib.hid (by rw [decide_eq_true hz1]; rfl)
          have HZ1 := Lib.hid hz1
          clear hh hz1
          go_wp2_with fail
          refine wp_region_ord (S := fun w' => w'.cell? ⟨p, q + i, none⟩ = some (.int .i64 z) ∧ w'.cell? ⟨w.heap.size, 0, none⟩ = some (.slice (some ⟨p3, q3, none⟩) x.n x.c) ∧ w'.cell? ⟨p3, q3 + i, none⟩ = some (.slice u.A u.n u.c)) [(0, true), (1, true), (2, true), (3, true), (4, true), (5, true), (6, true), (7, true), (8, true), (9, true), (10, true), (11, true), (12, true), (13, true), (14, true), (15, false), (16, true), (17, true)] default (by kernel_rfl) (by kernel_rfl) (by kernel_rfl) ⟨hcw, eg0, hcu⟩ ?_
          simp only [getOrd, nth]
          repeat (first | (refine ordS (by rfl) ?_; simp only [Act.put, List.setIfInBounds_toArray, List.set_cons_zero, List.set_cons_succ]) | (refine ordN (by rfl) ?_; simp only [Act.put, List.setIfInBounds_toArray, List.set_cons_zero, List.set_cons_succ]) | (refine ordQ (v := ?_) (by rfl) (fun _ hSw => ?_) ?_; rotate_left; (focus ((have hS1 := hSw.1); (have hS2 := hSw.2.1); (have hS3 := hSw.2.2); clear hSw; go_simp; (first | done | with_reducible rfl))); simp only [Act.put, List.setIfInBounds_toArray, List.set_cons_zero, List.set_cons_succ]))
          refine ordE ?_
          clear hcu eg0 eg1
          go_wp2_with fail
          go_loopw [7, 9] (fun o v wr => ∃ (k : Nat) (δ : Bool), k ≤ i ∧ v = .int .i64 k ∧ o = .bool δ ∧ Hid ((true && (zs.take k).all fun y => decide (z = -1) || decide (y ≠ z)) = δ) ∧ Below wo.heap.size wo wr) (fun _ v _ => i - (intOf v).toNat)
          case atStart => exact ⟨0, true, Nat.zero_le _, rfl, rfl, Lib.hid (by simp), hbd⟩
          case round =>
            obtain ⟨k, δ, hk, rfl, rfl, hdl, hbk⟩ := hrel
            by_cases hki : k < i
            · have hkn : k < n1 := by omega
              have hkn' : (k : Int) < n1 := by omega
              have hkl : k < zs.length := by rw [HZL.out]; exact hkn
              obtain ⟨p', q', hA', hp', y0, hy0, hcy⟩ := h1o.rd.get hkn
              cases hA'
              rw [ci64_get _ _ hkl] at hy0
              obtain rfl : iV zs[k] = y0 := Option.some.inj hy0
              unfold iV at hcy
              have hat := all_take hkl fun y => decide (z = -1) || decide (y ≠ z)
              obtain ⟨y, hy⟩ : ∃ y, zs[k] = y := ⟨_, rfl⟩
              rw [hy] at hcy hat
              have hcz : wr.cell? ⟨p, q + i, none⟩ = some (.int .i64 z) := (hbk.cell (p := ⟨p, q + i, none⟩) hp).trans hcw
              have hcy2 : wr.cell? ⟨p, q + k, none⟩ = some (.int .i64 y) := (hbk.cell (p := ⟨p, q + k, none⟩) hp).trans hcy
              obtain ⟨ε, hε⟩ : ∃ ε, decide (y ≠ z) = ε := ⟨_, rfl⟩
              have hε2 : (y != z) = ε := by rw [← hε, Bool.eq_iff_iff, bne_iff_ne, decide_eq_true_eq]
              have hnx : (true && (zs.take (k + 1)).all fun y => decide (z = -1) || decide (y ≠ z)) = (δ && (decide (z = -1) || ε)) := by
                rw [hat, ← hdl.out, Bool.and_assoc, ← hε]
              have HNX := Lib.hid hnx
              have hbd := hbk.drew
              clear hy0 hy hcy hat hε hnx hkl hdl
              cases δ
              · have HN := Lib.hid (show (true && (zs.take (k + 1)).all fun y => decide (z = -1) || decide (y ≠ z)) = false by rw [HNX.out]; rfl)
                go_wp2_with fail
                refine wp_region_ord (S := fun w' => True) [(0, true), (1, true), (2, true), (3, true), (4, true), (5, true), (6, true), (7, true), (8, true), (9, true), (10, true), (11, true), (12, true), (13, true), (14, true), (15, true), (16, true), (17, true), (18, true), (19, true)] default (by kernel_rfl) (by kernel_rfl) (by kernel_rfl) trivial ?_
                simp only [getOrd, nth]
                repeat (first | (refine ordS (by rfl) ?_; simp only [Act.put, List.setIfInBounds_toArray, List.set_cons_zero, List.set_cons_succ]) | (refine ordN (by rfl) ?_; simp only [Act.put, List.setIfInBounds_toArray, List.set_cons_zero, List.set_cons_succ]) | (refine ordQ (v := ?_) (by rfl) (fun _ hSw => ?_) ?_; rotate_left; (focus ((have hS1 := hSw); clear hSw; go_simp; (first | done | with_reducible rfl))); simp only [Act.put, List.setIfInBounds_toArray, List.set_cons_zero, List.set_cons_succ]))
                refine ordE ?_
                go_wp2
                go_roundw
                case rel => exact ⟨k + 1, false, by omega, by go_num, rfl, HN, hbd⟩
                case measure => simp [intOf]; omega
              · by_cases hz1 : z = -1
                · have g1 : (z == -1) = true := by rw [hz1]; rfl
                  have HN := Lib.hid (show (true && (zs.take (k + 1)).all fun y => decide (z = -1) || decide (y ≠ z)) = true by rw [HNX.out, decide_eq_true hz1]; rfl)
                  clear hz1
                  go_wp2_with fail
                  refine wp_region_ord (S := fun w' => w'.cell? ⟨p, q + i, none⟩ = some (.int .i64 z) ∧ w'.cell? ⟨p, q + k, none⟩ = some (.int .i64 y)) [(0, true), (1, true), (2, true), (3, true), (4, true), (5, true), (6, true), (7, true), (8, true), (9, true), (10, true), (11, true), (12, true), (13, true), (14, true), (15, true), (16, true), (17, true), (18, true), (19, true)] default (by kernel_rfl) (by kernel_rfl) (by kernel_rfl) ⟨hcz, hcy2⟩ ?_
                  simp only [getOrd, nth]
                  repeat (first | (refine ordS (by rfl) ?_; simp only [Act.put, List.setIfInBounds_toArray, List.set_cons_zero, List.set_cons_succ]) | (refine ordN (by rfl) ?_; simp only [Act.put, List.setIfInBounds_toArray, List.set_cons_zero, List.set_cons_succ]) | (refine ordQ (v := ?_) (by rfl) (fun _ hSw => ?_) ?_; rotate_left; (focus ((have hS1 := hSw.1); (have hS2 := hSw.2); clear hSw; go_simp; (first | done | with_reducible rfl))); simp only [Act.put, List.setIfInBounds_toArray, List.set_cons_zero, List.set_cons_succ]))
                  refine ordE ?_
                  clear hcz hcy2
                  go_wp2
                  go_roundw
                  case rel => exact ⟨k + 1, true, by omega, by go_num, rfl, HN, hbd⟩
                  case measure => simp [intOf]; omega
                · exact absurd HZ1.out hz1
            · obtain rfl : k = i := by omega
              have hok : okAt x.g zs k = δ := by rw [okAt_all HZ.out, HOK.out]; exact hdl.out
              have HI : Hid ((δ = true → zs.length = x.g.length ∧ ∀ i', i' < k + 1 → okAt x.g zs i' = true) ∧ (δ = false → fitsG x.g M zs = false)) := Lib.hid ⟨fun hd => ⟨hinw.out.1, fun i' hi' => by
                by_cases he : i' = k
                · rw [he, hok, hd]
                · exact hinw.out.2 i' (by omega)⟩, fun hd => fits_bad hil (by rw [hok, hd])⟩
              have hb2 := hbel.trans (hbk.mono hbel.size)
              clear hok hdl
              go_wp2
              go_roundw
              case rel => exact ⟨k + 1, δ, by omega, by go_num, rfl, HI, hb2⟩
              case measure => simp [intOf]; omega
        · have g1 : (z == -1) = false := by rw [beq_eq_false_iff_ne]; exact hz1
          obtain ⟨η, hη⟩ : ∃ η, decide (z ∈ u.zs) = η := ⟨_, rfl⟩
          rw [hη] at hh
          have HOK : Hid ((decide (z = -1) || decide (z ∈ x.g.getD i [])) = η) := Lib.hid (by rw [decide_eq_false hz1, HGD.out, hη]; rfl)
          have HZ1 := Lib.hid hz1
          clear hz1 hη
          go_wp2_with fail
          refine wp_region_ord (S := fun w' => w'.cell? ⟨p, q + i, none⟩ = some (.int .i64 z) ∧ w'.cell? ⟨w.heap.size, 0, none⟩ = some (.slice (some ⟨p3, q3, none⟩) x.n x.c) ∧ w'.cell? ⟨p3, q3 + i, none⟩ = some (.slice u.A u.n u.c)) [(0, true), (1, true), (2, true), (3, true), (4, true), (5, true), (6, true), (7, true), (8, true), (9, true), (10, true), (11, true), (12, true), (13, true), (14, true), (15, false), (16, true), (17, true)] default (by kernel_rfl) (by kernel_rfl) (by kernel_rfl) ⟨hcw, eg0, hcu⟩ ?_
          simp only [getOrd, nth]
          repeat (first | (refine ordS (by rfl) ?_; simp only [Act.put, List.setIfInBounds_toArray, List.set_cons_zero, List.set_cons_succ]) | (refine ordN (by rfl) ?_; simp only [Act.put, List.setIfInBounds_toArray, List.set_cons_zero, List.set_cons_succ]) | (refine ordQ (v := ?_) (by rfl) (fun _ hSw => ?_) ?_; rotate_left; (focus ((have hS1 := hSw.1); (have hS2 := hSw.2.1); (have hS3 := hSw.2.2); clear hSw; go_simp; (first | done | with_reducible rfl))); simp only [Act.put, List.setIfInBounds_toArray, List.set_cons_zero, List.set_cons_succ]))
          refine ordD (by rfl) ?_
          intro K hK
          go_simp
          refine hh.mono ?_
          rintro e w2 ⟨rfl, rfl⟩
          go_wp2_with fail
          refine hK _ _ ⟨hcw, eg0, hcu⟩ ?_
          clear hK K hh
          try simp only [Act.put, List.setIfInBounds_toArray, List.set_cons_zero, List.set_cons_succ]
          repeat (first | (refine ordS (by rfl) ?_; simp only [Act.put, List.setIfInBounds_toArray, List.set_cons_zero, List.set_cons_succ]) | (refine ordN (by rfl) ?_; simp only [Act.put, List.setIfInBounds_toArray, List.set_cons_zero, List.set_cons_succ]) | (refine ordQ (v := ?_) (by rfl) (fun _ hSw => ?_) ?_; rotate_left; (focus ((have hS1 := hSw.1); (have hS2 := hSw.2.1); (have hS3 := hSw.2.2); clear hSw; go_simp; (first | done | with_reducible rfl))); simp only [Act.put, List.setIfInBounds_toArray, List.set_cons_zero, List.set_cons_succ]))
          refine ordE ?_
          clear hcu eg0 eg1
          go_wp2_with fail
          go_loopw [7, 9] (fun o v wr => ∃ (k : Nat) (δ : Bool), k ≤ i ∧ v = .int .i64 k ∧ o = .bool δ ∧ Hid ((η && (zs.take k).all fun y => decide (z = -1) || decide (y ≠ z)) = δ) ∧ Below wo.heap.size wo wr) (fun _ v _ => i - (intOf v).toNat)
          case atStart => exact ⟨0, η, Nat.zero_le _, rfl, rfl, Lib.hid (by simp), hbd⟩
          case round =>
            obtain ⟨k, δ, hk, rfl, rfl, hdl, hbk⟩ := hrel
            by_cases hki : k < i
            · have hkn : k < n1 := by omega
              have hkn' : (k : Int) < n1 := by omega
              have hkl : k < zs.length := by rw [HZL.out]; exact hkn
              obtain ⟨p', q', hA', hp', y0, hy0, hcy⟩ := h1o.rd.get hkn
              cases hA'
              rw [ci64_get _ _ hkl] at hy0
              obtain rfl : iV zs[k] = y0 := Option.some.inj hy0
              unfold iV at hcy
              have hat := all_take hkl fun y => decide (z = -1) || decide (y ≠ z)
              obtain ⟨y, hy⟩ : ∃ y, zs[k] = y := ⟨_, rfl⟩
              rw [hy] at hcy hat
              have hcz : wr.cell? ⟨p, q + i, none⟩ = some (.int .i64 z) := (hbk.cell (p := ⟨p, q + i, none⟩) hp).trans hcw
              have hcy2 : wr.cell? ⟨p, q + k, none⟩ = some (.int .i64 y) := (hbk.cell (p := ⟨p, q + k, none⟩) hp).trans hcy
              obtain ⟨ε, hε⟩ : ∃ ε, decide (y ≠ z) = ε := ⟨_, rfl⟩
              have hε2 : (y != z) = ε := by rw [← hε, Bool.eq_iff_iff, bne_iff_ne, decide_eq_true_eq]
              have hnx : (η && (zs.take (k + 1)).all fun y => decide (z = -1) || decide (y ≠ z)) = (δ && (decide (z = -1) || ε)) := by
                rw [hat, ← hdl.out, Bool.and_assoc, ← hε]
              have HNX := Lib.hid hnx
              have hbd := hbk.drew
              clear hy0 hy hcy hat hε hnx hkl hdl
              cases δ
              · have HN := Lib.hid (show (η && (zs.take (k + 1)).all fun y => decide (z = -1) || decide (y ≠ z)) = false by rw [HNX.out]; rfl)
                go_wp2_with fail
                refine wp_region_ord (S := fun w' => True) [(0, true), (1, true), (2, true), (3, true), (4, true), (5, true), (6, true), (7, true), (8, true), (9, true), (10, true), (11, true), (12, true), (13, true), (14, true), (15, true), (16, true), (17, true), (18, true), (19, true)] default (by kernel_rfl) (by kernel_rfl) (by kernel_rfl) trivial ?_
                simp only [getOrd, nth]
                repeat (first | (refine ordS (by rfl) ?_; simp only [Act.put, List.setIfInBounds_toArray, List.set_cons_zero, List.set_cons_succ]) | (refine ordN (by rfl) ?_; simp only [Act.put, List.setIfInBounds_toArray, List.set_cons_zero, List.set_cons_succ]) | (refine ordQ (v := ?_) (by rfl) (fun _ hSw => ?_) ?_; rotate_left; (focus ((have hS1 := hSw); clear hSw; go_simp; (first | done | with_reducible rfl))); simp only [Act.put, List.setIfInBounds_toArray, List.set_cons_zero, List.set_cons_succ]))
                refine ordE ?_
                go_wp2
                go_roundw
                case rel => exact ⟨k + 1, false, by omega, by go_num, rfl, HN, hbd⟩
                case measure => simp [intOf]; omega
              · by_cases hz1 : z = -1
                · exact absurd hz1 HZ1.out
                · have g1 : (z == -1) = false := by rw [beq_eq_false_iff_ne]; exact hz1
                  have HN := Lib.hid (show (η && (zs.take (k + 1)).all fun y => decide (z = -1) || decide (y ≠ z)) = ε by rw [HNX.out, decide_eq_false hz1]; rfl)
                  clear hz1
                  go_wp2_with fail
                  refine wp_region_ord (S := fun w' => w'.cell? ⟨p, q + i, none⟩ = some (.int .i64 z) ∧ w'.cell? ⟨p, q + k, none⟩ = some (.int .i64 y)) [(0, true), (1, true), (2, true), (3, true), (4, true), (5, true), (6, true), (7, true), (8, true), (9, true), (10, true), (11, true), (12, true), (13, true), (14, true), (15, true), (16, true), (17, true), (18, true), (19, true)] default (by kernel_rfl) (by kernel_rfl) (by kernel_rfl) ⟨hcz, hcy2⟩ ?_
                  simp only [getOrd, nth]
                  repeat (first | (refine ordS (by rfl) ?_; simp only [Act.put, List.setIfInBounds_toArray, List.set_cons_zero, List.set_cons_succ]) | (refine ordN (by rfl) ?_; simp only [Act.put, List.setIfInBounds_toArray, List.set_cons_zero, List.set_cons_succ]) | (refine ordQ (v := ?_) (by rfl) (fun _ hSw => ?_) ?_; rotate_left; (focus ((have hS1 := hSw.1); (have hS2 := hSw.2); clear hSw; go_simp; (first | done | with_reducible rfl))); simp only [Act.put, List.setIfInBounds_toArray, List.set_cons_zero, List.set_cons_succ]))
                  refine ordE ?_
                  clear hcz hcy2
                  go_wp2
                  go_roundw
                  case rel => exact ⟨k + 1, ε, by omega, by go_num, rfl, HN, hbd⟩
                  case measure => simp [intOf]; omega
            · obtain rfl : k = i := by omega
              have hok : okAt x.g zs k = δ := by rw [okAt_all HZ.out, HOK.out]; exact hdl.out
              have HI : Hid ((δ = true → zs.length = x.g.length ∧ ∀ i', i' < k + 1 → okAt x.g zs i' = true) ∧ (δ = false → fitsG x.g M zs = false)) := Lib.hid ⟨fun hd => ⟨hinw.out.1, fun i' hi' => by
                by_cases he : i' = k
                · rw [he, hok, hd]
                · exact hinw.out.2 i' (by omega)⟩, fun hd => fits_bad hil (by rw [hok, hd])⟩
              have hb2 := hbel.trans (hbk.mono hbel.size)
              clear hok hdl
              go_wp2
              go_roundw
              case rel => exact ⟨k + 1, δ, by omega, by go_num, rfl, HI, hb2⟩
              case measure => simp [intOf]; omega
    · obtain ⟨wq, hwq⟩ : ∃ wq, wq = wo := ⟨_, rfl⟩
      have bg := bg
      have hx := hx
      have h1 := h1
      have hB := hB
      clear hgo eg0 eg1
      rw [← hwq] at hbel ⊢
      clear hwq
      replace hx := hx.below hbel
      replace h1 := h1.below hbel
      replace bg := bg.below hbel
      replace hB := hB.trans (hbel.mono hB.size)
      clear hbel
      obtain rfl : i = n1 := by omega
      have hcg := HC.out
      cases β
      · have HRF : Hid (fitsG x.g M zs = false) := Lib.hid (hinv.out.2 rfl)
        clear hinv hcg
        have eg0 := bg.c0
        have eg1 := bg.c1
        have hc := gfitsC x M ⟨A1, i, c1, zs⟩ wq hx h1 (by omega) (by omega)
        rw [Vx.out, HRF.out] at hc
        go_wp2_with fail
        clear eg0 eg1
        refine hc.mono ?_
        rintro e v101 ⟨rfl, hb⟩
        clear hc
        replace hx := hx.below hb
        replace h1 := h1.below hb
        replace bg := bg.below hb
        replace hB := hB.trans (hb.mono hB.size)
        clear hb
        have eg0 := bg.c0
        have eg1 := bg.c1
        have hc := alive6_any v101
        go_wp2_with fail
        clear eg0 eg1
        refine hc.mono ?_
        rintro e v102 ⟨rfl, hb⟩
        clear hc
        replace hx := hx.below hb
        replace h1 := h1.below hb
        replace bg := bg.below hb
        replace hB := hB.trans (hb.mono hB.size)
        clear hb
        have eg0 := bg.c0
        have eg1 := bg.c1
        go_wp2
        go_ret
        exact ⟨rfl, hB⟩
      · have hrt : fitsG x.g M zs = true := fitsG_iff.2 ⟨hcg, (hinv.out.1 rfl).1, fun i' hi' => (hinv.out.1 rfl).2 i' (by rw [HZL.out] at hi'; exact hi')⟩
        have hnx : i = x.n := by rw [← HZL.out, (hinv.out.1 rfl).1, HGL.out]
        have HRT := Lib.hid hrt
        have HNX := Lib.hid hnx
        have hi8 : i ≤ 8 := by omega
        clear hinv hcg hrt hnx
        have eg0 := bg.c0
        have eg1 := bg.c1
        have hc := gfitsC x M ⟨A1, i, c1, zs⟩ wq hx h1 (by omega) (by omega)
        rw [Vx.out, HRT.out] at hc
        go_wp2_with fail
        clear eg0 eg1
        refine hc.mono ?_
        rintro e v101 ⟨rfl, hb⟩
        clear hc
        replace hx := hx.below hb
        replace h1 := h1.below hb
        replace bg := bg.below hb
        replace hB := hB.trans (hb.mono hB.size)
        clear hb
        by_cases hi0 : i = 0
        · have hi1 : ((i : Int) == 0) = true := by rw [hi0]; rfl
          clear hi0
          have eg0 := bg.c0
          have eg1 := bg.c1
          have hc := alive6_any v101
          go_wp2_with fail
          clear eg0 eg1
          refine hc.mono ?_
          rintro e v102 ⟨rfl, hb⟩
          clear hc
          replace hx := hx.below hb
          replace h1 := h1.below hb
          replace bg := bg.below hb
          replace hB := hB.trans (hb.mono hB.size)
          clear hb
          have eg0 := bg.c0
          have eg1 := bg.c1
          go_wp2
          go_ret
          exact ⟨rfl, hB⟩
        · have hi1 : ((i : Int) == 0) = false := by rw [beq_eq_false_iff_ne]; omega
          obtain ⟨k, hk, hkz⟩ : ∃ k : Nat, k < i ∧ Int.tmod at_ i = (k : Int) := ⟨(at_ % i).toNat, by have := Int.emod_lt_of_pos at_ (show (0 : Int) < i by omega); have := Int.emod_nonneg at_ (show (i : Int) ≠ 0 by omega); omega, by rw [Int.tmod_eq_emod_of_nonneg hat.1]; have := Int.emod_nonneg at_ (show (i : Int) ≠ 0 by omega); omega⟩
          have hk' : (k : Int) < i := by omega
          have eg0 := bg.c0
          have eg1 := bg.c1
          have hx0 := hx
          have h10 := h1
          have bg0 := bg
          have hB0' := hB
          go_wp2_with (at_builtin; go_must (refine wpList_app _ rfl _ _ 33 rfl 3 i0 _ 8 Try.underlying33 hi0' hz0 hz1 hz2 rfl v101.heap.size none 0 0 [] rfl (Own.none_ _ _ _ _) A1 i c1 _ rfl h1.rd (ci64_one _) ?e3 ?e4 ?e5 ?_))
          case e3 => simp only [maxLen]; omega
          case e4 => omega
          case e5 => exact Nat.le_refl _
          clear eg0 eg1
          intro A2 c2 w3 hown3 hbel3 hfr3 hat3
          clear hfr3 hat3
          have hb03 := hbel3
          obtain ⟨g2, rfl, hg2, hg2'⟩ := hown3.lt (by have := hown3.le; omega)
          replace hx := hx.below hbel3
          replace h1 := h1.below hbel3
          replace bg := bg.below hbel3
          replace hB := hB.trans (hbel3.mono hB.size)
          clear hbel3
          have eg0 := bg.c0
          have eg1 := bg.c1
          have hfr := hown3.free (by have := hown3.le; omega) k
          obtain ⟨vo, hvo⟩ : ∃ v, w3.cell? ⟨g2, k, none⟩ = some v := by
            have h5 := hown3.cell (j := k) hk
            rw [List.getElem?_eq_getElem (by rw [hown3.len]; exact hk)] at h5
            exact ⟨_, h5⟩
          have hset := hown3.set (by have := hown3.le; omega) k (.int .i64 (-1))
          rw [show (ci64 zs).set k (.int .i64 (-1)) = ci64 (zs.set k (-1)) by simp [ci64, iV]] at hset
          have hbs : Below v101.heap.size w3 (w3.setCell ⟨g2, k, none⟩ (.int .i64 (-1))) := (Below.refl _ w3).setCell (p := ⟨g2, k, none⟩) hg2 _
          have hfit2 : ∀ z ∈ zs.set k (-1), -9223372036854775808 ≤ z ∧ z ≤ 9223372036854775807 := fun z hz => by
            rcases List.mem_or_eq_of_mem_set hz with hz | rfl
            · exact h1.fit z hz
            · omega
          have hxs := hx0.below (hb03.trans hbs)
          have h1s := h10.below (hb03.trans hbs)
          have bgs := bg0.below (hb03.trans hbs)
          have hBs := hB0'.trans ((hb03.trans hbs).mono hB0'.size)
          have hfew : OwnI (w3.setCell ⟨g2, k, none⟩ (.int .i64 (-1))) v101.heap.size ⟨some ⟨g2, 0, none⟩, i, c2, zs.set k (-1)⟩ := ⟨hset, hfit2⟩
          clear hset hown3 hfit2
          have hcap2 := hfew.own.le
          go_upto_region 18 with fail
          clear eg0 eg1 hfr hvo
          generalize w3.setCell ⟨g2, k, none⟩ (.int .i64 (-1)) = w4 at *
          have hx := hxs
          have h1 := h1s
          have bg := bgs
          have hB := hBs
          clear hxs h1s bgs hBs hbs hb03 hx0 h10 bg0 hB0'
          have eg0 := bg.c0
          have eg1 := bg.c1
          go_wp2_with (at_make; go_must (refine wpList_mk _ rfl _ _ 33 rfl w4.heap.size 3 i0 _ Try.underlying33 hi0' hz0 hz1 rfl .i64 .i64 _ _ M rfl rfl rfl rfl ?f2 ?f3 ?f4 ?_))
          case f2 => omega
          case f3 => simp only [maxLen]; omega
          try case f4 => exact Nat.le_refl _
          intro w5 hown5 hbel5
          clear eg0 eg1
          go_wp2_with fail
          go_loopw [12] (fun v wr => ∃ (r : Nat), r ≤ M ∧ v = .int .i64 r ∧ Own wr w4.heap.size 3 (some ⟨w4.heap.size, 0, none⟩) M M (ci64 (turM zs r ++ List.replicate (M - r) 0)) ∧ Below w4.heap.size w4 wr) (fun v _ => M - (intOf v).toNat)
          case atStart => exact ⟨0, Nat.zero_le _, rfl, by simpa [ci64, iV, turM] using hown5, hbel5⟩
          case round =>
            obtain ⟨r, hr, rfl, hown, hbel⟩ := hrel
            have hgr := bg.below hbel
            have eg0 := hgr.c0
            have eg1 := hgr.c1
            by_cases hrM : r < M
            · have hrM' : (r : Int) < M := by omega
              have hr0 : (0 : Int) ≤ r := by omega
              have hf := hown.free (by omega) r
              obtain ⟨vo, hvo⟩ : ∃ v, wr.cell? ⟨w4.heap.size, r, none⟩ = some v := by
                have h5 := hown.cell (j := r) hrM
                rw [List.getElem?_eq_getElem (by rw [hown.len]; exact hrM)] at h5
                exact ⟨_, h5⟩
              have hset := hown.set (by omega) r (.int .i64 (-1))
              rw [mk_set (turM zs r) r M hrM (-1) (turM_len zs r)] at hset
              have hbs := hbel.setCell (p := ⟨w4.heap.size, r, none⟩) (Nat.le_refl _) (.int .i64 (-1))
              clear hown
              go_wp2_with fail
              clear eg0 eg1 hf hvo
              generalize wr.setCell ⟨w4.heap.size, r, none⟩ (.int .i64 (-1)) = ws at *
              go_loopw [13] (fun v wr => ∃ (s : Nat), s ≤ i ∧ v = .int .i64 s ∧ Own wr w4.heap.size 3 (some ⟨w4.heap.size, 0, none⟩) M M (ci64 (turM zs r ++ lastAt zs (r : Int) s :: List.replicate (M - r - 1) 0)) ∧ Below w4.heap.size w4 wr) (fun v _ => i - (intOf v).toNat)
              case atStart => exact ⟨0, Nat.zero_le _, rfl, hset, hbs⟩
              case round =>
                obtain ⟨s, hs, rfl, hown, hbel2⟩ := hrel
                by_cases hsi : s < i
                · have hsi' : (s : Int) < i := by omega
                  have hsl : s < zs.length := by rw [HZL.out]; exact hsi
                  obtain ⟨p, q, rfl, hp, z0, hz0', hcz0⟩ := h1.rd.get hsi
                  rw [ci64_get _ _ hsl] at hz0'
                  obtain rfl : iV zs[s] = z0 := Option.some.inj hz0'
                  unfold iV at hcz0
                  have hgd := getD_get hsl
                  obtain ⟨z, hz⟩ : ∃ z, zs[s] = z := ⟨_, rfl⟩
                  rw [hz] at hcz0 hgd
                  have hcw : wr.cell? ⟨p, q + s, none⟩ = some (.int .i64 z) := (hbel2.cell (p := ⟨p, q + s, none⟩) hp).trans hcz0
                  by_cases hzr : z = (r : Int)
                  · have g1 : (z == (r : Int)) = true := by rw [hzr]; simp
                    have hla : lastAt zs (r : Int) (s + 1) = (s : Int) := by rw [lastAt, if_pos (hgd.trans hzr)]
                    have hf := hown.free (by omega) r
                    obtain ⟨vo, hvo⟩ : ∃ v, wr.cell? ⟨w4.heap.size, r, none⟩ = some v := by
                      have h5 := hown.cell (j := r) hrM
                      rw [List.getElem?_eq_getElem (by rw [hown.len]; exact hrM)] at h5
                      exact ⟨_, h5⟩
                    have hset2 := hown.set (by omega) r (.int .i64 (s : Int))
                    rw [mk_set2 (turM zs r) _ _ r (s : Int) (turM_len zs r)] at hset2
                    have hset3 : Own (wr.setCell ⟨w4.heap.size, r, none⟩ (.int .i64 (s : Int))) w4.heap.size 3 (some ⟨w4.heap.size, 0, none⟩) M M (ci64 (turM zs r ++ lastAt zs (r : Int) (s + 1) :: List.replicate (M - r - 1) 0)) := by rw [hla]; exact hset2
                    have hbs2 := hbel2.setCell (p := ⟨w4.heap.size, r, none⟩) (Nat.le_refl _) (.int .i64 (s : Int))
                    clear hown hset2 hz0' hz hcz0 hgd hla hzr
                    go_wp2
                    go_roundw
                    case rel => exact ⟨s + 1, by omega, by go_num, hset3, hbs2⟩
                    case measure => simp [intOf]; omega
                  · have g1 : (z == (r : Int)) = false := by rw [beq_eq_false_iff_ne]; exact hzr
                    have hla : lastAt zs (r : Int) (s + 1) = lastAt zs (r : Int) s := by rw [lastAt, if_neg (fun h => hzr (hgd.symm.trans h))]
                    rw [← hla] at hown
                    clear hz0' hz hcz0 hgd hla hzr
                    go_wp2
                    go_roundw
                    case rel => exact ⟨s + 1, by omega, by go_num, hown, hbel2⟩
                    case measure => simp [intOf]; omega
                · obtain rfl : s = i := by omega
                  have hown2 : Own wr w4.heap.size 3 (some ⟨w4.heap.size, 0, none⟩) M M (ci64 (turM zs (r + 1) ++ List.replicate (M - (r + 1)) 0)) := by
                    rw [turM_succ, List.append_assoc, HZL.out]
                    exact hown
                  clear hown
                  go_wp2
                  go_roundw
                  case rel => exact ⟨r + 1, by omega, by go_num, hown2, hbel2⟩
                  case measure => simp [intOf]; omega
            · obtain rfl : r = M := by omega
              rw [Nat.sub_self, List.replicate_zero, List.append_nil] at hown
              have htur : OwnI wr w4.heap.size ⟨some ⟨w4.heap.size, 0, none⟩, r, r, turM zs r⟩ := ⟨hown, fun z hz => by
                obtain ⟨k', hk', rfl⟩ := List.mem_map.1 hz
                have := lastAt_rng zs (k' : Int) zs.length
                rw [HZL.out] at this
                show -9223372036854775808 ≤ lastAt zs (k' : Int) zs.length ∧ lastAt zs (k' : Int) zs.length ≤ 9223372036854775807
                rw [HZL.out]
                omega⟩
              clear hown
              obtain ⟨wt, hwt⟩ : ∃ wt, wt = wr := ⟨_, rfl⟩
              rw [← hwt] at htur hbel hgr eg0 eg1 ⊢
              clear hwt hgr eg0 eg1
              replace hx := hx.below hbel
              replace h1 := h1.below hbel
              replace hfew := hfew.below hbel
              replace bg := bg.below hbel
              replace hB := hB.trans (hbel.mono hB.size)
              clear hbel
              have hce := HC.out
              have T1 := Lib.hid (turned_err hce)
              have T2 := Lib.hid (turned_ans hce)
              have F1 := Lib.hid (fewer_fits hce HRT.out (show k < zs.length by rw [HZL.out]; exact hk))
              have F2 := Lib.hid (turned_fits HRT.out)
              have F3 := Lib.hid (turned_many HRT.out)
              have hms := many_set zs k
              have hmz := manyG_le zs
              rw [HZL.out] at hmz
              obtain ⟨c0, hc0⟩ : ∃ c, manyG zs = c := ⟨_, rfl⟩
              obtain ⟨c9, hc9⟩ : ∃ c, manyG (zs.set k (-1)) = c := ⟨_, rfl⟩
              rw [hc0] at hms hmz
              rw [hc9] at hms
              have hdf : IntKind.i64.wrap ((c0 : Int) - (c9 : Int)) = (c0 : Int) - (c9 : Int) := by rw [IntKind.wrap_i64]; omega
              have hle : decide ((c0 : Int) - (c9 : Int) ≤ 1) = true := decide_eq_true (by omega)
              have HC0 := Lib.hid hc0
              have HC9 := Lib.hid hc9
              clear hce hms hmz hc0 hc9
              have eg0 := bg.c0
              have eg1 := bg.c1
              have hc := gturnedC x r wt hx (by omega) (by omega)
              rw [Vx.out, T1.out, T2.out] at hc
              go_wp2_with fail
              clear eg0 eg1
              refine hc.mono ?_
              rintro e v102 ⟨A6, n6, c6, rfl, t6, ht6, hq6, hb⟩
              clear hc
              replace hx := hx.below hb
              replace h1 := h1.below hb
              replace hfew := hfew.below hb
              replace htur := htur.below hb
              replace bg := bg.below hb
              replace hB := hB.trans (hb.mono hB.size)
              clear hb
              have F4 : Hid (fitsG (Gr.g ⟨A6, n6, c6, t6⟩) (x.n : Int) (turM zs r) = true) := Lib.hid (by rw [show Gr.g ⟨A6, n6, c6, t6⟩ = turnedG x.g r from hq6, ← HGL.out]; exact F2.out)
              clear hq6 F2
              have eg0 := bg.c0
              have eg1 := bg.c1
              have hc := alive6_any v102
              go_wp2_with fail
              clear eg0 eg1
              refine hc.mono ?_
              rintro e v103 ⟨rfl, hb⟩
              clear hc
              replace hx := hx.below hb
              replace h1 := h1.below hb
              replace hfew := hfew.below hb
              replace htur := htur.below hb
              replace ht6 := ht6.below hb
              replace bg := bg.below hb
              replace hB := hB.trans (hb.mono hB.size)
              clear hb
              have eg0 := bg.c0
              have eg1 := bg.c1
              have hc := gfitsC x r _ v103 hx hfew.ok (by omega) (by omega)
              rw [Vx.out, F1.out] at hc
              go_wp2_with fail
              clear eg0 eg1
              refine hc.mono ?_
              rintro e v104 ⟨rfl, hb⟩
              clear hc
              replace hx := hx.below hb
              replace h1 := h1.below hb
              replace hfew := hfew.below hb
              replace htur := htur.below hb
              replace ht6 := ht6.below hb
              replace bg := bg.below hb
              replace hB := hB.trans (hb.mono hB.size)
              clear hb
              have eg0 := bg.c0
              have eg1 := bg.c1
              have hc := gfitsC ⟨A6, n6, c6, t6⟩ (x.n : Int) _ v104 ht6.gr htur.ok (by omega) (by omega)
              rw [F4.out] at hc
              go_wp2_with fail
              clear eg0 eg1
              refine hc.mono ?_
              rintro e v105 ⟨rfl, hb⟩
              clear hc
              replace hx := hx.below hb
              replace h1 := h1.below hb
              replace hfew := hfew.below hb
              replace htur := htur.below hb
              replace ht6 := ht6.below hb
              replace bg := bg.below hb
              replace hB := hB.trans (hb.mono hB.size)
              clear hb
              have eg0 := bg.c0
              have eg1 := bg.c1
              have hc := gmanyC _ v105 htur.ok
              rw [F3.out, HC0.out] at hc
              go_wp2_with fail
              clear eg0 eg1
              refine hc.mono ?_
              rintro e v106 ⟨rfl, hb⟩
              clear hc
              replace hx := hx.below hb
              replace h1 := h1.below hb
              replace hfew := hfew.below hb
              replace htur := htur.below hb
              replace ht6 := ht6.below hb
              replace bg := bg.below hb
              replace hB := hB.trans (hb.mono hB.size)
              clear hb
              have eg0 := bg.c0
              have eg1 := bg.c1
              have hc := gmanyC _ v106 h1
              rw [HC0.out] at hc
              go_wp2_with fail
              clear eg0 eg1
              refine hc.mono ?_
              rintro e v107 ⟨rfl, hb⟩
              clear hc
              replace hx := hx.below hb
              replace h1 := h1.below hb
              replace hfew := hfew.below hb
              replace htur := htur.below hb
              replace ht6 := ht6.below hb
              replace bg := bg.below hb
              replace hB := hB.trans (hb.mono hB.size)
              clear hb
              have eg0 := bg.c0
              have eg1 := bg.c1
              have hc := gmanyC _ v107 h1
              rw [HC0.out] at hc
              go_wp2_with fail
              clear eg0 eg1
              refine hc.mono ?_
              rintro e v108 ⟨rfl, hb⟩
              clear hc
              replace hx := hx.below hb
              replace h1 := h1.below hb
              replace hfew := hfew.below hb
              replace htur := htur.below hb
              replace ht6 := ht6.below hb
              replace bg := bg.below hb
              replace hB := hB.trans (hb.mono hB.size)
              clear hb
              have eg0 := bg.c0
              have eg1 := bg.c1
              have hc := gmanyC _ v108 hfew.ok
              rw [HC9.out] at hc
              go_wp2_with fail
              clear eg0 eg1
              refine hc.mono ?_
              rintro e v109 ⟨rfl, hb⟩
              clear hc
              replace hx := hx.below hb
              replace h1 := h1.below hb
              replace hfew := hfew.below hb
              replace htur := htur.below hb
              replace ht6 := ht6.below hb
              replace bg := bg.below hb
              replace hB := hB.trans (hb.mono hB.size)
              clear hb
              have eg0 := bg.c0
              have eg1 := bg.c1
              go_wp2
              go_ret
              exact ⟨rfl, hB⟩

theorem own : ownKnob Try.prog.godebug = none := by kernel_rfl
theorem laidOut : laidOutB Try.prog = true := by kernel_rfl

set_option maxRecDepth 100000 in
theorem lifted (os : Os) (started : os.Started) (H : Type) (enc : TypeId × Value → H) :
    ReturnsInHanded {} Try.checked os 4 .any (Rows.graphsFitsSpec.pre6 enc Try.prog Try.f4 Rows.graphsFitsRow.domain false) (Rows.graphsFitsSpec.post enc Try.prog Try.f4 false true false false) := by
  refine returnsInHanded_of_change (C := Try.checked) own started (by kernel_rfl) Try.func4
    (ChangeSpec.witness6 (enc := enc) (C := Try.checked) false ⟨#[], #[.agg #[.slice none 0 0, .int .i64 0], .slice none 0 0, .int .u8 0], []⟩ 8 (by kernel_rfl) (by kernel_rfl) (by kernel_rfl) (by kernel_rfl)) ?_
  intro W base args ds gs before hval0 hW hcnd _
  have hval : ∀ (j : Nat) t v, Try.f4.params[j]? = some t → args[j]? = some v → Value.okWide Try.prog W .any base t v := hval0
  have hW' := hW
  obtain ⟨p, q, hA0, hV, rfl, hfz, hnd⟩ := hW
  have hA : DataW.TrodAll enc Try.prog W 0 (fun _ => true) true Try.f4.params.toList args.toList ds p := hA0
  rw [Try.params4] at hA hval
  obtain ⟨v0, vs0, d0, ds0, p0, q0, hargs, rfl, rfl, h0, r0⟩ := trodAll_cons hA
  obtain ⟨v1, vs1, d1, ds1, p1, q1, rfl, rfl, rfl, h1, r1⟩ := trodAll_cons r0
  obtain ⟨v2, vs2, d2, ds2, p2, q2, rfl, rfl, rfl, h2, r2⟩ := trodAll_cons r1
  obtain ⟨rfl, rfl, rfl⟩ := trodAll_nil r2
  obtain rfl : args = #[v0, v1, v2] := by cases args; simp_all
  obtain ⟨u0, m0, rfl, k0, a0, b0⟩ := arg_gr Try.underlying24 (by kernel_rfl) (by kernel_rfl) Try.underlying22 Try.underlying3 Try.underlying33 (by kernel_rfl) Try.underlying3 (by kernel_rfl) (hval 0 24 v0 rfl rfl) h0
  obtain ⟨A1, n1, c1, l1, rfl, a1, b1, e1, g1⟩ := arg_i64s Try.underlying33 Try.underlying3 (by kernel_rfl) (hval 1 33 v1 rfl rfl) h1
  obtain ⟨x2, rfl, rfl, rfl, w2⟩ := open_int Try.underlying5 (hval 2 5 v2 rfl rfl) h2
  obtain ⟨y2, rfl, z2⟩ := fit_u8 w2
  have hwalk : Calls Try.prog 4 #[.agg #[u0.v, .int .i64 m0], .slice A1 n1 c1, .int .u8 y2] W fun e w' => e = .returned (.bool true) ∧ Below W.heap.size W w' := walk u0 m0 A1 n1 c1 l1 y2 W k0 a0 b0 ⟨a1, b1, e1, g1⟩ ⟨by omega, by omega⟩
  refine hwalk.mono fun e W' ⟨he, hg⟩ => ?_
  subst he
  exact ⟨_, rfl, law_post laidOut (by kernel_rfl) hW' rfl rfl (by kernel_rfl) Try.underlying4 hg⟩

theorem over : Rows.graphsFitsRow.holds Try.pinned (OpenSpec.ofChange Rows.graphsFitsSpec) :=
  OpenClaim.holds_of_wide 4 Try.f4 rfl rfl rfl rfl rfl rfl rfl ⟨rfl, rfl, rfl, rfl, rfl⟩ rfl rfl rfl rfl rfl (by kernel_rfl) Try.func4 (by kernel_rfl)
    (of_decide_eq_true (by kernel_rfl)) (by unfold Func.isWrapper; first | (rw [if_pos (by decide +kernel)]; kernel_rfl) | (rw [if_neg (by decide +kernel)]; exact ⟨rfl, rfl⟩))
    (fun os started H enc _ => lifted os started H enc)

theorem proved : Rows.GraphsFitsSaid :=
  over

end Go.Proofs.Ytllnpghpbhikmaa.graphsFits
