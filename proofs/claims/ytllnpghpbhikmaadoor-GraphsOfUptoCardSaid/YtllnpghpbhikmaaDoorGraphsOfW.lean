/-
  The walk of GraphsOf: it answers true, for any lists that are not too much, any items, any matching, any some.
-/
import Derived.Test.YtllnpghpbhikmaaDoorGrW
import Derived.Test.YtllnpghpbhikmaaDoorGrT
import Derived.Test.YtllnpghpbhikmaaDoorRef06b
namespace Go.Proofs.YtllnpghpbhikmaaDoor.graphsOf
open Go.RowKit
set_option linter.unusedVariables false

set_option maxRecDepth 100000 in
set_option maxHeartbeats 4000000 in
theorem walk (x : Gr) (m : Int) (u1 u2 : Ls) (w : World) (h : x.Ok w) (hm1 : -9223372036854775808 ≤ m) (hm2 : m ≤ 9223372036854775807) (h1' : u1.Ok w) (h2' : u2.Ok w) (hz : sizeL x.t ≤ 1048576) :
    Calls Tryd.prog 3 #[.agg #[x.v, .int .i64 m], u1.v, u2.v] w fun e w' => e = .returned (.bool true) ∧ Below w.heap.size w w' := by
  have hx := h
  have h1 := h1'
  have h2 := h2'
  have hB := Below.refl w.heap.size w
  have hxv : x.v = .slice x.A x.n x.c := rfl
  have h1v : u1.v = .slice u1.A u1.n u1.c := rfl
  have h2v : u2.v = .slice u2.A u2.n u2.c := rfl
  have Vx := Lib.hid hxv
  have V1 := Lib.hid h1v
  have V2 := Lib.hid h2v
  rw [hxv, h1v, h2v]
  have t1 := Nat.le_trans h1.cap h1.top
  have t2 := Nat.le_trans h2.cap h2.top
  unfold maxLen at t1 t2
  obtain ⟨Z, hZ⟩ : ∃ Z, sizeL x.t = Z := ⟨_, rfl⟩
  have HZ := Lib.hid hZ
  clear hxv h1v h2v h h1' h2'
  go_enter Tryd.func3, Tryd.ntmps3
  have bg := GBox.new w x m
  have hbx : Below w.heap.size w (w.alloc (.cells #[.slice x.A x.n x.c, .int .i64 m] 24)) := (Below.refl _ w).alloc (Nat.le_refl _) _
  have sz1 := Lib.hid hbx.size
  replace hx := hx.below hbx
  replace h1 := h1.below hbx
  replace h2 := h2.below hbx
  replace hB := hB.trans (hbx.mono hB.size)
  clear hbx
  have eg0 := bg.c0
  have eg1 := bg.c1
  have hc := (intlistssize_all x.A x.n x.c x.t (w.alloc (.cells #[.slice x.A x.n x.c, .int .i64 m] 24)) hx.lss hx.cap hx.top hz).mono (R' := fun e w' => e = .returned (.int .i64 (Z : Nat)) ∧ Below (w.alloc (.cells #[.slice x.A x.n x.c, .int .i64 m] 24)).heap.size (w.alloc (.cells #[.slice x.A x.n x.c, .int .i64 m] 24)) w') fun e w' ⟨he, hw⟩ => ⟨by rw [he, HZ.out], by rw [← hw]; exact Below.refl _ _⟩
  go_wp2_with fail
  clear eg0 eg1
  generalize w.alloc (.cells #[.slice x.A x.n x.c, .int .i64 m] 24) = W1 at *
  refine hc.mono ?_
  rintro e v2 ⟨rfl, hb⟩
  clear hc
  have sz2 := Lib.hid hb.size
  replace hx := hx.below hb
  replace h1 := h1.below hb
  replace h2 := h2.below hb
  replace bg := bg.below hb
  replace hB := hB.trans (hb.mono hB.size)
  clear hb
  by_cases q1 : 3000 < Z
  · have g1 : decide (3000 < (Z : Int)) = true := decide_eq_true (by omega)
    have g1' : decide (3000 < Z) = true := decide_eq_true q1
    clear hZ
    have eg0 := bg.c0
    have eg1 := bg.c1
    go_wp2
    go_ret
    exact ⟨rfl, hB⟩
  have g1 : decide (3000 < (Z : Int)) = false := decide_eq_false (by omega)
  have g1' : decide (3000 < Z) = false := decide_eq_false q1
  by_cases q2 : 300 < u1.n
  · have g2 : decide (300 < (u1.n : Int)) = true := decide_eq_true (by omega)
    have g2' : decide (300 < u1.n) = true := decide_eq_true q2
    clear hZ
    have eg0 := bg.c0
    have eg1 := bg.c1
    go_wp2
    go_ret
    exact ⟨rfl, hB⟩
  have g2 : decide (300 < (u1.n : Int)) = false := decide_eq_false (by omega)
  have g2' : decide (300 < u1.n) = false := decide_eq_false q2
  by_cases q3 : 300 < u2.n
  · have g3 : decide (300 < (u2.n : Int)) = true := decide_eq_true (by omega)
    have g3' : decide (300 < u2.n) = true := decide_eq_true q3
    clear hZ
    have eg0 := bg.c0
    have eg1 := bg.c1
    go_wp2
    go_ret
    exact ⟨rfl, hB⟩
  have g3 : decide (300 < (u2.n : Int)) = false := decide_eq_false (by omega)
  have g3' : decide (300 < u2.n) = false := decide_eq_false q3
  have hu1 : u1.n ≤ 300 := by omega
  have hu2 : u2.n ≤ 300 := by omega
  have hs := sizeL_sum x.t
  have hlen := hx.len
  have hxn : x.n ≤ 3000 := by omega
  have hsm : ∀ u ∈ x.t, u.n ≤ 3000 := fun u hu => by have := size_mem hu; omega
  have HSM := Lib.hid hsm
  have H9 : Hid (∀ u ∈ x.t, u.n ≤ 1000000000) := Lib.hid (fun u hu => by have := hsm u hu; omega)
  obtain ⟨E, hE⟩ : ∃ E, errG x.g m = E := ⟨_, rfl⟩
  obtain ⟨T, hT⟩ : ∃ T, turnedE x.g m = T := ⟨_, rfl⟩
  obtain ⟨NE, hNE⟩ : ∃ E, nearErr x.g m u2.zs = E := ⟨_, rfl⟩
  obtain ⟨N, hN⟩ : ∃ T, nearE x.g m u2.zs = T := ⟨_, rfl⟩
  obtain ⟨C, hC⟩ : ∃ C, checkG x.g m = C := ⟨_, rfl⟩
  obtain ⟨Fi, hFi⟩ : ∃ F, fitsG x.g m u1.zs = F := ⟨_, rfl⟩
  obtain ⟨Ma, hMa⟩ : ∃ M, manyG u1.zs = M := ⟨_, rfl⟩
  have HE := Lib.hid hE
  have HT := Lib.hid hT
  have HNE := Lib.hid hNE
  have HN := Lib.hid hN
  have HCk := Lib.hid hC
  have HFi := Lib.hid hFi
  have HMa := Lib.hid hMa
  have hNl : N.length ≤ 8 := by rw [← hN]; exact near_small
  clear q1 q2 q3 hs hlen hsm hE hT hNE hN hC hFi hMa hZ
  have eg0 := bg.c0
  have eg1 := bg.c1
  have hc := twin_gr x v2 hx (by omega) H9.out
  rw [Vx.out] at hc
  go_wp2_with fail
  clear eg0 eg1
  refine hc.mono ?_
  rintro e v3 ⟨y, rfl, hy, hyg, hyn, hb⟩
  clear hc
  have sz3 := Lib.hid hb.size
  replace hx := hx.below hb
  replace h1 := h1.below hb
  replace h2 := h2.below hb
  replace bg := bg.below hb
  replace hB := hB.trans (hb.mono hB.size)
  clear hb
  have rgY := Lib.hid hy.rng
  have vy : y.v = .slice y.A y.n y.c := rfl
  have Vy := Lib.hid vy
  rw [vy]
  have HYG := Lib.hid hyg
  have HYN := Lib.hid hyn
  clear vy hyg hyn
  have eg0 := bg.c0
  have eg1 := bg.c1
  have hc := twin_ls u1 v3 h1 (by omega)
  rw [V1.out] at hc
  go_wp2_with fail
  clear eg0 eg1
  refine hc.mono ?_
  rintro e v4 ⟨t, rfl, ht, htz, htn, hb⟩
  clear hc
  have sz4 := Lib.hid hb.size
  replace hx := hx.below hb
  replace h1 := h1.below hb
  replace h2 := h2.below hb
  replace hy := hy.below hb
  replace bg := bg.below hb
  replace hB := hB.trans (hb.mono hB.size)
  clear hb
  have rgT : Hid (∀ g, Blk t g → g < v4.heap.size) := Lib.hid (fun g hg => (ht.blk hg).2)
  have vt : t.v = .slice t.A t.n t.c := rfl
  have Vt := Lib.hid vt
  rw [vt]
  have HTZ := Lib.hid htz
  have HTN := Lib.hid htn
  clear vt htz htn
  have eg0 := bg.c0
  have eg1 := bg.c1
  have hc := twin_ls u2 v4 h2 (by omega)
  rw [V2.out] at hc
  go_wp2_with fail
  clear eg0 eg1
  refine hc.mono ?_
  rintro e v5 ⟨s, rfl, hs, hsz, hsn, hb⟩
  clear hc
  have sz5 := Lib.hid hb.size
  replace hx := hx.below hb
  replace h1 := h1.below hb
  replace h2 := h2.below hb
  replace hy := hy.below hb
  replace ht := ht.below hb
  replace bg := bg.below hb
  replace hB := hB.trans (hb.mono hB.size)
  clear hb
  have rgS : Hid (∀ g, Blk s g → g < v5.heap.size) := Lib.hid (fun g hg => (hs.blk hg).2)
  have vs : s.v = .slice s.A s.n s.c := rfl
  have Vs := Lib.hid vs
  rw [vs]
  have HSZ := Lib.hid hsz
  have HSN := Lib.hid hsn
  clear vs hsz hsn
  have eg0 := bg.c0
  have eg1 := bg.c1
  have hc := gturnedC y m v5 hy.ok hm1 hm2
  rw [Vy.out, HYG.out, HE.out, HT.out] at hc
  go_wp2_with fail
  clear eg0 eg1
  refine hc.mono ?_
  rintro e v6 ⟨A1, n1, c1, rfl, ta, hta, hqa, hb⟩
  clear hc
  have sz6 := Lib.hid hb.size
  replace hx := hx.below hb
  replace h1 := h1.below hb
  replace h2 := h2.below hb
  replace hy := hy.below hb
  replace ht := ht.below hb
  replace hs := hs.below hb
  replace bg := bg.below hb
  replace hB := hB.trans (hb.mono hB.size)
  clear hb
  have rgA := Lib.hid hta.rng
  have HQA := Lib.hid hqa
  clear hqa
  have eg0 := bg.c0
  have eg1 := bg.c1
  have hc := rturnedG x m v6 hx hm1 hm2
  rw [Vx.out, HE.out, HT.out] at hc
  go_wp2_with fail
  clear eg0 eg1
  refine hc.mono ?_
  rintro e v7 ⟨A2, n2, c2, rfl, tb, htb, hqb, hb⟩
  clear hc
  have sz7 := Lib.hid hb.size
  replace hx := hx.below hb
  replace h1 := h1.below hb
  replace h2 := h2.below hb
  replace hy := hy.below hb
  replace ht := ht.below hb
  replace hs := hs.below hb
  replace hta := hta.below hb
  replace bg := bg.below hb
  replace hB := hB.trans (hb.mono hB.size)
  clear hb
  have HQB := Lib.hid hqb
  clear hqb
  have eg0 := bg.c0
  have eg1 := bg.c1
  have hc := gnearC y m s v7 hy.ok hs.ok hm1 hm2
  rw [Vy.out, Vs.out, HYG.out, HSZ.out, HNE.out, HN.out] at hc
  go_wp2_with fail
  clear eg0 eg1
  refine hc.mono ?_
  rintro e v8 ⟨A3, n3, c3, rfl, hc3, hb⟩
  clear hc
  have sz8 := Lib.hid hb.size
  replace hx := hx.below hb
  replace h1 := h1.below hb
  replace h2 := h2.below hb
  replace hy := hy.below hb
  replace ht := ht.below hb
  replace hs := hs.below hb
  replace hta := hta.below hb
  replace htb := htb.below hb
  replace bg := bg.below hb
  replace hB := hB.trans (hb.mono hB.size)
  clear hb
  have rgC : Hid (∀ g, Blk ⟨A3, n3, c3, N⟩ g → g < v8.heap.size) := Lib.hid (fun g hg => (hc3.blk hg).2)
  have hn3 : n3 = N.length := hc3.len.symm
  subst hn3
  have eg0 := bg.c0
  have eg1 := bg.c1
  have hc := rnearG x m u2 v8 hx h2 hm1 hm2
  rw [Vx.out, V2.out, HNE.out, HN.out] at hc
  go_wp2_with fail
  clear eg0 eg1
  refine hc.mono ?_
  rintro e v9 ⟨A4, n4, c4, rfl, hd4, hb⟩
  clear hc
  have sz9 := Lib.hid hb.size
  replace hx := hx.below hb
  replace h1 := h1.below hb
  replace h2 := h2.below hb
  replace hy := hy.below hb
  replace ht := ht.below hb
  replace hs := hs.below hb
  replace hta := hta.below hb
  replace htb := htb.below hb
  replace hc3 := hc3.below hb
  replace bg := bg.below hb
  replace hB := hB.trans (hb.mono hB.size)
  clear hb
  have hn4 : n4 = N.length := hd4.len.symm
  subst hn4
  have hS : ∀ w', Below v9.heap.size v9 w' → w'.cell? ⟨w.heap.size, 0, none⟩ = some (.slice x.A x.n x.c) ∧ w'.cell? ⟨w.heap.size, 1, none⟩ = some (.int .i64 m) := fun w' hb => ⟨(bg.below hb).c0, (bg.below hb).c1⟩
  go_wp2_with fail
  refine wp_region_ord (S := fun w' => w'.cell? ⟨w.heap.size, 0, none⟩ = some (.slice x.A x.n x.c) ∧ w'.cell? ⟨w.heap.size, 1, none⟩ = some (.int .i64 m)) [(0, true), (1, true), (2, true), (4, true), (5, true), (6, true), (7, true), (3, false), (8, false), (9, true), (10, true), (11, true), (12, true), (13, true), (14, true), (15, true), (16, true), (17, true), (18, true), (19, true), (20, true), (21, true), (22, true), (23, false), (24, true), (25, true), (26, true), (27, true), (28, true), (29, false), (30, true), (31, true), (32, true), (33, true), (34, true), (35, true), (36, true), (38, true), (39, true), (40, true), (41, true), (42, true), (37, false), (43, false), (44, true), (45, true), (46, true), (47, true), (49, true), (48, false), (50, false), (51, true), (52, true), (53, true), (54, true), (55, true), (56, true), (57, false), (58, true), (59, true), (60, true), (61, true), (62, true), (63, false), (64, true), (65, true), (66, true), (67, true), (68, true), (69, false), (70, true), (71, true)] default (by kernel_rfl) (by kernel_rfl) (by kernel_rfl) (hS _ ((Below.refl _ v9).drew)) ?_
  simp only [List.append_eq, List.cons_append, List.nil_append, getOrd, nth]
  obtain ⟨r0, hu0⟩ : ∃ r0, r0 = v9.drew := ⟨_, rfl⟩
  have b0 : Below v9.heap.size v9 r0 := by rw [hu0]; exact (Below.refl _ v9).drew
  rw [← hu0]
  clear hu0
  repeat (first | (refine ordS (by rfl) ?_; simp only [Act.put, List.setIfInBounds_toArray, List.set_cons_zero, List.set_cons_succ]) | (refine ordN (by rfl) ?_; simp only [Act.put, List.setIfInBounds_toArray, List.set_cons_zero, List.set_cons_succ]) | (refine ordQ (v := ?_) (by rfl) (fun _ hSw => ?_) ?_; rotate_left; (focus ((have hS1 := hSw.1); (have hS2 := hSw.2); clear hSw; go_simp; (first | done | with_reducible rfl))); simp only [Act.put, List.setIfInBounds_toArray, List.set_cons_zero, List.set_cons_succ]))
  refine ordD (by rfl) ?_
  intro K hK
  go_simp
  have hc := gcheckC y m r0 (hy.ok.below b0) hm1 hm2
  rw [Vy.out, HYG.out, HCk.out] at hc
  refine hc.mono ?_
  rintro e r1 ⟨rfl, hb⟩
  have b1 : Below v9.heap.size v9 r1 := b0.trans (hb.mono b0.size)
  go_wp2_with fail
  refine hK _ _ (hS _ b1) ?_
  clear hK K hc hb
  try simp only [Act.put, List.setIfInBounds_toArray, List.set_cons_zero, List.set_cons_succ]
  repeat (first | (refine ordS (by rfl) ?_; simp only [Act.put, List.setIfInBounds_toArray, List.set_cons_zero, List.set_cons_succ]) | (refine ordN (by rfl) ?_; simp only [Act.put, List.setIfInBounds_toArray, List.set_cons_zero, List.set_cons_succ]) | (refine ordQ (v := ?_) (by rfl) (fun _ hSw => ?_) ?_; rotate_left; (focus ((have hS1 := hSw.1); (have hS2 := hSw.2); clear hSw; go_simp; (first | done | with_reducible rfl))); simp only [Act.put, List.setIfInBounds_toArray, List.set_cons_zero, List.set_cons_succ]))
  refine ordD (by rfl) ?_
  intro K hK
  go_simp
  have hc := rcheckG x m r1 (hx.below b1) hm1 hm2
  rw [Vx.out, HCk.out] at hc
  refine hc.mono ?_
  rintro e r2 ⟨rfl, hb⟩
  have b2 : Below v9.heap.size v9 r2 := b1.trans (hb.mono b1.size)
  go_wp2_with fail
  refine hK _ _ (hS _ b2) ?_
  clear hK K hc hb
  try simp only [Act.put, List.setIfInBounds_toArray, List.set_cons_zero, List.set_cons_succ]
  repeat (first | (refine ordS (by rfl) ?_; simp only [Act.put, List.setIfInBounds_toArray, List.set_cons_zero, List.set_cons_succ]) | (refine ordN (by rfl) ?_; simp only [Act.put, List.setIfInBounds_toArray, List.set_cons_zero, List.set_cons_succ]) | (refine ordQ (v := ?_) (by rfl) (fun _ hSw => ?_) ?_; rotate_left; (focus ((have hS1 := hSw.1); (have hS2 := hSw.2); clear hSw; go_simp; (first | done | with_reducible rfl))); simp only [Act.put, List.setIfInBounds_toArray, List.set_cons_zero, List.set_cons_succ]))
  refine ordD (by rfl) ?_
  intro K hK
  go_simp
  have hc := sameintlists_b ⟨A1, n1, c1, ta⟩ ⟨A2, n2, c2, tb⟩ r2 (hta.gr.below b2) (htb.gr.below b2)
  rw [show (Gr.g ⟨A1, n1, c1, ta⟩ == Gr.g ⟨A2, n2, c2, tb⟩) = true by rw [show Gr.g ⟨A1, n1, c1, ta⟩ = Ls.all ta from rfl, show Gr.g ⟨A2, n2, c2, tb⟩ = Ls.all tb from rfl, HQA.out, HQB.out]; simp] at hc
  refine hc.mono ?_
  rintro e r3 ⟨rfl, hb⟩
  have b3 : Below v9.heap.size v9 r3 := b2.trans (hb.mono b2.size)
  go_wp2_with fail
  refine hK _ _ (hS _ b3) ?_
  clear hK K hc hb
  try simp only [Act.put, List.setIfInBounds_toArray, List.set_cons_zero, List.set_cons_succ]
  repeat (first | (refine ordS (by rfl) ?_; simp only [Act.put, List.setIfInBounds_toArray, List.set_cons_zero, List.set_cons_succ]) | (refine ordN (by rfl) ?_; simp only [Act.put, List.setIfInBounds_toArray, List.set_cons_zero, List.set_cons_succ]) | (refine ordQ (v := ?_) (by rfl) (fun _ hSw => ?_) ?_; rotate_left; (focus ((have hS1 := hSw.1); (have hS2 := hSw.2); clear hSw; go_simp; (first | done | with_reducible rfl))); simp only [Act.put, List.setIfInBounds_toArray, List.set_cons_zero, List.set_cons_succ]))
  refine ordD (by rfl) ?_
  intro K hK
  go_simp
  have hc := sameints_b ⟨A3, N.length, c3, N⟩ ⟨A4, N.length, c4, N⟩ r3 (hc3.ok.below b3) (hd4.ok.below b3)
  rw [show (N == N) = true by simp] at hc
  refine hc.mono ?_
  rintro e r4 ⟨rfl, hb⟩
  have b4 : Below v9.heap.size v9 r4 := b3.trans (hb.mono b3.size)
  go_wp2_with fail
  refine hK _ _ (hS _ b4) ?_
  clear hK K hc hb
  try simp only [Act.put, List.setIfInBounds_toArray, List.set_cons_zero, List.set_cons_succ]
  repeat (first | (refine ordS (by rfl) ?_; simp only [Act.put, List.setIfInBounds_toArray, List.set_cons_zero, List.set_cons_succ]) | (refine ordN (by rfl) ?_; simp only [Act.put, List.setIfInBounds_toArray, List.set_cons_zero, List.set_cons_succ]) | (refine ordQ (v := ?_) (by rfl) (fun _ hSw => ?_) ?_; rotate_left; (focus ((have hS1 := hSw.1); (have hS2 := hSw.2); clear hSw; go_simp; (first | done | with_reducible rfl))); simp only [Act.put, List.setIfInBounds_toArray, List.set_cons_zero, List.set_cons_succ]))
  refine ordD (by rfl) ?_
  intro K hK
  go_simp
  have hc := gfitsC y m t r4 (hy.ok.below b4) (ht.ok.below b4) hm1 hm2
  rw [Vy.out, Vt.out, HYG.out, HTZ.out, HFi.out] at hc
  refine hc.mono ?_
  rintro e r5 ⟨rfl, hb⟩
  have b5 : Below v9.heap.size v9 r5 := b4.trans (hb.mono b4.size)
  go_wp2_with fail
  refine hK _ _ (hS _ b5) ?_
  clear hK K hc hb
  try simp only [Act.put, List.setIfInBounds_toArray, List.set_cons_zero, List.set_cons_succ]
  repeat (first | (refine ordS (by rfl) ?_; simp only [Act.put, List.setIfInBounds_toArray, List.set_cons_zero, List.set_cons_succ]) | (refine ordN (by rfl) ?_; simp only [Act.put, List.setIfInBounds_toArray, List.set_cons_zero, List.set_cons_succ]) | (refine ordQ (v := ?_) (by rfl) (fun _ hSw => ?_) ?_; rotate_left; (focus ((have hS1 := hSw.1); (have hS2 := hSw.2); clear hSw; go_simp; (first | done | with_reducible rfl))); simp only [Act.put, List.setIfInBounds_toArray, List.set_cons_zero, List.set_cons_succ]))
  refine ordD (by rfl) ?_
  intro K hK
  go_simp
  have hc := rfitsG x m u1 r5 (hx.below b5) (h1.below b5) hm1 hm2
  rw [Vx.out, V1.out, HFi.out] at hc
  refine hc.mono ?_
  rintro e r6 ⟨rfl, hb⟩
  have b6 : Below v9.heap.size v9 r6 := b5.trans (hb.mono b5.size)
  go_wp2_with fail
  refine hK _ _ (hS _ b6) ?_
  clear hK K hc hb
  try simp only [Act.put, List.setIfInBounds_toArray, List.set_cons_zero, List.set_cons_succ]
  repeat (first | (refine ordS (by rfl) ?_; simp only [Act.put, List.setIfInBounds_toArray, List.set_cons_zero, List.set_cons_succ]) | (refine ordN (by rfl) ?_; simp only [Act.put, List.setIfInBounds_toArray, List.set_cons_zero, List.set_cons_succ]) | (refine ordQ (v := ?_) (by rfl) (fun _ hSw => ?_) ?_; rotate_left; (focus ((have hS1 := hSw.1); (have hS2 := hSw.2); clear hSw; go_simp; (first | done | with_reducible rfl))); simp only [Act.put, List.setIfInBounds_toArray, List.set_cons_zero, List.set_cons_succ]))
  refine ordD (by rfl) ?_
  intro K hK
  go_simp
  have hc := gmanyC t r6 (ht.ok.below b6)
  rw [Vt.out, HTZ.out, HMa.out] at hc
  refine hc.mono ?_
  rintro e r7 ⟨rfl, hb⟩
  have b7 : Below v9.heap.size v9 r7 := b6.trans (hb.mono b6.size)
  go_wp2_with fail
  refine hK _ _ (hS _ b7) ?_
  clear hK K hc hb
  try simp only [Act.put, List.setIfInBounds_toArray, List.set_cons_zero, List.set_cons_succ]
  repeat (first | (refine ordS (by rfl) ?_; simp only [Act.put, List.setIfInBounds_toArray, List.set_cons_zero, List.set_cons_succ]) | (refine ordN (by rfl) ?_; simp only [Act.put, List.setIfInBounds_toArray, List.set_cons_zero, List.set_cons_succ]) | (refine ordQ (v := ?_) (by rfl) (fun _ hSw => ?_) ?_; rotate_left; (focus ((have hS1 := hSw.1); (have hS2 := hSw.2); clear hSw; go_simp; (first | done | with_reducible rfl))); simp only [Act.put, List.setIfInBounds_toArray, List.set_cons_zero, List.set_cons_succ]))
  refine ordD (by rfl) ?_
  intro K hK
  go_simp
  have hc := rmanyG u1 r7 (h1.below b7)
  rw [V1.out, HMa.out] at hc
  refine hc.mono ?_
  rintro e r8 ⟨rfl, hb⟩
  have b8 : Below v9.heap.size v9 r8 := b7.trans (hb.mono b7.size)
  go_wp2_with fail
  refine hK _ _ (hS _ b8) ?_
  clear hK K hc hb
  try simp only [Act.put, List.setIfInBounds_toArray, List.set_cons_zero, List.set_cons_succ]
  repeat (first | (refine ordS (by rfl) ?_; simp only [Act.put, List.setIfInBounds_toArray, List.set_cons_zero, List.set_cons_succ]) | (refine ordN (by rfl) ?_; simp only [Act.put, List.setIfInBounds_toArray, List.set_cons_zero, List.set_cons_succ]) | (refine ordQ (v := ?_) (by rfl) (fun _ hSw => ?_) ?_; rotate_left; (focus ((have hS1 := hSw.1); (have hS2 := hSw.2); clear hSw; go_simp; (first | done | with_reducible rfl))); simp only [Act.put, List.setIfInBounds_toArray, List.set_cons_zero, List.set_cons_succ]))
  refine ordD (by rfl) ?_
  intro K hK
  go_simp
  have hc := left_gr y x r8 _ (hy.below b8) (hx.below b8) HYG.out HYN.out (by omega) H9.out
  rw [Vy.out, Vx.out] at hc
  refine hc.mono ?_
  rintro e r9 ⟨rfl, hb⟩
  have b9 : Below v9.heap.size v9 r9 := b8.trans (hb.mono b8.size)
  go_wp2_with fail
  refine hK _ _ (hS _ b9) ?_
  clear hK K hc hb
  try simp only [Act.put, List.setIfInBounds_toArray, List.set_cons_zero, List.set_cons_succ]
  repeat (first | (refine ordS (by rfl) ?_; simp only [Act.put, List.setIfInBounds_toArray, List.set_cons_zero, List.set_cons_succ]) | (refine ordN (by rfl) ?_; simp only [Act.put, List.setIfInBounds_toArray, List.set_cons_zero, List.set_cons_succ]) | (refine ordQ (v := ?_) (by rfl) (fun _ hSw => ?_) ?_; rotate_left; (focus ((have hS1 := hSw.1); (have hS2 := hSw.2); clear hSw; go_simp; (first | done | with_reducible rfl))); simp only [Act.put, List.setIfInBounds_toArray, List.set_cons_zero, List.set_cons_succ]))
  refine ordD (by rfl) ?_
  intro K hK
  go_simp
  have hc := left_ls t u1 r9 _ (ht.below b9) (h1.below b9) HTZ.out HTN.out (by omega)
  rw [Vt.out, V1.out] at hc
  refine hc.mono ?_
  rintro e r10 ⟨rfl, hb⟩
  have b10 : Below v9.heap.size v9 r10 := b9.trans (hb.mono b9.size)
  go_wp2_with fail
  refine hK _ _ (hS _ b10) ?_
  clear hK K hc hb
  try simp only [Act.put, List.setIfInBounds_toArray, List.set_cons_zero, List.set_cons_succ]
  repeat (first | (refine ordS (by rfl) ?_; simp only [Act.put, List.setIfInBounds_toArray, List.set_cons_zero, List.set_cons_succ]) | (refine ordN (by rfl) ?_; simp only [Act.put, List.setIfInBounds_toArray, List.set_cons_zero, List.set_cons_succ]) | (refine ordQ (v := ?_) (by rfl) (fun _ hSw => ?_) ?_; rotate_left; (focus ((have hS1 := hSw.1); (have hS2 := hSw.2); clear hSw; go_simp; (first | done | with_reducible rfl))); simp only [Act.put, List.setIfInBounds_toArray, List.set_cons_zero, List.set_cons_succ]))
  refine ordD (by rfl) ?_
  intro K hK
  go_simp
  have hc := left_ls s u2 r10 _ (hs.below b10) (h2.below b10) HSZ.out HSN.out (by omega)
  rw [Vs.out, V2.out] at hc
  refine hc.mono ?_
  rintro e r11 ⟨rfl, hb⟩
  have b11 : Below v9.heap.size v9 r11 := b10.trans (hb.mono b10.size)
  go_wp2_with fail
  refine hK _ _ (hS _ b11) ?_
  clear hK K hc hb
  try simp only [Act.put, List.setIfInBounds_toArray, List.set_cons_zero, List.set_cons_succ]
  repeat (first | (refine ordS (by rfl) ?_; simp only [Act.put, List.setIfInBounds_toArray, List.set_cons_zero, List.set_cons_succ]) | (refine ordN (by rfl) ?_; simp only [Act.put, List.setIfInBounds_toArray, List.set_cons_zero, List.set_cons_succ]) | (refine ordQ (v := ?_) (by rfl) (fun _ hSw => ?_) ?_; rotate_left; (focus ((have hS1 := hSw.1); (have hS2 := hSw.2); clear hSw; go_simp; (first | done | with_reducible rfl))); simp only [Act.put, List.setIfInBounds_toArray, List.set_cons_zero, List.set_cons_succ]))
  refine ordE ?_
  have szR := Lib.hid b11.size
  have hx := hx.below b11
  have hy := hy.below b11
  have ht := ht.below b11
  have hs := hs.below b11
  have hta := hta.below b11
  have hc3 := hc3.below b11
  have hB := hB.trans (b11.mono hB.size)
  clear hS b0 b1 b2 b3 b4 b5 b6 b7 b8 b9 b10 b11
  obtain ⟨hn1, hn1u⟩ := turned_small hta (HQA.out.trans HT.out.symm)
  have HN1 := Lib.hid hn1u
  have hyn3 : y.n ≤ 3000 := by rw [HYN.out]; exact hxn
  have htn3 : t.n ≤ 300 := by rw [HTN.out]; omega
  have hsn3 : s.n ≤ 300 := by rw [HSN.out]; omega
  have YSM := Lib.hid (twin_small HYG.out hy.ok hx H9.out)
  have hk0 := Bkn.new 49 tHs r11
  have hbk : Below r11.heap.size r11 (r11.alloc (.cells #[.int .i64 0, .slice none 0 0, .slice none 0 0, .slice none 0 0, .slice none 0 0, .slice none 0 0, .slice none 0 0, .slice none 0 0, .slice none 0 0, .slice none 0 0] 49)) := (Below.refl _ r11).alloc (Nat.le_refl _) _
  clear hx h1 h2 htb hd4 bg hn1u
  go_wp2_with fail
  generalize r11.alloc (.cells #[.int .i64 0, .slice none 0 0, .slice none 0 0, .slice none 0 0, .slice none 0 0, .slice none 0 0, .slice none 0 0, .slice none 0 0, .slice none 0 0, .slice none 0 0] 49) = s0 at hk0 hbk ⊢
  obtain ⟨kb, hkb⟩ : ∃ kb, kb = r11.heap.size := ⟨_, rfl⟩
  rw [← hkb] at hk0 hbk ⊢
  have HKB := Lib.hid hkb
  clear hkb
  have hyK : ∀ w', Below kb r11 w' → TwnL w' v2.heap.size y := fun w' h => hy.below (HKB.out ▸ h)
  have htK : ∀ w', Below kb r11 w' → Twn w' v3.heap.size t := fun w' h => ht.below (HKB.out ▸ h)
  have hsK : ∀ w', Below kb r11 w' → Twn w' v4.heap.size s := fun w' h => hs.below (HKB.out ▸ h)
  have haK : ∀ w', Below kb r11 w' → Outs w' v5.heap.size A1 n1 c1 ta := fun w' h => hta.below (HKB.out ▸ h)
  have hcK : ∀ w', Below kb r11 w' → OwnI w' v7.heap.size ⟨A3, N.length, c3, N⟩ := fun w' h => hc3.below (HKB.out ▸ h)
  have hyA : ∀ p q, 0 < y.n → y.A = some ⟨p, q, none⟩ → p < kb := fun p q h0 hA => by
    obtain ⟨g, h1, _, h2⟩ := hy.lists.lt (by have := hy.lists.le; omega)
    rw [h1] at hA; cases hA; rw [HKB.out]; exact h2
  have haA : ∀ p q, 0 < n1 → A1 = some ⟨p, q, none⟩ → p < kb := fun p q h0 hA => by
    obtain ⟨g, h1, _, h2⟩ := hta.own.lt (by have := hta.own.le; omega)
    rw [h1] at hA; cases hA; rw [HKB.out]; exact h2
  have hyl : y.t.length = y.n := hy.ok.len
  have hal : ta.length = n1 := hta.len
  clear hy ht hs hta hc3
  refine (toldIntLists kb 0 noTabs noLists y.A y.n y.c y.t s0 hk0 (outs_at (hyK _ hbk).lists) hyA (by unfold maxLen; omega) (by omega) (by show 0 + _ ≤ _; omega) (by show 0 ≤ _; omega)).mono ?_
  rintro e s1 ⟨rfl, T1', st1, hk1, hb1, _⟩
  have hK1 := hbk.trans hb1
  go_wp2_with fail
  refine (toldInts kb _ T1' _ t s1 hk1 (by omega) (by show ([] ++ told 0 y.t).length ≤ _; rw [List.nil_append, told_len]; omega)).mono ?_
  rintro e s2 ⟨rfl, T2', st2, hk2, hb2, _⟩
  have hK2 := hK1.trans hb2
  rw [more_more] at hk2
  go_wp2_with fail
  refine (toldInts kb _ T2' _ s s2 hk2 (by omega) (by show ([] ++ (told 0 y.t ++ [_])).length ≤ _; rw [List.nil_append, List.length_append, told_len]; simp; omega)).mono ?_
  rintro e s3 ⟨rfl, T3', st3, hk3, hb3, _⟩
  have hK3 := hK2.trans hb3
  rw [more_more] at hk3
  go_wp2_with fail
  refine (toldIntLists kb _ T3' _ A1 n1 c1 ta s3 hk3 (outs_at (haK _ hK3).own) haA (by unfold maxLen; omega) (by omega) (by show ([] ++ (told 0 y.t ++ [_] ++ [_])).length + _ ≤ _; rw [List.nil_append, List.length_append, List.length_append, told_len]; simp; omega) (by show ([] ++ ([_] ++ [] ++ [])).length ≤ _; simp)).mono ?_
  rintro e s4 ⟨rfl, T4', st4, hk4, hb4, _⟩
  have hK4 := hK3.trans hb4
  rw [more_more] at hk4
  go_wp2_with fail
  refine (toldInts kb _ T4' _ ⟨A3, N.length, c3, N⟩ s4 hk4 (by omega) (by show ([] ++ (told 0 y.t ++ [_] ++ [_] ++ told _ ta)).length ≤ _; rw [List.nil_append, List.length_append, List.length_append, List.length_append, told_len, told_len]; simp; omega)).mono ?_
  rintro e s5 ⟨rfl, T5', st5, hk5, hb5, _⟩
  have hK5 := hK4.trans hb5
  rw [more_more] at hk5
  go_wp2_with fail
  have hps : Pcs s5 kb v2.heap.size [pcL y.A y.n y.c y.t 0, pcI t (0 + y.n + 1 + 1), pcI s (0 + y.n + 1 + 1 + 1), pcL A1 n1 c1 ta (0 + y.n + 1 + 1 + 1), pcI ⟨A3, N.length, c3, N⟩ (0 + y.n + 1 + 1 + 1 + n1 + 1 + 1)] := by
    have k1 := HKB.out
    have z1 := sz1.out
    have z2 := sz2.out
    have z3 := sz3.out
    have z4 := sz4.out
    have z5 := sz5.out
    have z6 := sz6.out
    have z7 := sz7.out
    have z8 := sz8.out
    have z9 := sz9.out
    have zR := szR.out
    exact .cons (pcL_twn (hyK _ hK5) (hi := v3.heap.size) (by omega) rgY.out (by omega) YSM.out) (lo2 := v3.heap.size) (by omega)
      (.cons (pcI_twn (htK _ hK5) (hi := v4.heap.size) (by omega) rgT.out (by omega) (by omega)) (lo2 := v4.heap.size) (by omega)
      (.cons (pcI_twn (hsK _ hK5) (hi := v5.heap.size) (by omega) rgS.out (by omega) (by omega)) (lo2 := v5.heap.size) (by omega)
      (.cons (pcL_outs (haK _ hK5) (hi := v6.heap.size) (by omega) rgA.out (by omega) (fun u hu => by have := HN1.out u hu; omega)) (lo2 := v7.heap.size) (by omega)
      (.cons (pcI_own (hcK _ hK5) (hi := v8.heap.size) (by omega) rgC.out (by omega) (by simp only; omega)) (lo2 := kb) (by omega) (.nil (Nat.le_refl _))))))
  refine (apart_pcs kb _ w.heap.size v2.heap.size T5' _ _ _ _ s5 hk5 ((((st1.trans st2).trans st3).trans st4).trans st5) ?eb ?ei ?el hps ?hB ?hl).mono ?_
  case eb => simp [PcsB, pcI, pcL]
  case ei => simp [PcsI, pcI, pcL]
  case el => simp [PcsL, pcI, pcL]
  case hB =>
    have z1 := sz1.out
    have z2 := sz2.out
    have z3 := sz3.out
    have z4 := sz4.out
    have z5 := sz5.out
    have z6 := sz6.out
    have z7 := sz7.out
    have z8 := sz8.out
    have z9 := sz9.out
    have zR := szR.out
    omega
  case hl =>
    have h1 : (told 0 y.t).length = y.n := by rw [told_len, hyl]
    simp only [List.length_append, List.length_cons, List.length_nil, told_len, hyl, hal]
    omega
  rintro e s6 ⟨rfl, hb6⟩
  have hBk := hB.trans (hK5.mono (by rw [HKB.out]; exact hB.size))
  go_wp2
  go_ret
  exact ⟨rfl, hBk.trans hb6⟩
end Go.Proofs.YtllnpghpbhikmaaDoor.graphsOf
