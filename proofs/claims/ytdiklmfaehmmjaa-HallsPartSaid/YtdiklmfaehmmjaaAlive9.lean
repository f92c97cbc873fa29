/-
  What all statements of layer 9 ask first: some answers that the document fixes.
-/
import Derived.Test.YtdiklmfaehmmjaaHaW
import Derived.Test.YtdiklmfaehmmjaaMaL
namespace Go.Proofs.Ytdiklmfaehmmjaa
open Go.RowKit
set_option linter.unusedVariables false

theorem lit_nil2 (w : World) (a : List Int) (ha : a.length ≤ 1000) (fa : ∀ z ∈ a, -1000 ≤ z ∧ z ≤ 1000) :
    ∃ x : Gr, x.v = .slice (some ⟨w.heap.size + 1, 0, none⟩) 2 2 ∧ x.g = [[], a] ∧ x.Ok ((w.alloc (.cells (ci64 a).toArray 3)).alloc (.cells #[.slice none 0 0, .slice (some ⟨w.heap.size, 0, none⟩) a.length a.length] 25)) ∧
      Below w.heap.size w ((w.alloc (.cells (ci64 a).toArray 3)).alloc (.cells #[.slice none 0 0, .slice (some ⟨w.heap.size, 0, none⟩) a.length a.length] 25)) := by
  have hz : ∀ (v : World) (o1 : Obj), (v.alloc o1).heap.size = v.heap.size + 1 := fun v o1 => Array.size_push ..
  have h1 := lit_ok w a ha fa
  have h4 := Own.lit (B := 0) (w.alloc (.cells (ci64 a).toArray 3)) 25 #[.slice none 0 0, .slice (some ⟨w.heap.size, 0, none⟩) a.length a.length] 2 (Nat.zero_le _) rfl (by unfold maxLen; omega)
  rw [hz] at h4
  refine ⟨⟨some ⟨w.heap.size + 1, 0, none⟩, 2, 2, [Ls.nil, ⟨some ⟨w.heap.size, 0, none⟩, a.length, a.length, a⟩]⟩, rfl, rfl, ⟨⟨outs_at (t := [Ls.nil, ⟨some ⟨w.heap.size, 0, none⟩, a.length, a.length, a⟩]) h4, ?_⟩, Nat.le_refl _, by simp only [maxLen]; omega⟩, ((Below.refl _ w).alloc (Nat.le_refl _) _).alloc (by rw [hz]; omega) _⟩
  intro u hu
  simp only [List.mem_cons, List.not_mem_nil, or_false] at hu
  rcases hu with rfl | rfl
  · exact (OwnI.nil _ 0).ok
  · exact h1.ok.below (lit_below _ _)
theorem lit_nil2_ls (w : World) (a d : List Int) (ha : a.length ≤ 1000) (fa : ∀ z ∈ a, -1000 ≤ z ∧ z ≤ 1000) (hd : d.length ≤ 1000) (fd : ∀ z ∈ d, -1000 ≤ z ∧ z ≤ 1000) :
    ∃ (x : Gr) (u : Ls), x.v = .slice (some ⟨w.heap.size + 1, 0, none⟩) 2 2 ∧ x.g = [[], a] ∧ u.v = .slice (some ⟨w.heap.size + 1 + 1, 0, none⟩) d.length d.length ∧ u.zs = d ∧ x.Ok (((w.alloc (.cells (ci64 a).toArray 3)).alloc (.cells #[.slice none 0 0, .slice (some ⟨w.heap.size, 0, none⟩) a.length a.length] 25)).alloc (.cells (ci64 d).toArray 3)) ∧
      u.Ok (((w.alloc (.cells (ci64 a).toArray 3)).alloc (.cells #[.slice none 0 0, .slice (some ⟨w.heap.size, 0, none⟩) a.length a.length] 25)).alloc (.cells (ci64 d).toArray 3)) ∧
      Below w.heap.size w (((w.alloc (.cells (ci64 a).toArray 3)).alloc (.cells #[.slice none 0 0, .slice (some ⟨w.heap.size, 0, none⟩) a.length a.length] 25)).alloc (.cells (ci64 d).toArray 3)) := by
  have hz : ∀ (v : World) (o1 : Obj), (v.alloc o1).heap.size = v.heap.size + 1 := fun v o1 => Array.size_push ..
  obtain ⟨x, h1, h2, h3, h4⟩ := lit_nil2 w a ha fa
  obtain ⟨u, k1, k2, k3, k4⟩ := lit_ls ((w.alloc (.cells (ci64 a).toArray 3)).alloc (.cells #[.slice none 0 0, .slice (some ⟨w.heap.size, 0, none⟩) a.length a.length] 25)) d hd fd
  refine ⟨x, u, h1, h2, ?_, k2, h3.below k4, k3, h4.trans (k4.mono h4.size)⟩
  rw [k1, hz, hz]
set_option maxRecDepth 100000 in
set_option maxHeartbeats 1000000 in
theorem alive9_any (w : World) : Calls Try.prog 11 #[] w fun e w' => e = .returned (.bool true) ∧ Below w.heap.size w w' := by
  have hB := Below.refl w.heap.size w
  go_enter Try.func11, Try.ntmps11
  obtain ⟨x, u, vx, zx, vu, zu, hx, hu, hbl⟩ : ∃ (x : Gr) (u : Ls), x.v = .slice (some ⟨w.heap.size + 1 + 1 + 1, 0, none⟩) 3 3 ∧ x.g = [[0], [0], [1]] ∧ u.v = .slice (some ⟨w.heap.size + 1 + 1 + 1 + 1, 0, none⟩) 3 3 ∧ u.zs = [0, 1, 2] ∧ x.Ok (((((w.alloc (.cells #[.int .i64 0] 3)).alloc (.cells #[.int .i64 0] 3)).alloc (.cells #[.int .i64 1] 3)).alloc (.cells #[.slice (some ⟨w.heap.size, 0, none⟩) 1 1, .slice (some ⟨w.heap.size + 1, 0, none⟩) 1 1, .slice (some ⟨w.heap.size + 1 + 1, 0, none⟩) 1 1] 25)).alloc (.cells #[.int .i64 0, .int .i64 1, .int .i64 2] 3)) ∧ u.Ok (((((w.alloc (.cells #[.int .i64 0] 3)).alloc (.cells #[.int .i64 0] 3)).alloc (.cells #[.int .i64 1] 3)).alloc (.cells #[.slice (some ⟨w.heap.size, 0, none⟩) 1 1, .slice (some ⟨w.heap.size + 1, 0, none⟩) 1 1, .slice (some ⟨w.heap.size + 1 + 1, 0, none⟩) 1 1] 25)).alloc (.cells #[.int .i64 0, .int .i64 1, .int .i64 2] 3)) ∧ Below w.heap.size w (((((w.alloc (.cells #[.int .i64 0] 3)).alloc (.cells #[.int .i64 0] 3)).alloc (.cells #[.int .i64 1] 3)).alloc (.cells #[.slice (some ⟨w.heap.size, 0, none⟩) 1 1, .slice (some ⟨w.heap.size + 1, 0, none⟩) 1 1, .slice (some ⟨w.heap.size + 1 + 1, 0, none⟩) 1 1] 25)).alloc (.cells #[.int .i64 0, .int .i64 1, .int .i64 2] 3)) := lit_gr3_ls w [0] [0] [1] [0, 1, 2] (by decide) (by decide) (by decide) (by decide) (by decide) (by decide) (by decide) (by decide)
  have Vx := Lib.hid vx
  have Zx := Lib.hid zx
  clear vx zx
  have Vu := Lib.hid vu
  have Zu := Lib.hid zu
  clear vu zu
  replace hB := hB.trans (hbl.mono hB.size)
  clear hbl
  have hc := pfewC x 2 u (((((w.alloc (.cells #[.int .i64 0] 3)).alloc (.cells #[.int .i64 0] 3)).alloc (.cells #[.int .i64 1] 3)).alloc (.cells #[.slice (some ⟨w.heap.size, 0, none⟩) 1 1, .slice (some ⟨w.heap.size + 1, 0, none⟩) 1 1, .slice (some ⟨w.heap.size + 1 + 1, 0, none⟩) 1 1] 25)).alloc (.cells #[.int .i64 0, .int .i64 1, .int .i64 2] 3)) hx hu (by omega) (by omega)
  rw [Vx.out, Vu.out, show nearErr x.g 2 u.zs = 0 by rw [Zx.out, Zu.out]; decide, show fewF x.g 2 u.zs = true by rw [Zx.out, Zu.out]; decide, show fewE x.g 2 u.zs = [0] by rw [Zx.out, Zu.out]; decide] at hc
  go_wp2_with fail
  generalize ((((w.alloc (.cells #[.int .i64 0] 3)).alloc (.cells #[.int .i64 0] 3)).alloc (.cells #[.int .i64 1] 3)).alloc (.cells #[.slice (some ⟨w.heap.size, 0, none⟩) 1 1, .slice (some ⟨w.heap.size + 1, 0, none⟩) 1 1, .slice (some ⟨w.heap.size + 1 + 1, 0, none⟩) 1 1] 25)).alloc (.cells #[.int .i64 0, .int .i64 1, .int .i64 2] 3) = W1 at *
  refine hc.mono ?_
  rintro e v2 ⟨A1, n1, c1, rfl, h1, hb⟩
  clear hc
  replace hx := hx.below hb
  replace hu := hu.below hb
  replace hB := hB.trans (hb.mono hB.size)
  clear hb
  obtain ⟨s, vs, zs, hs, hbl⟩ : ∃ u : Ls, u.v = .slice (some ⟨v2.heap.size, 0, none⟩) 2 2 ∧ u.zs = [0, 2] ∧ u.Ok (v2.alloc (.cells #[.int .i64 0, .int .i64 2] 3)) ∧ Below v2.heap.size v2 (v2.alloc (.cells #[.int .i64 0, .int .i64 2] 3)) := lit_ls v2 [0, 2] (by decide) (by decide)
  have Vs := Lib.hid vs
  have Zs := Lib.hid zs
  clear vs zs
  replace hx := hx.below hbl
  replace hu := hu.below hbl
  replace h1 := h1.below hbl
  replace hB := hB.trans (hbl.mono hB.size)
  clear hbl
  have hc := pfewC x 2 s (v2.alloc (.cells #[.int .i64 0, .int .i64 2] 3)) hx hs (by omega) (by omega)
  rw [Vx.out, Vs.out, show nearErr x.g 2 s.zs = 0 by rw [Zx.out, Zs.out]; decide, show fewF x.g 2 s.zs = false by rw [Zx.out, Zs.out]; decide, show fewE x.g 2 s.zs = [] by rw [Zx.out, Zs.out]; decide] at hc
  go_wp2_with fail
  generalize v2.alloc (.cells #[.int .i64 0, .int .i64 2] 3) = W3 at *
  refine hc.mono ?_
  rintro e v4 ⟨A2, n2, c2, rfl, h2, hb⟩
  clear hc
  replace hx := hx.below hb
  replace hu := hu.below hb
  replace h1 := h1.below hb
  replace hs := hs.below hb
  replace hB := hB.trans (hb.mono hB.size)
  clear hb
  clear h2
  obtain ⟨y, t, vy, zy, vt, zt, hy, ht, hbl⟩ : ∃ (x : Gr) (u : Ls), x.v = .slice (some ⟨v4.heap.size + 1, 0, none⟩) 2 2 ∧ x.g = [[], [0]] ∧ u.v = .slice (some ⟨v4.heap.size + 1 + 1, 0, none⟩) 2 2 ∧ u.zs = [0, 1] ∧ x.Ok (((v4.alloc (.cells #[.int .i64 0] 3)).alloc (.cells #[.slice none 0 0, .slice (some ⟨v4.heap.size, 0, none⟩) 1 1] 25)).alloc (.cells #[.int .i64 0, .int .i64 1] 3)) ∧ u.Ok (((v4.alloc (.cells #[.int .i64 0] 3)).alloc (.cells #[.slice none 0 0, .slice (some ⟨v4.heap.size, 0, none⟩) 1 1] 25)).alloc (.cells #[.int .i64 0, .int .i64 1] 3)) ∧ Below v4.heap.size v4 (((v4.alloc (.cells #[.int .i64 0] 3)).alloc (.cells #[.slice none 0 0, .slice (some ⟨v4.heap.size, 0, none⟩) 1 1] 25)).alloc (.cells #[.int .i64 0, .int .i64 1] 3)) := lit_nil2_ls v4 [0] [0, 1] (by decide) (by decide) (by decide) (by decide)
  have Vy := Lib.hid vy
  have Zy := Lib.hid zy
  clear vy zy
  have Vt := Lib.hid vt
  have Zt := Lib.hid zt
  clear vt zt
  replace hx := hx.below hbl
  replace hu := hu.below hbl
  replace h1 := h1.below hbl
  replace hs := hs.below hbl
  replace hB := hB.trans (hbl.mono hB.size)
  clear hbl
  have hc := pfewC y 1 t (((v4.alloc (.cells #[.int .i64 0] 3)).alloc (.cells #[.slice none 0 0, .slice (some ⟨v4.heap.size, 0, none⟩) 1 1] 25)).alloc (.cells #[.int .i64 0, .int .i64 1] 3)) hy ht (by omega) (by omega)
  rw [Vy.out, Vt.out, show nearErr y.g 1 t.zs = 0 by rw [Zy.out, Zt.out]; decide, show fewF y.g 1 t.zs = true by rw [Zy.out, Zt.out]; decide, show fewE y.g 1 t.zs = [] by rw [Zy.out, Zt.out]; decide] at hc
  go_wp2_with fail
  generalize ((v4.alloc (.cells #[.int .i64 0] 3)).alloc (.cells #[.slice none 0 0, .slice (some ⟨v4.heap.size, 0, none⟩) 1 1] 25)).alloc (.cells #[.int .i64 0, .int .i64 1] 3) = W5 at *
  refine hc.mono ?_
  rintro e v6 ⟨A3, n3, c3, rfl, h3, hb⟩
  clear hc
  replace hx := hx.below hb
  replace hu := hu.below hb
  replace h1 := h1.below hb
  replace hs := hs.below hb
  replace hy := hy.below hb
  replace ht := ht.below hb
  replace hB := hB.trans (hb.mono hB.size)
  clear hb
  obtain ⟨z, v, vz, zz, vv, zv, hz, hv, hbl⟩ : ∃ (x : Gr) (u : Ls), x.v = .slice (some ⟨v6.heap.size + 1 + 1 + 1, 0, none⟩) 3 3 ∧ x.g = [[0, 1], [0, 1], [0, 1]] ∧ u.v = .slice (some ⟨v6.heap.size + 1 + 1 + 1 + 1, 0, none⟩) 3 3 ∧ u.zs = [0, 1, 2] ∧ x.Ok (((((v6.alloc (.cells #[.int .i64 0, .int .i64 1] 3)).alloc (.cells #[.int .i64 0, .int .i64 1] 3)).alloc (.cells #[.int .i64 0, .int .i64 1] 3)).alloc (.cells #[.slice (some ⟨v6.heap.size, 0, none⟩) 2 2, .slice (some ⟨v6.heap.size + 1, 0, none⟩) 2 2, .slice (some ⟨v6.heap.size + 1 + 1, 0, none⟩) 2 2] 25)).alloc (.cells #[.int .i64 0, .int .i64 1, .int .i64 2] 3)) ∧ u.Ok (((((v6.alloc (.cells #[.int .i64 0, .int .i64 1] 3)).alloc (.cells #[.int .i64 0, .int .i64 1] 3)).alloc (.cells #[.int .i64 0, .int .i64 1] 3)).alloc (.cells #[.slice (some ⟨v6.heap.size, 0, none⟩) 2 2, .slice (some ⟨v6.heap.size + 1, 0, none⟩) 2 2, .slice (some ⟨v6.heap.size + 1 + 1, 0, none⟩) 2 2] 25)).alloc (.cells #[.int .i64 0, .int .i64 1, .int .i64 2] 3)) ∧ Below v6.heap.size v6 (((((v6.alloc (.cells #[.int .i64 0, .int .i64 1] 3)).alloc (.cells #[.int .i64 0, .int .i64 1] 3)).alloc (.cells #[.int .i64 0, .int .i64 1] 3)).alloc (.cells #[.slice (some ⟨v6.heap.size, 0, none⟩) 2 2, .slice (some ⟨v6.heap.size + 1, 0, none⟩) 2 2, .slice (some ⟨v6.heap.size + 1 + 1, 0, none⟩) 2 2] 25)).alloc (.cells #[.int .i64 0, .int .i64 1, .int .i64 2] 3)) := lit_gr3_ls v6 [0, 1] [0, 1] [0, 1] [0, 1, 2] (by decide) (by decide) (by decide) (by decide) (by decide) (by decide) (by decide) (by decide)
  have Vz := Lib.hid vz
  have Zz := Lib.hid zz
  clear vz zz
  have Vv := Lib.hid vv
  have Zv := Lib.hid zv
  clear vv zv
  replace hx := hx.below hbl
  replace hu := hu.below hbl
  replace h1 := h1.below hbl
  replace hs := hs.below hbl
  replace hy := hy.below hbl
  replace ht := ht.below hbl
  replace h3 := h3.below hbl
  replace hB := hB.trans (hbl.mono hB.size)
  clear hbl
  have hc := pfewC z 2 v (((((v6.alloc (.cells #[.int .i64 0, .int .i64 1] 3)).alloc (.cells #[.int .i64 0, .int .i64 1] 3)).alloc (.cells #[.int .i64 0, .int .i64 1] 3)).alloc (.cells #[.slice (some ⟨v6.heap.size, 0, none⟩) 2 2, .slice (some ⟨v6.heap.size + 1, 0, none⟩) 2 2, .slice (some ⟨v6.heap.size + 1 + 1, 0, none⟩) 2 2] 25)).alloc (.cells #[.int .i64 0, .int .i64 1, .int .i64 2] 3)) hz hv (by omega) (by omega)
  rw [Vz.out, Vv.out, show nearErr z.g 2 v.zs = 0 by rw [Zz.out, Zv.out]; decide, show fewF z.g 2 v.zs = true by rw [Zz.out, Zv.out]; decide, show fewE z.g 2 v.zs = [0, 1] by rw [Zz.out, Zv.out]; decide] at hc
  go_wp2_with fail
  generalize ((((v6.alloc (.cells #[.int .i64 0, .int .i64 1] 3)).alloc (.cells #[.int .i64 0, .int .i64 1] 3)).alloc (.cells #[.int .i64 0, .int .i64 1] 3)).alloc (.cells #[.slice (some ⟨v6.heap.size, 0, none⟩) 2 2, .slice (some ⟨v6.heap.size + 1, 0, none⟩) 2 2, .slice (some ⟨v6.heap.size + 1 + 1, 0, none⟩) 2 2] 25)).alloc (.cells #[.int .i64 0, .int .i64 1, .int .i64 2] 3) = W7 at *
  refine hc.mono ?_
  rintro e v8 ⟨A4, n4, c4, rfl, h4, hb⟩
  clear hc
  replace hx := hx.below hb
  replace hu := hu.below hb
  replace h1 := h1.below hb
  replace hs := hs.below hb
  replace hy := hy.below hb
  replace ht := ht.below hb
  replace h3 := h3.below hb
  replace hz := hz.below hb
  replace hv := hv.below hb
  replace hB := hB.trans (hb.mono hB.size)
  clear hb
  obtain rfl : n3 = 0 := by have := h3.len; exact this.symm
  obtain ⟨q1, vq1, zq1, hq1, hbl⟩ : ∃ u : Ls, u.v = .slice (some ⟨v8.heap.size, 0, none⟩) 1 1 ∧ u.zs = [0] ∧ u.Ok (v8.alloc (.cells #[.int .i64 0] 3)) ∧ Below v8.heap.size v8 (v8.alloc (.cells #[.int .i64 0] 3)) := lit_ls v8 [0] (by decide) (by decide)
  have Vq1 := Lib.hid vq1
  have Zq1 := Lib.hid zq1
  clear vq1 zq1
  replace hx := hx.below hbl
  replace hu := hu.below hbl
  replace h1 := h1.below hbl
  replace hs := hs.below hbl
  replace hy := hy.below hbl
  replace ht := ht.below hbl
  replace h3 := h3.below hbl
  replace hz := hz.below hbl
  replace hv := hv.below hbl
  replace h4 := h4.below hbl
  replace hB := hB.trans (hbl.mono hB.size)
  clear hbl
  have hc := sameints_b ⟨A1, n1, c1, [0]⟩ q1 (v8.alloc (.cells #[.int .i64 0] 3)) h1.ok hq1
  rw [Vq1.out, show (([0] : List Int) == q1.zs) = true by rw [Zq1.out]; decide] at hc
  go_wp2_with fail
  generalize v8.alloc (.cells #[.int .i64 0] 3) = W9 at *
  refine hc.mono ?_
  rintro e v10 ⟨rfl, hb⟩
  clear hc
  replace hx := hx.below hb
  replace hu := hu.below hb
  replace h1 := h1.below hb
  replace hs := hs.below hb
  replace hy := hy.below hb
  replace ht := ht.below hb
  replace h3 := h3.below hb
  replace hz := hz.below hb
  replace hv := hv.below hb
  replace h4 := h4.below hb
  replace hq1 := hq1.below hb
  replace hB := hB.trans (hb.mono hB.size)
  clear hb
  obtain ⟨q2, vq2, zq2, hq2, hbl⟩ : ∃ u : Ls, u.v = .slice (some ⟨v10.heap.size, 0, none⟩) 2 2 ∧ u.zs = [0, 1] ∧ u.Ok (v10.alloc (.cells #[.int .i64 0, .int .i64 1] 3)) ∧ Below v10.heap.size v10 (v10.alloc (.cells #[.int .i64 0, .int .i64 1] 3)) := lit_ls v10 [0, 1] (by decide) (by decide)
  have Vq2 := Lib.hid vq2
  have Zq2 := Lib.hid zq2
  clear vq2 zq2
  replace hx := hx.below hbl
  replace hu := hu.below hbl
  replace h1 := h1.below hbl
  replace hs := hs.below hbl
  replace hy := hy.below hbl
  replace ht := ht.below hbl
  replace h3 := h3.below hbl
  replace hz := hz.below hbl
  replace hv := hv.below hbl
  replace h4 := h4.below hbl
  replace hq1 := hq1.below hbl
  replace hB := hB.trans (hbl.mono hB.size)
  clear hbl
  have hc := sameints_b ⟨A4, n4, c4, [0, 1]⟩ q2 (v10.alloc (.cells #[.int .i64 0, .int .i64 1] 3)) h4.ok hq2
  rw [Vq2.out, show (([0, 1] : List Int) == q2.zs) = true by rw [Zq2.out]; decide] at hc
  go_wp2_with fail
  generalize v10.alloc (.cells #[.int .i64 0, .int .i64 1] 3) = W11 at *
  refine hc.mono ?_
  rintro e v12 ⟨rfl, hb⟩
  clear hc
  replace hx := hx.below hb
  replace hu := hu.below hb
  replace h1 := h1.below hb
  replace hs := hs.below hb
  replace hy := hy.below hb
  replace ht := ht.below hb
  replace h3 := h3.below hb
  replace hz := hz.below hb
  replace hv := hv.below hb
  replace h4 := h4.below hb
  replace hq1 := hq1.below hb
  replace hq2 := hq2.below hb
  replace hB := hB.trans (hb.mono hB.size)
  clear hb
  go_wp2
  go_ret
  exact ⟨rfl, hB⟩
end Go.Proofs.Ytdiklmfaehmmjaa
