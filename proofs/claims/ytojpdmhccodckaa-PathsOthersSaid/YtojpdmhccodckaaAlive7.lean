/-
  What all statements of layer 7 ask first: some answers that the document fixes.
-/
import Derived.Test.YtojpdmhccodckaaPaW
import Derived.Test.YtojpdmhccodckaaPaL
namespace Go.Proofs.Ytojpdmhccodckaa
open Go.RowKit
set_option linter.unusedVariables false

set_option maxRecDepth 100000 in
set_option maxHeartbeats 4000000 in
theorem alive7_any (w : World) : Calls Try.prog 10 #[] w fun e w' => e = .returned (.bool true) ∧ Below w.heap.size w w' := by
  have hB := Below.refl w.heap.size w
  go_enter Try.func10, Try.ntmps10
  obtain ⟨x, u, vx, zx, vu, zu, hx, hu, hbl⟩ : ∃ (x : Gr) (u : Ls), x.v = .slice (some ⟨w.heap.size + 1 + 1, 0, none⟩) 2 2 ∧ x.g = [[0], [0, 1]] ∧ u.v = .slice (some ⟨w.heap.size + 1 + 1 + 1, 0, none⟩) 2 2 ∧ u.zs = [-1, 0] ∧ x.Ok ((((w.alloc (.cells #[.int .i64 0] 3)).alloc (.cells #[.int .i64 0, .int .i64 1] 3)).alloc (.cells #[.slice (some ⟨w.heap.size, 0, none⟩) 1 1, .slice (some ⟨w.heap.size + 1, 0, none⟩) 2 2] 25)).alloc (.cells #[.int .i64 (-1), .int .i64 0] 3)) ∧ u.Ok ((((w.alloc (.cells #[.int .i64 0] 3)).alloc (.cells #[.int .i64 0, .int .i64 1] 3)).alloc (.cells #[.slice (some ⟨w.heap.size, 0, none⟩) 1 1, .slice (some ⟨w.heap.size + 1, 0, none⟩) 2 2] 25)).alloc (.cells #[.int .i64 (-1), .int .i64 0] 3)) ∧ Below w.heap.size w ((((w.alloc (.cells #[.int .i64 0] 3)).alloc (.cells #[.int .i64 0, .int .i64 1] 3)).alloc (.cells #[.slice (some ⟨w.heap.size, 0, none⟩) 1 1, .slice (some ⟨w.heap.size + 1, 0, none⟩) 2 2] 25)).alloc (.cells #[.int .i64 (-1), .int .i64 0] 3)) := lit_gr_ls w [0] [0, 1] [-1, 0] (by decide) (by decide) (by decide) (by decide) (by decide) (by decide)
  have Vx := Lib.hid vx
  have Zx := Lib.hid zx
  clear vx zx
  have Vu := Lib.hid vu
  have Zu := Lib.hid zu
  clear vu zu
  replace hB := hB.trans (hbl.mono hB.size)
  clear hbl
  have hc := pmoreC x 2 u 0 ((((w.alloc (.cells #[.int .i64 0] 3)).alloc (.cells #[.int .i64 0, .int .i64 1] 3)).alloc (.cells #[.slice (some ⟨w.heap.size, 0, none⟩) 1 1, .slice (some ⟨w.heap.size + 1, 0, none⟩) 2 2] 25)).alloc (.cells #[.int .i64 (-1), .int .i64 0] 3)) hx hu (by omega) (by omega) (by omega) (by omega)
  rw [Vx.out, Vu.out, show moreB x.g 2 u.zs 0 = true by rw [Zx.out, Zu.out]; decide, show pathErr x.g 2 u.zs 0 = 0 by rw [Zx.out, Zu.out]; decide, show moreL x.g 2 u.zs 0 = [0, 1] by rw [Zx.out, Zu.out]; decide] at hc
  go_wp2_with fail
  generalize (((w.alloc (.cells #[.int .i64 0] 3)).alloc (.cells #[.int .i64 0, .int .i64 1] 3)).alloc (.cells #[.slice (some ⟨w.heap.size, 0, none⟩) 1 1, .slice (some ⟨w.heap.size + 1, 0, none⟩) 2 2] 25)).alloc (.cells #[.int .i64 (-1), .int .i64 0] 3) = W1 at *
  refine hc.mono ?_
  rintro e v2 ⟨A1, n1, c1, rfl, h1, hb⟩
  clear hc
  replace hx := hx.below hb
  replace hu := hu.below hb
  replace hB := hB.trans (hb.mono hB.size)
  clear hb
  obtain ⟨s, vs, zs, hs, hbl⟩ : ∃ u : Ls, u.v = .slice (some ⟨v2.heap.size, 0, none⟩) 2 2 ∧ u.zs = [0, -1] ∧ u.Ok (v2.alloc (.cells #[.int .i64 0, .int .i64 (-1)] 3)) ∧ Below v2.heap.size v2 (v2.alloc (.cells #[.int .i64 0, .int .i64 (-1)] 3)) := lit_ls v2 [0, -1] (by decide) (by decide)
  have Vs := Lib.hid vs
  have Zs := Lib.hid zs
  clear vs zs
  replace hx := hx.below hbl
  replace hu := hu.below hbl
  replace h1 := h1.below hbl
  replace hB := hB.trans (hbl.mono hB.size)
  clear hbl
  have hc := pmoreC x 2 s 1 (v2.alloc (.cells #[.int .i64 0, .int .i64 (-1)] 3)) hx hs (by omega) (by omega) (by omega) (by omega)
  rw [Vx.out, Vs.out, show moreB x.g 2 s.zs 1 = true by rw [Zx.out, Zs.out]; decide, show pathErr x.g 2 s.zs 1 = 0 by rw [Zx.out, Zs.out]; decide, show moreL x.g 2 s.zs 1 = [0, 1] by rw [Zx.out, Zs.out]; decide] at hc
  go_wp2_with fail
  generalize v2.alloc (.cells #[.int .i64 0, .int .i64 (-1)] 3) = W3 at *
  refine hc.mono ?_
  rintro e v4 ⟨A2, n2, c2, rfl, h2, hb⟩
  clear hc
  replace hx := hx.below hb
  replace hu := hu.below hb
  replace h1 := h1.below hb
  replace hs := hs.below hb
  replace hB := hB.trans (hb.mono hB.size)
  clear hb
  obtain ⟨y, t, vy, zy, vt, zt, hy, ht, hbl⟩ : ∃ (x : Gr) (u : Ls), x.v = .slice (some ⟨v4.heap.size + 1 + 1, 0, none⟩) 2 2 ∧ x.g = [[0], [0]] ∧ u.v = .slice (some ⟨v4.heap.size + 1 + 1 + 1, 0, none⟩) 2 2 ∧ u.zs = [0, -1] ∧ x.Ok ((((v4.alloc (.cells #[.int .i64 0] 3)).alloc (.cells #[.int .i64 0] 3)).alloc (.cells #[.slice (some ⟨v4.heap.size, 0, none⟩) 1 1, .slice (some ⟨v4.heap.size + 1, 0, none⟩) 1 1] 25)).alloc (.cells #[.int .i64 0, .int .i64 (-1)] 3)) ∧ u.Ok ((((v4.alloc (.cells #[.int .i64 0] 3)).alloc (.cells #[.int .i64 0] 3)).alloc (.cells #[.slice (some ⟨v4.heap.size, 0, none⟩) 1 1, .slice (some ⟨v4.heap.size + 1, 0, none⟩) 1 1] 25)).alloc (.cells #[.int .i64 0, .int .i64 (-1)] 3)) ∧ Below v4.heap.size v4 ((((v4.alloc (.cells #[.int .i64 0] 3)).alloc (.cells #[.int .i64 0] 3)).alloc (.cells #[.slice (some ⟨v4.heap.size, 0, none⟩) 1 1, .slice (some ⟨v4.heap.size + 1, 0, none⟩) 1 1] 25)).alloc (.cells #[.int .i64 0, .int .i64 (-1)] 3)) := lit_gr_ls v4 [0] [0] [0, -1] (by decide) (by decide) (by decide) (by decide) (by decide) (by decide)
  have Vy := Lib.hid vy
  have Zy := Lib.hid zy
  clear vy zy
  have Vt := Lib.hid vt
  have Zt := Lib.hid zt
  clear vt zt
  replace hx := hx.below hbl
  replace hu := hu.below hbl
  replace h1 := h1.below hbl
  replace hs := hs.below hbl
  replace h2 := h2.below hbl
  replace hB := hB.trans (hbl.mono hB.size)
  clear hbl
  have hc := pmoreC y 1 t 1 ((((v4.alloc (.cells #[.int .i64 0] 3)).alloc (.cells #[.int .i64 0] 3)).alloc (.cells #[.slice (some ⟨v4.heap.size, 0, none⟩) 1 1, .slice (some ⟨v4.heap.size + 1, 0, none⟩) 1 1] 25)).alloc (.cells #[.int .i64 0, .int .i64 (-1)] 3)) hy ht (by omega) (by omega) (by omega) (by omega)
  rw [Vy.out, Vt.out, show moreB y.g 1 t.zs 1 = false by rw [Zy.out, Zt.out]; decide, show pathErr y.g 1 t.zs 1 = 0 by rw [Zy.out, Zt.out]; decide, show moreL y.g 1 t.zs 1 = [] by rw [Zy.out, Zt.out]; decide] at hc
  go_wp2_with fail
  generalize (((v4.alloc (.cells #[.int .i64 0] 3)).alloc (.cells #[.int .i64 0] 3)).alloc (.cells #[.slice (some ⟨v4.heap.size, 0, none⟩) 1 1, .slice (some ⟨v4.heap.size + 1, 0, none⟩) 1 1] 25)).alloc (.cells #[.int .i64 0, .int .i64 (-1)] 3) = W5 at *
  refine hc.mono ?_
  rintro e v6 ⟨A3, n3, c3, rfl, h3, hb⟩
  clear hc
  replace hx := hx.below hb
  replace hu := hu.below hb
  replace h1 := h1.below hb
  replace hs := hs.below hb
  replace h2 := h2.below hb
  replace hy := hy.below hb
  replace ht := ht.below hb
  replace hB := hB.trans (hb.mono hB.size)
  clear hb
  obtain ⟨z, r, vz, zz, vr, zr, hz, hr, hbl⟩ : ∃ (x : Gr) (u : Ls), x.v = .slice (some ⟨v6.heap.size + 1 + 1, 0, none⟩) 2 2 ∧ x.g = [[0], [0]] ∧ u.v = .slice (some ⟨v6.heap.size + 1 + 1 + 1, 0, none⟩) 2 2 ∧ u.zs = [0, -1] ∧ x.Ok ((((v6.alloc (.cells #[.int .i64 0] 3)).alloc (.cells #[.int .i64 0] 3)).alloc (.cells #[.slice (some ⟨v6.heap.size, 0, none⟩) 1 1, .slice (some ⟨v6.heap.size + 1, 0, none⟩) 1 1] 25)).alloc (.cells #[.int .i64 0, .int .i64 (-1)] 3)) ∧ u.Ok ((((v6.alloc (.cells #[.int .i64 0] 3)).alloc (.cells #[.int .i64 0] 3)).alloc (.cells #[.slice (some ⟨v6.heap.size, 0, none⟩) 1 1, .slice (some ⟨v6.heap.size + 1, 0, none⟩) 1 1] 25)).alloc (.cells #[.int .i64 0, .int .i64 (-1)] 3)) ∧ Below v6.heap.size v6 ((((v6.alloc (.cells #[.int .i64 0] 3)).alloc (.cells #[.int .i64 0] 3)).alloc (.cells #[.slice (some ⟨v6.heap.size, 0, none⟩) 1 1, .slice (some ⟨v6.heap.size + 1, 0, none⟩) 1 1] 25)).alloc (.cells #[.int .i64 0, .int .i64 (-1)] 3)) := lit_gr_ls v6 [0] [0] [0, -1] (by decide) (by decide) (by decide) (by decide) (by decide) (by decide)
  have Vz := Lib.hid vz
  have Zz := Lib.hid zz
  clear vz zz
  have Vr := Lib.hid vr
  have Zr := Lib.hid zr
  clear vr zr
  replace hx := hx.below hbl
  replace hu := hu.below hbl
  replace h1 := h1.below hbl
  replace hs := hs.below hbl
  replace h2 := h2.below hbl
  replace hy := hy.below hbl
  replace ht := ht.below hbl
  replace h3 := h3.below hbl
  replace hB := hB.trans (hbl.mono hB.size)
  clear hbl
  have hc := preachC z 1 r 1 ((((v6.alloc (.cells #[.int .i64 0] 3)).alloc (.cells #[.int .i64 0] 3)).alloc (.cells #[.slice (some ⟨v6.heap.size, 0, none⟩) 1 1, .slice (some ⟨v6.heap.size + 1, 0, none⟩) 1 1] 25)).alloc (.cells #[.int .i64 0, .int .i64 (-1)] 3)) hz hr (by omega) (by omega) (by omega) (by omega)
  rw [Vz.out, Vr.out, show pathErr z.g 1 r.zs 1 = 0 by rw [Zz.out, Zr.out]; decide, show whoL z.g 1 r.zs 1 = [0, 1] by rw [Zz.out, Zr.out]; decide, show whatL z.g 1 r.zs 1 = [0] by rw [Zz.out, Zr.out]; decide] at hc
  go_wp2_with fail
  generalize (((v6.alloc (.cells #[.int .i64 0] 3)).alloc (.cells #[.int .i64 0] 3)).alloc (.cells #[.slice (some ⟨v6.heap.size, 0, none⟩) 1 1, .slice (some ⟨v6.heap.size + 1, 0, none⟩) 1 1] 25)).alloc (.cells #[.int .i64 0, .int .i64 (-1)] 3) = W7 at *
  refine hc.mono ?_
  rintro e v8 ⟨A4, n4, c4, A5, n5, c5, rfl, h4, h5, ha45, hb⟩
  clear hc
  replace hx := hx.below hb
  replace hu := hu.below hb
  replace h1 := h1.below hb
  replace hs := hs.below hb
  replace h2 := h2.below hb
  replace hy := hy.below hb
  replace ht := ht.below hb
  replace h3 := h3.below hb
  replace hz := hz.below hb
  replace hr := hr.below hb
  replace hB := hB.trans (hb.mono hB.size)
  clear hb
  obtain ⟨p, vp, zp, hp, hbl⟩ : ∃ u : Ls, u.v = .slice (some ⟨v8.heap.size, 0, none⟩) 2 2 ∧ u.zs = [0, -1] ∧ u.Ok (v8.alloc (.cells #[.int .i64 0, .int .i64 (-1)] 3)) ∧ Below v8.heap.size v8 (v8.alloc (.cells #[.int .i64 0, .int .i64 (-1)] 3)) := lit_ls v8 [0, -1] (by decide) (by decide)
  have Vp := Lib.hid vp
  have Zp := Lib.hid zp
  clear vp zp
  replace hx := hx.below hbl
  replace hu := hu.below hbl
  replace h1 := h1.below hbl
  replace hs := hs.below hbl
  replace h2 := h2.below hbl
  replace hy := hy.below hbl
  replace ht := ht.below hbl
  replace h3 := h3.below hbl
  replace hz := hz.below hbl
  replace hr := hr.below hbl
  replace h4 := h4.below hbl
  replace h5 := h5.below hbl
  replace hB := hB.trans (hbl.mono hB.size)
  clear hbl
  have hc := pmoreC x 2 p 0 (v8.alloc (.cells #[.int .i64 0, .int .i64 (-1)] 3)) hx hp (by omega) (by omega) (by omega) (by omega)
  rw [Vx.out, Vp.out, show moreB x.g 2 p.zs 0 = false by rw [Zx.out, Zp.out]; decide, show pathErr x.g 2 p.zs 0 = 1 by rw [Zx.out, Zp.out]; decide, show moreL x.g 2 p.zs 0 = [] by rw [Zx.out, Zp.out]; decide] at hc
  go_wp2_with fail
  generalize v8.alloc (.cells #[.int .i64 0, .int .i64 (-1)] 3) = W9 at *
  refine hc.mono ?_
  rintro e v10 ⟨A6, n6, c6, rfl, h6, hb⟩
  clear hc
  replace hx := hx.below hb
  replace hu := hu.below hb
  replace h1 := h1.below hb
  replace hs := hs.below hb
  replace h2 := h2.below hb
  replace hy := hy.below hb
  replace ht := ht.below hb
  replace h3 := h3.below hb
  replace hz := hz.below hb
  replace hr := hr.below hb
  replace h4 := h4.below hb
  replace h5 := h5.below hb
  replace hp := hp.below hb
  replace hB := hB.trans (hb.mono hB.size)
  clear hb
  obtain ⟨q1, vq1, zq1, hq1, hbl⟩ : ∃ u : Ls, u.v = .slice (some ⟨v10.heap.size, 0, none⟩) 2 2 ∧ u.zs = [0, 1] ∧ u.Ok (v10.alloc (.cells #[.int .i64 0, .int .i64 1] 3)) ∧ Below v10.heap.size v10 (v10.alloc (.cells #[.int .i64 0, .int .i64 1] 3)) := lit_ls v10 [0, 1] (by decide) (by decide)
  have Vq1 := Lib.hid vq1
  have Zq1 := Lib.hid zq1
  clear vq1 zq1
  replace hx := hx.below hbl
  replace hu := hu.below hbl
  replace h1 := h1.below hbl
  replace hs := hs.below hbl
  replace h2 := h2.below hbl
  replace hy := hy.below hbl
  replace ht := ht.below hbl
  replace h3 := h3.below hbl
  replace hz := hz.below hbl
  replace hr := hr.below hbl
  replace h4 := h4.below hbl
  replace h5 := h5.below hbl
  replace hp := hp.below hbl
  replace h6 := h6.below hbl
  replace hB := hB.trans (hbl.mono hB.size)
  clear hbl
  have hc := sameints_b ⟨A1, n1, c1, [0, 1]⟩ q1 (v10.alloc (.cells #[.int .i64 0, .int .i64 1] 3)) h1.ok hq1
  rw [Vq1.out, show (([0, 1] : List Int) == q1.zs) = true by rw [Zq1.out]; decide] at hc
  go_wp2_with fail
  generalize v10.alloc (.cells #[.int .i64 0, .int .i64 1] 3) = W11 at *
  refine hc.mono ?_
  rintro e v12 ⟨rfl, hb⟩
  clear hc
  replace hx := hx.below hb
  replace hu := hu.below hb
  replace h1 := h1.below hb
  replace hs := hs.below hb
  replace h2 := h2.below hb
  replace hy := hy.below hb
  replace ht := ht.below hb
  replace h3 := h3.below hb
  replace hz := hz.below hb
  replace hr := hr.below hb
  replace h4 := h4.below hb
  replace h5 := h5.below hb
  replace hp := hp.below hb
  replace h6 := h6.below hb
  replace hq1 := hq1.below hb
  replace hB := hB.trans (hb.mono hB.size)
  clear hb
  obtain ⟨q2, vq2, zq2, hq2, hbl⟩ : ∃ u : Ls, u.v = .slice (some ⟨v12.heap.size, 0, none⟩) 2 2 ∧ u.zs = [0, 1] ∧ u.Ok (v12.alloc (.cells #[.int .i64 0, .int .i64 1] 3)) ∧ Below v12.heap.size v12 (v12.alloc (.cells #[.int .i64 0, .int .i64 1] 3)) := lit_ls v12 [0, 1] (by decide) (by decide)
  have Vq2 := Lib.hid vq2
  have Zq2 := Lib.hid zq2
  clear vq2 zq2
  replace hx := hx.below hbl
  replace hu := hu.below hbl
  replace h1 := h1.below hbl
  replace hs := hs.below hbl
  replace h2 := h2.below hbl
  replace hy := hy.below hbl
  replace ht := ht.below hbl
  replace h3 := h3.below hbl
  replace hz := hz.below hbl
  replace hr := hr.below hbl
  replace h4 := h4.below hbl
  replace h5 := h5.below hbl
  replace hp := hp.below hbl
  replace h6 := h6.below hbl
  replace hq1 := hq1.below hbl
  replace hB := hB.trans (hbl.mono hB.size)
  clear hbl
  have hc := sameints_b ⟨A2, n2, c2, [0, 1]⟩ q2 (v12.alloc (.cells #[.int .i64 0, .int .i64 1] 3)) h2.ok hq2
  rw [Vq2.out, show (([0, 1] : List Int) == q2.zs) = true by rw [Zq2.out]; decide] at hc
  go_wp2_with fail
  generalize v12.alloc (.cells #[.int .i64 0, .int .i64 1] 3) = W13 at *
  refine hc.mono ?_
  rintro e v14 ⟨rfl, hb⟩
  clear hc
  replace hx := hx.below hb
  replace hu := hu.below hb
  replace h1 := h1.below hb
  replace hs := hs.below hb
  replace h2 := h2.below hb
  replace hy := hy.below hb
  replace ht := ht.below hb
  replace h3 := h3.below hb
  replace hz := hz.below hb
  replace hr := hr.below hb
  replace h4 := h4.below hb
  replace h5 := h5.below hb
  replace hp := hp.below hb
  replace h6 := h6.below hb
  replace hq1 := hq1.below hb
  replace hq2 := hq2.below hb
  replace hB := hB.trans (hb.mono hB.size)
  clear hb
  obtain ⟨q4, vq4, zq4, hq4, hbl⟩ : ∃ u : Ls, u.v = .slice (some ⟨v14.heap.size, 0, none⟩) 2 2 ∧ u.zs = [0, 1] ∧ u.Ok (v14.alloc (.cells #[.int .i64 0, .int .i64 1] 3)) ∧ Below v14.heap.size v14 (v14.alloc (.cells #[.int .i64 0, .int .i64 1] 3)) := lit_ls v14 [0, 1] (by decide) (by decide)
  have Vq4 := Lib.hid vq4
  have Zq4 := Lib.hid zq4
  clear vq4 zq4
  replace hx := hx.below hbl
  replace hu := hu.below hbl
  replace h1 := h1.below hbl
  replace hs := hs.below hbl
  replace h2 := h2.below hbl
  replace hy := hy.below hbl
  replace ht := ht.below hbl
  replace h3 := h3.below hbl
  replace hz := hz.below hbl
  replace hr := hr.below hbl
  replace h4 := h4.below hbl
  replace h5 := h5.below hbl
  replace hp := hp.below hbl
  replace h6 := h6.below hbl
  replace hq1 := hq1.below hbl
  replace hq2 := hq2.below hbl
  replace hB := hB.trans (hbl.mono hB.size)
  clear hbl
  have hc := sameints_b ⟨A4, n4, c4, [0, 1]⟩ q4 (v14.alloc (.cells #[.int .i64 0, .int .i64 1] 3)) h4.ok hq4
  rw [Vq4.out, show (([0, 1] : List Int) == q4.zs) = true by rw [Zq4.out]; decide] at hc
  go_wp2_with fail
  generalize v14.alloc (.cells #[.int .i64 0, .int .i64 1] 3) = W15 at *
  refine hc.mono ?_
  rintro e v16 ⟨rfl, hb⟩
  clear hc
  replace hx := hx.below hb
  replace hu := hu.below hb
  replace h1 := h1.below hb
  replace hs := hs.below hb
  replace h2 := h2.below hb
  replace hy := hy.below hb
  replace ht := ht.below hb
  replace h3 := h3.below hb
  replace hz := hz.below hb
  replace hr := hr.below hb
  replace h4 := h4.below hb
  replace h5 := h5.below hb
  replace hp := hp.below hb
  replace h6 := h6.below hb
  replace hq1 := hq1.below hb
  replace hq2 := hq2.below hb
  replace hq4 := hq4.below hb
  replace hB := hB.trans (hb.mono hB.size)
  clear hb
  obtain ⟨q5, vq5, zq5, hq5, hbl⟩ : ∃ u : Ls, u.v = .slice (some ⟨v16.heap.size, 0, none⟩) 1 1 ∧ u.zs = [0] ∧ u.Ok (v16.alloc (.cells #[.int .i64 0] 3)) ∧ Below v16.heap.size v16 (v16.alloc (.cells #[.int .i64 0] 3)) := lit_ls v16 [0] (by decide) (by decide)
  have Vq5 := Lib.hid vq5
  have Zq5 := Lib.hid zq5
  clear vq5 zq5
  replace hx := hx.below hbl
  replace hu := hu.below hbl
  replace h1 := h1.below hbl
  replace hs := hs.below hbl
  replace h2 := h2.below hbl
  replace hy := hy.below hbl
  replace ht := ht.below hbl
  replace h3 := h3.below hbl
  replace hz := hz.below hbl
  replace hr := hr.below hbl
  replace h4 := h4.below hbl
  replace h5 := h5.below hbl
  replace hp := hp.below hbl
  replace h6 := h6.below hbl
  replace hq1 := hq1.below hbl
  replace hq2 := hq2.below hbl
  replace hq4 := hq4.below hbl
  replace hB := hB.trans (hbl.mono hB.size)
  clear hbl
  have hc := sameints_b ⟨A5, n5, c5, [0]⟩ q5 (v16.alloc (.cells #[.int .i64 0] 3)) h5.ok hq5
  rw [Vq5.out, show (([0] : List Int) == q5.zs) = true by rw [Zq5.out]; decide] at hc
  go_wp2_with fail
  generalize v16.alloc (.cells #[.int .i64 0] 3) = W17 at *
  refine hc.mono ?_
  rintro e v18 ⟨rfl, hb⟩
  clear hc
  replace hx := hx.below hb
  replace hu := hu.below hb
  replace h1 := h1.below hb
  replace hs := hs.below hb
  replace h2 := h2.below hb
  replace hy := hy.below hb
  replace ht := ht.below hb
  replace h3 := h3.below hb
  replace hz := hz.below hb
  replace hr := hr.below hb
  replace h4 := h4.below hb
  replace h5 := h5.below hb
  replace hp := hp.below hb
  replace h6 := h6.below hb
  replace hq1 := hq1.below hb
  replace hq2 := hq2.below hb
  replace hq4 := hq4.below hb
  replace hq5 := hq5.below hb
  replace hB := hB.trans (hb.mono hB.size)
  clear hb
  go_wp2
  go_ret
  exact ⟨rfl, hB⟩
end Go.Proofs.Ytojpdmhccodckaa
