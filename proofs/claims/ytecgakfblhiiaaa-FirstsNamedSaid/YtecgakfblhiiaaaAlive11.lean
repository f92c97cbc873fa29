/-
  What all statements of layer 11 ask first: some answers that the document fixes.
-/
import Derived.Test.YtecgakfblhiiaaaFiL
namespace Go.Proofs.Ytecgakfblhiiaaa
open Go.RowKit
set_option linter.unusedVariables false

set_option maxRecDepth 100000 in
set_option maxHeartbeats 1000000 in
theorem alive11_any (w : World) : Calls Try.prog 12 #[] w fun e w' => e = .returned (.bool true) ∧ Below w.heap.size w w' := by
  have hB := Below.refl w.heap.size w
  go_enter Try.func12, Try.ntmps12
  obtain ⟨x1, u1x, vx1, zx1, vu1x, zu1x, hx1, hu1x, hbl⟩ : ∃ (x : Gr) (u : Ls), x.v = .slice (some ⟨w.heap.size + 1 + 1, 0, none⟩) 2 2 ∧ x.g = [[5, 2], [4, 0]] ∧ u.v = .slice (some ⟨w.heap.size + 1 + 1 + 1, 0, none⟩) 2 2 ∧ u.zs = [0, 1] ∧ x.Ok ((((w.alloc (.cells #[.int .i64 5, .int .i64 2] 3)).alloc (.cells #[.int .i64 4, .int .i64 0] 3)).alloc (.cells #[.slice (some ⟨w.heap.size, 0, none⟩) 2 2, .slice (some ⟨w.heap.size + 1, 0, none⟩) 2 2] 25)).alloc (.cells #[.int .i64 0, .int .i64 1] 3)) ∧ u.Ok ((((w.alloc (.cells #[.int .i64 5, .int .i64 2] 3)).alloc (.cells #[.int .i64 4, .int .i64 0] 3)).alloc (.cells #[.slice (some ⟨w.heap.size, 0, none⟩) 2 2, .slice (some ⟨w.heap.size + 1, 0, none⟩) 2 2] 25)).alloc (.cells #[.int .i64 0, .int .i64 1] 3)) ∧ Below w.heap.size w ((((w.alloc (.cells #[.int .i64 5, .int .i64 2] 3)).alloc (.cells #[.int .i64 4, .int .i64 0] 3)).alloc (.cells #[.slice (some ⟨w.heap.size, 0, none⟩) 2 2, .slice (some ⟨w.heap.size + 1, 0, none⟩) 2 2] 25)).alloc (.cells #[.int .i64 0, .int .i64 1] 3)) := lit_gr2_ls w [5, 2] [4, 0] [0, 1] (by decide) (by decide) (by decide) (by decide) (by decide) (by decide)
  have Vx1 := Lib.hid vx1
  have Zx1 := Lib.hid zx1
  have Vu1x := Lib.hid vu1x
  have Zu1x := Lib.hid zu1x
  clear vx1 zx1 vu1x zu1x
  replace hB := hB.trans (hbl.mono hB.size)
  clear hbl
  have hc := pfirstC x1 2 u1x ((((w.alloc (.cells #[.int .i64 5, .int .i64 2] 3)).alloc (.cells #[.int .i64 4, .int .i64 0] 3)).alloc (.cells #[.slice (some ⟨w.heap.size, 0, none⟩) 2 2, .slice (some ⟨w.heap.size + 1, 0, none⟩) 2 2] 25)).alloc (.cells #[.int .i64 0, .int .i64 1] 3)) hx1 (by omega) (by omega) hu1x
  rw [Vx1.out, Vu1x.out, show fErr x1.g 2 u1x.zs = 0 by rw [Zx1.out, Zu1x.out]; decide +kernel, show firstE x1.g 2 u1x.zs = [1, 0] by rw [Zx1.out, Zu1x.out]; decide +kernel] at hc
  go_wp2_with fail
  generalize (((w.alloc (.cells #[.int .i64 5, .int .i64 2] 3)).alloc (.cells #[.int .i64 4, .int .i64 0] 3)).alloc (.cells #[.slice (some ⟨w.heap.size, 0, none⟩) 2 2, .slice (some ⟨w.heap.size + 1, 0, none⟩) 2 2] 25)).alloc (.cells #[.int .i64 0, .int .i64 1] 3) = W1 at *
  refine hc.mono ?_
  rintro e v2 ⟨A1, n1, c1, rfl, h1, hb⟩
  clear hc
  replace hx1 := hx1.below hb
  replace hu1x := hu1x.below hb
  replace hB := hB.trans (hb.mono hB.size)
  clear hb
  clear hx1 hu1x
  obtain ⟨x2, u2x, vx2, zx2, vu2x, zu2x, hx2, hu2x, hbl⟩ : ∃ (x : Gr) (u : Ls), x.v = .slice (some ⟨v2.heap.size + 1 + 1, 0, none⟩) 2 2 ∧ x.g = [[5, 5], [5, 5]] ∧ u.v = .slice (some ⟨v2.heap.size + 1 + 1 + 1, 0, none⟩) 2 2 ∧ u.zs = [1, 0] ∧ x.Ok ((((v2.alloc (.cells #[.int .i64 5, .int .i64 5] 3)).alloc (.cells #[.int .i64 5, .int .i64 5] 3)).alloc (.cells #[.slice (some ⟨v2.heap.size, 0, none⟩) 2 2, .slice (some ⟨v2.heap.size + 1, 0, none⟩) 2 2] 25)).alloc (.cells #[.int .i64 1, .int .i64 0] 3)) ∧ u.Ok ((((v2.alloc (.cells #[.int .i64 5, .int .i64 5] 3)).alloc (.cells #[.int .i64 5, .int .i64 5] 3)).alloc (.cells #[.slice (some ⟨v2.heap.size, 0, none⟩) 2 2, .slice (some ⟨v2.heap.size + 1, 0, none⟩) 2 2] 25)).alloc (.cells #[.int .i64 1, .int .i64 0] 3)) ∧ Below v2.heap.size v2 ((((v2.alloc (.cells #[.int .i64 5, .int .i64 5] 3)).alloc (.cells #[.int .i64 5, .int .i64 5] 3)).alloc (.cells #[.slice (some ⟨v2.heap.size, 0, none⟩) 2 2, .slice (some ⟨v2.heap.size + 1, 0, none⟩) 2 2] 25)).alloc (.cells #[.int .i64 1, .int .i64 0] 3)) := lit_gr2_ls v2 [5, 5] [5, 5] [1, 0] (by decide) (by decide) (by decide) (by decide) (by decide) (by decide)
  have Vx2 := Lib.hid vx2
  have Zx2 := Lib.hid zx2
  have Vu2x := Lib.hid vu2x
  have Zu2x := Lib.hid zu2x
  clear vx2 zx2 vu2x zu2x
  replace h1 := h1.below hbl
  replace hB := hB.trans (hbl.mono hB.size)
  clear hbl
  have hc := pfirstC x2 2 u2x ((((v2.alloc (.cells #[.int .i64 5, .int .i64 5] 3)).alloc (.cells #[.int .i64 5, .int .i64 5] 3)).alloc (.cells #[.slice (some ⟨v2.heap.size, 0, none⟩) 2 2, .slice (some ⟨v2.heap.size + 1, 0, none⟩) 2 2] 25)).alloc (.cells #[.int .i64 1, .int .i64 0] 3)) hx2 (by omega) (by omega) hu2x
  rw [Vx2.out, Vu2x.out, show fErr x2.g 2 u2x.zs = 0 by rw [Zx2.out, Zu2x.out]; decide +kernel, show firstE x2.g 2 u2x.zs = [1, 0] by rw [Zx2.out, Zu2x.out]; decide +kernel] at hc
  go_wp2_with fail
  generalize (((v2.alloc (.cells #[.int .i64 5, .int .i64 5] 3)).alloc (.cells #[.int .i64 5, .int .i64 5] 3)).alloc (.cells #[.slice (some ⟨v2.heap.size, 0, none⟩) 2 2, .slice (some ⟨v2.heap.size + 1, 0, none⟩) 2 2] 25)).alloc (.cells #[.int .i64 1, .int .i64 0] 3) = W3 at *
  refine hc.mono ?_
  rintro e v4 ⟨A2, n2, c2, rfl, h2, hb⟩
  clear hc
  replace h1 := h1.below hb
  replace hx2 := hx2.below hb
  replace hu2x := hu2x.below hb
  replace hB := hB.trans (hb.mono hB.size)
  clear hb
  clear hx2 hu2x
  obtain ⟨x3, u3x, vx3, zx3, vu3x, zu3x, hx3, hu3x, hbl⟩ : ∃ (x : Gr) (u : Ls), x.v = .slice (some ⟨v4.heap.size + 1 + 1, 0, none⟩) 2 2 ∧ x.g = [[0, 0], [0, 0]] ∧ u.v = .slice (some ⟨v4.heap.size + 1 + 1 + 1, 0, none⟩) 2 2 ∧ u.zs = [0, 1] ∧ x.Ok ((((v4.alloc (.cells #[.int .i64 0, .int .i64 0] 3)).alloc (.cells #[.int .i64 0, .int .i64 0] 3)).alloc (.cells #[.slice (some ⟨v4.heap.size, 0, none⟩) 2 2, .slice (some ⟨v4.heap.size + 1, 0, none⟩) 2 2] 25)).alloc (.cells #[.int .i64 0, .int .i64 1] 3)) ∧ u.Ok ((((v4.alloc (.cells #[.int .i64 0, .int .i64 0] 3)).alloc (.cells #[.int .i64 0, .int .i64 0] 3)).alloc (.cells #[.slice (some ⟨v4.heap.size, 0, none⟩) 2 2, .slice (some ⟨v4.heap.size + 1, 0, none⟩) 2 2] 25)).alloc (.cells #[.int .i64 0, .int .i64 1] 3)) ∧ Below v4.heap.size v4 ((((v4.alloc (.cells #[.int .i64 0, .int .i64 0] 3)).alloc (.cells #[.int .i64 0, .int .i64 0] 3)).alloc (.cells #[.slice (some ⟨v4.heap.size, 0, none⟩) 2 2, .slice (some ⟨v4.heap.size + 1, 0, none⟩) 2 2] 25)).alloc (.cells #[.int .i64 0, .int .i64 1] 3)) := lit_gr2_ls v4 [0, 0] [0, 0] [0, 1] (by decide) (by decide) (by decide) (by decide) (by decide) (by decide)
  have Vx3 := Lib.hid vx3
  have Zx3 := Lib.hid zx3
  have Vu3x := Lib.hid vu3x
  have Zu3x := Lib.hid zu3x
  clear vx3 zx3 vu3x zu3x
  replace h1 := h1.below hbl
  replace h2 := h2.below hbl
  replace hB := hB.trans (hbl.mono hB.size)
  clear hbl
  have hc := pfirstC x3 2 u3x ((((v4.alloc (.cells #[.int .i64 0, .int .i64 0] 3)).alloc (.cells #[.int .i64 0, .int .i64 0] 3)).alloc (.cells #[.slice (some ⟨v4.heap.size, 0, none⟩) 2 2, .slice (some ⟨v4.heap.size + 1, 0, none⟩) 2 2] 25)).alloc (.cells #[.int .i64 0, .int .i64 1] 3)) hx3 (by omega) (by omega) hu3x
  rw [Vx3.out, Vu3x.out, show fErr x3.g 2 u3x.zs = 0 by rw [Zx3.out, Zu3x.out]; decide +kernel, show firstE x3.g 2 u3x.zs = [0, 1] by rw [Zx3.out, Zu3x.out]; decide +kernel] at hc
  go_wp2_with fail
  generalize (((v4.alloc (.cells #[.int .i64 0, .int .i64 0] 3)).alloc (.cells #[.int .i64 0, .int .i64 0] 3)).alloc (.cells #[.slice (some ⟨v4.heap.size, 0, none⟩) 2 2, .slice (some ⟨v4.heap.size + 1, 0, none⟩) 2 2] 25)).alloc (.cells #[.int .i64 0, .int .i64 1] 3) = W5 at *
  refine hc.mono ?_
  rintro e v6 ⟨A3, n3, c3, rfl, h3, hb⟩
  clear hc
  replace h1 := h1.below hb
  replace h2 := h2.below hb
  replace hx3 := hx3.below hb
  replace hu3x := hu3x.below hb
  replace hB := hB.trans (hb.mono hB.size)
  clear hb
  clear hx3 hu3x
  obtain ⟨x4, u4x, vx4, zx4, vu4x, zu4x, hx4, hu4x, hbl⟩ : ∃ (x : Gr) (u : Ls), x.v = .slice (some ⟨v6.heap.size + 1 + 1, 0, none⟩) 2 2 ∧ x.g = [[-1], [0]] ∧ u.v = .slice (some ⟨v6.heap.size + 1 + 1 + 1, 0, none⟩) 2 2 ∧ u.zs = [0, 1] ∧ x.Ok ((((v6.alloc (.cells #[.int .i64 (-1)] 3)).alloc (.cells #[.int .i64 0] 3)).alloc (.cells #[.slice (some ⟨v6.heap.size, 0, none⟩) 1 1, .slice (some ⟨v6.heap.size + 1, 0, none⟩) 1 1] 25)).alloc (.cells #[.int .i64 0, .int .i64 1] 3)) ∧ u.Ok ((((v6.alloc (.cells #[.int .i64 (-1)] 3)).alloc (.cells #[.int .i64 0] 3)).alloc (.cells #[.slice (some ⟨v6.heap.size, 0, none⟩) 1 1, .slice (some ⟨v6.heap.size + 1, 0, none⟩) 1 1] 25)).alloc (.cells #[.int .i64 0, .int .i64 1] 3)) ∧ Below v6.heap.size v6 ((((v6.alloc (.cells #[.int .i64 (-1)] 3)).alloc (.cells #[.int .i64 0] 3)).alloc (.cells #[.slice (some ⟨v6.heap.size, 0, none⟩) 1 1, .slice (some ⟨v6.heap.size + 1, 0, none⟩) 1 1] 25)).alloc (.cells #[.int .i64 0, .int .i64 1] 3)) := lit_gr2_ls v6 [-1] [0] [0, 1] (by decide) (by decide) (by decide) (by decide) (by decide) (by decide)
  have Vx4 := Lib.hid vx4
  have Zx4 := Lib.hid zx4
  have Vu4x := Lib.hid vu4x
  have Zu4x := Lib.hid zu4x
  clear vx4 zx4 vu4x zu4x
  replace h1 := h1.below hbl
  replace h2 := h2.below hbl
  replace h3 := h3.below hbl
  replace hB := hB.trans (hbl.mono hB.size)
  clear hbl
  have hc := pfirstC x4 1 u4x ((((v6.alloc (.cells #[.int .i64 (-1)] 3)).alloc (.cells #[.int .i64 0] 3)).alloc (.cells #[.slice (some ⟨v6.heap.size, 0, none⟩) 1 1, .slice (some ⟨v6.heap.size + 1, 0, none⟩) 1 1] 25)).alloc (.cells #[.int .i64 0, .int .i64 1] 3)) hx4 (by omega) (by omega) hu4x
  rw [Vx4.out, Vu4x.out, show fErr x4.g 1 u4x.zs = 0 by rw [Zx4.out, Zu4x.out]; decide +kernel, show firstE x4.g 1 u4x.zs = [-1, 0] by rw [Zx4.out, Zu4x.out]; decide +kernel] at hc
  go_wp2_with fail
  generalize (((v6.alloc (.cells #[.int .i64 (-1)] 3)).alloc (.cells #[.int .i64 0] 3)).alloc (.cells #[.slice (some ⟨v6.heap.size, 0, none⟩) 1 1, .slice (some ⟨v6.heap.size + 1, 0, none⟩) 1 1] 25)).alloc (.cells #[.int .i64 0, .int .i64 1] 3) = W7 at *
  refine hc.mono ?_
  rintro e v8 ⟨A4, n4, c4, rfl, h4, hb⟩
  clear hc
  replace h1 := h1.below hb
  replace h2 := h2.below hb
  replace h3 := h3.below hb
  replace hx4 := hx4.below hb
  replace hu4x := hu4x.below hb
  replace hB := hB.trans (hb.mono hB.size)
  clear hb
  clear hx4 hu4x
  obtain ⟨x5, u5x, vx5, zx5, vu5x, zu5x, hx5, hu5x, hbl⟩ : ∃ (x : Gr) (u : Ls), x.v = .slice (some ⟨v8.heap.size + 1 + 1, 0, none⟩) 2 2 ∧ x.g = [[0], [0]] ∧ u.v = .slice (some ⟨v8.heap.size + 1 + 1 + 1, 0, none⟩) 2 2 ∧ u.zs = [0, 0] ∧ x.Ok ((((v8.alloc (.cells #[.int .i64 0] 3)).alloc (.cells #[.int .i64 0] 3)).alloc (.cells #[.slice (some ⟨v8.heap.size, 0, none⟩) 1 1, .slice (some ⟨v8.heap.size + 1, 0, none⟩) 1 1] 25)).alloc (.cells #[.int .i64 0, .int .i64 0] 3)) ∧ u.Ok ((((v8.alloc (.cells #[.int .i64 0] 3)).alloc (.cells #[.int .i64 0] 3)).alloc (.cells #[.slice (some ⟨v8.heap.size, 0, none⟩) 1 1, .slice (some ⟨v8.heap.size + 1, 0, none⟩) 1 1] 25)).alloc (.cells #[.int .i64 0, .int .i64 0] 3)) ∧ Below v8.heap.size v8 ((((v8.alloc (.cells #[.int .i64 0] 3)).alloc (.cells #[.int .i64 0] 3)).alloc (.cells #[.slice (some ⟨v8.heap.size, 0, none⟩) 1 1, .slice (some ⟨v8.heap.size + 1, 0, none⟩) 1 1] 25)).alloc (.cells #[.int .i64 0, .int .i64 0] 3)) := lit_gr2_ls v8 [0] [0] [0, 0] (by decide) (by decide) (by decide) (by decide) (by decide) (by decide)
  have Vx5 := Lib.hid vx5
  have Zx5 := Lib.hid zx5
  have Vu5x := Lib.hid vu5x
  have Zu5x := Lib.hid zu5x
  clear vx5 zx5 vu5x zu5x
  replace h1 := h1.below hbl
  replace h2 := h2.below hbl
  replace h3 := h3.below hbl
  replace h4 := h4.below hbl
  replace hB := hB.trans (hbl.mono hB.size)
  clear hbl
  have hc := pfirstC x5 1 u5x ((((v8.alloc (.cells #[.int .i64 0] 3)).alloc (.cells #[.int .i64 0] 3)).alloc (.cells #[.slice (some ⟨v8.heap.size, 0, none⟩) 1 1, .slice (some ⟨v8.heap.size + 1, 0, none⟩) 1 1] 25)).alloc (.cells #[.int .i64 0, .int .i64 0] 3)) hx5 (by omega) (by omega) hu5x
  rw [Vx5.out, Vu5x.out, show fErr x5.g 1 u5x.zs = 1 by rw [Zx5.out, Zu5x.out]; decide +kernel, show firstE x5.g 1 u5x.zs = [] by rw [Zx5.out, Zu5x.out]; decide +kernel] at hc
  go_wp2_with fail
  generalize (((v8.alloc (.cells #[.int .i64 0] 3)).alloc (.cells #[.int .i64 0] 3)).alloc (.cells #[.slice (some ⟨v8.heap.size, 0, none⟩) 1 1, .slice (some ⟨v8.heap.size + 1, 0, none⟩) 1 1] 25)).alloc (.cells #[.int .i64 0, .int .i64 0] 3) = W9 at *
  refine hc.mono ?_
  rintro e v10 ⟨A5, n5, c5, rfl, h5, hb⟩
  clear hc
  replace h1 := h1.below hb
  replace h2 := h2.below hb
  replace h3 := h3.below hb
  replace h4 := h4.below hb
  replace hx5 := hx5.below hb
  replace hu5x := hu5x.below hb
  replace hB := hB.trans (hb.mono hB.size)
  clear hb
  clear hx5 hu5x
  clear h5
  obtain ⟨q1, vq1, zq1, hq1, hbl⟩ : ∃ u : Ls, u.v = .slice (some ⟨v10.heap.size, 0, none⟩) 2 2 ∧ u.zs = [1, 0] ∧ u.Ok (v10.alloc (.cells #[.int .i64 1, .int .i64 0] 3)) ∧ Below v10.heap.size v10 (v10.alloc (.cells #[.int .i64 1, .int .i64 0] 3)) := lit_ls v10 [1, 0] (by decide) (by decide)
  have Vq1 := Lib.hid vq1
  have Zq1 := Lib.hid zq1
  clear vq1 zq1
  replace h1 := h1.below hbl
  replace h2 := h2.below hbl
  replace h3 := h3.below hbl
  replace h4 := h4.below hbl
  replace hB := hB.trans (hbl.mono hB.size)
  clear hbl
  have hc := sameints_b ⟨A1, n1, c1, [1, 0]⟩ q1 (v10.alloc (.cells #[.int .i64 1, .int .i64 0] 3)) h1.ok hq1
  rw [Vq1.out, show (([1, 0] : List Int) == q1.zs) = true by rw [Zq1.out]; decide] at hc
  go_wp2_with fail
  generalize v10.alloc (.cells #[.int .i64 1, .int .i64 0] 3) = W11 at *
  refine hc.mono ?_
  rintro e v12 ⟨rfl, hb⟩
  clear hc
  replace h1 := h1.below hb
  replace h2 := h2.below hb
  replace h3 := h3.below hb
  replace h4 := h4.below hb
  replace hq1 := hq1.below hb
  replace hB := hB.trans (hb.mono hB.size)
  clear hb
  obtain ⟨q2, vq2, zq2, hq2, hbl⟩ : ∃ u : Ls, u.v = .slice (some ⟨v12.heap.size, 0, none⟩) 2 2 ∧ u.zs = [1, 0] ∧ u.Ok (v12.alloc (.cells #[.int .i64 1, .int .i64 0] 3)) ∧ Below v12.heap.size v12 (v12.alloc (.cells #[.int .i64 1, .int .i64 0] 3)) := lit_ls v12 [1, 0] (by decide) (by decide)
  have Vq2 := Lib.hid vq2
  have Zq2 := Lib.hid zq2
  clear vq2 zq2
  replace h1 := h1.below hbl
  replace h2 := h2.below hbl
  replace h3 := h3.below hbl
  replace h4 := h4.below hbl
  replace hq1 := hq1.below hbl
  replace hB := hB.trans (hbl.mono hB.size)
  clear hbl
  have hc := sameints_b ⟨A2, n2, c2, [1, 0]⟩ q2 (v12.alloc (.cells #[.int .i64 1, .int .i64 0] 3)) h2.ok hq2
  rw [Vq2.out, show (([1, 0] : List Int) == q2.zs) = true by rw [Zq2.out]; decide] at hc
  go_wp2_with fail
  generalize v12.alloc (.cells #[.int .i64 1, .int .i64 0] 3) = W13 at *
  refine hc.mono ?_
  rintro e v14 ⟨rfl, hb⟩
  clear hc
  replace h1 := h1.below hb
  replace h2 := h2.below hb
  replace h3 := h3.below hb
  replace h4 := h4.below hb
  replace hq1 := hq1.below hb
  replace hq2 := hq2.below hb
  replace hB := hB.trans (hb.mono hB.size)
  clear hb
  obtain ⟨q3, vq3, zq3, hq3, hbl⟩ : ∃ u : Ls, u.v = .slice (some ⟨v14.heap.size, 0, none⟩) 2 2 ∧ u.zs = [0, 1] ∧ u.Ok (v14.alloc (.cells #[.int .i64 0, .int .i64 1] 3)) ∧ Below v14.heap.size v14 (v14.alloc (.cells #[.int .i64 0, .int .i64 1] 3)) := lit_ls v14 [0, 1] (by decide) (by decide)
  have Vq3 := Lib.hid vq3
  have Zq3 := Lib.hid zq3
  clear vq3 zq3
  replace h1 := h1.below hbl
  replace h2 := h2.below hbl
  replace h3 := h3.below hbl
  replace h4 := h4.below hbl
  replace hq1 := hq1.below hbl
  replace hq2 := hq2.below hbl
  replace hB := hB.trans (hbl.mono hB.size)
  clear hbl
  have hc := sameints_b ⟨A3, n3, c3, [0, 1]⟩ q3 (v14.alloc (.cells #[.int .i64 0, .int .i64 1] 3)) h3.ok hq3
  rw [Vq3.out, show (([0, 1] : List Int) == q3.zs) = true by rw [Zq3.out]; decide] at hc
  go_wp2_with fail
  generalize v14.alloc (.cells #[.int .i64 0, .int .i64 1] 3) = W15 at *
  refine hc.mono ?_
  rintro e v16 ⟨rfl, hb⟩
  clear hc
  replace h1 := h1.below hb
  replace h2 := h2.below hb
  replace h3 := h3.below hb
  replace h4 := h4.below hb
  replace hq1 := hq1.below hb
  replace hq2 := hq2.below hb
  replace hq3 := hq3.below hb
  replace hB := hB.trans (hb.mono hB.size)
  clear hb
  obtain ⟨q4, vq4, zq4, hq4, hbl⟩ : ∃ u : Ls, u.v = .slice (some ⟨v16.heap.size, 0, none⟩) 2 2 ∧ u.zs = [-1, 0] ∧ u.Ok (v16.alloc (.cells #[.int .i64 (-1), .int .i64 0] 3)) ∧ Below v16.heap.size v16 (v16.alloc (.cells #[.int .i64 (-1), .int .i64 0] 3)) := lit_ls v16 [-1, 0] (by decide) (by decide)
  have Vq4 := Lib.hid vq4
  have Zq4 := Lib.hid zq4
  clear vq4 zq4
  replace h1 := h1.below hbl
  replace h2 := h2.below hbl
  replace h3 := h3.below hbl
  replace h4 := h4.below hbl
  replace hq1 := hq1.below hbl
  replace hq2 := hq2.below hbl
  replace hq3 := hq3.below hbl
  replace hB := hB.trans (hbl.mono hB.size)
  clear hbl
  have hc := sameints_b ⟨A4, n4, c4, [-1, 0]⟩ q4 (v16.alloc (.cells #[.int .i64 (-1), .int .i64 0] 3)) h4.ok hq4
  rw [Vq4.out, show (([-1, 0] : List Int) == q4.zs) = true by rw [Zq4.out]; decide] at hc
  go_wp2_with fail
  generalize v16.alloc (.cells #[.int .i64 (-1), .int .i64 0] 3) = W17 at *
  refine hc.mono ?_
  rintro e v18 ⟨rfl, hb⟩
  clear hc
  replace h1 := h1.below hb
  replace h2 := h2.below hb
  replace h3 := h3.below hb
  replace h4 := h4.below hb
  replace hq1 := hq1.below hb
  replace hq2 := hq2.below hb
  replace hq3 := hq3.below hb
  replace hq4 := hq4.below hb
  replace hB := hB.trans (hb.mono hB.size)
  clear hb
  go_wp2
  go_ret
  exact ⟨rfl, hB⟩
end Go.Proofs.Ytecgakfblhiiaaa
