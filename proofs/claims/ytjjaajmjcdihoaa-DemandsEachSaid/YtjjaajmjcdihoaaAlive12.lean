/-
  What all statements of layer 12 ask first: some answers that the document fixes.
-/
import Derived.Test.YtjjaajmjcdihoaaDeW
import Derived.Test.YtjjaajmjcdihoaaGrL
import Derived.Test.YtjjaajmjcdihoaaReg
import Derived.Lib.MinMax
namespace Go.Proofs.Ytjjaajmjcdihoaa
open Go.RowKit
set_option linter.unusedVariables false

theorem lit_ls_ls (w : World) (a d : List Int) (ha : a.length ≤ 1000) (fa : ∀ z ∈ a, -1000 ≤ z ∧ z ≤ 1000) (hd : d.length ≤ 1000) (fd : ∀ z ∈ d, -1000 ≤ z ∧ z ≤ 1000) :
    ∃ (x u : Ls), x.v = .slice (some ⟨w.heap.size, 0, none⟩) a.length a.length ∧ x.zs = a ∧ u.v = .slice (some ⟨w.heap.size + 1, 0, none⟩) d.length d.length ∧ u.zs = d ∧ x.Ok ((w.alloc (.cells (ci64 a).toArray 3)).alloc (.cells (ci64 d).toArray 3)) ∧ u.Ok ((w.alloc (.cells (ci64 a).toArray 3)).alloc (.cells (ci64 d).toArray 3)) ∧ Below w.heap.size w ((w.alloc (.cells (ci64 a).toArray 3)).alloc (.cells (ci64 d).toArray 3)) := by
  have hz : ∀ (v : World) (o1 : Obj), (v.alloc o1).heap.size = v.heap.size + 1 := fun v o1 => Array.size_push ..
  obtain ⟨x, h1, h2, h3, h4⟩ := lit_ls w a ha fa
  obtain ⟨u, k1, k2, k3, k4⟩ := lit_ls (w.alloc (.cells (ci64 a).toArray 3)) d hd fd
  refine ⟨x, u, h1, h2, ?_, k2, h3.below k4, k3, h4.trans (k4.mono h4.size)⟩
  rw [k1, hz]
set_option maxRecDepth 100000 in
set_option maxHeartbeats 1000000 in
theorem alive12_any (w : World) : Calls Try.prog 10 #[] w fun e w' => e = .returned (.bool true) ∧ Below w.heap.size w w' := by
  have hB := Below.refl w.heap.size w
  go_enter Try.func10, Try.ntmps10
  obtain ⟨x1, u1x, vx1, zx1, vu1x, zu1x, hx1, hu1x, hbl⟩ : ∃ (x u : Ls), x.v = .slice (some ⟨w.heap.size, 0, none⟩) 2 2 ∧ x.zs = [5, 3] ∧ u.v = .slice (some ⟨w.heap.size + 1, 0, none⟩) 2 2 ∧ u.zs = [1, 0] ∧ x.Ok ((w.alloc (.cells #[.int .i64 5, .int .i64 3] 3)).alloc (.cells #[.int .i64 1, .int .i64 0] 3)) ∧ u.Ok ((w.alloc (.cells #[.int .i64 5, .int .i64 3] 3)).alloc (.cells #[.int .i64 1, .int .i64 0] 3)) ∧ Below w.heap.size w ((w.alloc (.cells #[.int .i64 5, .int .i64 3] 3)).alloc (.cells #[.int .i64 1, .int .i64 0] 3)) := lit_ls_ls w [5, 3] [1, 0] (by decide) (by decide) (by decide) (by decide)
  have Vx1 := Lib.hid vx1
  have Zx1 := Lib.hid zx1
  have Vu1x := Lib.hid vu1x
  have Zu1x := Lib.hid zu1x
  clear vx1 zx1 vu1x zu1x
  replace hB := hB.trans (hbl.mono hB.size)
  clear hbl
  have hc := pofC x1 u1x ((w.alloc (.cells #[.int .i64 5, .int .i64 3] 3)).alloc (.cells #[.int .i64 1, .int .i64 0] 3)) hx1 hu1x
  rw [Vx1.out, Vu1x.out, show noneE x1.zs u1x.zs = false by rw [Zx1.out, Zu1x.out]; decide +kernel, show gainE x1.zs u1x.zs = 4 by rw [Zx1.out, Zu1x.out]; decide +kernel, show dErr x1.zs u1x.zs = 0 by rw [Zx1.out, Zu1x.out]; decide +kernel, show itemsE x1.zs u1x.zs = [0] by rw [Zx1.out, Zu1x.out]; decide +kernel] at hc
  go_wp2_with fail
  generalize (w.alloc (.cells #[.int .i64 5, .int .i64 3] 3)).alloc (.cells #[.int .i64 1, .int .i64 0] 3) = W1 at *
  refine hc.mono ?_
  rintro e v2 ⟨A1, n1, c1, rfl, h1, hb⟩
  clear hc
  replace hx1 := hx1.below hb
  replace hu1x := hu1x.below hb
  replace hB := hB.trans (hb.mono hB.size)
  clear hb
  clear hu1x hx1
  obtain ⟨x2, u2x, vx2, zx2, vu2x, zu2x, hx2, hu2x, hbl⟩ : ∃ (x u : Ls), x.v = .slice (some ⟨v2.heap.size, 0, none⟩) 2 2 ∧ x.zs = [5, 4] ∧ u.v = .slice (some ⟨v2.heap.size + 1, 0, none⟩) 2 2 ∧ u.zs = [1, 0] ∧ x.Ok ((v2.alloc (.cells #[.int .i64 5, .int .i64 4] 3)).alloc (.cells #[.int .i64 1, .int .i64 0] 3)) ∧ u.Ok ((v2.alloc (.cells #[.int .i64 5, .int .i64 4] 3)).alloc (.cells #[.int .i64 1, .int .i64 0] 3)) ∧ Below v2.heap.size v2 ((v2.alloc (.cells #[.int .i64 5, .int .i64 4] 3)).alloc (.cells #[.int .i64 1, .int .i64 0] 3)) := lit_ls_ls v2 [5, 4] [1, 0] (by decide) (by decide) (by decide) (by decide)
  have Vx2 := Lib.hid vx2
  have Zx2 := Lib.hid zx2
  have Vu2x := Lib.hid vu2x
  have Zu2x := Lib.hid zu2x
  clear vx2 zx2 vu2x zu2x
  replace h1 := h1.below hbl
  replace hB := hB.trans (hbl.mono hB.size)
  clear hbl
  have hc := pofC x2 u2x ((v2.alloc (.cells #[.int .i64 5, .int .i64 4] 3)).alloc (.cells #[.int .i64 1, .int .i64 0] 3)) hx2 hu2x
  rw [Vx2.out, Vu2x.out, show noneE x2.zs u2x.zs = false by rw [Zx2.out, Zu2x.out]; decide +kernel, show gainE x2.zs u2x.zs = 4 by rw [Zx2.out, Zu2x.out]; decide +kernel, show dErr x2.zs u2x.zs = 0 by rw [Zx2.out, Zu2x.out]; decide +kernel, show itemsE x2.zs u2x.zs = [0, 1] by rw [Zx2.out, Zu2x.out]; decide +kernel] at hc
  go_wp2_with fail
  generalize (v2.alloc (.cells #[.int .i64 5, .int .i64 4] 3)).alloc (.cells #[.int .i64 1, .int .i64 0] 3) = W3 at *
  refine hc.mono ?_
  rintro e v4 ⟨A2, n2, c2, rfl, h2, hb⟩
  clear hc
  replace h1 := h1.below hb
  replace hx2 := hx2.below hb
  replace hu2x := hu2x.below hb
  replace hB := hB.trans (hb.mono hB.size)
  clear hb
  clear hu2x hx2
  obtain ⟨x3, u3x, vx3, zx3, vu3x, zu3x, hx3, hu3x, hbl⟩ : ∃ (x u : Ls), x.v = .slice (some ⟨v4.heap.size, 0, none⟩) 2 2 ∧ x.zs = [5, 3] ∧ u.v = .slice (some ⟨v4.heap.size + 1, 0, none⟩) 2 2 ∧ u.zs = [5, 3] ∧ x.Ok ((v4.alloc (.cells #[.int .i64 5, .int .i64 3] 3)).alloc (.cells #[.int .i64 5, .int .i64 3] 3)) ∧ u.Ok ((v4.alloc (.cells #[.int .i64 5, .int .i64 3] 3)).alloc (.cells #[.int .i64 5, .int .i64 3] 3)) ∧ Below v4.heap.size v4 ((v4.alloc (.cells #[.int .i64 5, .int .i64 3] 3)).alloc (.cells #[.int .i64 5, .int .i64 3] 3)) := lit_ls_ls v4 [5, 3] [5, 3] (by decide) (by decide) (by decide) (by decide)
  have Vx3 := Lib.hid vx3
  have Zx3 := Lib.hid zx3
  have Vu3x := Lib.hid vu3x
  have Zu3x := Lib.hid zu3x
  clear vx3 zx3 vu3x zu3x
  replace h1 := h1.below hbl
  replace h2 := h2.below hbl
  replace hB := hB.trans (hbl.mono hB.size)
  clear hbl
  have hc := pofC x3 u3x ((v4.alloc (.cells #[.int .i64 5, .int .i64 3] 3)).alloc (.cells #[.int .i64 5, .int .i64 3] 3)) hx3 hu3x
  rw [Vx3.out, Vu3x.out, show noneE x3.zs u3x.zs = true by rw [Zx3.out, Zu3x.out]; decide +kernel, show gainE x3.zs u3x.zs = 0 by rw [Zx3.out, Zu3x.out]; decide +kernel, show dErr x3.zs u3x.zs = 0 by rw [Zx3.out, Zu3x.out]; decide +kernel, show itemsE x3.zs u3x.zs = [0, 1] by rw [Zx3.out, Zu3x.out]; decide +kernel] at hc
  go_wp2_with fail
  generalize (v4.alloc (.cells #[.int .i64 5, .int .i64 3] 3)).alloc (.cells #[.int .i64 5, .int .i64 3] 3) = W5 at *
  refine hc.mono ?_
  rintro e v6 ⟨A3, n3, c3, rfl, h3, hb⟩
  clear hc
  replace h1 := h1.below hb
  replace h2 := h2.below hb
  replace hx3 := hx3.below hb
  replace hu3x := hu3x.below hb
  replace hB := hB.trans (hb.mono hB.size)
  clear hb
  clear hu3x hx3
  obtain ⟨x4, u4x, vx4, zx4, vu4x, zu4x, hx4, hu4x, hbl⟩ : ∃ (x u : Ls), x.v = .slice (some ⟨v6.heap.size, 0, none⟩) 2 2 ∧ x.zs = [5, 3] ∧ u.v = .slice (some ⟨v6.heap.size + 1, 0, none⟩) 2 2 ∧ u.zs = [6, 4] ∧ x.Ok ((v6.alloc (.cells #[.int .i64 5, .int .i64 3] 3)).alloc (.cells #[.int .i64 6, .int .i64 4] 3)) ∧ u.Ok ((v6.alloc (.cells #[.int .i64 5, .int .i64 3] 3)).alloc (.cells #[.int .i64 6, .int .i64 4] 3)) ∧ Below v6.heap.size v6 ((v6.alloc (.cells #[.int .i64 5, .int .i64 3] 3)).alloc (.cells #[.int .i64 6, .int .i64 4] 3)) := lit_ls_ls v6 [5, 3] [6, 4] (by decide) (by decide) (by decide) (by decide)
  have Vx4 := Lib.hid vx4
  have Zx4 := Lib.hid zx4
  have Vu4x := Lib.hid vu4x
  have Zu4x := Lib.hid zu4x
  clear vx4 zx4 vu4x zu4x
  replace h1 := h1.below hbl
  replace h2 := h2.below hbl
  replace h3 := h3.below hbl
  replace hB := hB.trans (hbl.mono hB.size)
  clear hbl
  have hc := pofC x4 u4x ((v6.alloc (.cells #[.int .i64 5, .int .i64 3] 3)).alloc (.cells #[.int .i64 6, .int .i64 4] 3)) hx4 hu4x
  rw [Vx4.out, Vu4x.out, show noneE x4.zs u4x.zs = true by rw [Zx4.out, Zu4x.out]; decide +kernel, show gainE x4.zs u4x.zs = 0 by rw [Zx4.out, Zu4x.out]; decide +kernel, show dErr x4.zs u4x.zs = 0 by rw [Zx4.out, Zu4x.out]; decide +kernel, show itemsE x4.zs u4x.zs = [] by rw [Zx4.out, Zu4x.out]; decide +kernel] at hc
  go_wp2_with fail
  generalize (v6.alloc (.cells #[.int .i64 5, .int .i64 3] 3)).alloc (.cells #[.int .i64 6, .int .i64 4] 3) = W7 at *
  refine hc.mono ?_
  rintro e v8 ⟨A4, n4, c4, rfl, h4, hb⟩
  clear hc
  replace h1 := h1.below hb
  replace h2 := h2.below hb
  replace h3 := h3.below hb
  replace hx4 := hx4.below hb
  replace hu4x := hu4x.below hb
  replace hB := hB.trans (hb.mono hB.size)
  clear hb
  clear hu4x hx4
  obtain rfl : n4 = 0 := h4.len.symm
  clear h4
  obtain ⟨u5x, vu5x, zu5x, hu5x, hbl⟩ : ∃ u : Ls, u.v = .slice (some ⟨v8.heap.size, 0, none⟩) 1 1 ∧ u.zs = [1] ∧ u.Ok (v8.alloc (.cells #[.int .i64 1] 3)) ∧ Below v8.heap.size v8 (v8.alloc (.cells #[.int .i64 1] 3)) := lit_ls v8 [1] (by decide) (by decide)
  have Vu5x := Lib.hid vu5x
  have Zu5x := Lib.hid zu5x
  clear vu5x zu5x
  replace h1 := h1.below hbl
  replace h2 := h2.below hbl
  replace h3 := h3.below hbl
  replace hB := hB.trans (hbl.mono hB.size)
  clear hbl
  have hc := pofC Ls.nil u5x (v8.alloc (.cells #[.int .i64 1] 3)) (OwnI.nil _ 0).ok hu5x
  rw [show Ls.nil.v = .slice none 0 0 from rfl, Vu5x.out, show noneE Ls.nil.zs u5x.zs = true by rw [Zu5x.out]; decide +kernel, show gainE Ls.nil.zs u5x.zs = 0 by rw [Zu5x.out]; decide +kernel, show dErr Ls.nil.zs u5x.zs = 0 by rw [Zu5x.out]; decide +kernel, show itemsE Ls.nil.zs u5x.zs = [] by rw [Zu5x.out]; decide +kernel] at hc
  go_wp2_with fail
  generalize v8.alloc (.cells #[.int .i64 1] 3) = W9 at *
  refine hc.mono ?_
  rintro e v10 ⟨A5, n5, c5, rfl, h5, hb⟩
  clear hc
  replace h1 := h1.below hb
  replace h2 := h2.below hb
  replace h3 := h3.below hb
  replace hu5x := hu5x.below hb
  replace hB := hB.trans (hb.mono hB.size)
  clear hb
  clear hu5x
  obtain rfl : n5 = 0 := h5.len.symm
  clear h5
  obtain ⟨x6, u6x, vx6, zx6, vu6x, zu6x, hx6, hu6x, hbl⟩ : ∃ (x u : Ls), x.v = .slice (some ⟨v10.heap.size, 0, none⟩) 1 1 ∧ x.zs = [5] ∧ u.v = .slice (some ⟨v10.heap.size + 1, 0, none⟩) 2 2 ∧ u.zs = [1, 1] ∧ x.Ok ((v10.alloc (.cells #[.int .i64 5] 3)).alloc (.cells #[.int .i64 1, .int .i64 1] 3)) ∧ u.Ok ((v10.alloc (.cells #[.int .i64 5] 3)).alloc (.cells #[.int .i64 1, .int .i64 1] 3)) ∧ Below v10.heap.size v10 ((v10.alloc (.cells #[.int .i64 5] 3)).alloc (.cells #[.int .i64 1, .int .i64 1] 3)) := lit_ls_ls v10 [5] [1, 1] (by decide) (by decide) (by decide) (by decide)
  have Vx6 := Lib.hid vx6
  have Zx6 := Lib.hid zx6
  have Vu6x := Lib.hid vu6x
  have Zu6x := Lib.hid zu6x
  clear vx6 zx6 vu6x zu6x
  replace h1 := h1.below hbl
  replace h2 := h2.below hbl
  replace h3 := h3.below hbl
  replace hB := hB.trans (hbl.mono hB.size)
  clear hbl
  have hc := pofC x6 u6x ((v10.alloc (.cells #[.int .i64 5] 3)).alloc (.cells #[.int .i64 1, .int .i64 1] 3)) hx6 hu6x
  rw [Vx6.out, Vu6x.out, show noneE x6.zs u6x.zs = false by rw [Zx6.out, Zu6x.out]; decide +kernel, show gainE x6.zs u6x.zs = 0 by rw [Zx6.out, Zu6x.out]; decide +kernel, show dErr x6.zs u6x.zs = 1 by rw [Zx6.out, Zu6x.out]; decide +kernel, show itemsE x6.zs u6x.zs = [] by rw [Zx6.out, Zu6x.out]; decide +kernel] at hc
  go_wp2_with fail
  generalize (v10.alloc (.cells #[.int .i64 5] 3)).alloc (.cells #[.int .i64 1, .int .i64 1] 3) = W11 at *
  refine hc.mono ?_
  rintro e v12 ⟨A6, n6, c6, rfl, h6, hb⟩
  clear hc
  replace h1 := h1.below hb
  replace h2 := h2.below hb
  replace h3 := h3.below hb
  replace hx6 := hx6.below hb
  replace hu6x := hu6x.below hb
  replace hB := hB.trans (hb.mono hB.size)
  clear hb
  clear hu6x hx6
  obtain rfl : n6 = 0 := h6.len.symm
  clear h6
  obtain ⟨x7, u7x, vx7, zx7, vu7x, zu7x, hx7, hu7x, hbl⟩ : ∃ (x u : Ls), x.v = .slice (some ⟨v12.heap.size, 0, none⟩) 1 1 ∧ x.zs = [5] ∧ u.v = .slice (some ⟨v12.heap.size + 1, 0, none⟩) 1 1 ∧ u.zs = [-1] ∧ x.Ok ((v12.alloc (.cells #[.int .i64 5] 3)).alloc (.cells #[.int .i64 (-1)] 3)) ∧ u.Ok ((v12.alloc (.cells #[.int .i64 5] 3)).alloc (.cells #[.int .i64 (-1)] 3)) ∧ Below v12.heap.size v12 ((v12.alloc (.cells #[.int .i64 5] 3)).alloc (.cells #[.int .i64 (-1)] 3)) := lit_ls_ls v12 [5] [-1] (by decide) (by decide) (by decide) (by decide)
  have Vx7 := Lib.hid vx7
  have Zx7 := Lib.hid zx7
  have Vu7x := Lib.hid vu7x
  have Zu7x := Lib.hid zu7x
  clear vx7 zx7 vu7x zu7x
  replace h1 := h1.below hbl
  replace h2 := h2.below hbl
  replace h3 := h3.below hbl
  replace hB := hB.trans (hbl.mono hB.size)
  clear hbl
  have hc := pofC x7 u7x ((v12.alloc (.cells #[.int .i64 5] 3)).alloc (.cells #[.int .i64 (-1)] 3)) hx7 hu7x
  rw [Vx7.out, Vu7x.out, show noneE x7.zs u7x.zs = false by rw [Zx7.out, Zu7x.out]; decide +kernel, show gainE x7.zs u7x.zs = 0 by rw [Zx7.out, Zu7x.out]; decide +kernel, show dErr x7.zs u7x.zs = 1 by rw [Zx7.out, Zu7x.out]; decide +kernel, show itemsE x7.zs u7x.zs = [] by rw [Zx7.out, Zu7x.out]; decide +kernel] at hc
  go_wp2_with fail
  generalize (v12.alloc (.cells #[.int .i64 5] 3)).alloc (.cells #[.int .i64 (-1)] 3) = W13 at *
  refine hc.mono ?_
  rintro e v14 ⟨A7, n7, c7, rfl, h7, hb⟩
  clear hc
  replace h1 := h1.below hb
  replace h2 := h2.below hb
  replace h3 := h3.below hb
  replace hx7 := hx7.below hb
  replace hu7x := hu7x.below hb
  replace hB := hB.trans (hb.mono hB.size)
  clear hb
  clear hu7x hx7
  obtain rfl : n7 = 0 := h7.len.symm
  clear h7
  obtain ⟨q1, vq1, zq1, hq1, hbl⟩ : ∃ u : Ls, u.v = .slice (some ⟨v14.heap.size, 0, none⟩) 1 1 ∧ u.zs = [0] ∧ u.Ok (v14.alloc (.cells #[.int .i64 0] 3)) ∧ Below v14.heap.size v14 (v14.alloc (.cells #[.int .i64 0] 3)) := lit_ls v14 [0] (by decide) (by decide)
  have Vq1 := Lib.hid vq1
  have Zq1 := Lib.hid zq1
  clear vq1 zq1
  replace h1 := h1.below hbl
  replace h2 := h2.below hbl
  replace h3 := h3.below hbl
  replace hB := hB.trans (hbl.mono hB.size)
  clear hbl
  have hc := sameints_b ⟨A1, n1, c1, [0]⟩ q1 (v14.alloc (.cells #[.int .i64 0] 3)) h1.ok hq1
  rw [Vq1.out, show (([0] : List Int) == q1.zs) = true by rw [Zq1.out]; decide] at hc
  go_wp2_with fail
  generalize v14.alloc (.cells #[.int .i64 0] 3) = W15 at *
  refine hc.mono ?_
  rintro e v16 ⟨rfl, hb⟩
  clear hc
  replace h1 := h1.below hb
  replace h2 := h2.below hb
  replace h3 := h3.below hb
  replace hq1 := hq1.below hb
  replace hB := hB.trans (hb.mono hB.size)
  clear hb
  obtain ⟨q2, vq2, zq2, hq2, hbl⟩ : ∃ u : Ls, u.v = .slice (some ⟨v16.heap.size, 0, none⟩) 2 2 ∧ u.zs = [0, 1] ∧ u.Ok (v16.alloc (.cells #[.int .i64 0, .int .i64 1] 3)) ∧ Below v16.heap.size v16 (v16.alloc (.cells #[.int .i64 0, .int .i64 1] 3)) := lit_ls v16 [0, 1] (by decide) (by decide)
  have Vq2 := Lib.hid vq2
  have Zq2 := Lib.hid zq2
  clear vq2 zq2
  replace h1 := h1.below hbl
  replace h2 := h2.below hbl
  replace h3 := h3.below hbl
  replace hq1 := hq1.below hbl
  replace hB := hB.trans (hbl.mono hB.size)
  clear hbl
  have hc := sameints_b ⟨A2, n2, c2, [0, 1]⟩ q2 (v16.alloc (.cells #[.int .i64 0, .int .i64 1] 3)) h2.ok hq2
  rw [Vq2.out, show (([0, 1] : List Int) == q2.zs) = true by rw [Zq2.out]; decide] at hc
  go_wp2_with fail
  generalize v16.alloc (.cells #[.int .i64 0, .int .i64 1] 3) = W17 at *
  refine hc.mono ?_
  rintro e v18 ⟨rfl, hb⟩
  clear hc
  replace h1 := h1.below hb
  replace h2 := h2.below hb
  replace h3 := h3.below hb
  replace hq1 := hq1.below hb
  replace hq2 := hq2.below hb
  replace hB := hB.trans (hb.mono hB.size)
  clear hb
  obtain ⟨q3, vq3, zq3, hq3, hbl⟩ : ∃ u : Ls, u.v = .slice (some ⟨v18.heap.size, 0, none⟩) 2 2 ∧ u.zs = [0, 1] ∧ u.Ok (v18.alloc (.cells #[.int .i64 0, .int .i64 1] 3)) ∧ Below v18.heap.size v18 (v18.alloc (.cells #[.int .i64 0, .int .i64 1] 3)) := lit_ls v18 [0, 1] (by decide) (by decide)
  have Vq3 := Lib.hid vq3
  have Zq3 := Lib.hid zq3
  clear vq3 zq3
  replace h1 := h1.below hbl
  replace h2 := h2.below hbl
  replace h3 := h3.below hbl
  replace hq1 := hq1.below hbl
  replace hq2 := hq2.below hbl
  replace hB := hB.trans (hbl.mono hB.size)
  clear hbl
  have hc := sameints_b ⟨A3, n3, c3, [0, 1]⟩ q3 (v18.alloc (.cells #[.int .i64 0, .int .i64 1] 3)) h3.ok hq3
  rw [Vq3.out, show (([0, 1] : List Int) == q3.zs) = true by rw [Zq3.out]; decide] at hc
  go_wp2_with fail
  generalize v18.alloc (.cells #[.int .i64 0, .int .i64 1] 3) = W19 at *
  refine hc.mono ?_
  rintro e v20 ⟨rfl, hb⟩
  clear hc
  replace h1 := h1.below hb
  replace h2 := h2.below hb
  replace h3 := h3.below hb
  replace hq1 := hq1.below hb
  replace hq2 := hq2.below hb
  replace hq3 := hq3.below hb
  replace hB := hB.trans (hb.mono hB.size)
  clear hb
  go_wp2
  go_ret
  exact ⟨rfl, hB⟩
end Go.Proofs.Ytjjaajmjcdihoaa
