/-
  What all statements of layer 8 ask first: some answers that the document fixes.
-/
import Derived.Test.YtcjfgkihmhdhlaaMaW
import Derived.Test.YtcjfgkihmhdhlaaGrW
import Derived.Test.YtcjfgkihmhdhlaaMaL
namespace Go.Proofs.Ytcjfgkihmhdhlaa
open Go.RowKit
set_option linter.unusedVariables false

set_option maxRecDepth 100000 in
set_option maxHeartbeats 4000000 in
theorem alive8_any (w : World) : Calls Try.prog 10 #[] w fun e w' => e = .returned (.bool true) ∧ Below w.heap.size w w' := by
  have hB := Below.refl w.heap.size w
  go_enter Try.func10, Try.ntmps10
  obtain ⟨x, vx, zx, hx, hbl⟩ : ∃ x : Gr, x.v = .slice (some ⟨w.heap.size + 1 + 1, 0, none⟩) 2 2 ∧ x.g = [[0], [0, 1]] ∧ x.Ok (((w.alloc (.cells #[.int .i64 0] 3)).alloc (.cells #[.int .i64 0, .int .i64 1] 3)).alloc (.cells #[.slice (some ⟨w.heap.size, 0, none⟩) 1 1, .slice (some ⟨w.heap.size + 1, 0, none⟩) 2 2] 25)) ∧ Below w.heap.size w (((w.alloc (.cells #[.int .i64 0] 3)).alloc (.cells #[.int .i64 0, .int .i64 1] 3)).alloc (.cells #[.slice (some ⟨w.heap.size, 0, none⟩) 1 1, .slice (some ⟨w.heap.size + 1, 0, none⟩) 2 2] 25)) := lit_gr2 w [0] [0, 1] (by decide) (by decide) (by decide) (by decide)
  have Vx := Lib.hid vx
  have Zx := Lib.hid zx
  clear vx zx
  replace hB := hB.trans (hbl.mono hB.size)
  clear hbl
  have hc := pmostC x 2 (((w.alloc (.cells #[.int .i64 0] 3)).alloc (.cells #[.int .i64 0, .int .i64 1] 3)).alloc (.cells #[.slice (some ⟨w.heap.size, 0, none⟩) 1 1, .slice (some ⟨w.heap.size + 1, 0, none⟩) 2 2] 25)) hx (by omega) (by omega)
  rw [Vx.out, show mostErr x.g 2 = 0 by rw [Zx.out]; decide, show mostE x.g 2 = [0, 1] by rw [Zx.out]; decide] at hc
  go_wp2_with fail
  generalize ((w.alloc (.cells #[.int .i64 0] 3)).alloc (.cells #[.int .i64 0, .int .i64 1] 3)).alloc (.cells #[.slice (some ⟨w.heap.size, 0, none⟩) 1 1, .slice (some ⟨w.heap.size + 1, 0, none⟩) 2 2] 25) = W1 at *
  refine hc.mono ?_
  rintro e v2 ⟨A1, n1, c1, rfl, h1, hb⟩
  clear hc
  replace hx := hx.below hb
  replace hB := hB.trans (hb.mono hB.size)
  clear hb
  obtain ⟨y, vy, zy, hy, hbl⟩ : ∃ x : Gr, x.v = .slice (some ⟨v2.heap.size + 1 + 1, 0, none⟩) 2 2 ∧ x.g = [[0], [0]] ∧ x.Ok (((v2.alloc (.cells #[.int .i64 0] 3)).alloc (.cells #[.int .i64 0] 3)).alloc (.cells #[.slice (some ⟨v2.heap.size, 0, none⟩) 1 1, .slice (some ⟨v2.heap.size + 1, 0, none⟩) 1 1] 25)) ∧ Below v2.heap.size v2 (((v2.alloc (.cells #[.int .i64 0] 3)).alloc (.cells #[.int .i64 0] 3)).alloc (.cells #[.slice (some ⟨v2.heap.size, 0, none⟩) 1 1, .slice (some ⟨v2.heap.size + 1, 0, none⟩) 1 1] 25)) := lit_gr2 v2 [0] [0] (by decide) (by decide) (by decide) (by decide)
  have Vy := Lib.hid vy
  have Zy := Lib.hid zy
  clear vy zy
  replace hx := hx.below hbl
  replace h1 := h1.below hbl
  replace hB := hB.trans (hbl.mono hB.size)
  clear hbl
  have hc := pmostC y 1 (((v2.alloc (.cells #[.int .i64 0] 3)).alloc (.cells #[.int .i64 0] 3)).alloc (.cells #[.slice (some ⟨v2.heap.size, 0, none⟩) 1 1, .slice (some ⟨v2.heap.size + 1, 0, none⟩) 1 1] 25)) hy (by omega) (by omega)
  rw [Vy.out, show mostErr y.g 1 = 0 by rw [Zy.out]; decide, show mostE y.g 1 = [0, -1] by rw [Zy.out]; decide] at hc
  go_wp2_with fail
  generalize ((v2.alloc (.cells #[.int .i64 0] 3)).alloc (.cells #[.int .i64 0] 3)).alloc (.cells #[.slice (some ⟨v2.heap.size, 0, none⟩) 1 1, .slice (some ⟨v2.heap.size + 1, 0, none⟩) 1 1] 25) = W3 at *
  refine hc.mono ?_
  rintro e v4 ⟨A2, n2, c2, rfl, h2, hb⟩
  clear hc
  replace hx := hx.below hb
  replace h1 := h1.below hb
  replace hy := hy.below hb
  replace hB := hB.trans (hb.mono hB.size)
  clear hb
  obtain ⟨z, u, vz, zz, vu, zu, hz, hu, hbl⟩ : ∃ (x : Gr) (u : Ls), x.v = .slice (some ⟨v4.heap.size + 1 + 1 + 1, 0, none⟩) 3 3 ∧ x.g = [[0], [0], [1]] ∧ u.v = .slice (some ⟨v4.heap.size + 1 + 1 + 1 + 1, 0, none⟩) 2 2 ∧ u.zs = [0, 2] ∧ x.Ok (((((v4.alloc (.cells #[.int .i64 0] 3)).alloc (.cells #[.int .i64 0] 3)).alloc (.cells #[.int .i64 1] 3)).alloc (.cells #[.slice (some ⟨v4.heap.size, 0, none⟩) 1 1, .slice (some ⟨v4.heap.size + 1, 0, none⟩) 1 1, .slice (some ⟨v4.heap.size + 1 + 1, 0, none⟩) 1 1] 25)).alloc (.cells #[.int .i64 0, .int .i64 2] 3)) ∧ u.Ok (((((v4.alloc (.cells #[.int .i64 0] 3)).alloc (.cells #[.int .i64 0] 3)).alloc (.cells #[.int .i64 1] 3)).alloc (.cells #[.slice (some ⟨v4.heap.size, 0, none⟩) 1 1, .slice (some ⟨v4.heap.size + 1, 0, none⟩) 1 1, .slice (some ⟨v4.heap.size + 1 + 1, 0, none⟩) 1 1] 25)).alloc (.cells #[.int .i64 0, .int .i64 2] 3)) ∧ Below v4.heap.size v4 (((((v4.alloc (.cells #[.int .i64 0] 3)).alloc (.cells #[.int .i64 0] 3)).alloc (.cells #[.int .i64 1] 3)).alloc (.cells #[.slice (some ⟨v4.heap.size, 0, none⟩) 1 1, .slice (some ⟨v4.heap.size + 1, 0, none⟩) 1 1, .slice (some ⟨v4.heap.size + 1 + 1, 0, none⟩) 1 1] 25)).alloc (.cells #[.int .i64 0, .int .i64 2] 3)) := lit_gr3_ls v4 [0] [0] [1] [0, 2] (by decide) (by decide) (by decide) (by decide) (by decide) (by decide) (by decide) (by decide)
  have Vz := Lib.hid vz
  have Zz := Lib.hid zz
  clear vz zz
  have Vu := Lib.hid vu
  have Zu := Lib.hid zu
  clear vu zu
  replace hx := hx.below hbl
  replace h1 := h1.below hbl
  replace hy := hy.below hbl
  replace h2 := h2.below hbl
  replace hB := hB.trans (hbl.mono hB.size)
  clear hbl
  have hc := pallC z 2 u (((((v4.alloc (.cells #[.int .i64 0] 3)).alloc (.cells #[.int .i64 0] 3)).alloc (.cells #[.int .i64 1] 3)).alloc (.cells #[.slice (some ⟨v4.heap.size, 0, none⟩) 1 1, .slice (some ⟨v4.heap.size + 1, 0, none⟩) 1 1, .slice (some ⟨v4.heap.size + 1 + 1, 0, none⟩) 1 1] 25)).alloc (.cells #[.int .i64 0, .int .i64 2] 3)) hz hu (by omega) (by omega)
  rw [Vz.out, Vu.out, show allE z.g 2 u.zs = true by rw [Zz.out, Zu.out]; decide, show nearErr z.g 2 u.zs = 0 by rw [Zz.out, Zu.out]; decide] at hc
  go_wp2_with fail
  generalize ((((v4.alloc (.cells #[.int .i64 0] 3)).alloc (.cells #[.int .i64 0] 3)).alloc (.cells #[.int .i64 1] 3)).alloc (.cells #[.slice (some ⟨v4.heap.size, 0, none⟩) 1 1, .slice (some ⟨v4.heap.size + 1, 0, none⟩) 1 1, .slice (some ⟨v4.heap.size + 1 + 1, 0, none⟩) 1 1] 25)).alloc (.cells #[.int .i64 0, .int .i64 2] 3) = W5 at *
  refine hc.mono ?_
  rintro e v6 ⟨rfl, hb⟩
  clear hc
  replace hx := hx.below hb
  replace h1 := h1.below hb
  replace hy := hy.below hb
  replace h2 := h2.below hb
  replace hz := hz.below hb
  replace hu := hu.below hb
  replace hB := hB.trans (hb.mono hB.size)
  clear hb
  obtain ⟨s, vs, zs, hs, hbl⟩ : ∃ u : Ls, u.v = .slice (some ⟨v6.heap.size, 0, none⟩) 2 2 ∧ u.zs = [0, 1] ∧ u.Ok (v6.alloc (.cells #[.int .i64 0, .int .i64 1] 3)) ∧ Below v6.heap.size v6 (v6.alloc (.cells #[.int .i64 0, .int .i64 1] 3)) := lit_ls v6 [0, 1] (by decide) (by decide)
  have Vs := Lib.hid vs
  have Zs := Lib.hid zs
  clear vs zs
  replace hx := hx.below hbl
  replace h1 := h1.below hbl
  replace hy := hy.below hbl
  replace h2 := h2.below hbl
  replace hz := hz.below hbl
  replace hu := hu.below hbl
  replace hB := hB.trans (hbl.mono hB.size)
  clear hbl
  have eV := Vz.out
  clear eV
  have hc := pallC z 2 s (v6.alloc (.cells #[.int .i64 0, .int .i64 1] 3)) hz hs (by omega) (by omega)
  rw [Vz.out, Vs.out, show allE z.g 2 s.zs = false by rw [Zz.out, Zs.out]; decide, show nearErr z.g 2 s.zs = 0 by rw [Zz.out, Zs.out]; decide] at hc
  go_wp2_with fail
  generalize v6.alloc (.cells #[.int .i64 0, .int .i64 1] 3) = W7 at *
  refine hc.mono ?_
  rintro e v8 ⟨rfl, hb⟩
  clear hc
  replace hx := hx.below hb
  replace h1 := h1.below hb
  replace hy := hy.below hb
  replace h2 := h2.below hb
  replace hz := hz.below hb
  replace hu := hu.below hb
  replace hs := hs.below hb
  replace hB := hB.trans (hb.mono hB.size)
  clear hb
  obtain ⟨t, vt, zt, ht, hbl⟩ : ∃ u : Ls, u.v = .slice (some ⟨v8.heap.size, 0, none⟩) 2 2 ∧ u.zs = [1, 0] ∧ u.Ok (v8.alloc (.cells #[.int .i64 1, .int .i64 0] 3)) ∧ Below v8.heap.size v8 (v8.alloc (.cells #[.int .i64 1, .int .i64 0] 3)) := lit_ls v8 [1, 0] (by decide) (by decide)
  have Vt := Lib.hid vt
  have Zt := Lib.hid zt
  clear vt zt
  replace hx := hx.below hbl
  replace h1 := h1.below hbl
  replace hy := hy.below hbl
  replace h2 := h2.below hbl
  replace hz := hz.below hbl
  replace hu := hu.below hbl
  replace hs := hs.below hbl
  replace hB := hB.trans (hbl.mono hB.size)
  clear hbl
  have hc := pallC z 2 t (v8.alloc (.cells #[.int .i64 1, .int .i64 0] 3)) hz ht (by omega) (by omega)
  rw [Vz.out, Vt.out, show allE z.g 2 t.zs = false by rw [Zz.out, Zt.out]; decide, show nearErr z.g 2 t.zs = 1 by rw [Zz.out, Zt.out]; decide] at hc
  go_wp2_with fail
  generalize v8.alloc (.cells #[.int .i64 1, .int .i64 0] 3) = W9 at *
  refine hc.mono ?_
  rintro e v10 ⟨rfl, hb⟩
  clear hc
  replace hx := hx.below hb
  replace h1 := h1.below hb
  replace hy := hy.below hb
  replace h2 := h2.below hb
  replace hz := hz.below hb
  replace hu := hu.below hb
  replace hs := hs.below hb
  replace ht := ht.below hb
  replace hB := hB.trans (hb.mono hB.size)
  clear hb
  obtain ⟨q1, vq1, zq1, hq1, hbl⟩ : ∃ u : Ls, u.v = .slice (some ⟨v10.heap.size, 0, none⟩) 2 2 ∧ u.zs = [0, 1] ∧ u.Ok (v10.alloc (.cells #[.int .i64 0, .int .i64 1] 3)) ∧ Below v10.heap.size v10 (v10.alloc (.cells #[.int .i64 0, .int .i64 1] 3)) := lit_ls v10 [0, 1] (by decide) (by decide)
  have Vq1 := Lib.hid vq1
  have Zq1 := Lib.hid zq1
  clear vq1 zq1
  replace hx := hx.below hbl
  replace h1 := h1.below hbl
  replace hy := hy.below hbl
  replace h2 := h2.below hbl
  replace hz := hz.below hbl
  replace hu := hu.below hbl
  replace hs := hs.below hbl
  replace ht := ht.below hbl
  replace hB := hB.trans (hbl.mono hB.size)
  clear hbl
  have hc := sameints_b ⟨A1, n1, c1, [0, 1]⟩ q1 (v10.alloc (.cells #[.int .i64 0, .int .i64 1] 3)) h1.ok hq1
  rw [Vq1.out, show (([0, 1] : List Int) == q1.zs) = true by rw [Zq1.out]; decide] at hc
  go_wp2_with fail
  generalize v10.alloc (.cells #[.int .i64 0, .int .i64 1] 3) = W11 at *
  refine hc.mono ?_
  rintro e v12 ⟨rfl, hb⟩
  clear hc
  replace hx := hx.below hb
  replace h1 := h1.below hb
  replace hy := hy.below hb
  replace h2 := h2.below hb
  replace hz := hz.below hb
  replace hu := hu.below hb
  replace hs := hs.below hb
  replace ht := ht.below hb
  replace hq1 := hq1.below hb
  replace hB := hB.trans (hb.mono hB.size)
  clear hb
  obtain ⟨q2, vq2, zq2, hq2, hbl⟩ : ∃ u : Ls, u.v = .slice (some ⟨v12.heap.size, 0, none⟩) 2 2 ∧ u.zs = [0, -1] ∧ u.Ok (v12.alloc (.cells #[.int .i64 0, .int .i64 (-1)] 3)) ∧ Below v12.heap.size v12 (v12.alloc (.cells #[.int .i64 0, .int .i64 (-1)] 3)) := lit_ls v12 [0, -1] (by decide) (by decide)
  have Vq2 := Lib.hid vq2
  have Zq2 := Lib.hid zq2
  clear vq2 zq2
  replace hx := hx.below hbl
  replace h1 := h1.below hbl
  replace hy := hy.below hbl
  replace h2 := h2.below hbl
  replace hz := hz.below hbl
  replace hu := hu.below hbl
  replace hs := hs.below hbl
  replace ht := ht.below hbl
  replace hq1 := hq1.below hbl
  replace hB := hB.trans (hbl.mono hB.size)
  clear hbl
  have hc := sameints_b ⟨A2, n2, c2, [0, -1]⟩ q2 (v12.alloc (.cells #[.int .i64 0, .int .i64 (-1)] 3)) h2.ok hq2
  rw [Vq2.out, show (([0, -1] : List Int) == q2.zs) = true by rw [Zq2.out]; decide] at hc
  go_wp2_with fail
  generalize v12.alloc (.cells #[.int .i64 0, .int .i64 (-1)] 3) = W13 at *
  refine hc.mono ?_
  rintro e v14 ⟨rfl, hb⟩
  clear hc
  replace hx := hx.below hb
  replace h1 := h1.below hb
  replace hy := hy.below hb
  replace h2 := h2.below hb
  replace hz := hz.below hb
  replace hu := hu.below hb
  replace hs := hs.below hb
  replace ht := ht.below hb
  replace hq1 := hq1.below hb
  replace hq2 := hq2.below hb
  replace hB := hB.trans (hb.mono hB.size)
  clear hb
  go_wp2
  go_ret
  exact ⟨rfl, hB⟩
end Go.Proofs.Ytcjfgkihmhdhlaa
