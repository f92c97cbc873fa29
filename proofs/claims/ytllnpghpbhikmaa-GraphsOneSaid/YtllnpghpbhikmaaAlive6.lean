/-
  What all statements of layer 6 ask first: some answers that the document fixes.
-/
import Derived.Test.YtllnpghpbhikmaaGrW
import Derived.Test.YtllnpghpbhikmaaGrL
namespace Go.Proofs.Ytllnpghpbhikmaa
open Go.RowKit
set_option linter.unusedVariables false

set_option maxRecDepth 100000 in
set_option maxHeartbeats 4000000 in
theorem alive6_any (w : World) : Calls Try.prog 9 #[] w fun e w' => e = .returned (.bool true) ∧ Below w.heap.size w w' := by
  have hB := Below.refl w.heap.size w
  go_enter Try.func9, Try.ntmps9
  obtain ⟨x, vx, zx, hx, hbl⟩ : ∃ x : Gr, x.v = .slice (some ⟨w.heap.size + 1 + 1, 0, none⟩) 2 2 ∧ x.g = [[0, 1], [1]] ∧ x.Ok (((w.alloc (.cells #[.int .i64 0, .int .i64 1] 3)).alloc (.cells #[.int .i64 1] 3)).alloc (.cells #[.slice (some ⟨w.heap.size, 0, none⟩) 2 2, .slice (some ⟨w.heap.size + 1, 0, none⟩) 1 1] 33)) ∧ Below w.heap.size w (((w.alloc (.cells #[.int .i64 0, .int .i64 1] 3)).alloc (.cells #[.int .i64 1] 3)).alloc (.cells #[.slice (some ⟨w.heap.size, 0, none⟩) 2 2, .slice (some ⟨w.heap.size + 1, 0, none⟩) 1 1] 33)) := lit_gr2 w [0, 1] [1] (by decide) (by decide) (by decide) (by decide)
  have Vx := Lib.hid vx
  have Zx := Lib.hid zx
  clear vx zx
  replace hB := hB.trans (hbl.mono hB.size)
  clear hbl
  have hc := gturnedC x 2 (((w.alloc (.cells #[.int .i64 0, .int .i64 1] 3)).alloc (.cells #[.int .i64 1] 3)).alloc (.cells #[.slice (some ⟨w.heap.size, 0, none⟩) 2 2, .slice (some ⟨w.heap.size + 1, 0, none⟩) 1 1] 33)) hx (by omega) (by omega)
  rw [Vx.out, show errG x.g 2 = 0 by rw [Zx.out]; decide] at hc
  go_wp2_with fail
  generalize ((w.alloc (.cells #[.int .i64 0, .int .i64 1] 3)).alloc (.cells #[.int .i64 1] 3)).alloc (.cells #[.slice (some ⟨w.heap.size, 0, none⟩) 2 2, .slice (some ⟨w.heap.size + 1, 0, none⟩) 1 1] 33) = W1 at *
  refine hc.mono ?_
  rintro e v2 ⟨A1, n1, c1, rfl, t1, h1, q1, hb⟩
  clear hc
  replace hx := hx.below hb
  replace hB := hB.trans (hb.mono hB.size)
  clear hb
  have Q1 := Lib.hid (show Ls.all t1 = [[0], [0, 1]] by rw [q1, Zx.out]; decide)
  clear q1
  obtain ⟨u, vu, zu, hu, hbl⟩ : ∃ u : Ls, u.v = .slice (some ⟨v2.heap.size, 0, none⟩) 1 1 ∧ u.zs = [1] ∧ u.Ok (v2.alloc (.cells #[.int .i64 1] 3)) ∧ Below v2.heap.size v2 (v2.alloc (.cells #[.int .i64 1] 3)) := lit_ls v2 [1] (by decide) (by decide)
  have Vu := Lib.hid vu
  have Zu := Lib.hid zu
  clear vu zu
  replace hx := hx.below hbl
  replace h1 := h1.below hbl
  replace hB := hB.trans (hbl.mono hB.size)
  clear hbl
  have hc := gnearC x 2 u (v2.alloc (.cells #[.int .i64 1] 3)) hx hu (by omega) (by omega)
  rw [Vx.out, Vu.out, show nearErr x.g 2 u.zs = 0 by rw [Zx.out, Zu.out]; decide, show nearE x.g 2 u.zs = [1] by rw [Zx.out, Zu.out]; decide] at hc
  go_wp2_with fail
  generalize v2.alloc (.cells #[.int .i64 1] 3) = W3 at *
  refine hc.mono ?_
  rintro e v4 ⟨A2, n2, c2, rfl, h2, hb⟩
  clear hc
  replace hx := hx.below hb
  replace h1 := h1.below hb
  replace hu := hu.below hb
  replace hB := hB.trans (hb.mono hB.size)
  clear hb
  obtain ⟨v, vv, zv, hv, hbl⟩ : ∃ u : Ls, u.v = .slice (some ⟨v4.heap.size, 0, none⟩) 2 2 ∧ u.zs = [1, 0] ∧ u.Ok (v4.alloc (.cells #[.int .i64 1, .int .i64 0] 3)) ∧ Below v4.heap.size v4 (v4.alloc (.cells #[.int .i64 1, .int .i64 0] 3)) := lit_ls v4 [1, 0] (by decide) (by decide)
  have Vv := Lib.hid vv
  have Zv := Lib.hid zv
  clear vv zv
  replace hx := hx.below hbl
  replace h1 := h1.below hbl
  replace hu := hu.below hbl
  replace h2 := h2.below hbl
  replace hB := hB.trans (hbl.mono hB.size)
  clear hbl
  have hc := gnearC x 2 v (v4.alloc (.cells #[.int .i64 1, .int .i64 0] 3)) hx hv (by omega) (by omega)
  rw [Vx.out, Vv.out, show nearErr x.g 2 v.zs = 1 by rw [Zx.out, Zv.out]; decide] at hc
  go_wp2_with fail
  generalize v4.alloc (.cells #[.int .i64 1, .int .i64 0] 3) = W5 at *
  refine hc.mono ?_
  rintro e v6 ⟨A3, n3, c3, rfl, h3, hb⟩
  clear hc
  replace hx := hx.below hb
  replace h1 := h1.below hb
  replace hu := hu.below hb
  replace h2 := h2.below hb
  replace hv := hv.below hb
  replace hB := hB.trans (hb.mono hB.size)
  clear hb
  clear h3
  obtain ⟨nl, vnl, znl, hnl⟩ := nil_ls v6
  have Vnl := Lib.hid vnl
  have Znl := Lib.hid znl
  clear vnl znl
  have hc := gnearC x 2 nl v6 hx hnl (by omega) (by omega)
  rw [Vx.out, Vnl.out, show nearErr x.g 2 nl.zs = 0 by rw [Zx.out, Znl.out]; decide, show nearE x.g 2 nl.zs = [] by rw [Zx.out, Znl.out]; decide] at hc
  go_wp2_with fail
  refine hc.mono ?_
  rintro e v7 ⟨A4, n4, c4, rfl, h4, hb⟩
  clear hc
  replace hx := hx.below hb
  replace h1 := h1.below hb
  replace hu := hu.below hb
  replace h2 := h2.below hb
  replace hv := hv.below hb
  replace hnl := hnl.below hb
  replace hB := hB.trans (hb.mono hB.size)
  clear hb
  obtain rfl : n4 = 0 := h4.len.symm
  clear h4
  have hc := gcheckC x 2 v7 hx (by omega) (by omega)
  rw [Vx.out, show checkG x.g 2 = true by rw [Zx.out]; decide] at hc
  go_wp2_with fail
  refine hc.mono ?_
  rintro e v8 ⟨rfl, hb⟩
  clear hc
  replace hx := hx.below hb
  replace h1 := h1.below hb
  replace hu := hu.below hb
  replace h2 := h2.below hb
  replace hv := hv.below hb
  replace hnl := hnl.below hb
  replace hB := hB.trans (hb.mono hB.size)
  clear hb
  have hc := gcheckC x 1 v8 hx (by omega) (by omega)
  rw [Vx.out, show checkG x.g 1 = false by rw [Zx.out]; decide] at hc
  go_wp2_with fail
  refine hc.mono ?_
  rintro e v9 ⟨rfl, hb⟩
  clear hc
  replace hx := hx.below hb
  replace h1 := h1.below hb
  replace hu := hu.below hb
  replace h2 := h2.below hb
  replace hv := hv.below hb
  replace hnl := hnl.below hb
  replace hB := hB.trans (hb.mono hB.size)
  clear hb
  obtain ⟨y, vy, zy, hy, hbl⟩ : ∃ x : Gr, x.v = .slice (some ⟨v9.heap.size + 1 + 1, 0, none⟩) 2 2 ∧ x.g = [[0], [0, 1]] ∧ x.Ok (((v9.alloc (.cells #[.int .i64 0] 3)).alloc (.cells #[.int .i64 0, .int .i64 1] 3)).alloc (.cells #[.slice (some ⟨v9.heap.size, 0, none⟩) 1 1, .slice (some ⟨v9.heap.size + 1, 0, none⟩) 2 2] 33)) ∧ Below v9.heap.size v9 (((v9.alloc (.cells #[.int .i64 0] 3)).alloc (.cells #[.int .i64 0, .int .i64 1] 3)).alloc (.cells #[.slice (some ⟨v9.heap.size, 0, none⟩) 1 1, .slice (some ⟨v9.heap.size + 1, 0, none⟩) 2 2] 33)) := lit_gr2 v9 [0] [0, 1] (by decide) (by decide) (by decide) (by decide)
  have Vy := Lib.hid vy
  have Zy := Lib.hid zy
  clear vy zy
  replace hx := hx.below hbl
  replace h1 := h1.below hbl
  replace hu := hu.below hbl
  replace h2 := h2.below hbl
  replace hv := hv.below hbl
  replace hnl := hnl.below hbl
  replace hB := hB.trans (hbl.mono hB.size)
  clear hbl
  have hc := sameintlists_b ⟨A1, n1, c1, t1⟩ y (((v9.alloc (.cells #[.int .i64 0] 3)).alloc (.cells #[.int .i64 0, .int .i64 1] 3)).alloc (.cells #[.slice (some ⟨v9.heap.size, 0, none⟩) 1 1, .slice (some ⟨v9.heap.size + 1, 0, none⟩) 2 2] 33)) h1.gr hy
  rw [Vy.out, show ((⟨A1, n1, c1, t1⟩ : Gr).g == y.g) = true by rw [Zy.out, show (⟨A1, n1, c1, t1⟩ : Gr).g = Ls.all t1 from rfl, Q1.out]; decide] at hc
  go_wp2_with fail
  generalize ((v9.alloc (.cells #[.int .i64 0] 3)).alloc (.cells #[.int .i64 0, .int .i64 1] 3)).alloc (.cells #[.slice (some ⟨v9.heap.size, 0, none⟩) 1 1, .slice (some ⟨v9.heap.size + 1, 0, none⟩) 2 2] 33) = W10 at *
  refine hc.mono ?_
  rintro e v11 ⟨rfl, hb⟩
  clear hc
  replace hx := hx.below hb
  replace h1 := h1.below hb
  replace hu := hu.below hb
  replace h2 := h2.below hb
  replace hv := hv.below hb
  replace hnl := hnl.below hb
  replace hy := hy.below hb
  replace hB := hB.trans (hb.mono hB.size)
  clear hb
  obtain ⟨a, va, za, ha, hbl⟩ : ∃ u : Ls, u.v = .slice (some ⟨v11.heap.size, 0, none⟩) 2 2 ∧ u.zs = [0, 1] ∧ u.Ok (v11.alloc (.cells #[.int .i64 0, .int .i64 1] 3)) ∧ Below v11.heap.size v11 (v11.alloc (.cells #[.int .i64 0, .int .i64 1] 3)) := lit_ls v11 [0, 1] (by decide) (by decide)
  have Va := Lib.hid va
  have Za := Lib.hid za
  clear va za
  replace hx := hx.below hbl
  replace h1 := h1.below hbl
  replace hu := hu.below hbl
  replace h2 := h2.below hbl
  replace hv := hv.below hbl
  replace hnl := hnl.below hbl
  replace hy := hy.below hbl
  replace hB := hB.trans (hbl.mono hB.size)
  clear hbl
  have hc := gfitsC x 2 a (v11.alloc (.cells #[.int .i64 0, .int .i64 1] 3)) hx ha (by omega) (by omega)
  rw [Vx.out, Va.out, show fitsG x.g 2 a.zs = true by rw [Zx.out, Za.out]; decide] at hc
  go_wp2_with fail
  generalize v11.alloc (.cells #[.int .i64 0, .int .i64 1] 3) = W12 at *
  refine hc.mono ?_
  rintro e v13 ⟨rfl, hb⟩
  clear hc
  replace hx := hx.below hb
  replace h1 := h1.below hb
  replace hu := hu.below hb
  replace h2 := h2.below hb
  replace hv := hv.below hb
  replace hnl := hnl.below hb
  replace hy := hy.below hb
  replace ha := ha.below hb
  replace hB := hB.trans (hb.mono hB.size)
  clear hb
  obtain ⟨b, vb, zb, hb_, hbl⟩ : ∃ u : Ls, u.v = .slice (some ⟨v13.heap.size, 0, none⟩) 2 2 ∧ u.zs = [1, 1] ∧ u.Ok (v13.alloc (.cells #[.int .i64 1, .int .i64 1] 3)) ∧ Below v13.heap.size v13 (v13.alloc (.cells #[.int .i64 1, .int .i64 1] 3)) := lit_ls v13 [1, 1] (by decide) (by decide)
  have Vb := Lib.hid vb
  have Zb := Lib.hid zb
  clear vb zb
  replace hx := hx.below hbl
  replace h1 := h1.below hbl
  replace hu := hu.below hbl
  replace h2 := h2.below hbl
  replace hv := hv.below hbl
  replace hnl := hnl.below hbl
  replace hy := hy.below hbl
  replace ha := ha.below hbl
  replace hB := hB.trans (hbl.mono hB.size)
  clear hbl
  have hc := gfitsC x 2 b (v13.alloc (.cells #[.int .i64 1, .int .i64 1] 3)) hx hb_ (by omega) (by omega)
  rw [Vx.out, Vb.out, show fitsG x.g 2 b.zs = false by rw [Zx.out, Zb.out]; decide] at hc
  go_wp2_with fail
  generalize v13.alloc (.cells #[.int .i64 1, .int .i64 1] 3) = W14 at *
  refine hc.mono ?_
  rintro e v15 ⟨rfl, hb⟩
  clear hc
  replace hx := hx.below hb
  replace h1 := h1.below hb
  replace hu := hu.below hb
  replace h2 := h2.below hb
  replace hv := hv.below hb
  replace hnl := hnl.below hb
  replace hy := hy.below hb
  replace ha := ha.below hb
  replace hb_ := hb_.below hb
  replace hB := hB.trans (hb.mono hB.size)
  clear hb
  obtain ⟨c, vc, zc, hc_, hbl⟩ : ∃ u : Ls, u.v = .slice (some ⟨v15.heap.size, 0, none⟩) 2 2 ∧ u.zs = [-1, 1] ∧ u.Ok (v15.alloc (.cells #[.int .i64 (-1), .int .i64 1] 3)) ∧ Below v15.heap.size v15 (v15.alloc (.cells #[.int .i64 (-1), .int .i64 1] 3)) := lit_ls v15 [-1, 1] (by decide) (by decide)
  have Vc := Lib.hid vc
  have Zc := Lib.hid zc
  clear vc zc
  replace hx := hx.below hbl
  replace h1 := h1.below hbl
  replace hu := hu.below hbl
  replace h2 := h2.below hbl
  replace hv := hv.below hbl
  replace hnl := hnl.below hbl
  replace hy := hy.below hbl
  replace ha := ha.below hbl
  replace hb_ := hb_.below hbl
  replace hB := hB.trans (hbl.mono hB.size)
  clear hbl
  have hc := gfitsC x 2 c (v15.alloc (.cells #[.int .i64 (-1), .int .i64 1] 3)) hx hc_ (by omega) (by omega)
  rw [Vx.out, Vc.out, show fitsG x.g 2 c.zs = true by rw [Zx.out, Zc.out]; decide] at hc
  go_wp2_with fail
  generalize v15.alloc (.cells #[.int .i64 (-1), .int .i64 1] 3) = W16 at *
  refine hc.mono ?_
  rintro e v17 ⟨rfl, hb⟩
  clear hc
  replace hx := hx.below hb
  replace h1 := h1.below hb
  replace hu := hu.below hb
  replace h2 := h2.below hb
  replace hv := hv.below hb
  replace hnl := hnl.below hb
  replace hy := hy.below hb
  replace ha := ha.below hb
  replace hb_ := hb_.below hb
  replace hc_ := hc_.below hb
  replace hB := hB.trans (hb.mono hB.size)
  clear hb
  obtain ⟨d, vd, zd, hd, hbl⟩ : ∃ u : Ls, u.v = .slice (some ⟨v17.heap.size, 0, none⟩) 2 2 ∧ u.zs = [-1, 1] ∧ u.Ok (v17.alloc (.cells #[.int .i64 (-1), .int .i64 1] 3)) ∧ Below v17.heap.size v17 (v17.alloc (.cells #[.int .i64 (-1), .int .i64 1] 3)) := lit_ls v17 [-1, 1] (by decide) (by decide)
  have Vd := Lib.hid vd
  have Zd := Lib.hid zd
  clear vd zd
  replace hx := hx.below hbl
  replace h1 := h1.below hbl
  replace hu := hu.below hbl
  replace h2 := h2.below hbl
  replace hv := hv.below hbl
  replace hnl := hnl.below hbl
  replace hy := hy.below hbl
  replace ha := ha.below hbl
  replace hb_ := hb_.below hbl
  replace hc_ := hc_.below hbl
  replace hB := hB.trans (hbl.mono hB.size)
  clear hbl
  have hc := gmanyC d (v17.alloc (.cells #[.int .i64 (-1), .int .i64 1] 3)) hd
  rw [Vd.out, show manyG d.zs = 1 by rw [Zd.out]; decide] at hc
  go_wp2_with fail
  generalize v17.alloc (.cells #[.int .i64 (-1), .int .i64 1] 3) = W18 at *
  refine hc.mono ?_
  rintro e v19 ⟨rfl, hb⟩
  clear hc
  replace hx := hx.below hb
  replace h1 := h1.below hb
  replace hu := hu.below hb
  replace h2 := h2.below hb
  replace hv := hv.below hb
  replace hnl := hnl.below hb
  replace hy := hy.below hb
  replace ha := ha.below hb
  replace hb_ := hb_.below hb
  replace hc_ := hc_.below hb
  replace hd := hd.below hb
  replace hB := hB.trans (hb.mono hB.size)
  clear hb
  obtain ⟨f, vf, zf, hf, hbl⟩ : ∃ u : Ls, u.v = .slice (some ⟨v19.heap.size, 0, none⟩) 1 1 ∧ u.zs = [1] ∧ u.Ok (v19.alloc (.cells #[.int .i64 1] 3)) ∧ Below v19.heap.size v19 (v19.alloc (.cells #[.int .i64 1] 3)) := lit_ls v19 [1] (by decide) (by decide)
  have Vf := Lib.hid vf
  have Zf := Lib.hid zf
  clear vf zf
  replace hx := hx.below hbl
  replace h1 := h1.below hbl
  replace hu := hu.below hbl
  replace h2 := h2.below hbl
  replace hv := hv.below hbl
  replace hnl := hnl.below hbl
  replace hy := hy.below hbl
  replace ha := ha.below hbl
  replace hb_ := hb_.below hbl
  replace hc_ := hc_.below hbl
  replace hd := hd.below hbl
  replace hB := hB.trans (hbl.mono hB.size)
  clear hbl
  have hc := sameints_b ⟨A2, n2, c2, _⟩ f (v19.alloc (.cells #[.int .i64 1] 3)) h2.ok hf
  rw [Vf.out, show (([1] : List Int) == f.zs) = true by rw [Zf.out]; decide] at hc
  go_wp2_with fail
  generalize v19.alloc (.cells #[.int .i64 1] 3) = W20 at *
  refine hc.mono ?_
  rintro e v21 ⟨rfl, hb⟩
  clear hc
  replace hx := hx.below hb
  replace h1 := h1.below hb
  replace hu := hu.below hb
  replace h2 := h2.below hb
  replace hv := hv.below hb
  replace hnl := hnl.below hb
  replace hy := hy.below hb
  replace ha := ha.below hb
  replace hb_ := hb_.below hb
  replace hc_ := hc_.below hb
  replace hd := hd.below hb
  replace hf := hf.below hb
  replace hB := hB.trans (hb.mono hB.size)
  clear hb
  go_wp2
  go_ret
  exact ⟨rfl, hB⟩
end Go.Proofs.Ytllnpghpbhikmaa
