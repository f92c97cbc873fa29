/-
  What all statements of layer 10 ask first: some answers that the document fixes.
-/
import Derived.Test.YtiaoplghaigclaaWeW
import Derived.Test.YtiaoplghaigclaaWeM
namespace Go.Proofs.Ytiaoplghaigclaa
open Go.RowKit
set_option linter.unusedVariables false

theorem lit_gr1 (w : World) (a : List Int) (ha : a.length ≤ 1000) (fa : ∀ z ∈ a, -1000 ≤ z ∧ z ≤ 1000) :
    ∃ x : Gr, x.v = .slice (some ⟨w.heap.size + 1, 0, none⟩) 1 1 ∧ x.g = [a] ∧ x.Ok ((w.alloc (.cells (ci64 a).toArray 3)).alloc (.cells #[.slice (some ⟨w.heap.size, 0, none⟩) a.length a.length] 28)) ∧
      Below w.heap.size w ((w.alloc (.cells (ci64 a).toArray 3)).alloc (.cells #[.slice (some ⟨w.heap.size, 0, none⟩) a.length a.length] 28)) := by
  have hz : ∀ (v : World) (o1 : Obj), (v.alloc o1).heap.size = v.heap.size + 1 := fun v o1 => Array.size_push ..
  have h1 := lit_ok w a ha fa
  have h4 := Own.lit (B := 0) (w.alloc (.cells (ci64 a).toArray 3)) 28 #[.slice (some ⟨w.heap.size, 0, none⟩) a.length a.length] 1 (Nat.zero_le _) rfl (by unfold maxLen; omega)
  rw [hz] at h4
  refine ⟨⟨some ⟨w.heap.size + 1, 0, none⟩, 1, 1, [⟨some ⟨w.heap.size, 0, none⟩, a.length, a.length, a⟩]⟩, rfl, rfl, ⟨⟨outs_at (t := [⟨some ⟨w.heap.size, 0, none⟩, a.length, a.length, a⟩]) h4, ?_⟩, Nat.le_refl _, by simp only [maxLen]; omega⟩, ((Below.refl _ w).alloc (Nat.le_refl _) _).alloc (by rw [hz]; omega) _⟩
  intro u hu
  rw [List.mem_singleton.1 hu]
  exact h1.ok.below (lit_below _ _)
def Gr.nil : Gr := ⟨none, 0, 0, []⟩
theorem nil_gr (w : World) : Gr.nil.Ok w := ⟨⟨⟨rfl, fun h => absurd h (by simp [Gr.nil])⟩, fun u hu => by cases hu⟩, Nat.le_refl _, by simp [Gr.nil]⟩
set_option maxRecDepth 100000 in
set_option maxHeartbeats 1000000 in
theorem alive10_any (w : World) : Calls Try.prog 15 #[] w fun e w' => e = .returned (.bool true) ∧ Below w.heap.size w w' := by
  have hB := Below.refl w.heap.size w
  go_enter Try.func15, Try.ntmps15
  obtain ⟨x, vx, zx, hx, hbl⟩ : ∃ x : Gr, x.v = .slice (some ⟨w.heap.size + 1 + 1, 0, none⟩) 2 2 ∧ x.g = [[5, 2], [4, 0]] ∧ x.Ok (((w.alloc (.cells #[.int .i64 5, .int .i64 2] 3)).alloc (.cells #[.int .i64 4, .int .i64 0] 3)).alloc (.cells #[.slice (some ⟨w.heap.size, 0, none⟩) 2 2, .slice (some ⟨w.heap.size + 1, 0, none⟩) 2 2] 28)) ∧ Below w.heap.size w (((w.alloc (.cells #[.int .i64 5, .int .i64 2] 3)).alloc (.cells #[.int .i64 4, .int .i64 0] 3)).alloc (.cells #[.slice (some ⟨w.heap.size, 0, none⟩) 2 2, .slice (some ⟨w.heap.size + 1, 0, none⟩) 2 2] 28)) := lit_gr2 w [5, 2] [4, 0] (by decide) (by decide) (by decide) (by decide)
  have Vx := Lib.hid vx
  have Zx := Lib.hid zx
  clear vx zx
  replace hB := hB.trans (hbl.mono hB.size)
  clear hbl
  have hc := pbestC x 2 (((w.alloc (.cells #[.int .i64 5, .int .i64 2] 3)).alloc (.cells #[.int .i64 4, .int .i64 0] 3)).alloc (.cells #[.slice (some ⟨w.heap.size, 0, none⟩) 2 2, .slice (some ⟨w.heap.size + 1, 0, none⟩) 2 2] 28)) hx (by omega) (by omega)
  rw [Vx.out, show bestE x.g 2 = 6 by rw [Zx.out]; decide, show wErr x.g 2 = 0 by rw [Zx.out]; decide] at hc
  go_wp2_with fail
  generalize ((w.alloc (.cells #[.int .i64 5, .int .i64 2] 3)).alloc (.cells #[.int .i64 4, .int .i64 0] 3)).alloc (.cells #[.slice (some ⟨w.heap.size, 0, none⟩) 2 2, .slice (some ⟨w.heap.size + 1, 0, none⟩) 2 2] 28) = W1 at *
  refine hc.mono ?_
  rintro e v2 ⟨rfl, hb⟩
  clear hc
  replace hx := hx.below hb
  replace hB := hB.trans (hb.mono hB.size)
  clear hb
  have hc := pprovedC x 2 v2 hx (by omega) (by omega)
  rw [Vx.out, show wErr x.g 2 = 0 by rw [Zx.out]; decide, show bidE x.g 2 = [2, 1] by rw [Zx.out]; decide, show ofE x.g 2 = [3, 0] by rw [Zx.out]; decide] at hc
  go_wp2_with fail
  refine hc.mono ?_
  rintro e v3 ⟨A1, n1, c1, A2, n2, c2, rfl, h1, h2, hapt, hb⟩
  clear hc
  replace hx := hx.below hb
  replace hB := hB.trans (hb.mono hB.size)
  clear hb
  clear hapt
  obtain ⟨y, vy, zy, hy, hbl⟩ : ∃ x : Gr, x.v = .slice (some ⟨v3.heap.size + 1, 0, none⟩) 1 1 ∧ x.g = [[-1]] ∧ x.Ok ((v3.alloc (.cells #[.int .i64 (-1)] 3)).alloc (.cells #[.slice (some ⟨v3.heap.size, 0, none⟩) 1 1] 28)) ∧ Below v3.heap.size v3 ((v3.alloc (.cells #[.int .i64 (-1)] 3)).alloc (.cells #[.slice (some ⟨v3.heap.size, 0, none⟩) 1 1] 28)) := lit_gr1 v3 [-1] (by decide) (by decide)
  have Vy := Lib.hid vy
  have Zy := Lib.hid zy
  clear vy zy
  replace hx := hx.below hbl
  replace h1 := h1.below hbl
  replace h2 := h2.below hbl
  replace hB := hB.trans (hbl.mono hB.size)
  clear hbl
  have hc := pbestC y 1 ((v3.alloc (.cells #[.int .i64 (-1)] 3)).alloc (.cells #[.slice (some ⟨v3.heap.size, 0, none⟩) 1 1] 28)) hy (by omega) (by omega)
  rw [Vy.out, show bestE y.g 1 = 0 by rw [Zy.out]; decide, show wErr y.g 1 = 0 by rw [Zy.out]; decide] at hc
  go_wp2_with fail
  generalize (v3.alloc (.cells #[.int .i64 (-1)] 3)).alloc (.cells #[.slice (some ⟨v3.heap.size, 0, none⟩) 1 1] 28) = W4 at *
  refine hc.mono ?_
  rintro e v5 ⟨rfl, hb⟩
  clear hc
  replace hx := hx.below hb
  replace h1 := h1.below hb
  replace h2 := h2.below hb
  replace hy := hy.below hb
  replace hB := hB.trans (hb.mono hB.size)
  clear hb
  have hc := pbestC Gr.nil 1 v5 (nil_gr _) (by omega) (by omega)
  rw [show Gr.nil.v = .slice none 0 0 from rfl, show bestE Gr.nil.g 1 = 0 by decide, show wErr Gr.nil.g 1 = 0 by decide] at hc
  go_wp2_with fail
  refine hc.mono ?_
  rintro e v6 ⟨rfl, hb⟩
  clear hc
  replace hx := hx.below hb
  replace h1 := h1.below hb
  replace h2 := h2.below hb
  replace hy := hy.below hb
  replace hB := hB.trans (hb.mono hB.size)
  clear hb
  have hc := pbestC Gr.nil 0 v6 (nil_gr _) (by omega) (by omega)
  rw [show Gr.nil.v = .slice none 0 0 from rfl, show bestE Gr.nil.g 0 = 0 by decide, show wErr Gr.nil.g 0 = 1 by decide] at hc
  go_wp2_with fail
  refine hc.mono ?_
  rintro e v7 ⟨rfl, hb⟩
  clear hc
  replace hx := hx.below hb
  replace h1 := h1.below hb
  replace h2 := h2.below hb
  replace hy := hy.below hb
  replace hB := hB.trans (hb.mono hB.size)
  clear hb
  obtain ⟨q1, vq1, zq1, hq1, hbl⟩ : ∃ u : Ls, u.v = .slice (some ⟨v7.heap.size, 0, none⟩) 2 2 ∧ u.zs = [2, 1] ∧ u.Ok (v7.alloc (.cells #[.int .i64 2, .int .i64 1] 3)) ∧ Below v7.heap.size v7 (v7.alloc (.cells #[.int .i64 2, .int .i64 1] 3)) := lit_ls v7 [2, 1] (by decide) (by decide)
  have Vq1 := Lib.hid vq1
  have Zq1 := Lib.hid zq1
  clear vq1 zq1
  replace hx := hx.below hbl
  replace h1 := h1.below hbl
  replace h2 := h2.below hbl
  replace hy := hy.below hbl
  replace hB := hB.trans (hbl.mono hB.size)
  clear hbl
  have hc := sameints_b ⟨A1, n1, c1, [2, 1]⟩ q1 (v7.alloc (.cells #[.int .i64 2, .int .i64 1] 3)) h1.ok hq1
  rw [Vq1.out, show (([2, 1] : List Int) == q1.zs) = true by rw [Zq1.out]; decide] at hc
  go_wp2_with fail
  generalize v7.alloc (.cells #[.int .i64 2, .int .i64 1] 3) = W8 at *
  refine hc.mono ?_
  rintro e v9 ⟨rfl, hb⟩
  clear hc
  replace hx := hx.below hb
  replace h1 := h1.below hb
  replace h2 := h2.below hb
  replace hy := hy.below hb
  replace hq1 := hq1.below hb
  replace hB := hB.trans (hb.mono hB.size)
  clear hb
  obtain ⟨q2, vq2, zq2, hq2, hbl⟩ : ∃ u : Ls, u.v = .slice (some ⟨v9.heap.size, 0, none⟩) 2 2 ∧ u.zs = [3, 0] ∧ u.Ok (v9.alloc (.cells #[.int .i64 3, .int .i64 0] 3)) ∧ Below v9.heap.size v9 (v9.alloc (.cells #[.int .i64 3, .int .i64 0] 3)) := lit_ls v9 [3, 0] (by decide) (by decide)
  have Vq2 := Lib.hid vq2
  have Zq2 := Lib.hid zq2
  clear vq2 zq2
  replace hx := hx.below hbl
  replace h1 := h1.below hbl
  replace h2 := h2.below hbl
  replace hy := hy.below hbl
  replace hq1 := hq1.below hbl
  replace hB := hB.trans (hbl.mono hB.size)
  clear hbl
  have hc := sameints_b ⟨A2, n2, c2, [3, 0]⟩ q2 (v9.alloc (.cells #[.int .i64 3, .int .i64 0] 3)) h2.ok hq2
  rw [Vq2.out, show (([3, 0] : List Int) == q2.zs) = true by rw [Zq2.out]; decide] at hc
  go_wp2_with fail
  generalize v9.alloc (.cells #[.int .i64 3, .int .i64 0] 3) = W10 at *
  refine hc.mono ?_
  rintro e v11 ⟨rfl, hb⟩
  clear hc
  replace hx := hx.below hb
  replace h1 := h1.below hb
  replace h2 := h2.below hb
  replace hy := hy.below hb
  replace hq1 := hq1.below hb
  replace hq2 := hq2.below hb
  replace hB := hB.trans (hb.mono hB.size)
  clear hb
  go_wp2
  go_ret
  exact ⟨rfl, hB⟩
end Go.Proofs.Ytiaoplghaigclaa
