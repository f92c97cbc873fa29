/-
  What the laws of layer 7 share: a graph and a list that were just written down.
-/
import Derived.Test.YtojpdmhccodckaaPaO
import Derived.Test.YtojpdmhccodckaaGrL
namespace Go.Proofs.Ytojpdmhccodckaa
open Go.RowKit
set_option linter.unusedVariables false

theorem lit_gr_ls (w : World) (a b c : List Int) (ha : a.length ≤ 1000) (fa : ∀ z ∈ a, -1000 ≤ z ∧ z ≤ 1000) (hb : b.length ≤ 1000) (fb : ∀ z ∈ b, -1000 ≤ z ∧ z ≤ 1000) (hc : c.length ≤ 1000) (fc : ∀ z ∈ c, -1000 ≤ z ∧ z ≤ 1000) :
    ∃ (x : Gr) (u : Ls), x.v = .slice (some ⟨w.heap.size + 1 + 1, 0, none⟩) 2 2 ∧ x.g = [a, b] ∧ u.v = .slice (some ⟨w.heap.size + 1 + 1 + 1, 0, none⟩) c.length c.length ∧ u.zs = c ∧
    x.Ok ((((w.alloc (.cells (ci64 a).toArray 3)).alloc (.cells (ci64 b).toArray 3)).alloc (.cells #[.slice (some ⟨w.heap.size, 0, none⟩) a.length a.length, .slice (some ⟨w.heap.size + 1, 0, none⟩) b.length b.length] 25)).alloc (.cells (ci64 c).toArray 3)) ∧
    u.Ok ((((w.alloc (.cells (ci64 a).toArray 3)).alloc (.cells (ci64 b).toArray 3)).alloc (.cells #[.slice (some ⟨w.heap.size, 0, none⟩) a.length a.length, .slice (some ⟨w.heap.size + 1, 0, none⟩) b.length b.length] 25)).alloc (.cells (ci64 c).toArray 3)) ∧
    Below w.heap.size w ((((w.alloc (.cells (ci64 a).toArray 3)).alloc (.cells (ci64 b).toArray 3)).alloc (.cells #[.slice (some ⟨w.heap.size, 0, none⟩) a.length a.length, .slice (some ⟨w.heap.size + 1, 0, none⟩) b.length b.length] 25)).alloc (.cells (ci64 c).toArray 3)) := by
  have hz : ∀ (v : World) (o1 : Obj), (v.alloc o1).heap.size = v.heap.size + 1 := fun v o1 => Array.size_push ..
  obtain ⟨x, h1, h2, h3, h4⟩ := lit_gr2 w a b ha fa hb fb
  obtain ⟨u, k1, k2, k3, k4⟩ := lit_ls (((w.alloc (.cells (ci64 a).toArray 3)).alloc (.cells (ci64 b).toArray 3)).alloc (.cells #[.slice (some ⟨w.heap.size, 0, none⟩) a.length a.length, .slice (some ⟨w.heap.size + 1, 0, none⟩) b.length b.length] 25)) c hc fc
  refine ⟨x, u, h1, h2, ?_, k2, h3.below k4, k3, h4.trans (k4.mono h4.size)⟩
  rw [k1, hz, hz, hz]
end Go.Proofs.Ytojpdmhccodckaa
