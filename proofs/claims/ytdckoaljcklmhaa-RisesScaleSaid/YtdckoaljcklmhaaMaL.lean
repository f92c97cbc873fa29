/-
  A graph of three lists that was just written down, and a list behind it.
-/
import Derived.Test.YtdckoaljcklmhaaGrL
import Derived.Test.YtdckoaljcklmhaaGrN
namespace Go.Proofs.Ytdckoaljcklmhaa
open Go.RowKit
set_option linter.unusedVariables false

theorem lit_gr3 (w : World) (a b c : List Int) (ha : a.length ≤ 1000) (fa : ∀ z ∈ a, -1000 ≤ z ∧ z ≤ 1000) (hb : b.length ≤ 1000) (fb : ∀ z ∈ b, -1000 ≤ z ∧ z ≤ 1000) (hc : c.length ≤ 1000) (fc : ∀ z ∈ c, -1000 ≤ z ∧ z ≤ 1000) :
    ∃ x : Gr, x.v = .slice (some ⟨w.heap.size + 1 + 1 + 1, 0, none⟩) 3 3 ∧ x.g = [a, b, c] ∧ x.Ok ((((w.alloc (.cells (ci64 a).toArray 3)).alloc (.cells (ci64 b).toArray 3)).alloc (.cells (ci64 c).toArray 3)).alloc (.cells #[.slice (some ⟨w.heap.size, 0, none⟩) a.length a.length, .slice (some ⟨w.heap.size + 1, 0, none⟩) b.length b.length, .slice (some ⟨w.heap.size + 1 + 1, 0, none⟩) c.length c.length] 22)) ∧ Below w.heap.size w ((((w.alloc (.cells (ci64 a).toArray 3)).alloc (.cells (ci64 b).toArray 3)).alloc (.cells (ci64 c).toArray 3)).alloc (.cells #[.slice (some ⟨w.heap.size, 0, none⟩) a.length a.length, .slice (some ⟨w.heap.size + 1, 0, none⟩) b.length b.length, .slice (some ⟨w.heap.size + 1 + 1, 0, none⟩) c.length c.length] 22)) := by
  have hz : ∀ (v : World) (o1 : Obj), (v.alloc o1).heap.size = v.heap.size + 1 := fun v o1 => Array.size_push ..
  have h1 := lit_ok w a ha fa
  have h2 := lit_ok (w.alloc (.cells (ci64 a).toArray 3)) b hb fb
  have h3 := lit_ok ((w.alloc (.cells (ci64 a).toArray 3)).alloc (.cells (ci64 b).toArray 3)) c hc fc
  have h4 := Own.lit (B := 0) (((w.alloc (.cells (ci64 a).toArray 3)).alloc (.cells (ci64 b).toArray 3)).alloc (.cells (ci64 c).toArray 3)) 22 #[.slice (some ⟨w.heap.size, 0, none⟩) a.length a.length, .slice (some ⟨w.heap.size + 1, 0, none⟩) b.length b.length, .slice (some ⟨w.heap.size + 1 + 1, 0, none⟩) c.length c.length] 3 (Nat.zero_le _) rfl (by unfold maxLen; omega)
  rw [hz] at h2
  rw [hz, hz] at h3
  rw [hz, hz, hz] at h4
  refine ⟨⟨some ⟨w.heap.size + 1 + 1 + 1, 0, none⟩, 3, 3, [⟨some ⟨w.heap.size, 0, none⟩, a.length, a.length, a⟩, ⟨some ⟨w.heap.size + 1, 0, none⟩, b.length, b.length, b⟩, ⟨some ⟨w.heap.size + 1 + 1, 0, none⟩, c.length, c.length, c⟩]⟩, rfl, rfl, ⟨⟨outs_at (t := [⟨some ⟨w.heap.size, 0, none⟩, a.length, a.length, a⟩, ⟨some ⟨w.heap.size + 1, 0, none⟩, b.length, b.length, b⟩, ⟨some ⟨w.heap.size + 1 + 1, 0, none⟩, c.length, c.length, c⟩]) h4, ?_⟩, Nat.le_refl _, by simp only [maxLen]; omega⟩, ((((Below.refl _ w).alloc (Nat.le_refl _) _).alloc (by rw [hz]; omega) _).alloc (by rw [hz, hz]; omega) _).alloc (by rw [hz, hz, hz]; omega) _⟩
  intro u hu
  simp only [List.mem_cons, List.not_mem_nil, or_false] at hu
  rcases hu with rfl | rfl | rfl
  · exact ((h1.ok.below (lit_below _ _)).below (lit_below _ _)).below (lit_below _ _)
  · exact (h2.ok.below (lit_below _ _)).below (lit_below _ _)
  · exact h3.ok.below (lit_below _ _)
theorem lit_gr3_ls (w : World) (a b c d : List Int) (ha : a.length ≤ 1000) (fa : ∀ z ∈ a, -1000 ≤ z ∧ z ≤ 1000) (hb : b.length ≤ 1000) (fb : ∀ z ∈ b, -1000 ≤ z ∧ z ≤ 1000) (hc : c.length ≤ 1000) (fc : ∀ z ∈ c, -1000 ≤ z ∧ z ≤ 1000) (hd : d.length ≤ 1000) (fd : ∀ z ∈ d, -1000 ≤ z ∧ z ≤ 1000) :
    ∃ (x : Gr) (u : Ls), x.v = .slice (some ⟨w.heap.size + 1 + 1 + 1, 0, none⟩) 3 3 ∧ x.g = [a, b, c] ∧ u.v = .slice (some ⟨w.heap.size + 1 + 1 + 1 + 1, 0, none⟩) d.length d.length ∧ u.zs = d ∧ x.Ok (((((w.alloc (.cells (ci64 a).toArray 3)).alloc (.cells (ci64 b).toArray 3)).alloc (.cells (ci64 c).toArray 3)).alloc (.cells #[.slice (some ⟨w.heap.size, 0, none⟩) a.length a.length, .slice (some ⟨w.heap.size + 1, 0, none⟩) b.length b.length, .slice (some ⟨w.heap.size + 1 + 1, 0, none⟩) c.length c.length] 22)).alloc (.cells (ci64 d).toArray 3)) ∧ u.Ok (((((w.alloc (.cells (ci64 a).toArray 3)).alloc (.cells (ci64 b).toArray 3)).alloc (.cells (ci64 c).toArray 3)).alloc (.cells #[.slice (some ⟨w.heap.size, 0, none⟩) a.length a.length, .slice (some ⟨w.heap.size + 1, 0, none⟩) b.length b.length, .slice (some ⟨w.heap.size + 1 + 1, 0, none⟩) c.length c.length] 22)).alloc (.cells (ci64 d).toArray 3)) ∧ Below w.heap.size w (((((w.alloc (.cells (ci64 a).toArray 3)).alloc (.cells (ci64 b).toArray 3)).alloc (.cells (ci64 c).toArray 3)).alloc (.cells #[.slice (some ⟨w.heap.size, 0, none⟩) a.length a.length, .slice (some ⟨w.heap.size + 1, 0, none⟩) b.length b.length, .slice (some ⟨w.heap.size + 1 + 1, 0, none⟩) c.length c.length] 22)).alloc (.cells (ci64 d).toArray 3)) := by
  have hz : ∀ (v : World) (o1 : Obj), (v.alloc o1).heap.size = v.heap.size + 1 := fun v o1 => Array.size_push ..
  obtain ⟨x, h1, h2, h3, h4⟩ := lit_gr3 w a b c ha fa hb fb hc fc
  obtain ⟨u, k1, k2, k3, k4⟩ := lit_ls ((((w.alloc (.cells (ci64 a).toArray 3)).alloc (.cells (ci64 b).toArray 3)).alloc (.cells (ci64 c).toArray 3)).alloc (.cells #[.slice (some ⟨w.heap.size, 0, none⟩) a.length a.length, .slice (some ⟨w.heap.size + 1, 0, none⟩) b.length b.length, .slice (some ⟨w.heap.size + 1 + 1, 0, none⟩) c.length c.length] 22)) d hd fd
  refine ⟨x, u, h1, h2, ?_, k2, h3.below k4, k3, h4.trans (k4.mono h4.size)⟩
  rw [k1, hz, hz, hz, hz]
/-- A list of lists of the call's own, in which one list is another one. -/
theorem own_lists {w : World} {B : Nat} {A : Option Addr} {n c : Nat} {t : List Ls} (own : Own w B 22 A n c (t.map Ls.v)) (h : ∀ v ∈ t, v.Ok w) : Gr.Ok w ⟨A, n, c, t⟩ := ⟨⟨outs_at own, h⟩, own.le, own.cap⟩
theorem own_put {w : World} {B g n c b : Nat} {t : List Ls} {u : Ls} (own : Own w B 22 (some ⟨g, 0, none⟩) n c (t.map Ls.v)) (hb : b < n) : Own (w.setCell ⟨g, b, none⟩ u.v) B 22 (some ⟨g, 0, none⟩) n c ((t.set b u).map Ls.v) := by
  have h1 := own.set (by have := own.le; omega) b u.v
  rw [← List.map_set] at h1
  exact h1
/-- A store into a list of lists leaves lists of another type as they were. -/
theorem Own.setL {w : World} {B B' : Nat} {A : Option Addr} {g n c n2 c2 b : Nat} {xs ys : List Value} {e : TypeId} {v : Value} (h : Own w B' e A n2 c2 ys) (own : Own w B 22 (some ⟨g, 0, none⟩) n c xs) (hc : 0 < c) (hne : 22 ≠ e) : Own (w.setCell ⟨g, b, none⟩ v) B' e A n2 c2 ys := by
  refine ⟨h.1, ?_⟩
  rcases h.2 with h0 | ⟨g', cur, hA, hg, hh, r⟩
  · exact .inl h0
  · refine .inr ⟨g', cur, hA, hg, ?_, r⟩
    rw [heap_setCell_other _ _ _ _ (show g' ≠ g by
      rintro rfl
      rcases own_apart own hh hne with h1 | h1
      · omega
      · exact h1 rfl)]
    exact hh
theorem OwnI.setL {w : World} {B B' : Nat} {u : Ls} {g n c b : Nat} {xs : List Value} {v : Value} (h : OwnI w B' u) (own : Own w B 22 (some ⟨g, 0, none⟩) n c xs) (hc : 0 < c) : OwnI (w.setCell ⟨g, b, none⟩ v) B' u := ⟨h.own.setL own hc (by decide), h.fit⟩
theorem Twn.setL {w : World} {B B' : Nat} {u : Ls} {g n c b : Nat} {xs : List Value} {v : Value} (h : Twn w B' u) (own : Own w B 22 (some ⟨g, 0, none⟩) n c xs) (hc : 0 < c) : Twn (w.setCell ⟨g, b, none⟩ v) B' u := ⟨h.own.setL own hc (by decide), h.fit⟩
/-- The first k lists. -/
theorem gr_take {x : Gr} {w : World} {k : Nat} (h : x.Ok w) (hk : k ≤ x.n) : Gr.Ok w ⟨x.A, k, x.c, x.t.take k⟩ := by
  refine ⟨⟨⟨by rw [List.length_map, List.length_take, h.len]; show min k x.n = k; omega, fun (hn : 0 < k) => ?_⟩, fun u hu => h.lss.ok u (List.mem_of_mem_take hu)⟩, Nat.le_trans hk h.cap, h.top⟩
  obtain ⟨b, o, hA, hc⟩ := h.lss.at_.2 (by omega)
  refine ⟨b, o, hA, fun j r hj i hi => hc j r ?_ i hi⟩
  rw [List.getElem?_map, List.getElem?_take] at hj
  rw [List.getElem?_map]
  split at hj
  · exact hj
  · simp at hj
theorem OwnI.drew {w : World} {B : Nat} {u : Ls} (h : OwnI w B u) : OwnI w.drew B u := ⟨h.own.drew, h.fit⟩
theorem gr_take_g (x : Gr) (k : Nat) : Gr.g ⟨x.A, k, x.c, x.t.take k⟩ = x.g.take k := by simp [Gr.g, Ls.all]
end Go.Proofs.Ytdckoaljcklmhaa
