/-
  A twin of lists, of a list, as one fact.
-/
import Derived.Test.YtdckoaljcklmhaaGreatDoorGrL
import Derived.Test.YtdckoaljcklmhaaGreatDoorTwinM
import Derived.Test.YtdckoaljcklmhaaGreatDoorBookD
namespace Go.Proofs.YtdckoaljcklmhaaGreatDoor
open Go.ChangeShapes Go.WideShapes Go.ChangeAt Go.RowKit Go.Joins Go.Deep
set_option linter.unusedVariables false

/-- A twin of lists. -/
structure TwnL (w : World) (B : Nat) (x : Gr) : Prop where
  own : ∃ m, Own w B 22 x.A (x.n + 1) x.c (x.t.map Ls.v ++ [.slice (some ⟨m, 0, none⟩) 1 1]) ∧ w.heap[m]? = some (.cells #[.int .i64 77] 3 (0, 0))
  each : ∀ u ∈ x.t, Twn w B u
  apt : AptL x.t
theorem TwnL.below {w w' : World} {B : Nat} {x : Gr} (h : TwnL w B x) (hb : Below w.heap.size w w') : TwnL w' B x :=
  ⟨h.own.elim fun m hm => ⟨m, hm.1.below hb, by rw [hb.block m (Array.getElem?_eq_some_iff.1 hm.2).1]; exact hm.2⟩, fun u hu => (h.each u hu).below hb, h.apt⟩
theorem TwnL.lists {w : World} {B : Nat} {x : Gr} (h : TwnL w B x) : Own w B 22 x.A x.n x.c (x.t.map Ls.v) := by
  obtain ⟨m, hm, _⟩ := h.own
  have h2 := hm.len
  rw [List.length_append, List.length_map, List.length_singleton] at h2
  have h3 := hm.less (m := x.n) (by omega)
  rw [List.take_append_of_le_length (by rw [List.length_map]; omega), List.take_of_length_le (by rw [List.length_map]; omega)] at h3
  exact h3
theorem TwnL.ok {w : World} {B : Nat} {x : Gr} (h : TwnL w B x) : x.Ok w := by
  have h1 := h.lists
  exact ⟨⟨outs_at h1, fun u hu => (h.each u hu).ok⟩, h1.le, h1.cap⟩
theorem TwnL.rng {w : World} {B : Nat} {x : Gr} (h : TwnL w B x) : (∀ u ∈ x.t, ∀ g, Blk u g → g < w.heap.size) ∧ ∀ g, 0 < x.c → x.A = some ⟨g, 0, none⟩ → g < w.heap.size :=
  ⟨fun u hu g hg => ((h.each u hu).blk hg).2, fun g hc hA => (h.lists.blk hc hA).2⟩
theorem twin_ls (x : Ls) (w : World) (h : x.Ok w) (hn : x.n ≤ 1000000000) :
    Calls Tryz.prog 7 #[x.v] w fun e w' => ∃ y : Ls, e = .returned y.v ∧ Twn w' w.heap.size y ∧ y.zs = x.zs ∧ y.n = x.n ∧ Below w.heap.size w w' :=
  (twinints_any x.A x.n x.c x.zs w h.rd hn).mono fun e w' ⟨A', c', he, ho, hb⟩ => ⟨⟨A', x.n, c', x.zs⟩, he, ⟨ho, h.fit⟩, rfl, rfl, hb⟩
end Go.Proofs.YtdckoaljcklmhaaGreatDoor

