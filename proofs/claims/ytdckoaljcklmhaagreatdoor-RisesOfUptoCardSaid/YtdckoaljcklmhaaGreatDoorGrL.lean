/-
  What the laws of layer 6 share: a Graph in its box, a Graph that came in, literals.
-/
import Derived.Test.YtdckoaljcklmhaaGreatDoorGrO
import Derived.Test.YtdckoaljcklmhaaGreatDoorSizesL
import Derived.Lib.SmallJoins
namespace Go.Proofs.YtdckoaljcklmhaaGreatDoor
open Go.ChangeShapes Go.WideShapes Go.ChangeAt Go.RowKit Go.Joins Go.Deep
set_option linter.unusedVariables false

/-- The two cells of a Graph that lies in a box. -/
structure GBox (w : World) (g : Nat) (x : Gr) (m : Int) : Prop where
  c0 : w.cell? ⟨g, 0, none⟩ = some (.slice x.A x.n x.c)
  c1 : w.cell? ⟨g, 1, none⟩ = some (.int .i64 m)
  lt : g < w.heap.size
theorem GBox.below {w w' : World} {g : Nat} {x : Gr} {m : Int} (h : GBox w g x m) (hb : Below w.heap.size w w') : GBox w' g x m :=
  ⟨(hb.cell (p := ⟨g, 0, none⟩) h.lt).trans h.c0, (hb.cell (p := ⟨g, 1, none⟩) h.lt).trans h.c1, Nat.lt_of_lt_of_le h.lt hb.size⟩
theorem GBox.keepK {w w' : World} {g kb : Nat} {x : Gr} {m : Int} (h : GBox w g x m) (hb : Below kb w w') (hg : g < kb) : GBox w' g x m :=
  ⟨(World.cell?_of_block (hb.block g hg)).trans h.c0, (World.cell?_of_block (hb.block g hg)).trans h.c1, Nat.lt_of_lt_of_le h.lt hb.size⟩
section
variable {H : Type} {enc : TypeId × Value → H} {P : Program} {w : World} {base : Nat} {held : Bool} {r : Reach} {b0 : Nat} {t ti tl : TypeId} {f0 f1 : Field} {v : Value} {d : DataW H} {ps : List MemPlace}
end

/-- A list of ints that was just written down. -/
theorem lit_ok (w : World) (zs : List Int) (hn : zs.length ≤ 1000) (hf : ∀ z ∈ zs, -1000 ≤ z ∧ z ≤ 1000) :
    OwnI (w.alloc (.cells (ci64 zs).toArray 3)) w.heap.size ⟨some ⟨w.heap.size, 0, none⟩, zs.length, zs.length, zs⟩ := by
  refine ⟨?_, fun z hz => by have := hf z hz; omega⟩
  have h := Own.lit (B := w.heap.size) w 3 (ci64 zs).toArray zs.length (Nat.le_refl _) (by simp [ci64]) (by unfold maxLen; omega)
  simpa using h
theorem lit_below (w : World) (o : Obj) : Below w.heap.size w (w.alloc o) := (Below.refl _ w).alloc (Nat.le_refl _) o
theorem sameints_b (x y : Ls) (w : World) (hx : x.Ok w) (hy : y.Ok w) :
    Calls Tryz.prog 14 #[x.v, y.v] w fun e w' => e = .returned (.bool (x.zs == y.zs)) ∧ Below w.heap.size w w' :=
  (sameintsq x.A x.n x.c x.zs y.A y.n y.c y.zs w hx.rd hy.rd (Nat.le_trans hx.cap hx.top)).mono fun e w' ⟨he, q, hq⟩ => ⟨he, by rw [hq]; exact belowN (Below.refl _ _) q⟩
theorem lit_ls (w : World) (zs : List Int) (hn : zs.length ≤ 1000) (hf : ∀ z ∈ zs, -1000 ≤ z ∧ z ≤ 1000) :
    ∃ u : Ls, u.v = .slice (some ⟨w.heap.size, 0, none⟩) zs.length zs.length ∧ u.zs = zs ∧ u.Ok (w.alloc (.cells (ci64 zs).toArray 3)) ∧ Below w.heap.size w (w.alloc (.cells (ci64 zs).toArray 3)) :=
  ⟨_, rfl, rfl, (lit_ok w zs hn hf).ok, lit_below _ _⟩
end Go.Proofs.YtdckoaljcklmhaaGreatDoor

