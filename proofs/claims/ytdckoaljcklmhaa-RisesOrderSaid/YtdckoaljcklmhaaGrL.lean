/-
  What the laws of layer 6 share: a Graph in its box, a Graph that came in, literals.
-/
import Derived.Test.YtdckoaljcklmhaaGrO
import Derived.Test.YtdckoaljcklmhaaSizesL
import Derived.Lib.SmallJoins
namespace Go.Proofs.Ytdckoaljcklmhaa
open Go.ChangeShapes Go.WideShapes Go.ChangeAt Go.RowKit Go.Joins Go.Deep
set_option linter.unusedVariables false

/-- The two cells of a Graph that lies in a box. -/
structure GBox (w : World) (g : Nat) (x : Gr) (m : Int) : Prop where
  c0 : w.cell? ⟨g, 0, none⟩ = some (.slice x.A x.n x.c)
  c1 : w.cell? ⟨g, 1, none⟩ = some (.int .i64 m)
  lt : g < w.heap.size
theorem GBox.below {w w' : World} {g : Nat} {x : Gr} {m : Int} (h : GBox w g x m) (hb : Below w.heap.size w w') : GBox w' g x m :=
  ⟨(hb.cell (p := ⟨g, 0, none⟩) h.lt).trans h.c0, (hb.cell (p := ⟨g, 1, none⟩) h.lt).trans h.c1, Nat.lt_of_lt_of_le h.lt hb.size⟩
theorem GBox.keepK {w w' : World} {g kb : Nat} {x : Gr} {m : Int} (h : GBox w g x m) (hb : Below kb w w') (hg : g < kb) : GBox w' g x m :=
  ⟨(World.cell?_of_block (hb.block g hg)).trans h.c0, (World.cell?_of_block (hb.block g hg)).trans h.c1, Nat.lt_of_lt_of_le h.lt hb.size⟩
section
variable {H : Type} {enc : TypeId × Value → H} {P : Program} {w : World} {base : Nat} {held : Bool} {r : Reach} {b0 : Nat} {t ti tl : TypeId} {f0 f1 : Field} {v : Value} {d : DataW H} {ps : List MemPlace}
/-- A Graph that came in, at its cells. -/
theorem open_gr {m : Nat} {cs : List Value} {y : DataW H × List MemPlace} (hs : P.underlying t = some (.struct #[f0, f1])) (hone : oneCellFields P #[f0, f1] = true) (hC : P.cellsOf t = 2) (k0 : P.underlying f0.type = some (.slice tl)) (k1 : P.underlying f1.type = some (.int .i64))
    (kl : P.underlying tl = some (.slice ti)) (hcl : P.cellsOf tl = 1) (ki : P.underlying ti = some (.int .i64)) (hci : P.cellsOf ti = 1) (h : DataW.trod enc P w base (fun _ => true) held m t cs = some y) :
    ∃ (x : Gr) (m : Int), cs = [x.v, .int .i64 m] ∧ x.Ok w ∧ -9223372036854775808 ≤ m ∧ m ≤ 9223372036854775807 := by
  obtain ⟨y0, y1, n, _, hl, h0, h1⟩ := trod_struct2 hs h
  obtain ⟨o0, z0⟩ := hone_of hone 0 f0 rfl
  obtain ⟨o1, z1⟩ := hone_of hone 1 f1 rfl
  rw [hC] at hl
  match cs, hl with
  | [c0, c1], _ =>
    rw [o0, z0] at h0
    rw [o1, z1] at h1
    obtain ⟨A, k, c, l, e1, b1, b2, b3, b4, _⟩ := open_recs (fun u : Ls => [u.v]) (Ls.Ok w) k0 hcl (by omega) (fun m cs' y hy => open_ls kl ki hci hy) (show DataW.trod enc P w base (fun _ => true) held n f0.type [c0] = some y0 from h0)
    obtain ⟨m, rfl, hm⟩ := open_kc k1 (show DataW.trod enc P w base (fun _ => true) held n f1.type [c1] = some y1 from h1)
    have hb := bounds_i64 hm
    simp only [List.cons.injEq, and_true] at e1
    subst e1
    exact ⟨⟨A, k, c, l⟩, m, rfl, ⟨⟨b1, b2⟩, b3, b4⟩, hb.1, hb.2⟩
theorem arg_gr (hs : P.underlying t = some (.struct #[f0, f1])) (hone : oneCellFields P #[f0, f1] = true) (hC : P.cellsOf t = 2) (k0 : P.underlying f0.type = some (.slice tl)) (k1 : P.underlying f1.type = some (.int .i64))
    (kl : P.underlying tl = some (.slice ti)) (hcl : P.cellsOf tl = 1) (ki : P.underlying ti = some (.int .i64)) (hci : P.cellsOf ti = 1) (hval : Value.okWide P w r b0 t v) (h : DataW.Trod enc P w base (fun _ => true) held t v d ps) :
    ∃ (x : Gr) (m : Int), v = .agg #[x.v, .int .i64 m] ∧ x.Ok w ∧ -9223372036854775808 ≤ m ∧ m ≤ 9223372036854775807 := by
  obtain ⟨cs, rfl, hsz⟩ := okWide_struct hs hval
  obtain ⟨fuel, hf⟩ := h
  obtain ⟨x, m, hu, hok, h1, h2⟩ := open_gr hs hone hC k0 k1 kl hcl ki hci hf
  obtain ⟨c0, c1, rfl⟩ := array2 (hsz.trans hC)
  refine ⟨x, m, ?_, hok, h1, h2⟩
  simp [Value.cells] at hu
  rw [hu.1, hu.2]
end

/-- A list of ints that was just written down. -/
theorem lit_ok (w : World) (zs : List Int) (hn : zs.length ≤ 1000) (hf : ∀ z ∈ zs, -1000 ≤ z ∧ z ≤ 1000) :
    OwnI (w.alloc (.cells (ci64 zs).toArray 3)) w.heap.size ⟨some ⟨w.heap.size, 0, none⟩, zs.length, zs.length, zs⟩ := by
  refine ⟨?_, fun z hz => by have := hf z hz; omega⟩
  have h := Own.lit (B := w.heap.size) w 3 (ci64 zs).toArray zs.length (Nat.le_refl _) (by simp [ci64]) (by unfold maxLen; omega)
  simpa using h
theorem lit_below (w : World) (o : Obj) : Below w.heap.size w (w.alloc o) := (Below.refl _ w).alloc (Nat.le_refl _) o
/-- The graph 0 1, 1, that was just written down. -/
theorem lit_gr (w : World) (a b : List Int) (ha : a.length ≤ 1000) (fa : ∀ z ∈ a, -1000 ≤ z ∧ z ≤ 1000) (hb : b.length ≤ 1000) (fb : ∀ z ∈ b, -1000 ≤ z ∧ z ≤ 1000) :
    Gr.Ok (((w.alloc (.cells (ci64 a).toArray 3)).alloc (.cells (ci64 b).toArray 3)).alloc (.cells #[.slice (some ⟨w.heap.size, 0, none⟩) a.length a.length, .slice (some ⟨w.heap.size + 1, 0, none⟩) b.length b.length] 22))
      ⟨some ⟨w.heap.size + 1 + 1, 0, none⟩, 2, 2, [⟨some ⟨w.heap.size, 0, none⟩, a.length, a.length, a⟩, ⟨some ⟨w.heap.size + 1, 0, none⟩, b.length, b.length, b⟩]⟩ ∧
    Below w.heap.size w (((w.alloc (.cells (ci64 a).toArray 3)).alloc (.cells (ci64 b).toArray 3)).alloc (.cells #[.slice (some ⟨w.heap.size, 0, none⟩) a.length a.length, .slice (some ⟨w.heap.size + 1, 0, none⟩) b.length b.length] 22)) := by
  have hz : ∀ (v : World) (o1 : Obj), (v.alloc o1).heap.size = v.heap.size + 1 := fun v o1 => Array.size_push ..
  have h1 := lit_ok w a ha fa
  have h2 := lit_ok (w.alloc (.cells (ci64 a).toArray 3)) b hb fb
  have h3 := Own.lit (B := 0) ((w.alloc (.cells (ci64 a).toArray 3)).alloc (.cells (ci64 b).toArray 3)) 22 #[.slice (some ⟨w.heap.size, 0, none⟩) a.length a.length, .slice (some ⟨w.heap.size + 1, 0, none⟩) b.length b.length] 2 (Nat.zero_le _) rfl (by unfold maxLen; omega)
  rw [hz] at h2
  rw [hz, hz] at h3
  refine ⟨⟨⟨outs_at (t := [⟨some ⟨w.heap.size, 0, none⟩, a.length, a.length, a⟩, ⟨some ⟨w.heap.size + 1, 0, none⟩, b.length, b.length, b⟩]) h3, ?_⟩, Nat.le_refl _, by simp only [maxLen]; omega⟩, (((Below.refl _ w).alloc (Nat.le_refl _) _).alloc (by rw [hz]; omega) _).alloc (by rw [hz, hz]; omega) _⟩
  intro u hu
  simp only [List.mem_cons, List.not_mem_nil, or_false] at hu
  rcases hu with rfl | rfl
  · exact (h1.ok.below (lit_below _ _)).below (lit_below _ _)
  · exact h2.ok.below (lit_below _ _)
/-- The same, with what it is told alone. -/
theorem lit_gr2 (w : World) (a b : List Int) (ha : a.length ≤ 1000) (fa : ∀ z ∈ a, -1000 ≤ z ∧ z ≤ 1000) (hb : b.length ≤ 1000) (fb : ∀ z ∈ b, -1000 ≤ z ∧ z ≤ 1000) :
    ∃ x : Gr, x.v = .slice (some ⟨w.heap.size + 1 + 1, 0, none⟩) 2 2 ∧ x.g = [a, b] ∧
    x.Ok (((w.alloc (.cells (ci64 a).toArray 3)).alloc (.cells (ci64 b).toArray 3)).alloc (.cells #[.slice (some ⟨w.heap.size, 0, none⟩) a.length a.length, .slice (some ⟨w.heap.size + 1, 0, none⟩) b.length b.length] 22)) ∧
    Below w.heap.size w (((w.alloc (.cells (ci64 a).toArray 3)).alloc (.cells (ci64 b).toArray 3)).alloc (.cells #[.slice (some ⟨w.heap.size, 0, none⟩) a.length a.length, .slice (some ⟨w.heap.size + 1, 0, none⟩) b.length b.length] 22)) := by
  obtain ⟨h1, h2⟩ := lit_gr w a b ha fa hb fb
  exact ⟨_, rfl, rfl, h1, h2⟩
theorem sameints_b (x y : Ls) (w : World) (hx : x.Ok w) (hy : y.Ok w) :
    Calls Try.prog 16 #[x.v, y.v] w fun e w' => e = .returned (.bool (x.zs == y.zs)) ∧ Below w.heap.size w w' :=
  (sameintsq x.A x.n x.c x.zs y.A y.n y.c y.zs w hx.rd hy.rd (Nat.le_trans hx.cap hx.top)).mono fun e w' ⟨he, q, hq⟩ => ⟨he, by rw [hq]; exact belowN (Below.refl _ _) q⟩
theorem lit_ls (w : World) (zs : List Int) (hn : zs.length ≤ 1000) (hf : ∀ z ∈ zs, -1000 ≤ z ∧ z ≤ 1000) :
    ∃ u : Ls, u.v = .slice (some ⟨w.heap.size, 0, none⟩) zs.length zs.length ∧ u.zs = zs ∧ u.Ok (w.alloc (.cells (ci64 zs).toArray 3)) ∧ Below w.heap.size w (w.alloc (.cells (ci64 zs).toArray 3)) :=
  ⟨_, rfl, rfl, (lit_ok w zs hn hf).ok, lit_below _ _⟩
/-- No list. -/
theorem nil_ls (w : World) : ∃ u : Ls, u.v = .slice none 0 0 ∧ u.zs = [] ∧ u.Ok w := ⟨Ls.nil, rfl, rfl, (OwnI.nil w 0).ok⟩
end Go.Proofs.Ytdckoaljcklmhaa
