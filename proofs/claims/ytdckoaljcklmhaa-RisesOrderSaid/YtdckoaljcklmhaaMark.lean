/-
  Lists of ints, lists of these, and markets (reserves, bids, order), as they lie in memory; a market that came in.
-/
import Derived.Test.YtdckoaljcklmhaaRecs
import Derived.Test.YtdckoaljcklmhaaMarkD
import Derived.Deep.Strs
import Derived.Lib.SmallJoins
namespace Go.Proofs.Ytdckoaljcklmhaa
open Go.ChangeShapes Go.WideShapes Go.ChangeAt Go.RowKit Go.Joins Go.Deep
set_option linter.unusedVariables false

/-- A list of ints in memory: where it lies, and which they are. -/
structure Ls where
  A : Option Addr
  n : Nat
  c : Nat
  zs : List Int
def Ls.v (x : Ls) : Value := .slice x.A x.n x.c
structure Ls.Ok (w : World) (x : Ls) : Prop where
  rd : Rd w x.A x.n (ci64 x.zs)
  cap : x.n ≤ x.c
  top : x.c ≤ maxLen
  fit : ∀ z ∈ x.zs, -9223372036854775808 ≤ z ∧ z ≤ 9223372036854775807
theorem Ls.Ok.below {w w' : World} {x : Ls} (h : x.Ok w) (hb : Below w.heap.size w w') : x.Ok w' := ⟨h.rd.below hb, h.cap, h.top, h.fit⟩
theorem Ls.Ok.len {w : World} {x : Ls} (h : x.Ok w) : x.zs.length = x.n := by have := h.rd.len; rw [ci64_len] at this; exact this

/-- The block in which a list's memory lies, if it has any. -/
def Blk (u : Ls) (g : Nat) : Prop := 0 < u.c ∧ u.A = some ⟨g, 0, none⟩
/-- No two lie in the same block. -/
def AptL (l : List Ls) : Prop := l.Pairwise fun a b => ∀ g, Blk a g → ¬ Blk b g
theorem Own.blk {w : World} {B : Nat} {e : TypeId} {A : Option Addr} {n c : Nat} {xs : List Value} (h : Own w B e A n c xs) {g : Nat} (hc : 0 < c) (hA : A = some ⟨g, 0, none⟩) : B ≤ g ∧ g < w.heap.size := by
  obtain ⟨g', hA', hB, hg⟩ := h.lt hc
  rw [hA] at hA'
  cases hA'
  exact ⟨hB, hg⟩
/-- Lists that were there, and one that was made since. -/
theorem aptL_snoc {l : List Ls} {u : Ls} {s : Nat} (h : AptL l) (h1 : ∀ x ∈ l, ∀ g, Blk x g → g < s) (h2 : ∀ g, Blk u g → s ≤ g) : AptL (l ++ [u]) := by
  refine List.pairwise_append.2 ⟨h, List.pairwise_singleton _ _, fun a ha b hb g hg hg2 => ?_⟩
  rw [List.mem_singleton.1 hb] at hg2
  have := h1 a ha g hg
  have := h2 g hg2
  omega

/-- A market in memory: its reserves, the list of its bids and these, its order. -/
structure Mk where
  r : Ls
  A : Option Addr
  n : Nat
  c : Nat
  b : List Ls
  o : Ls
def Mk.cells (x : Mk) : List Value := [x.r.v, .slice x.A x.n x.c, x.o.v]
def Mk.v (x : Mk) : Value := .agg #[x.r.v, .slice x.A x.n x.c, x.o.v]
def Mk.bids (x : Mk) : List (List Int) := x.b.map Ls.zs
structure Mk.Ok (w : World) (x : Mk) : Prop where
  r : x.r.Ok w
  o : x.o.Ok w
  b : RdR w 1 x.A x.n (x.b.map fun u => [u.v])
  bs : ∀ u ∈ x.b, u.Ok w
  cap : x.n ≤ x.c
  top : x.c ≤ maxLen
  at_ : 0 < x.n → ∃ p q, x.A = some ⟨p, q, none⟩ ∧ p < w.heap.size
theorem Mk.Ok.len {w : World} {x : Mk} (h : x.Ok w) : x.b.length = x.n := by have := h.b.1; simpa using this
theorem Mk.Ok.bids_len {w : World} {x : Mk} (h : x.Ok w) : x.bids.length = x.n := by rw [Mk.bids, List.length_map, h.len]
theorem Mk.Ok.below {w w' : World} {x : Mk} (h : x.Ok w) (hb : Below w.heap.size w w') : x.Ok w' := by
  refine ⟨h.r.below hb, h.o.below hb, ?_, fun u hu => (h.bs u hu).below hb, h.cap, h.top, ?_⟩
  · by_cases hn : 0 < x.n
    · obtain ⟨p, q, hA, hp⟩ := h.at_ hn
      exact h.b.keep fun p' q' e => by rw [hA] at e; cases e; exact hb.block _ hp
    · exact ⟨h.b.1, fun h0 => absurd h0 hn⟩
  · intro hn
    obtain ⟨p, q, hA, hp⟩ := h.at_ hn
    exact ⟨p, q, hA, Nat.lt_of_lt_of_le hp hb.size⟩
/-- One of its bids: where it is told. -/
theorem Mk.Ok.get {w : World} {x : Mk} (h : x.Ok w) {j : Nat} (hj : j < x.n) :
    ∃ (p q : Nat) (u : Ls), x.A = some ⟨p, q, none⟩ ∧ x.b[j]? = some u ∧ x.bids[j]? = some u.zs ∧ p < w.heap.size ∧ w.cell? ⟨p, q + j, none⟩ = some u.v ∧ u.Ok w := by
  obtain ⟨p, q, hA, hc⟩ := h.b.2 (by omega)
  have hl : j < x.b.length := by rw [h.len]; exact hj
  have h1 := hc j [x.b[j].v] (by simp [hl]) 0 (by omega)
  rw [Nat.mul_one, Nat.add_zero] at h1
  exact ⟨p, q, x.b[j], hA, List.getElem?_eq_getElem hl, by simp [Mk.bids, hl], World.block_lt_of_cell? w _ h1, h1, h.bs _ (List.getElem_mem hl)⟩

section
variable {H : Type} {enc : TypeId × Value → H} {P : Program} {w : World} {base : Nat} {held : Bool} {r : Reach} {b0 : Nat} {t e ti tl : TypeId} {f0 f1 f2 : Field} {v : Value} {d : DataW H} {ps : List MemPlace}

/-- A list of ints that came in, at its cell. -/
theorem open_ls {m : Nat} {cs : List Value} {y : DataW H × List MemPlace} (ht : P.underlying tl = some (.slice ti)) (he : P.underlying ti = some (.int .i64)) (hc : P.cellsOf ti = 1) (h : DataW.trod enc P w base (fun _ => true) held m tl cs = some y) : ∃ u : Ls, cs = [u.v] ∧ u.Ok w := by
  obtain ⟨A, n, c, zs, rfl, h1, h2, h3, h4⟩ := open_i64s ht he hc h
  exact ⟨⟨A, n, c, zs⟩, rfl, ⟨h1, h2, h3, h4⟩⟩

/-- A market that came in. -/
theorem open_mk {m : Nat} {cs : List Value} {y : DataW H × List MemPlace} (hs : P.underlying t = some (.struct #[f0, f1, f2])) (hone : oneCellFields P #[f0, f1, f2] = true) (hC : P.cellsOf t = 3) (k0 : P.underlying f0.type = some (.slice ti)) (k1 : P.underlying f1.type = some (.slice tl)) (k2 : P.underlying f2.type = some (.slice ti))
    (kl : P.underlying tl = some (.slice ti)) (hcl : P.cellsOf tl = 1) (ki : P.underlying ti = some (.int .i64)) (hci : P.cellsOf ti = 1) (h : DataW.trod enc P w base (fun _ => true) held m t cs = some y) : ∃ u : Mk, cs = u.cells ∧ u.Ok w := by
  obtain ⟨y0, y1, y2, n, _, hl, h0, h1, h2⟩ := trod_struct3 hs h
  obtain ⟨o0, c0⟩ := hone_of hone 0 f0 rfl
  obtain ⟨o1, c1⟩ := hone_of hone 1 f1 rfl
  obtain ⟨o2, c2⟩ := hone_of hone 2 f2 rfl
  rw [hC] at hl
  match cs, hl with
  | [v0, v1, v2], _ =>
    rw [o0, c0] at h0
    rw [o1, c1] at h1
    rw [o2, c2] at h2
    obtain ⟨u0, e0, a0⟩ := open_ls k0 ki hci (show DataW.trod enc P w base (fun _ => true) held n f0.type [v0] = some y0 from h0)
    obtain ⟨u2, e2, a2⟩ := open_ls k2 ki hci (show DataW.trod enc P w base (fun _ => true) held n f2.type [v2] = some y2 from h2)
    obtain ⟨A, k, c, l, e1, b1, b2, b3, b4, b5⟩ := open_recs (fun u : Ls => [u.v]) (Ls.Ok w) k1 hcl (by omega) (fun m cs' y hy => open_ls kl ki hci hy) (show DataW.trod enc P w base (fun _ => true) held n f1.type [v1] = some y1 from h1)
    simp only [List.cons.injEq, and_true] at e0 e1 e2
    subst e0 e1 e2
    exact ⟨⟨u0, A, k, c, l, u2⟩, rfl, ⟨a0, a2, b1, b2, b3, b4, b5⟩⟩
theorem arg_mk (hs : P.underlying t = some (.struct #[f0, f1, f2])) (hone : oneCellFields P #[f0, f1, f2] = true) (hC : P.cellsOf t = 3) (k0 : P.underlying f0.type = some (.slice ti)) (k1 : P.underlying f1.type = some (.slice tl)) (k2 : P.underlying f2.type = some (.slice ti))
    (kl : P.underlying tl = some (.slice ti)) (hcl : P.cellsOf tl = 1) (ki : P.underlying ti = some (.int .i64)) (hci : P.cellsOf ti = 1) (hval : Value.okWide P w r b0 t v) (h : DataW.Trod enc P w base (fun _ => true) held t v d ps) : ∃ u : Mk, v = u.v ∧ u.Ok w := by
  obtain ⟨cs, rfl, hsz⟩ := okWide_struct hs hval
  obtain ⟨fuel, hf⟩ := h
  obtain ⟨u, hu, hok⟩ := open_mk hs hone hC k0 k1 k2 kl hcl ki hci hf
  obtain ⟨c0, c1, c2, rfl⟩ := array3 (hsz.trans hC)
  refine ⟨u, ?_, hok⟩
  simp [Value.cells, Mk.cells] at hu
  rw [hu.1, hu.2.1, hu.2.2, Mk.v]
end
end Go.Proofs.Ytdckoaljcklmhaa
