/-
  Numbers of any kind that came in as a list; pairs of numbers that came in as a list.
-/
import Derived.Test.YtjjaajmjcdihoaaRecs
namespace Go.Proofs.Ytjjaajmjcdihoaa
open Go.ChangeShapes Go.WideShapes Go.ChangeAt Go.RowKit Go.Deep
set_option linter.unusedVariables false

section
variable {H : Type} {enc : TypeId × Value → H} {P : Program} {w : World} {base : Nat} {held : Bool} {r : Reach} {b0 : Nat} {t e ek : TypeId} {v : Value} {d : DataW H} {ps : List MemPlace} {k : IntKind}

theorem arg_ks (ht : P.underlying t = some (.slice e)) (he : P.underlying e = some (.int k)) (hc : P.cellsOf e = 1) (hval : Value.okWide P w r b0 t v) (h : DataW.Trod enc P w base (fun _ => true) held t v d ps) :
    ∃ (A : Option Addr) (n c : Nat) (zs : List Int), v = .slice A n c ∧ Rd w A n (zs.map (Value.int k)) ∧ n ≤ c ∧ c ≤ maxLen ∧ ∀ z ∈ zs, (Lit.int k z).wf = true := by
  obtain ⟨a, len, cap, rfl⟩ := okWide_slice ht hval
  obtain ⟨fuel, hf⟩ := h
  obtain ⟨A, n, c, zs, hcs, hr, h1, h2, h3⟩ := open_ks ht he hc hf
  simp only [Value.cells, List.cons.injEq, and_true] at hcs
  exact ⟨A, n, c, zs, hcs, hr, h1, h2, h3⟩

def pairCells (k : IntKind) (p : Int × Int) : List Value := [.int k p.1, .int k p.2]
/-- A list of pairs that came in. -/
theorem arg_pairs (ht : P.underlying t = some (.slice e)) (he : P.underlying e = some (.array 2 ek)) (hk : P.underlying ek = some (.int k)) (hc : P.cellsOf ek = 1) (hC : P.cellsOf e = 2) (hval : Value.okWide P w r b0 t v) (h : DataW.Trod enc P w base (fun _ => true) held t v d ps) :
    ∃ (A : Option Addr) (n c : Nat) (l : List (Int × Int)), v = .slice A n c ∧ RdR w 2 A n (l.map (pairCells k)) ∧ (∀ u ∈ l, (Lit.int k u.1).wf = true ∧ (Lit.int k u.2).wf = true) ∧ n ≤ c ∧ c ≤ maxLen ∧ (0 < n → ∃ b o, A = some ⟨b, o, none⟩ ∧ b < w.heap.size) := by
  obtain ⟨a, len, cap, rfl⟩ := okWide_slice ht hval
  obtain ⟨fuel, hf⟩ := h
  have hq : ∀ (m : Nat) (cs' : List Value) (y : DataW H × List MemPlace), DataW.trod enc P w base (fun _ => true) held m e cs' = some y → ∃ u : Int × Int, cs' = pairCells k u ∧ ((Lit.int k u.1).wf = true ∧ (Lit.int k u.2).wf = true) := by
    intro m cs' y hy
    obtain ⟨xs, m', _, _, hl, hlen, hx⟩ := DataW.trod_array he hy
    rw [hC] at hl
    match cs', hl with
    | [c0, c1], _ =>
      have h0 := hx 0 (by omega)
      have h1 := hx 1 (by omega)
      rw [hc, List.getElem?_eq_getElem (by omega)] at h0 h1
      obtain ⟨z0, e0, w0⟩ := open_kc (c := c0) hk h0
      obtain ⟨z1, e1, w1⟩ := open_kc (c := c1) hk h1
      subst e0
      subst e1
      exact ⟨(z0, z1), rfl, w0, w1⟩
  obtain ⟨A, n, c, l, hcs, h1, h2, h3, h4, h5⟩ := open_recs (pairCells k) _ ht hC (by omega) hq hf
  simp only [Value.cells, List.cons.injEq, and_true] at hcs
  exact ⟨A, n, c, l, hcs, h1, h2, h3, h4, h5⟩
end
/-- Of a list of pairs, one: where its two cells lie. -/
theorem pairs_get {w : World} {A : Option Addr} {n : Nat} {k : IntKind} {l : List (Int × Int)} (h : RdR w 2 A n (l.map (pairCells k))) {j : Nat} (hj : j < n) :
    ∃ (b o : Nat) (u : Int × Int), A = some ⟨b, o, none⟩ ∧ l[j]? = some u ∧ b < w.heap.size ∧ w.cell? ⟨b, o + j * 2, none⟩ = some (.int k u.1) ∧ w.cell? ⟨b, o + j * 2 + 1, none⟩ = some (.int k u.2) := by
  obtain ⟨b, o, hA, hc⟩ := h.2 (by omega)
  have hl : j < l.length := by have := h.1; simp at this; omega
  have h1 := hc j (pairCells k l[j]) (by simp [hl]) 0 (by omega)
  have h2 := hc j (pairCells k l[j]) (by simp [hl]) 1 (by omega)
  exact ⟨b, o, l[j], hA, List.getElem?_eq_getElem hl, World.block_lt_of_cell? w _ h1, h1, h2⟩
end Go.Proofs.Ytjjaajmjcdihoaa
