/-
  What came in as a list of records: each stands with its cells where the slice says, and what is so of each field is told.
-/
import Derived.Test.YtdckoaljcklmhaaLift
import Derived.Deep.Slices
import Derived.Deep.Fields
namespace Go.Proofs.Ytdckoaljcklmhaa
open Go.ChangeShapes Go.WideShapes Go.ChangeAt Go.RowKit
set_option linter.unusedVariables false

theorem list_of {α : Type} (n : Nat) (p : Nat → α → Prop) (h : ∀ i, i < n → ∃ r, p i r) : ∃ l : List α, l.length = n ∧ ∀ (i : Nat) (r : α), l[i]? = some r → p i r := by
  induction n with
  | zero => exact ⟨[], rfl, fun i r hi => by simp at hi⟩
  | succ n ih =>
    obtain ⟨l, hl, hp⟩ := ih fun i hi => h i (by omega)
    obtain ⟨r, hr⟩ := h n (by omega)
    refine ⟨l ++ [r], by simp [hl], fun i x hx => ?_⟩
    rcases Nat.lt_or_ge i l.length with hlt | hge
    · rw [List.getElem?_append_left hlt] at hx
      exact hp i x hx
    · rw [List.getElem?_append_right hge] at hx
      have h0 : i - l.length = 0 := by have := (List.getElem?_eq_some_iff.1 hx).1; simp at this; omega
      rw [h0] at hx
      obtain rfl : r = x := by simpa using hx
      obtain rfl : i = n := by omega
      exact hr

/-- The slice value '.slice A n _' holds these records, of K cells each. -/
def RdR (w : World) (K : Nat) (A : Option Addr) (n : Nat) (l : List (List Value)) : Prop :=
  l.length = n ∧ (0 < n → ∃ b o, A = some ⟨b, o, none⟩ ∧ ∀ (j : Nat) (r : List Value), l[j]? = some r → ∀ i, i < K → w.cell? ⟨b, o + (j * K + i), none⟩ = r[i]?)

theorem RdR.keep {w w' : World} {K n : Nat} {A : Option Addr} {l : List (List Value)} (h : RdR w K A n l) (hk : ∀ b o, A = some ⟨b, o, none⟩ → w'.heap[b]? = w.heap[b]?) : RdR w' K A n l := by
  refine ⟨h.1, fun hn => ?_⟩
  obtain ⟨b, o, hA, hc⟩ := h.2 hn
  refine ⟨b, o, hA, fun j r hj i hi => ?_⟩
  rw [← hc j r hj i hi]
  exact World.cell?_of_block (hk b o hA)

section
variable {H : Type} {enc : TypeId × Value → H} {P : Program} {w : World} {base : Nat} {held : Bool} {fuel K : Nat} {t e : TypeId} {cs : List Value} {x : DataW H × List MemPlace}

/-- A slice of records that came in, at its cell. -/
theorem open_recs {α : Type} (cl : α → List Value) (R : α → Prop) (ht : P.underlying t = some (.slice e)) (hC : P.cellsOf e = K) (hK : 0 < K)
    (hq : ∀ (m : Nat) (cs' : List Value) (y : DataW H × List MemPlace), DataW.trod enc P w base (fun _ => true) held m e cs' = some y → ∃ u : α, cs' = cl u ∧ R u)
    (h : DataW.trod enc P w base (fun _ => true) held fuel t cs = some x) :
    ∃ (A : Option Addr) (n c : Nat) (l : List α), cs = [.slice A n c] ∧ RdR w K A n (l.map cl) ∧ (∀ u ∈ l, R u) ∧ n ≤ c ∧ c ≤ maxLen ∧ (0 < n → ∃ b o, A = some ⟨b, o, none⟩ ∧ b < w.heap.size) := by
  rcases Go.Deep.open_slice ht h with ⟨rfl, _⟩ | ⟨a, len, cap, m, n, D, Pl, rfl, hb, hl, hm, hmm, _, hi⟩
  · exact ⟨none, 0, 0, [], rfl, ⟨rfl, fun h => absurd h (by omega)⟩, fun u hu => by simp at hu, Nat.le_refl _, Nat.zero_le _, fun h => absurd h (by omega)⟩
  · simp only [if_true] at hmm
    have h2 : ∀ i, i < len → ∃ u : α, R u ∧ (cl u).length = K ∧ ∀ j, j < K → w.cell? (a.add (i * K + j)) = (cl u)[j]? := by
      intro i him
      obtain ⟨cs', hc, ht'⟩ := hi i (by omega)
      rw [hC] at hc
      obtain ⟨_, hcl, hat⟩ := World.cells?_some hc
      obtain ⟨u, rfl, hu⟩ := hq _ _ _ ht'
      exact ⟨u, hu, hcl, fun j hj => by rw [← Go.Deep.add_add]; exact hat j hj⟩
    obtain ⟨l, hll, hlp⟩ := list_of len _ h2
    have hat : ∀ hn : 0 < len, ∃ b o, a = ⟨b, o, none⟩ ∧ b < w.heap.size := by
      intro hn
      obtain ⟨u, _, hcl, hcu⟩ := h2 0 hn
      obtain ⟨b, off, spot⟩ := a
      have h0 := hcu 0 hK
      rw [List.getElem?_eq_getElem (by omega)] at h0
      have hspot : spot = none := by simpa [Addr.add] using World.cell?_spot h0
      subst hspot
      exact ⟨b, off, rfl, by rw [Addr.add_lit] at h0; exact World.block_lt_of_cell? w _ h0⟩
    refine ⟨some a, len, cap, l, rfl, ⟨by simpa using hll, fun hn => ?_⟩, fun u hu => ?_, hl, hm, fun hn => ?_⟩
    · obtain ⟨b, o, rfl, _⟩ := hat hn
      refine ⟨b, o, rfl, fun j r hj i hik => ?_⟩
      rw [List.getElem?_map] at hj
      obtain ⟨u, hu, rfl⟩ := Option.map_eq_some_iff.1 hj
      rw [← (hlp j u hu).2.2 i hik, Addr.add_lit]
    · obtain ⟨j, hj, rfl⟩ := List.getElem_of_mem hu
      exact (hlp j _ (List.getElem?_eq_getElem hj)).1
    · obtain ⟨b, o, rfl, hlt⟩ := hat hn
      exact ⟨b, o, rfl, hlt⟩
end
end Go.Proofs.Ytdckoaljcklmhaa
