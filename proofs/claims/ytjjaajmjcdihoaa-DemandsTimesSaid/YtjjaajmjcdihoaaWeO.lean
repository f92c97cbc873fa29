/-
  What the functions of a weights package answer (contracts).
-/
import Derived.Test.YtjjaajmjcdihoaaGrO
import Derived.Test.YtjjaajmjcdihoaaWeH
namespace Go.Proofs.Ytjjaajmjcdihoaa
open Go.RowKit
set_option linter.unusedVariables false

def gG (g : List (List Int)) (b c : Nat) : Int := (g.getD b []).getD c 0
/-- May gains be? -/
def mayW (g : List (List Int)) (m : Int) : Bool := decide (1 ≤ m) && (decide (m ≤ 8) && (decide (g.length ≤ 8) && g.all fun l => decide ((l.length : Int) = m) && l.all fun z => decide (-1000000 ≤ z) && decide (z ≤ 1000000)))
theorem mayW_iff {g : List (List Int)} {m : Int} : mayW g m = true ↔ 1 ≤ m ∧ m ≤ 8 ∧ g.length ≤ 8 ∧ ∀ l ∈ g, (l.length : Int) = m ∧ ∀ z ∈ l, -1000000 ≤ z ∧ z ≤ 1000000 := by
  simp [mayW]
def bestE (g : List (List Int)) (m : Int) : Int := if mayW g m = true then bestV (gG g) m.toNat g.length else 0
def wErr (g : List (List Int)) (m : Int) : Int := if mayW g m = true then 0 else 1
def ofE (g : List (List Int)) (m : Int) : List Int := if mayW g m = true then (List.range m.toNat).map (numP (gG g) m.toNat g.length) else []
def bidE (g : List (List Int)) (m : Int) : List Int := if mayW g m = true then (List.range g.length).map (bidP (gG g) m.toNat g.length) else []
theorem we_ok {g : List (List Int)} {m : Nat} (h : mayW g m = true) : bestE g m = bestV (gG g) m g.length ∧ wErr g m = 0 ∧ ofE g m = (List.range m).map (numP (gG g) m g.length) ∧ bidE g m = (List.range g.length).map (bidP (gG g) m g.length) := by
  simp [bestE, wErr, ofE, bidE, h]
theorem we_bad {g : List (List Int)} {m : Int} (h : mayW g m = false) : bestE g m = 0 ∧ wErr g m = 1 ∧ ofE g m = [] ∧ bidE g m = [] := by
  simp [bestE, wErr, ofE, bidE, h]
def BestC (f : Nat) : Prop := ∀ (x : Gr) (m : Int) (w : World), x.Ok w → -9223372036854775808 ≤ m → m ≤ 9223372036854775807 →
  Calls Try.prog f #[x.v, .int .i64 m] w fun e w' => e = .returned (.tuple #[.int .i64 (bestE x.g m), .int .i64 (wErr x.g m)]) ∧ Below w.heap.size w w'
def ProvedC (f : Nat) : Prop := ∀ (x : Gr) (m : Int) (w : World), x.Ok w → -9223372036854775808 ≤ m → m ≤ 9223372036854775807 →
  Calls Try.prog f #[x.v, .int .i64 m] w fun e w' => ∃ A1 n1 c1 A2 n2 c2, e = .returned (.tuple #[.slice A1 n1 c1, .slice A2 n2 c2, .int .i64 (wErr x.g m)]) ∧ OwnI w' w.heap.size ⟨A1, n1, c1, bidE x.g m⟩ ∧ OwnI w' w.heap.size ⟨A2, n2, c2, ofE x.g m⟩ ∧
    AptL [⟨A1, n1, c1, bidE x.g m⟩, ⟨A2, n2, c2, ofE x.g m⟩] ∧ Below w.heap.size w w'
/-- How great what is reckoned can be. -/
theorem gG_bound {g : List (List Int)} {m : Int} (h : mayW g m = true) (b c : Nat) : -1000000 ≤ gG g b c ∧ gG g b c ≤ 1000000 := by
  obtain ⟨_, _, _, h4⟩ := mayW_iff.1 h
  unfold gG
  by_cases hb : b < g.length
  · rw [List.getD_eq_getElem?_getD (l := g), List.getElem?_eq_getElem hb]
    simp only [Option.getD_some]
    by_cases hc : c < g[b].length
    · rw [List.getD_eq_getElem?_getD, List.getElem?_eq_getElem hc]
      exact (h4 _ (List.getElem_mem hb)).2 _ (List.getElem_mem hc)
    · rw [List.getD_eq_getElem?_getD, List.getElem?_eq_none (by omega)]; simp
  · rw [List.getD_eq_getElem?_getD (l := g), List.getElem?_eq_none (by omega)]; simp
theorem wt_bound {G : Nat → Nat → Int} {A : Nat → Option Nat} {K : Int} (hK : 0 ≤ K) (h : ∀ b c, G b c ≤ K) : ∀ n : Nat, wtN G A n ≤ n * K
  | 0 => by simp [wtN]
  | n + 1 => by
    rw [wtN]
    have h1 := wt_bound hK h (A := A) n
    have h2 : gainO (G n) (A n) ≤ K := by
      cases A n with
      | none => exact hK
      | some c => exact h n c
    have h3 : ((n + 1 : Nat) : Int) * K = n * K + K := by rw [Int.natCast_add, Int.add_mul]; simp
    omega
theorem none_wt0 (G : Nat → Nat → Int) : ∀ n, wtN G (fun _ => none) n = 0
  | 0 => rfl
  | n + 1 => by rw [wtN, none_wt0 G n]; rfl
theorem bestV_nonneg (G : Nat → Nat → Int) (m n : Nat) : 0 ≤ bestV G m n := by
  have h := bestV_ge (G := G) (m := m) (n := n) (A := fun _ => none) ⟨fun b b' c _ _ e => (nomatch e), fun b _ c e => (nomatch e)⟩
  rw [none_wt0] at h
  exact h
theorem bestV_bound {G : Nat → Nat → Int} {K : Int} (hK : 0 ≤ K) (h : ∀ b c, G b c ≤ K) (m n : Nat) : bestV G m n ≤ n * K := by
  obtain ⟨A, hA, hw⟩ := best_ex (G := G) (m := m) n topP
  have hw : wtN G A n = bestV G m n := hw
  have := wt_bound hK h (A := A) n
  omega
end Go.Proofs.Ytjjaajmjcdihoaa
