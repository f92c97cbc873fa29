/-
  Layer 10: who has what, told by the items: as much is gained.
-/
import Derived.Test.YtecgakfblhiiaaaBest10
namespace Go.Proofs.Ytecgakfblhiiaaa
set_option linter.unusedVariables false

/-- Who has an item. -/
def invN (A : Nat → Option Nat) : Nat → Nat → Option Nat
  | 0, _ => none
  | n + 1, c => if A n = some c then some n else invN A n c
def turnG (G : Nat → Nat → Int) (c b : Nat) : Int := G b c
theorem inv_some {A : Nat → Option Nat} {c b : Nat} : ∀ {n}, invN A n c = some b → b < n ∧ A b = some c
  | 0, h => by cases h
  | n + 1, h => by
    rw [invN] at h
    by_cases e : A n = some c
    · rw [if_pos e] at h
      cases h
      exact ⟨by omega, e⟩
    · rw [if_neg e] at h
      have := inv_some h
      exact ⟨by omega, this.2⟩
theorem inv_wt {G : Nat → Nat → Int} {m : Nat} {A : Nat → Option Nat} : ∀ {n}, InjN n A → (∀ b, b < n → ∀ c, A b = some c → c < m) → wtN (turnG G) (invN A n) m = wtN G A n
  | 0, _, _ => by
    rw [wtN]
    have h : ∀ j, wtN (turnG G) (invN A 0) j = 0 := fun j => by
      induction j with
      | zero => rfl
      | succ j ih => rw [wtN, ih]; rfl
    exact h m
  | n + 1, hi, hm => by
    have ih := inv_wt (G := G) (m := m) (A := A) (n := n) (fun b b' c hb hb' => hi b b' c (by omega) (by omega)) fun b hb => hm b (by omega)
    rw [wtN, ← ih]
    cases e : A n with
    | none =>
      have h : invN A (n + 1) = invN A n := by
        funext c
        rw [invN, e, if_neg (fun h => by cases h)]
      rw [h, gainO, Int.add_zero]
    | some d =>
      have h0 : invN A n d = none := by
        cases e2 : invN A n d with
        | none => rfl
        | some b =>
          obtain ⟨hb, hAb⟩ := inv_some e2
          have := hi b n d (by omega) (by omega) hAb e
          omega
      have h : invN A (n + 1) = giveN (invN A n) d n := by
        funext c
        rw [invN, e, giveN]
        by_cases hc : c = d
        · rw [if_pos hc, hc, if_pos rfl]
        · rw [if_neg hc, if_neg (fun h => hc (Option.some.inj h).symm)]
      rw [h, give_wt h0, if_pos (hm n (by omega) d e)]; rfl
theorem inv_ok {G : Nat → Nat → Int} {m n : Nat} {A : Nat → Option Nat} (h : Mt G m n topP A) : Mt (turnG G) n m topP (invN A n) ∧ wtN (turnG G) (invN A n) m = wtN G A n := by
  refine ⟨⟨fun c c' b _ _ e1 e2 => ?_, fun c _ b e => ?_⟩, inv_wt h.inj fun b hb c e => (h.ok b hb c e).1⟩
  · have h1 := (inv_some e1).2
    rw [(inv_some e2).2] at h1
    exact (Option.some.inj h1).symm
  · obtain ⟨hb, hA⟩ := inv_some e
    exact ⟨hb, rfl, (h.ok b hb c hA).2.2⟩
theorem turn_best (G : Nat → Nat → Int) (m n : Nat) : bestV (turnG G) n m = bestV G m n := by
  refine Int.le_antisymm (best_mono fun A hA => ?_) (best_mono fun A hA => ?_)
  · obtain ⟨h1, h2⟩ := inv_ok hA
    exact ⟨_, h1, Int.le_of_eq h2.symm⟩
  · obtain ⟨h1, h2⟩ := inv_ok hA
    exact ⟨_, h1, Int.le_of_eq h2.symm⟩
/-- Of bidders and items of which there are so many alone. -/
theorem bestN_row {G G' : Nat → Nat → Int} {m : Nat} : ∀ {n : Nat} {P : Nat → Bool}, (∀ b, b < n → ∀ c, c < m → G b c = G' b c) → bestN G m n P = bestN G' m n P
  | 0, _, _ => rfl
  | n + 1, P, h => by
    have hf : ∀ (l : List Nat) (a : Int), (∀ k ∈ l, k < m) → l.foldl (bestStep (G n) (fun k => bestN G m n (lessP P k)) P) a = l.foldl (bestStep (G' n) (fun k => bestN G' m n (lessP P k)) P) a := fun l => by
      induction l with
      | nil => exact fun _ _ => rfl
      | cons k l ih =>
        intro a hl
        rw [List.foldl_cons, List.foldl_cons, ih _ fun j hj => hl j (by simp [hj])]
        congr 1
        simp only [bestStep]
        rw [h n (by omega) k (hl k (by simp)), bestN_row (P := lessP P k) fun b hb => h b (by omega)]
    rw [bestN, bestN, hf _ _ fun k hk => List.mem_range.1 hk, bestN_row fun b hb => h b (by omega)]
/-- One bidder more is asked: what a set can have then. -/
theorem foldK_in {G : Nat → Nat → Int} {m n s k : Nat} (hb : s.testBit k = true) (hp : haveN G m n (s ^^^ 2 ^ k) ≤ haveN G m n s) : foldK G m n s (k + 1) = max (foldK G m n s k) (haveN G m n (s ^^^ 2 ^ k) + G n k) := by
  by_cases hg : 0 ≤ G n k
  · exact foldK_yes hb hg
  · rw [foldK_no fun h => hg h.2]
    have h1 : haveN G m n s ≤ foldK G m n s k := fold_ge _ _ _ _
    omega
theorem have_less {G : Nat → Nat → Int} {m n s k : Nat} (hb : s.testBit k = true) : haveN G m n (s ^^^ 2 ^ k) ≤ haveN G m n s := bestN_sub fun c _ h => by
  rw [congrFun (less_bit hb) c, lessP, Bool.and_eq_true] at h
  exact h.1
/-- One more of item k, as many as m: by the items. -/
theorem one_more {G : Nat → Nat → Int} {m n k : Nat} (hk : k < m) : bestV (oneG G m k) (m + 1) n = (List.range n).foldl (bestStep (turnG G k) (fun b => bestN (turnG G) n m (lessP topP b)) topP) (bestV G m n) := by
  rw [← turn_best, bestV, bestN]
  have h1 : turnG (oneG G m k) m = turnG G k := by funext b; rw [turnG, oneG, if_pos rfl]; rfl
  have h2 : ∀ P, bestN (turnG (oneG G m k)) n m P = bestN (turnG G) n m P := fun P => bestN_row fun b hb c _ => by
    rw [turnG, oneG, if_neg (by omega)]; rfl
  rw [h1, h2, ← turn_best G m n]
  simp only [h2]
  rfl
end Go.Proofs.Ytecgakfblhiiaaa
