/-
  Layer 10, more: without an item, without two bidders, one more or less, other numbers, idle ones, as often as great.
-/
import Derived.Test.YtjjaajmjcdihoaaWeF
namespace Go.Proofs.Ytjjaajmjcdihoaa
set_option linter.unusedVariables false

section
variable {G G' : Nat → Nat → Int} {m n m' n' : Nat} {A B : Nat → Option Nat}
theorem best_mono (h : ∀ A, Mt G m n topP A → ∃ A', Mt G' m' n' topP A' ∧ wtN G A n ≤ wtN G' A' n') : bestV G m n ≤ bestV G' m' n' := by
  obtain ⟨A, hA, hw⟩ := best_ex (G := G) (m := m) n topP
  obtain ⟨A', hA', hle⟩ := h A hA
  have h1 := bestV_ge hA'
  have hw : wtN G A n = bestV G m n := hw
  omega
theorem wt_congr : ∀ {j : Nat}, (∀ b, b < j → ∀ c, A b = some c → G b c = G' b c) → wtN G A j = wtN G' A j
  | 0, _ => rfl
  | j + 1, h => by
    rw [wtN, wtN, wt_congr fun b hb => h b (by omega)]
    congr 1
    cases e : A j with
    | none => rfl
    | some d => exact h j (by omega) d e
/-- What one loses by makes no difference. -/
theorem best_congr (h : ∀ b c, b < n → c < m → (0 ≤ G b c ∨ 0 ≤ G' b c) → G b c = G' b c) : bestV G m n = bestV G' m n := by
  refine Int.le_antisymm (best_mono fun A hA => ⟨A, ⟨hA.inj, fun b hb c e => ?_⟩, ?_⟩) (best_mono fun A hA => ⟨A, ⟨hA.inj, fun b hb c e => ?_⟩, ?_⟩)
  · obtain ⟨h1, h2, h3⟩ := hA.ok b hb c e
    exact ⟨h1, h2, by rw [← h b c hb h1 (.inl h3)]; exact h3⟩
  · exact Int.le_of_eq (wt_congr fun b hb c e => h b c hb (hA.ok b hb c e).1 (.inl (hA.ok b hb c e).2.2))
  · obtain ⟨h1, h2, h3⟩ := hA.ok b hb c e
    exact ⟨h1, h2, by rw [h b c hb h1 (.inr h3)]; exact h3⟩
  · exact Int.le_of_eq (wt_congr fun b hb c e => (h b c hb (hA.ok b hb c e).1 (.inr (hA.ok b hb c e).2.2)).symm)
/-! Without an item. -/
def noneC (G : Nat → Nat → Int) (k b c : Nat) : Int := if c = k then -1 else G b c
theorem noneC_ok {k : Nat} (hA : Mt (noneC G k) m n topP A) : Mt G m n topP A ∧ wtN G A n = wtN (noneC G k) A n ∧ ∀ b, b < n → A b ≠ some k := by
  have hn : ∀ b, b < n → ∀ c, A b = some c → c ≠ k := fun b hb c e hc => by
    have := (hA.ok b hb c e).2.2
    rw [noneC, if_pos hc] at this
    omega
  refine ⟨⟨hA.inj, fun b hb c e => ?_⟩, wt_congr fun b hb c e => ?_, fun b hb e => hn b hb k e rfl⟩
  · obtain ⟨h1, h2, h3⟩ := hA.ok b hb c e
    rw [noneC, if_neg (hn b hb c e)] at h3
    exact ⟨h1, h2, h3⟩
  · rw [noneC, if_neg (hn b hb c e)]
theorem num_upper {k : Nat} (hk : k < m) : numP G m n k ≤ bestV G m n - bestV (noneC G k) m n := by
  obtain ⟨A, hA, hw⟩ := best_ex (G := noneC G k) (m := m) n topP
  obtain ⟨hA, hwA, h0⟩ := noneC_ok hA
  obtain ⟨B, hB, hwB⟩ := best_ex (G := oneG G m k) (m := m + 1) n topP
  obtain ⟨X, Y, hs, hX, hY⟩ := two_parts n A (downN m k B) fun c => by
    have h1 := use_one hA.inj c (Nat.le_refl n)
    have h2 := use_one hB.inj c (Nat.le_refl n)
    have h3 := use_one hB.inj m (Nat.le_refl n)
    have h4 := down_use (B := B) (c := c) hk (j := n)
    by_cases hc : c = k
    · have h6 : useN A c n = 0 := use_zero fun b hb e => h0 b hb (hc ▸ e)
      rw [if_pos hc] at h4
      omega
    · rw [if_neg hc] at h4
      omega
  obtain ⟨oX, oY⟩ := swap_ok (Q := fun b c => c < m ∧ 0 ≤ G b c) hs (fun b hb c e => ⟨(hA.ok b hb c e).1, (hA.ok b hb c e).2.2⟩) (down_ok hk hB)
  have mX := bestV_ge (G := G) (m := m) (A := X) ⟨hX, fun b hb c e => ⟨(oX b hb c e).1, rfl, (oX b hb c e).2⟩⟩
  have mY := bestV_ge (G := G) (m := m) (A := Y) ⟨hY, fun b hb c e => ⟨(oY b hb c e).1, rfl, (oY b hb c e).2⟩⟩
  have hws := swap_wt (G := G) hs
  rw [down_wt] at hws
  have hV : wtN (oneG G m k) B n = bestV (oneG G m k) (m + 1) n := hwB
  have hV2 : wtN (noneC G k) A n = bestV (noneC G k) m n := hw
  unfold numP
  omega
/-! The more there are, the less one more adds. -/
theorem noneG_ok {i : Nat} (hA : Mt (noneG G i) m n topP A) : Mt G m n topP A ∧ wtN G A n = wtN (noneG G i) A n ∧ (i < n → A i = none) := by
  have hn : ∀ b, b < n → ∀ c, A b = some c → b ≠ i := fun b hb c e hbi => by
    have := (hA.ok b hb c e).2.2
    rw [noneG, if_pos hbi] at this
    omega
  refine ⟨⟨hA.inj, fun b hb c e => ?_⟩, wt_congr fun b hb c e => ?_, fun hi => ?_⟩
  · obtain ⟨h1, h2, h3⟩ := hA.ok b hb c e
    rw [noneG, if_neg (hn b hb c e)] at h3
    exact ⟨h1, h2, h3⟩
  · rw [noneG, if_neg (hn b hb c e)]
  · cases e : A i with
    | none => rfl
    | some c => exact absurd rfl (hn i hi c e)
/-- Two bidders have one further item each, the same. -/
def bothN (B : Nat → Option Nat) (i k z b : Nat) : Option Nat := if b = i ∨ b = k then some z else B b
/-- That one is nothing. -/
def offN (X : Nat → Option Nat) (z b : Nat) : Option Nat := if X b = some z then none else X b
theorem off_wt {z : Nat} {X : Nat → Option Nat} (hz : ∀ b, b < n → G b z = 0) : ∀ {j : Nat}, j ≤ n → wtN G (offN X z) j = wtN G X j
  | 0, _ => rfl
  | j + 1, hj => by
    rw [wtN, wtN, off_wt hz (by omega)]
    congr 1
    unfold offN
    by_cases e : X j = some z
    · rw [if_pos e, e]
      simp only [gainO]
      exact (hz j (by omega)).symm
    · rw [if_neg e]
theorem both_use {i k z c : Nat} (hB : ∀ b, b < n → B b ≠ some z) (hik : i ≠ k) : ∀ {j : Nat}, j ≤ n → useN (bothN B i k z) c j ≤ (if c = z then (if i < j then 1 else 0) + (if k < j then 1 else 0) else useN B c j)
  | 0, _ => by rw [useN]; omega
  | j + 1, hj => by
    have ih := both_use (c := c) hB hik (j := j) (by omega)
    rw [useN]
    by_cases hc : c = z
    · rw [if_pos hc] at ih ⊢
      unfold bothN at ih ⊢
      by_cases h : j = i ∨ j = k
      · rw [if_pos h, if_pos (by rw [hc])]
        rcases h with h | h
        · rw [if_neg (show ¬ i < j by omega)] at ih
          rw [if_pos (show i < j + 1 by omega)]
          by_cases h2 : k < j
          · rw [if_pos h2] at ih; rw [if_pos (by omega)]; omega
          · rw [if_neg h2] at ih; rw [if_neg (by omega)]; omega
        · rw [if_neg (show ¬ k < j by omega)] at ih
          rw [if_pos (show k < j + 1 by omega)]
          by_cases h2 : i < j
          · rw [if_pos h2] at ih; rw [if_pos (by omega)]; omega
          · rw [if_neg h2] at ih; rw [if_neg (by omega)]; omega
      · rw [if_neg h, if_neg (by rw [hc]; exact hB j (by omega))]
        by_cases h1 : i < j
        · rw [if_pos h1] at ih; rw [if_pos (by omega)]
          by_cases h2 : k < j
          · rw [if_pos h2] at ih; rw [if_pos (by omega)]; omega
          · rw [if_neg h2] at ih; rw [if_neg (by omega)]; omega
        · rw [if_neg h1] at ih; rw [if_neg (by omega)]
          by_cases h2 : k < j
          · rw [if_pos h2] at ih; rw [if_pos (by omega)]; omega
          · rw [if_neg h2] at ih; rw [if_neg (by omega)]; omega
    · rw [if_neg hc] at ih ⊢
      rw [useN]
      unfold bothN at ih ⊢
      by_cases h : j = i ∨ j = k
      · rw [if_pos h, if_neg (by simpa using fun h => hc h.symm)]; omega
      · rw [if_neg h]; omega
theorem both_wt {i k z : Nat} (hz : ∀ b, b < n → G b z = 0) (hi : B i = none) (hk : B k = none) : ∀ {j : Nat}, j ≤ n → wtN G (bothN B i k z) j = wtN G B j
  | 0, _ => rfl
  | j + 1, hj => by
    rw [wtN, wtN, both_wt hz hi hk (by omega)]
    congr 1
    unfold bothN
    by_cases h : j = i ∨ j = k
    · rw [if_pos h]
      have : B j = none := by rcases h with h | h <;> (rw [h]; assumption)
      rw [this]
      simp only [gainO]
      exact hz j (by omega)
    · rw [if_neg h]
def zG (G : Nat → Nat → Int) (m b c : Nat) : Int := if c = m then 0 else G b c
theorem fewer {i k : Nat} (hi : i < n) (hk : k < n) (hik : i ≠ k) : bestV G m n + bestV (noneG (noneG G k) i) m n ≤ bestV (noneG G i) m n + bestV (noneG G k) m n := by
  obtain ⟨A, hA, hw⟩ := best_ex (G := G) (m := m) n topP
  obtain ⟨B, hB, hwB⟩ := best_ex (G := noneG (noneG G k) i) (m := m) n topP
  obtain ⟨hB1, hw1, hBi⟩ := noneG_ok hB
  obtain ⟨hB2, hw2, hBk⟩ := noneG_ok hB1
  have hBi := hBi hi
  have hBk := hBk hk
  have hz : ∀ b, b < n → zG G m b m = 0 := fun b _ => if_pos rfl
  have hBz : ∀ b, b < n → B b ≠ some m := fun b hb e => by have := (hB2.ok b hb m e).1; omega
  have hAz : ∀ b, b < n → A b ≠ some m := fun b hb e => by have := (hA.ok b hb m e).1; omega
  obtain ⟨X, Y, hs, hX, hY⟩ := two_parts n A (bothN B i k m) fun c => by
    have h1 := use_one hA.inj c (Nat.le_refl n)
    have h2 := use_one hB2.inj c (Nat.le_refl n)
    have h3 := both_use (c := c) hBz hik (Nat.le_refl n)
    by_cases hc : c = m
    · have h6 : useN A c n = 0 := use_zero fun b hb e => hAz b hb (hc ▸ e)
      rw [if_pos hc, if_pos hi, if_pos hk] at h3
      omega
    · rw [if_neg hc] at h3
      omega
  obtain ⟨oX, oY⟩ := swap_ok (Q := fun b c => c = m ∨ c < m ∧ 0 ≤ G b c) hs (fun b hb c e => .inr ⟨(hA.ok b hb c e).1, (hA.ok b hb c e).2.2⟩) (fun b hb c e => by
    unfold bothN at e
    by_cases h : b = i ∨ b = k
    · rw [if_pos h] at e; cases e; exact .inl rfl
    · rw [if_neg h] at e; exact .inr ⟨(hB2.ok b hb c e).1, (hB2.ok b hb c e).2.2⟩)
  have off : ∀ {Z : Nat → Option Nat}, InjN n Z → (∀ b, b < n → ∀ c, Z b = some c → c = m ∨ c < m ∧ 0 ≤ G b c) → Mt G m n topP (offN Z m) := fun {Z} hZ oZ => by
    refine ⟨fun b b' c hb hb' e1 e2 => ?_, fun b hb c e => ?_⟩
    · unfold offN at e1 e2
      split at e1
      · cases e1
      · split at e2
        · cases e2
        · exact hZ b b' c hb hb' e1 e2
    · unfold offN at e
      split at e
      · cases e
      · rename_i hne
        rcases oZ b hb c e with h | h
        · rw [h] at e; exact absurd e hne
        · exact ⟨h.1, rfl, h.2⟩
  have mX := off hX oX
  have mY := off hY oY
  have hoz : ∀ {Z : Nat → Option Nat}, wtN (zG G m) (offN Z m) n = wtN G (offN Z m) n := fun {Z} => wt_congr fun b hb c e => by
    unfold offN at e
    split at e
    · cases e
    · rename_i hne
      rw [zG, if_neg (show ¬ c = m from fun h => hne (by rw [h] at e; exact e))]
  have hws := swap_wt (G := zG G m) hs
  rw [both_wt hz hBi hBk (Nat.le_refl n), ← off_wt (X := X) hz (Nat.le_refl n), ← off_wt (X := Y) hz (Nat.le_refl n), hoz, hoz,
    wt_congr (G := zG G m) (G' := G) (A := A) (fun b hb c e => by rw [zG, if_neg (show ¬ c = m from fun h => hAz b hb (by rw [h] at e; exact e))]),
    wt_congr (G := zG G m) (G' := G) (A := B) (fun b hb c e => by rw [zG, if_neg (show ¬ c = m from fun h => hBz b hb (by rw [h] at e; exact e))])] at hws
  have hV : wtN G A n = bestV G m n := hw
  have hV2 : wtN (noneG (noneG G k) i) B n = bestV (noneG (noneG G k) i) m n := hwB
  have bi : bothN B i k m i = some m := if_pos (.inl rfl)
  have bk : bothN B i k m k = some m := if_pos (.inr rfl)
  have toff : ∀ {Z : Nat → Option Nat} {b : Nat}, Z b = some m → offN Z m b = none := fun {Z b} e => if_pos e
  -- these two have it in different ones
  have hd : (X i = some m ∧ Y k = some m) ∨ (Y i = some m ∧ X k = some m) := by
    rcases hs i hi with ⟨h1, h2⟩ | ⟨h1, h2⟩
    · rcases hs k hk with ⟨h3, h4⟩ | ⟨h3, h4⟩
      · exact absurd (hY i k m hi hk (h2.trans bi) (h4.trans bk)) hik
      · exact .inr ⟨h2.trans bi, h3.trans bk⟩
    · rcases hs k hk with ⟨h3, h4⟩ | ⟨h3, h4⟩
      · exact .inl ⟨h1.trans bi, h4.trans bk⟩
      · exact absurd (hX i k m hi hk (h1.trans bi) (h3.trans bk)) hik
  rcases hd with ⟨h1, h2⟩ | ⟨h1, h2⟩
  · have q1 := bestV_ge (none_ok mX (toff h1))
    have q2 := bestV_ge (none_ok mY (toff h2))
    rw [none_wt (toff h1)] at q1
    rw [none_wt (toff h2)] at q2
    omega
  · have q1 := bestV_ge (none_ok mY (toff h1))
    have q2 := bestV_ge (none_ok mX (toff h2))
    rw [none_wt (toff h1)] at q1
    rw [none_wt (toff h2)] at q2
    omega
/-! One bidder more. -/
theorem best_sub : ∀ {n : Nat} {P Q : Nat → Bool}, (∀ k, P k = true → Q k = true) → bestN G m n P ≤ bestN G m n Q := fun {n P Q} h => by
  obtain ⟨A, hA, hw⟩ := best_ex (G := G) (m := m) n P
  rw [← hw]
  exact best_ge ⟨hA.inj, fun b hb c e => ⟨(hA.ok b hb c e).1, h c (hA.ok b hb c e).2.1, (hA.ok b hb c e).2.2⟩⟩
theorem best_more : bestV G m n ≤ bestV G m (n + 1) ∧ bestV G m (n + 1) ≤ bestV G m n + topN (G n) m := by
  refine ⟨fold_ge _ _ _ _, ?_⟩
  rcases fold_is (P := topP) (G n) (fun k => bestN G m n (lessP topP k)) (List.range m) (bestN G m n topP) with h | ⟨k, hk, _, h2, h3⟩
  · show List.foldl _ _ _ ≤ _
    rw [h]
    have := top_nonneg (G n) m
    unfold bestV
    omega
  · show List.foldl _ _ _ ≤ _
    rw [h3]
    have h4 := best_sub (G := G) (m := m) (n := n) (P := lessP topP k) (Q := topP) fun _ _ => rfl
    have h5 := top_ge (f := G n) (List.mem_range.1 hk)
    unfold bestV
    omega
/-! Where one gains more by one item. -/
theorem best_raised {i k : Nat} (hi : i < n) (hk : k < m) (hsame : ∀ b c, ¬ (b = i ∧ c = k) → G' b c = G b c) (hle : G i k ≤ G' i k) : bestV G m n ≤ bestV G' m n ∧ bestV G' m n ≤ bestV G m n + max 0 (G' i k) - max 0 (G i k) := by
  have hall : ∀ b c, G b c ≤ G' b c := fun b c => by
    by_cases h : b = i ∧ c = k
    · rw [h.1, h.2]; exact hle
    · rw [hsame b c h]; omega
  have hmono : ∀ (A : Nat → Option Nat) (j : Nat), wtN G A j ≤ wtN G' A j := fun A j => by
    induction j with
    | zero => exact Int.le_refl _
    | succ j ih =>
      rw [wtN, wtN]
      have : gainO (G j) (A j) ≤ gainO (G' j) (A j) := by
        cases A j with
        | none => exact Int.le_refl _
        | some c => exact hall j c
      omega
  refine ⟨best_mono fun A hA => ⟨A, ⟨hA.inj, fun b hb c e => ?_⟩, hmono A n⟩, ?_⟩
  · obtain ⟨h1, h2, h3⟩ := hA.ok b hb c e
    exact ⟨h1, h2, Int.le_trans h3 (hall b c)⟩
  · obtain ⟨A, hA, hw⟩ := best_ex (G := G') (m := m) n topP
    have hw : wtN G' A n = bestV G' m n := hw
    by_cases hu : A i = some k
    · have h3 := (hA.ok i hi k hu).2.2
      have hwd : wtN G' (dropN A i) n = wtN G (dropN A i) n := wt_congr fun b hb c e => hsame b c fun h => by
        unfold dropN at e
        rw [if_pos h.1] at e; cases e
      have hdw := drop_wt (G := G') (A := A) (i := i) (j := n)
      rw [if_pos hi, hu] at hdw
      have hdw2 := drop_wt (G := G) (A := A) (i := i) (j := n)
      rw [if_pos hi, hu] at hdw2
      simp only [gainO] at hdw hdw2
      by_cases hg : 0 ≤ G i k
      · have h4 := bestV_ge (G := G) (m := m) (n := n) (A := A) ⟨hA.inj, fun b hb c e => by
          obtain ⟨h1, h2, h5⟩ := hA.ok b hb c e
          refine ⟨h1, h2, ?_⟩
          by_cases h : b = i ∧ c = k
          · rw [h.1, h.2]; exact hg
          · rw [← hsame b c h]; exact h5⟩
        omega
      · have h4 := bestV_ge (G := G) (m := m) (n := n) (A := dropN A i) ⟨fun b b' c hb hb' e1 e2 => by
          unfold dropN at e1 e2
          split at e1
          · cases e1
          · split at e2
            · cases e2
            · exact hA.inj b b' c hb hb' e1 e2, fun b hb c e => by
          unfold dropN at e
          split at e
          · cases e
          · rename_i hbi
            obtain ⟨h1, h2, h5⟩ := hA.ok b hb c e
            refine ⟨h1, h2, ?_⟩
            rw [← hsame b c fun h => hbi h.1]; exact h5⟩
        omega
    · have hne : ∀ b, b < n → ∀ c, A b = some c → ¬ (b = i ∧ c = k) := fun b hb c e h => hu (by rw [← h.1, ← h.2]; exact e)
      have h4 := bestV_ge (G := G) (m := m) (n := n) (A := A) ⟨hA.inj, fun b hb c e => by
        obtain ⟨h1, h2, h5⟩ := hA.ok b hb c e
        exact ⟨h1, h2, by rw [← hsame b c (hne b hb c e)]; exact h5⟩⟩
      have h5 : wtN G' A n = wtN G A n := wt_congr fun b hb c e => hsame b c (hne b hb c e)
      omega
/-! As often as great. -/
def mulG (f : Nat) (G : Nat → Nat → Int) (b c : Nat) : Int := f * G b c
theorem mul_nn {f : Nat} (hf : 0 < f) (a : Int) : 0 ≤ (f : Int) * a ↔ 0 ≤ a := by
  have h0 : (0 : Int) < f := by omega
  constructor
  · intro h
    refine Int.not_lt.1 fun h2 => ?_
    have := Int.mul_neg_of_pos_of_neg h0 h2
    omega
  · intro h; exact Int.mul_nonneg (by omega) h
theorem mul_wt (f : Nat) (A : Nat → Option Nat) : ∀ n, wtN (mulG f G) A n = f * wtN G A n
  | 0 => by simp [wtN]
  | n + 1 => by
    rw [wtN, wtN, mul_wt f A n, Int.mul_add]
    congr 1
    cases A n with
    | none => simp [gainO]
    | some c => rfl
theorem best_mul {f : Nat} (hf : 0 < f) : bestV (mulG f G) m n = f * bestV G m n := by
  have h1 : ∀ A, Mt (mulG f G) m n topP A ↔ Mt G m n topP A := fun A => by
    constructor
    · intro h; exact ⟨h.inj, fun b hb c e => ⟨(h.ok b hb c e).1, rfl, (mul_nn hf _).1 (h.ok b hb c e).2.2⟩⟩
    · intro h; exact ⟨h.inj, fun b hb c e => ⟨(h.ok b hb c e).1, rfl, (mul_nn hf _).2 (h.ok b hb c e).2.2⟩⟩
  obtain ⟨A, hA, hw⟩ := best_ex (G := mulG f G) (m := m) n topP
  obtain ⟨B, hB, hwB⟩ := best_ex (G := G) (m := m) n topP
  have h2 := bestV_ge ((h1 A).1 hA)
  have h3 := bestV_ge ((h1 B).2 hB)
  rw [mul_wt] at h3 hw
  have hw : (f : Int) * wtN G A n = bestV (mulG f G) m n := hw
  have hwB : wtN G B n = bestV G m n := hwB
  rw [hwB] at h3
  have h4 : (f : Int) * wtN G A n ≤ f * bestV G m n := Int.mul_le_mul_of_nonneg_left h2 (by omega)
  omega
theorem num_mul {f : Nat} (hf : 0 < f) (k : Nat) : numP (mulG f G) m n k = f * numP G m n k := by
  have h1 : oneG (mulG f G) m k = mulG f (oneG G m k) := by
    funext b c
    show (if c = m then (f : Int) * G b k else f * G b c) = f * (if c = m then G b k else G b c)
    split <;> rfl
  unfold numP
  rw [h1, best_mul hf, best_mul hf, Int.mul_sub]
theorem top_mul {f : Nat} (hf : 0 < f) (g : Nat → Int) : ∀ m, topN (fun k => (f : Int) * g k) m = f * topN g m
  | 0 => by simp [topN]
  | m + 1 => by
    rw [topN, topN, top_mul hf g m]
    by_cases h : topN g m ≤ g m
    · rw [Int.max_eq_right h, Int.max_eq_right (Int.mul_le_mul_of_nonneg_left h (by omega))]
    · have h' : g m ≤ topN g m := by omega
      rw [Int.max_eq_left h', Int.max_eq_left (Int.mul_le_mul_of_nonneg_left h' (by omega))]
theorem bid_mul {f : Nat} (hf : 0 < f) (i : Nat) : bidP (mulG f G) m n i = f * bidP G m n i := by
  unfold bidP
  rw [← top_mul hf]
  congr 1
  funext k
  rw [num_mul hf, mulG, Int.mul_sub]
end
end Go.Proofs.Ytjjaajmjcdihoaa
