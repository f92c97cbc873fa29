/-
  Layer 10: the most that a matching gains; one more of one item; the numbers that prove it.
-/
import Derived.Test.YtjjaajmjcdihoaaWeD
namespace Go.Proofs.Ytjjaajmjcdihoaa
set_option linter.unusedVariables false

/-- What one bidder adds, over these items: as it is reckoned. -/
def bestStep (G : Nat → Int) (v : Nat → Int) (P : Nat → Bool) (acc : Int) (k : Nat) : Int := if (P k && decide (0 ≤ G k)) = true then max acc (v k + G k) else acc
def lessP (P : Nat → Bool) (k : Nat) (j : Nat) : Bool := P j && decide (j ≠ k)
/-- The most that a matching of the first bidders gains, of items of a set. -/
def bestN (G : Nat → Nat → Int) (m : Nat) : Nat → (Nat → Bool) → Int
  | 0, _ => 0
  | n + 1, P => (List.range m).foldl (bestStep (G n) (fun k => bestN G m n (lessP P k)) P) (bestN G m n P)
/-- A matching of the first bidders, of items of a set. -/
structure Mt (G : Nat → Nat → Int) (m n : Nat) (P : Nat → Bool) (A : Nat → Option Nat) : Prop where
  inj : InjN n A
  ok : ∀ b, b < n → ∀ c, A b = some c → c < m ∧ P c = true ∧ 0 ≤ G b c
def gainO (G : Nat → Int) : Option Nat → Int
  | some c => G c
  | none => 0
def wtN (G : Nat → Nat → Int) (A : Nat → Option Nat) : Nat → Int
  | 0 => 0
  | n + 1 => wtN G A n + gainO (G n) (A n)
section
variable {G : Nat → Nat → Int} {m n : Nat} {P : Nat → Bool} {A : Nat → Option Nat}
theorem fold_ge (g v : Nat → Int) : ∀ (l : List Nat) (a : Int), a ≤ l.foldl (bestStep g v P) a
  | [], a => Int.le_refl _
  | k :: l, a => by
    rw [List.foldl_cons]
    refine Int.le_trans ?_ (fold_ge g v l _)
    unfold bestStep
    split
    · exact Int.le_max_left _ _
    · exact Int.le_refl _
theorem fold_at (g v : Nat → Int) : ∀ (l : List Nat) (a : Int) {k : Nat}, k ∈ l → P k = true → 0 ≤ g k → v k + g k ≤ l.foldl (bestStep g v P) a
  | [], _, _, h, _, _ => by simp at h
  | j :: l, a, k, h, hp, hg => by
    rw [List.foldl_cons]
    rcases List.mem_cons.1 h with rfl | h
    · refine Int.le_trans ?_ (fold_ge g v l _)
      unfold bestStep
      rw [if_pos (by rw [hp, decide_eq_true hg]; rfl)]
      exact Int.le_max_right _ _
    · exact fold_at g v l _ h hp hg
theorem fold_is (g v : Nat → Int) : ∀ (l : List Nat) (a : Int), l.foldl (bestStep g v P) a = a ∨ ∃ k ∈ l, P k = true ∧ 0 ≤ g k ∧ l.foldl (bestStep g v P) a = v k + g k
  | [], a => .inl rfl
  | j :: l, a => by
    rw [List.foldl_cons]
    rcases fold_is g v l (bestStep g v P a j) with h | ⟨k, hk, h1, h2, h3⟩
    · rw [h]
      unfold bestStep
      split
      · rename_i hc
        rw [Bool.and_eq_true] at hc
        by_cases hm : a ≤ v j + g j
        · exact .inr ⟨j, by simp, hc.1, of_decide_eq_true hc.2, Int.max_eq_right hm⟩
        · exact .inl (Int.max_eq_left (by omega))
      · exact .inl rfl
    · exact .inr ⟨k, by simp [hk], h1, h2, h3⟩
theorem Mt.less (h : Mt G m (n + 1) P A) : Mt G m n P A := ⟨fun b b' c hb hb' => h.inj b b' c (by omega) (by omega), fun b hb => h.ok b (by omega)⟩
theorem best_ge : ∀ {n : Nat} {P : Nat → Bool}, Mt G m n P A → wtN G A n ≤ bestN G m n P
  | 0, _, _ => Int.le_refl _
  | n + 1, P, h => by
    rw [wtN, bestN]
    cases e : A n with
    | none =>
      refine Int.le_trans ?_ (fold_ge _ _ _ _)
      have := best_ge h.less
      simp only [gainO]; omega
    | some k =>
      obtain ⟨hk, hp, hg⟩ := h.ok n (by omega) k e
      refine Int.le_trans ?_ (fold_at (G n) (fun k => bestN G m n (lessP P k)) (List.range m) _ (List.mem_range.2 hk) hp hg)
      have h2 : Mt G m n (lessP P k) A := ⟨h.less.inj, fun b hb c e2 => by
        obtain ⟨h3, h4, h5⟩ := h.ok b (by omega) c e2
        refine ⟨h3, ?_, h5⟩
        rw [lessP, h4, decide_eq_true (show c ≠ k from fun hc => by
          rw [hc] at e2
          have := h.inj b n k (by omega) (by omega) e2 e
          omega)]; rfl⟩
      have := best_ge h2
      simp only [gainO]; omega
theorem wt_put (v : Option Nat) : ∀ {j : Nat}, j ≤ n → wtN G (putN A n v) j = wtN G A j
  | 0, _ => rfl
  | j + 1, h => by rw [wtN, wtN, wt_put v (by omega), put_ne (by omega)]
theorem best_ex : ∀ (n : Nat) (P : Nat → Bool), ∃ A, Mt G m n P A ∧ wtN G A n = bestN G m n P
  | 0, _ => ⟨fun _ => none, ⟨fun b _ _ hb => absurd hb (by omega), fun b hb => absurd hb (by omega)⟩, rfl⟩
  | n + 1, P => by
    rw [bestN]
    rcases fold_is (P := P) (G n) (fun k => bestN G m n (lessP P k)) (List.range m) (bestN G m n P) with h | ⟨k, hk, h1, h2, h3⟩
    · obtain ⟨A, hA, hw⟩ := best_ex n P
      refine ⟨putN A n none, ⟨put_inj hA.inj (fun c hc => by cases hc), fun b hb c e => ?_⟩, ?_⟩
      · by_cases hbn : b = n
        · rw [hbn, put_eq] at e; cases e
        · rw [put_ne hbn] at e; exact hA.ok b (by omega) c e
      · rw [h, wtN, wt_put none (Nat.le_refl _), put_eq, hw, gainO]; omega
    · obtain ⟨A, hA, hw⟩ := best_ex n (lessP P k)
      refine ⟨putN A n (some k), ⟨put_inj hA.inj (fun c hc b hb e => ?_), fun b hb c e => ?_⟩, ?_⟩
      · cases hc
        have h4 := (hA.ok b hb k e).2.1
        rw [lessP, decide_eq_false (show ¬ k ≠ k from fun h => h rfl), Bool.and_false] at h4
        cases h4
      · by_cases hbn : b = n
        · rw [hbn, put_eq] at e
          cases e
          rw [hbn]
          exact ⟨List.mem_range.1 hk, h1, h2⟩
        · rw [put_ne hbn] at e
          obtain ⟨h4, h5, h6⟩ := hA.ok b (by omega) c e
          rw [lessP, Bool.and_eq_true] at h5
          exact ⟨h4, h5.1, h6⟩
      · rw [h3, wtN, wt_put _ (Nat.le_refl _), put_eq, hw, gainO]
end

/-! All items, and one more of one. -/
def topP (_ : Nat) : Bool := true
def bestV (G : Nat → Nat → Int) (m n : Nat) : Int := bestN G m n topP
def oneG (G : Nat → Nat → Int) (m k : Nat) (b c : Nat) : Int := if c = m then G b k else G b c
def numP (G : Nat → Nat → Int) (m n k : Nat) : Int := bestV (oneG G m k) (m + 1) n - bestV G m n
section
variable {G : Nat → Nat → Int} {m n : Nat} {A B : Nat → Option Nat}
theorem use_one (h : InjN n A) (c : Nat) : ∀ {j : Nat}, j ≤ n → useN A c j ≤ 1
  | 0, _ => by rw [useN]; omega
  | j + 1, hj => by
    rw [useN]
    by_cases e : A j = some c
    · rw [if_pos e]
      have h0 : ∀ i, i ≤ j → useN A c i = 0 := fun i => by
        induction i with
        | zero => exact fun _ => rfl
        | succ i ih =>
          intro hi
          rw [useN, ih (by omega), if_neg (fun e2 => by have := h i j c (by omega) (by omega) e2 e; omega)]
      rw [h0 j (Nat.le_refl _)]; omega
    · rw [if_neg e]
      have := use_one h c (j := j) (by omega)
      omega
theorem use_zero {c : Nat} : ∀ {j : Nat}, (∀ b, b < j → A b ≠ some c) → useN A c j = 0
  | 0, _ => rfl
  | j + 1, h => by rw [useN, use_zero fun b hb => h b (by omega), if_neg (h j (by omega))]
/-- The further one is one of these. -/
def downN (m k : Nat) (B : Nat → Option Nat) (b : Nat) : Option Nat := match B b with
  | some c => some (if c = m then k else c)
  | none => none
theorem down_use {k c : Nat} (hk : k < m) : ∀ {j : Nat}, useN (downN m k B) c j ≤ useN B c j + if c = k then useN B m j else 0
  | 0 => by simp [useN]
  | j + 1 => by
    have ih := down_use (c := c) hk (j := j)
    rw [useN, useN]
    by_cases hck : c = k
    · rw [if_pos hck] at ih ⊢
      rw [useN]
      unfold downN at ih ⊢
      cases e : B j with
      | none => simp; omega
      | some d =>
        simp only [Option.some.injEq]
        by_cases hd : d = m
        · rw [if_pos hd, if_pos hck.symm, if_pos hd]
          split <;> omega
        · rw [if_neg hd, if_neg hd]; omega
    · rw [if_neg hck] at ih ⊢
      unfold downN at ih ⊢
      cases e : B j with
      | none => simp; omega
      | some d =>
        simp only [Option.some.injEq]
        by_cases hd : d = m
        · rw [if_pos hd, if_neg (fun h => hck h.symm)]; omega
        · rw [if_neg hd]; omega
theorem down_wt {k : Nat} : ∀ {j : Nat}, wtN G (downN m k B) j = wtN (oneG G m k) B j
  | 0 => rfl
  | j + 1 => by
    rw [wtN, wtN, down_wt]
    congr 1
    unfold downN
    cases e : B j with
    | none => rfl
    | some d =>
      simp only [gainO, oneG]
      by_cases hd : d = m
      · rw [if_pos hd, if_pos hd]
      · rw [if_neg hd, if_neg hd]
theorem down_ok {k : Nat} (hk : k < m) (h : Mt (oneG G m k) (m + 1) n topP B) : ∀ b, b < n → ∀ c, downN m k B b = some c → c < m ∧ 0 ≤ G b c := fun b hb c e => by
  unfold downN at e
  cases e2 : B b with
  | none => rw [e2] at e; cases e
  | some d =>
    rw [e2] at e
    simp only [Option.some.injEq] at e
    obtain ⟨h1, _, h2⟩ := h.ok b hb d e2
    rw [oneG] at h2
    by_cases hd : d = m
    · rw [if_pos hd] at e h2; subst e; exact ⟨hk, h2⟩
    · rw [if_neg hd] at e h2; subst e; exact ⟨by omega, h2⟩
theorem swap_wt {A' B' : Nat → Option Nat} : ∀ {n : Nat}, SwapN n A B A' B' → wtN G A' n + wtN G B' n = wtN G A n + wtN G B n
  | 0, _ => rfl
  | n + 1, h => by
    have ih := swap_wt (n := n) fun b hb => h b (by omega)
    rw [wtN, wtN, wtN, wtN]
    rcases h n (by omega) with ⟨h1, h2⟩ | ⟨h1, h2⟩
    · rw [h1, h2]; omega
    · rw [h1, h2]; omega
theorem swap_ok {A' B' : Nat → Option Nat} {Q : Nat → Nat → Prop} (h : SwapN n A B A' B') (hA : ∀ b, b < n → ∀ c, A b = some c → Q b c) (hB : ∀ b, b < n → ∀ c, B b = some c → Q b c) :
    (∀ b, b < n → ∀ c, A' b = some c → Q b c) ∧ ∀ b, b < n → ∀ c, B' b = some c → Q b c := by
  refine ⟨fun b hb c e => ?_, fun b hb c e => ?_⟩
  · rcases h b hb with ⟨h1, _⟩ | ⟨h1, _⟩
    · exact hA b hb c (h1 ▸ e)
    · exact hB b hb c (h1 ▸ e)
  · rcases h b hb with ⟨_, h1⟩ | ⟨_, h1⟩
    · exact hB b hb c (h1 ▸ e)
    · exact hA b hb c (h1 ▸ e)
/-- A bidder has nothing. -/
def dropN (A : Nat → Option Nat) (i b : Nat) : Option Nat := if b = i then none else A b
theorem drop_wt {i : Nat} : ∀ {j : Nat}, wtN G (dropN A i) j = wtN G A j - if i < j then gainO (G i) (A i) else 0
  | 0 => rfl
  | j + 1 => by
    rw [wtN, wtN, drop_wt]
    by_cases h : j = i
    · subst h
      rw [if_neg (by omega), if_pos (by omega)]
      unfold dropN
      rw [if_pos rfl]
      simp only [gainO]; omega
    · unfold dropN
      rw [if_neg h]
      by_cases h2 : i < j
      · rw [if_pos h2, if_pos (by omega)]; omega
      · rw [if_neg h2, if_neg (by omega)]; omega
theorem drop_use {i c : Nat} : ∀ {j : Nat}, useN (dropN A i) c j ≤ useN A c j
  | 0 => Nat.le_refl _
  | j + 1 => by
    rw [useN, useN]
    have := drop_use (i := i) (c := c) (j := j)
    unfold dropN at this ⊢
    by_cases h : j = i
    · simp only [if_pos h]; simp; omega
    · simp only [if_neg h]; omega
/-- What a bidder has is away, and one more of it is there: two matchings, in one of which that bidder has nothing. -/
theorem part_two {i j : Nat} (hA : Mt G m n topP A) (hi : i < n) (hj : A i = some j) (hB : Mt (oneG G m j) (m + 1) n topP B) :
    ∃ X Y, Mt G m n topP X ∧ Mt G m n topP Y ∧ X i = none ∧ wtN G X n + wtN G Y n = wtN G A n - G i j + wtN (oneG G m j) B n := by
  have hjm := (hA.ok i hi j hj).1
  obtain ⟨X, Y, hs, hX, hY⟩ := two_parts n (dropN A i) (downN m j B) fun c => by
    have h1 := use_one hA.inj c (Nat.le_refl n)
    have h2 := use_one hB.inj c (Nat.le_refl n)
    have h3 := use_one hB.inj m (Nat.le_refl n)
    have h4 := down_use (B := B) (c := c) hjm (j := n)
    have h5 := drop_use (A := A) (i := i) (c := c) (j := n)
    by_cases hc : c = j
    · have h6 : useN (dropN A i) c n = 0 := use_zero fun b hb e => by
        unfold dropN at e
        by_cases hbi : b = i
        · rw [if_pos hbi] at e; cases e
        · rw [if_neg hbi, hc] at e
          exact hbi (hA.inj b i j hb hi e hj)
      rw [if_pos hc] at h4
      omega
    · rw [if_neg hc] at h4
      omega
  obtain ⟨oX, oY⟩ := swap_ok (Q := fun b c => c < m ∧ 0 ≤ G b c) hs (fun b hb c e => by
    unfold dropN at e
    by_cases hbi : b = i
    · rw [if_pos hbi] at e; cases e
    · rw [if_neg hbi] at e
      exact ⟨(hA.ok b hb c e).1, (hA.ok b hb c e).2.2⟩) (down_ok hjm hB)
  have mX : Mt G m n topP X := ⟨hX, fun b hb c e => ⟨(oX b hb c e).1, rfl, (oX b hb c e).2⟩⟩
  have mY : Mt G m n topP Y := ⟨hY, fun b hb c e => ⟨(oY b hb c e).1, rfl, (oY b hb c e).2⟩⟩
  have hw := swap_wt (G := G) hs
  rw [down_wt, drop_wt, if_pos hi, hj] at hw
  have hd : dropN A i i = none := if_pos rfl
  rcases hs i hi with ⟨h1, h2⟩ | ⟨h1, h2⟩
  · exact ⟨X, Y, mX, mY, h1.trans hd, hw⟩
  · refine ⟨Y, X, mY, mX, h2.trans hd, ?_⟩
    simp only [gainO] at hw
    omega
/-- One who has nothing is given a further one. -/
def giveN (X : Nat → Option Nat) (i c : Nat) (b : Nat) : Option Nat := if b = i then some c else X b
theorem give_wt {X : Nat → Option Nat} {i c : Nat} (h0 : X i = none) : ∀ {j : Nat}, wtN G (giveN X i c) j = wtN G X j + if i < j then G i c else 0
  | 0 => rfl
  | j + 1 => by
    rw [wtN, wtN, give_wt h0]
    unfold giveN
    by_cases h : j = i
    · subst h
      rw [if_pos rfl, if_neg (by omega), if_pos (by omega), h0]
      simp only [gainO]
    · rw [if_neg h]
      by_cases h2 : i < j
      · rw [if_pos h2, if_pos (by omega)]; omega
      · rw [if_neg h2, if_neg (by omega)]; omega
theorem one_wt {k : Nat} {X : Nat → Option Nat} (h : ∀ b, b < n → ∀ c, X b = some c → c < m) : ∀ {j : Nat}, j ≤ n → wtN (oneG G m k) X j = wtN G X j
  | 0, _ => rfl
  | j + 1, hj => by
    rw [wtN, wtN, one_wt h (by omega)]
    congr 1
    cases e : X j with
    | none => rfl
    | some d =>
      simp only [gainO, oneG]
      rw [if_neg (by have := h j (by omega) d e; omega)]
theorem give_ok {X : Nat → Option Nat} {i k : Nat} (hX : Mt G m n topP X) (hi : i < n) (h0 : X i = none) (hg : 0 ≤ G i k) : Mt (oneG G m k) (m + 1) n topP (giveN X i m) ∧ wtN (oneG G m k) (giveN X i m) n = wtN G X n + G i k := by
  have hlt : ∀ b, b < n → ∀ c, X b = some c → c < m := fun b hb c e => (hX.ok b hb c e).1
  refine ⟨⟨fun b b' c hb hb' e1 e2 => ?_, fun b hb c e => ?_⟩, ?_⟩
  · unfold giveN at e1 e2
    by_cases h1 : b = i
    · by_cases h2 : b' = i
      · omega
      · rw [if_pos h1] at e1
        rw [if_neg h2] at e2
        cases e1
        have := hlt b' hb' m e2
        omega
    · rw [if_neg h1] at e1
      by_cases h2 : b' = i
      · rw [if_pos h2] at e2
        cases e2
        have := hlt b hb m e1
        omega
      · rw [if_neg h2] at e2
        exact hX.inj b b' c hb hb' e1 e2
  · unfold giveN at e
    by_cases h1 : b = i
    · rw [if_pos h1] at e
      cases e
      refine ⟨by omega, rfl, ?_⟩
      rw [oneG, if_pos rfl, h1]; exact hg
    · rw [if_neg h1] at e
      obtain ⟨h2, _, h3⟩ := hX.ok b hb c e
      refine ⟨by omega, rfl, ?_⟩
      rw [oneG, if_neg (by omega)]; exact h3
  · rw [give_wt h0, one_wt hlt (Nat.le_refl _), if_pos hi, oneG, if_pos rfl]
end
end Go.Proofs.Ytjjaajmjcdihoaa
