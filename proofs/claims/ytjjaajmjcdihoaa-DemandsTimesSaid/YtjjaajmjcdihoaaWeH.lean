/-
  Layer 10, more: in whatever order they stand; idle ones.
-/
import Derived.Test.YtjjaajmjcdihoaaWeG
namespace Go.Proofs.Ytjjaajmjcdihoaa
set_option linter.unusedVariables false

theorem sum_split (g : Nat → Int) (a : Nat) : ∀ b, sumW g (a + b) = sumW g a + sumW (fun i => g (i + a)) b
  | 0 => by simp [sumW]
  | b + 1 => by
    rw [← Nat.add_assoc, sumW, sum_split g a b, sumW, Nat.add_comm b a]
    omega
theorem rot_lt {n r b : Nat} (hb : b < n) : (b + r) % n < n := Nat.mod_lt _ (by omega)
theorem rot_back {n r b : Nat} (hr : r ≤ n) (hb : b < n) : ((b + (n - r)) % n + r) % n = b := by
  rw [Nat.mod_add_mod, show b + (n - r) + r = b + n by omega, Nat.add_mod_right, Nat.mod_eq_of_lt hb]
theorem rot_forth {n r b : Nat} (hr : r ≤ n) (hb : b < n) : ((b + r) % n + (n - r)) % n = b := by
  rw [Nat.mod_add_mod, show b + r + (n - r) = b + n by omega, Nat.add_mod_right, Nat.mod_eq_of_lt hb]
theorem rot_inj {n r b b' : Nat} (hr : r ≤ n) (hb : b < n) (hb' : b' < n) (h : (b + r) % n = (b' + r) % n) : b = b' := by
  have h1 := rot_forth hr hb
  rw [h, rot_forth hr hb'] at h1
  exact h1.symm
theorem sum_rot (f : Nat → Int) {n r : Nat} (hr : r ≤ n) : sumW (fun i => f ((i + r) % n)) n = sumW f n := by
  have h1 := sum_split (fun i => f ((i + r) % n)) (n - r) r
  have h2 := sum_split f r (n - r)
  rw [show n - r + r = n by omega] at h1
  rw [show r + (n - r) = n by omega] at h2
  rw [h1, h2]
  have h3 : sumW (fun i => f ((i + r) % n)) (n - r) = sumW (fun i => f (i + r)) (n - r) := sum_congr fun i hi => by rw [Nat.mod_eq_of_lt (by omega)]
  have h4 : sumW (fun i => f ((i + (n - r) + r) % n)) r = sumW f r := sum_congr fun i hi => by
    rw [show i + (n - r) + r = i + n by omega, Nat.add_mod_right, Nat.mod_eq_of_lt (by omega)]
  rw [h3, h4]
  omega
section
variable {G G' : Nat → Nat → Int} {m n : Nat}
def mapO (f : Nat → Nat) : Option Nat → Option Nat
  | some c => some (f c)
  | none => none
theorem mapO_some {f : Nat → Nat} {o : Option Nat} {d : Nat} (h : mapO f o = some d) : ∃ c, o = some c ∧ d = f c := by
  cases o with
  | none => cases h
  | some c => cases h; exact ⟨c, rfl, rfl⟩
/-- Named otherwise. -/
theorem best_named {r : Nat} (σ : Nat → Nat) (hr : r ≤ n) (hs : ∀ c, c < m → σ c < m) (hi : ∀ c c', c < m → c' < m → σ c = σ c' → c = c') (hG : ∀ b c, b < n → c < m → G' b (σ c) = G ((b + r) % n) c) : bestV G m n ≤ bestV G' m n := by
  refine best_mono fun A hA => ⟨fun b => mapO σ (A ((b + r) % n)), ⟨fun b b' c hb hb' e1 e2 => ?_, fun b hb c e => ?_⟩, ?_⟩
  · obtain ⟨d1, f1, g1⟩ := mapO_some e1
    obtain ⟨d2, f2, g2⟩ := mapO_some e2
    have k1 := (hA.ok _ (rot_lt hb) d1 f1).1
    have k2 := (hA.ok _ (rot_lt hb') d2 f2).1
    have := hi d1 d2 k1 k2 (g1.symm.trans g2)
    subst this
    exact rot_inj hr hb hb' (hA.inj _ _ _ (rot_lt hb) (rot_lt hb') f1 f2)
  · obtain ⟨d, f, rfl⟩ := mapO_some e
    obtain ⟨k1, _, k3⟩ := hA.ok _ (rot_lt hb) d f
    exact ⟨hs d k1, rfl, by rw [hG b d hb k1]; exact k3⟩
  · rw [wt_sum, wt_sum, ← sum_rot (fun b => gainO (G b) (A b)) hr]
    refine Int.le_of_eq (sum_congr fun b hb => ?_)
    try simp only
    cases e : A ((b + r) % n) with
    | none => rfl
    | some d =>
      have k1 := (hA.ok _ (rot_lt hb) d e).1
      exact (hG b d hb k1).symm
/-- Bidders and items are moved. -/
def rotG (G : Nat → Nat → Int) (m n r s b c : Nat) : Int := G ((b + r) % n) ((c + s) % m)
variable {r s : Nat}
theorem rot_best (hr : r ≤ n) (hs : s ≤ m) : bestV (rotG G m n r s) m n = bestV G m n := by
  refine Int.le_antisymm (best_named (r := n - r) (fun c => (c + s) % m) (by omega) (fun c hc => rot_lt hc) (fun c c' hc hc' h => rot_inj hs hc hc' h) fun b c hb hc => ?_)
    (best_named (r := r) (fun c => (c + (m - s)) % m) hr (fun c hc => rot_lt hc) (fun c c' hc hc' h => rot_inj (r := m - s) (by omega) hc hc' h) fun b c hb hc => ?_)
  · rw [rotG, rot_back hr hb]
  · rw [rotG, rot_back hs hc]
theorem rot_one {k : Nat} (hr : r ≤ n) (hs : s ≤ m) (hk : k < m) : bestV (oneG (rotG G m n r s) m k) (m + 1) n = bestV (oneG G m ((k + s) % m)) (m + 1) n := by
  have hks : (k + s) % m < m := rot_lt hk
  refine Int.le_antisymm (best_named (r := n - r) (fun c => if c = m then m else (c + s) % m) (by omega) (fun c hc => ?_) (fun c c' hc hc' h => ?_) fun b c hb hc => ?_)
    (best_named (r := r) (fun c => if c = m then m else (c + (m - s)) % m) hr (fun c hc => ?_) (fun c c' hc hc' h => ?_) fun b c hb hc => ?_)
  · by_cases e : c = m
    · simp only [if_pos e]; omega
    · simp only [if_neg e]; have := rot_lt (r := s) (show c < m by omega); omega
  · by_cases e : c = m
    · by_cases e' : c' = m
      · omega
      · simp only [if_pos e, if_neg e'] at h
        have := rot_lt (r := s) (show c' < m by omega); omega
    · by_cases e' : c' = m
      · simp only [if_neg e, if_pos e'] at h
        have := rot_lt (r := s) (show c < m by omega); omega
      · simp only [if_neg e, if_neg e'] at h
        exact rot_inj hs (by omega) (by omega) h
  · by_cases e : c = m
    · simp only [if_pos e, oneG, rotG]
      rw [rot_back hr hb]; simp
    · simp only [if_neg e, oneG, rotG]
      have := rot_lt (r := s) (show c < m by omega)
      rw [if_neg (by omega), rot_back hr hb]
  · by_cases e : c = m
    · simp only [if_pos e]; omega
    · simp only [if_neg e]; have := rot_lt (r := m - s) (show c < m by omega); omega
  · by_cases e : c = m
    · by_cases e' : c' = m
      · omega
      · simp only [if_pos e, if_neg e'] at h
        have := rot_lt (r := m - s) (show c' < m by omega); omega
    · by_cases e' : c' = m
      · simp only [if_neg e, if_pos e'] at h
        have := rot_lt (r := m - s) (show c < m by omega); omega
      · simp only [if_neg e, if_neg e'] at h
        exact rot_inj (r := m - s) (by omega) (by omega) (by omega) h
  · by_cases e : c = m
    · simp only [if_pos e, oneG, rotG]; simp
    · simp only [if_neg e, oneG, rotG]
      have := rot_lt (r := m - s) (show c < m by omega)
      rw [if_neg (by omega), rot_back hs (by omega)]
theorem rot_num {k : Nat} (hr : r ≤ n) (hs : s ≤ m) (hk : k < m) : numP (rotG G m n r s) m n k = numP G m n ((k + s) % m) := by
  rw [numP, numP, rot_one hr hs hk, rot_best hr hs]
theorem rot_bid {i : Nat} (hr : r ≤ n) (hs : s ≤ m) : bidP (rotG G m n r s) m n i = bidP G m n ((i + r) % n) := by
  refine Int.le_antisymm (top_le (top_nonneg _ _) fun k hk => ?_) (top_le (top_nonneg _ _) fun k hk => ?_)
  · rw [rot_num hr hs hk]
    exact top_ge (f := fun k => G ((i + r) % n) k - numP G m n k) (rot_lt hk)
  · have h1 := top_ge (f := fun k => rotG G m n r s i k - numP (rotG G m n r s) m n k) (m := m) (k := (k + (m - s)) % m) (rot_lt hk)
    rw [rot_num hr hs (rot_lt hk), rotG, rot_back hs hk] at h1
    exact h1

/-! Idle ones. -/
def idleG (G : Nat → Nat → Int) (m n b c : Nat) : Int := if b = n ∨ c = m then -1 else G b c
theorem idle_best : bestV (idleG G m n) (m + 1) (n + 1) = bestV G m n := by
  refine Int.le_antisymm (best_mono fun A hA => ?_) (best_mono fun A hA => ?_)
  · have h0 : ∀ b, b < n + 1 → ∀ c, A b = some c → b < n ∧ c < m := fun b hb c e => by
      obtain ⟨h1, _, h2⟩ := hA.ok b hb c e
      rw [idleG] at h2
      by_cases h : b = n ∨ c = m
      · rw [if_pos h] at h2; omega
      · omega
    refine ⟨A, ⟨fun b b' c hb hb' => hA.inj b b' c (by omega) (by omega), fun b hb c e => ?_⟩, ?_⟩
    · obtain ⟨h1, _, h2⟩ := hA.ok b (by omega) c e
      obtain ⟨h3, h4⟩ := h0 b (by omega) c e
      rw [idleG, if_neg (by omega)] at h2
      exact ⟨h4, rfl, h2⟩
    · have hn : A n = none := by
        cases e : A n with
        | none => rfl
        | some c => have := (h0 n (by omega) c e).1; omega
      rw [wtN, hn, gainO, Int.add_zero]
      exact Int.le_of_eq (wt_congr fun b hb c e => by
        obtain ⟨h3, h4⟩ := h0 b (by omega) c e
        rw [idleG, if_neg (by omega)])
  · refine ⟨putN A n none, ⟨put_inj hA.inj (fun c hc => by cases hc), fun b hb c e => ?_⟩, ?_⟩
    · by_cases hbn : b = n
      · rw [hbn, put_eq] at e; cases e
      · rw [put_ne hbn] at e
        obtain ⟨h1, _, h2⟩ := hA.ok b (by omega) c e
        exact ⟨by omega, rfl, by rw [idleG, if_neg (by omega)]; exact h2⟩
    · rw [wtN, put_eq, gainO, Int.add_zero, wt_put none (Nat.le_refl _)]
      exact Int.le_of_eq (wt_congr fun b hb c e => by
        have := (hA.ok b hb c e).1
        rw [idleG, if_neg (by omega)])
theorem idle_one {k : Nat} (hk : k < m) : bestV (oneG (idleG G m n) (m + 1) k) (m + 1 + 1) (n + 1) = bestV (oneG G m k) (m + 1) n := by
  refine Int.le_antisymm (best_mono fun A hA => ?_) (best_mono fun A hA => ?_)
  · have h0 : ∀ b, b < n + 1 → ∀ c, A b = some c → b < n ∧ c ≠ m ∧ c < m + 2 := fun b hb c e => by
      obtain ⟨h1, _, h2⟩ := hA.ok b hb c e
      rw [oneG] at h2
      by_cases hc : c = m + 1
      · rw [if_pos hc, idleG] at h2
        by_cases h : b = n ∨ k = m
        · rw [if_pos h] at h2; omega
        · omega
      · rw [if_neg hc, idleG] at h2
        by_cases h : b = n ∨ c = m
        · rw [if_pos h] at h2; omega
        · omega
    have hg : ∀ b, b < n → ∀ c, c ≠ m → c < m + 2 → oneG G m k b (if c = m + 1 then m else c) = oneG (idleG G m n) (m + 1) k b c := fun b hb c h1 h2 => by
      by_cases hc : c = m + 1
      · rw [if_pos hc, oneG, if_pos rfl, oneG, if_pos hc, idleG, if_neg (by omega)]
      · rw [if_neg hc, oneG, if_neg h1, oneG, if_neg hc, idleG, if_neg (by omega)]
    refine ⟨fun b => mapO (fun c => if c = m + 1 then m else c) (A b), ⟨fun b b' c hb hb' e1 e2 => ?_, fun b hb c e => ?_⟩, ?_⟩
    · obtain ⟨d1, f1, g1⟩ := mapO_some e1
      obtain ⟨d2, f2, g2⟩ := mapO_some e2
      have k1 := h0 b (by omega) d1 f1
      have k2 := h0 b' (by omega) d2 f2
      have hd : d1 = d2 := by
        rw [g1] at g2
        by_cases q1 : d1 = m + 1
        · by_cases q2 : d2 = m + 1
          · omega
          · simp only [if_pos q1, if_neg q2] at g2; omega
        · by_cases q2 : d2 = m + 1
          · simp only [if_neg q1, if_pos q2] at g2; omega
          · simp only [if_neg q1, if_neg q2] at g2; exact g2
      subst hd
      exact hA.inj b b' d1 (by omega) (by omega) f1 f2
    · obtain ⟨d, f, rfl⟩ := mapO_some e
      obtain ⟨h1, h2, h3⟩ := h0 b (by omega) d f
      refine ⟨?_, rfl, ?_⟩
      · split <;> omega
      · rw [hg b hb d h2 h3]
        exact (hA.ok b (by omega) d f).2.2
    · have hn : A n = none := by
        cases e : A n with
        | none => rfl
        | some c => have := (h0 n (by omega) c e).1; omega
      rw [wtN, hn, gainO, Int.add_zero, wt_sum, wt_sum]
      refine Int.le_of_eq (sum_congr fun b hb => ?_)
      try simp only
      cases e : A b with
      | none => rfl
      | some d =>
        obtain ⟨h1, h2, h3⟩ := h0 b (by omega) d e
        exact (hg b hb d h2 h3).symm
  · have hg : ∀ b, b < n → ∀ c, c < m + 1 → oneG (idleG G m n) (m + 1) k b (if c = m then m + 1 else c) = oneG G m k b c := fun b hb c h1 => by
      by_cases hc : c = m
      · rw [if_pos hc, oneG, if_pos rfl, oneG, if_pos hc, idleG, if_neg (by omega)]
      · rw [if_neg hc, oneG, if_neg (by omega), oneG, if_neg hc, idleG, if_neg (by omega)]
    refine ⟨putN (fun b => mapO (fun c => if c = m then m + 1 else c) (A b)) n none, ⟨put_inj (fun b b' c hb hb' e1 e2 => ?_) (fun c hc => by cases hc), fun b hb c e => ?_⟩, ?_⟩
    · obtain ⟨d1, f1, g1⟩ := mapO_some e1
      obtain ⟨d2, f2, g2⟩ := mapO_some e2
      have k1 := (hA.ok b hb d1 f1).1
      have k2 := (hA.ok b' hb' d2 f2).1
      have hd : d1 = d2 := by
        rw [g1] at g2
        by_cases q1 : d1 = m
        · by_cases q2 : d2 = m
          · omega
          · simp only [if_pos q1, if_neg q2] at g2; omega
        · by_cases q2 : d2 = m
          · simp only [if_neg q1, if_pos q2] at g2; omega
          · simp only [if_neg q1, if_neg q2] at g2; exact g2
      subst hd
      exact hA.inj b b' d1 hb hb' f1 f2
    · by_cases hbn : b = n
      · rw [hbn, put_eq] at e; cases e
      · rw [put_ne hbn] at e
        obtain ⟨d, f, rfl⟩ := mapO_some e
        obtain ⟨h1, _, h2⟩ := hA.ok b (by omega) d f
        refine ⟨?_, rfl, ?_⟩
        · split <;> omega
        · rw [hg b (by omega) d h1]
          exact h2
    · rw [wtN, put_eq, gainO, Int.add_zero, wt_put none (Nat.le_refl _), wt_sum, wt_sum]
      refine Int.le_of_eq (sum_congr fun b hb => ?_)
      cases e : A b with
      | none => simp only [mapO]; rfl
      | some d =>
        simp only [mapO, gainO]
        exact (hg b hb d (hA.ok b hb d e).1).symm
theorem idle_last : bestV (oneG (idleG G m n) (m + 1) m) (m + 1 + 1) (n + 1) = bestV (idleG G m n) (m + 1) (n + 1) := by
  refine Int.le_antisymm (best_mono fun A hA => ?_) (best_mono fun A hA => ⟨A, one_ok hA |>.1, Int.le_of_eq (one_ok hA |>.2).symm⟩)
  have h0 : ∀ b, b < n + 1 → ∀ c, A b = some c → c < m + 1 := fun b hb c e => by
    obtain ⟨h1, _, h2⟩ := hA.ok b hb c e
    rw [oneG] at h2
    by_cases hc : c = m + 1
    · rw [if_pos hc, idleG, if_pos (.inr rfl)] at h2; omega
    · omega
  refine ⟨A, ⟨hA.inj, fun b hb c e => ?_⟩, ?_⟩
  · obtain ⟨h1, _, h2⟩ := hA.ok b hb c e
    have := h0 b hb c e
    rw [oneG, if_neg (by omega)] at h2
    exact ⟨this, rfl, h2⟩
  · exact Int.le_of_eq (one_wt h0 (Nat.le_refl _))
theorem idle_num {k : Nat} (hk : k < m) : numP (idleG G m n) (m + 1) (n + 1) k = numP G m n k := by
  rw [numP, numP, idle_one hk, idle_best]
theorem idle_num_last : numP (idleG G m n) (m + 1) (n + 1) m = 0 := by
  rw [numP, idle_last]; omega
theorem idle_bid {i : Nat} (hi : i < n) : bidP (idleG G m n) (m + 1) (n + 1) i = bidP G m n i := by
  refine Int.le_antisymm (top_le (top_nonneg _ _) fun k hk => ?_) (top_le (top_nonneg _ _) fun k hk => ?_)
  · by_cases e : k = m
    · rw [e, idle_num_last, idleG, if_pos (.inr rfl)]
      have := top_nonneg (fun k => G i k - numP G m n k) m
      omega
    · rw [idle_num (by omega), idleG, if_neg (by omega)]
      exact top_ge (f := fun k => G i k - numP G m n k) (by omega)
  · have h1 := top_ge (f := fun k => idleG G m n i k - numP (idleG G m n) (m + 1) (n + 1) k) (show k < m + 1 by omega)
    rw [idle_num hk, idleG, if_neg (by omega)] at h1
    exact h1
theorem idle_bid_last : bidP (idleG G m n) (m + 1) (n + 1) n = 0 := by
  refine Int.le_antisymm (top_le (by omega) fun k hk => ?_) (top_nonneg _ _)
  rw [idleG, if_pos (.inl rfl)]
  have := num_nonneg (G := idleG G m n) (m := m + 1) (n := n + 1) k
  omega
end
end Go.Proofs.Ytjjaajmjcdihoaa
