/-
  Layer 10: these numbers prove it, are the least that do, and a bidder's is what all would gain less without it.
-/
import Derived.Test.YtjjaajmjcdihoaaWeE
namespace Go.Proofs.Ytjjaajmjcdihoaa
set_option linter.unusedVariables false

def sumW (f : Nat → Int) : Nat → Int
  | 0 => 0
  | n + 1 => sumW f n + f n
theorem sum_congr {f g : Nat → Int} : ∀ {n : Nat}, (∀ i, i < n → f i = g i) → sumW f n = sumW g n
  | 0, _ => rfl
  | n + 1, h => by rw [sumW, sumW, sum_congr fun i hi => h i (by omega), h n (by omega)]
theorem sum_le {f g : Nat → Int} : ∀ {n : Nat}, (∀ i, i < n → f i ≤ g i) → sumW f n ≤ sumW g n
  | 0, _ => Int.le_refl _
  | n + 1, h => by
    rw [sumW, sumW]
    have := sum_le (f := f) (g := g) (n := n) fun i hi => h i (by omega)
    have := h n (by omega)
    omega
theorem sum_add (f g : Nat → Int) : ∀ n : Nat, sumW (fun i => f i + g i) n = sumW f n + sumW g n
  | 0 => rfl
  | n + 1 => by rw [sumW, sumW, sumW, sum_add f g n]; omega
theorem sumW_one {d : Nat} (q : Int) : ∀ {n : Nat}, sumW (fun c => if d = c then q else 0) n = if d < n then q else 0
  | 0 => rfl
  | n + 1 => by
    rw [sumW, sumW_one q]
    by_cases h : d = n
    · rw [if_neg (by omega), if_pos h, if_pos (by omega)]; omega
    · rw [if_neg h]
      by_cases h2 : d < n
      · rw [if_pos h2, if_pos (by omega)]; omega
      · rw [if_neg h2, if_neg (by omega)]; omega
theorem sum_zero {f : Nat → Int} : ∀ {n : Nat}, (∀ i, i < n → f i = 0) → sumW f n = 0
  | 0, _ => rfl
  | n + 1, h => by rw [sumW, sum_zero fun i hi => h i (by omega), h n (by omega)]; rfl
theorem wt_sum (G : Nat → Nat → Int) (A : Nat → Option Nat) : ∀ n, wtN G A n = sumW (fun b => gainO (G b) (A b)) n
  | 0 => rfl
  | n + 1 => by rw [wtN, sumW, wt_sum G A n]
/-- By items, how often each stands. -/
theorem sum_use {A : Nat → Option Nat} {m : Nat} (q : Nat → Int) : ∀ {n : Nat}, (∀ b, b < n → ∀ c, A b = some c → c < m) → sumW (fun b => gainO q (A b)) n = sumW (fun c => (useN A c n : Int) * q c) m
  | 0, _ => by
    rw [sumW]
    exact (sum_zero fun i _ => by simp [useN]).symm
  | n + 1, h => by
    rw [sumW, sum_use q fun b hb => h b (by omega)]
    cases e : A n with
    | none =>
      rw [gainO, Int.add_zero]
      refine sum_congr fun c _ => ?_
      rw [useN, e]; simp
    | some d =>
      have hd := h n (by omega) d e
      have h1 := sumW_one (d := d) (q d) (n := m)
      rw [if_pos hd] at h1
      rw [gainO, ← h1, ← sum_add]
      refine sum_congr fun c _ => ?_
      rw [useN, e]
      by_cases hc : d = c
      · subst hc
        simp [Int.add_mul]
      · rw [if_neg hc, if_neg (by simpa using hc)]; simp
section
variable {G : Nat → Nat → Int} {m n : Nat}
/-- No matching gains more than numbers that cover it. -/
theorem weak {A : Nat → Option Nat} (hA : Mt G m n topP A) {v q : Nat → Int} (hv : ∀ b, b < n → 0 ≤ v b) (hq : ∀ c, c < m → 0 ≤ q c) (hc : ∀ b c, b < n → c < m → G b c ≤ v b + q c) : wtN G A n ≤ sumW v n + sumW q m := by
  have h1 : wtN G A n ≤ sumW v n + sumW (fun b => gainO q (A b)) n := by
    rw [wt_sum, ← sum_add]
    refine sum_le fun b hb => ?_
    cases e : A b with
    | none => simp only [gainO]; have := hv b hb; omega
    | some c => exact hc b c hb (hA.ok b hb c e).1
  rw [sum_use q fun b hb c e => (hA.ok b hb c e).1] at h1
  have h2 : sumW (fun c => (useN A c n : Int) * q c) m ≤ sumW q m := sum_le fun c hc => by
    have h3 := use_one hA.inj c (Nat.le_refl n)
    have h4 := hq c hc
    have h5 : useN A c n = 0 ∨ useN A c n = 1 := by omega
    rcases h5 with h5 | h5
    · rw [h5]; simpa using h4
    · rw [h5]; simp
  omega
theorem best_le {v q : Nat → Int} (hv : ∀ b, b < n → 0 ≤ v b) (hq : ∀ c, c < m → 0 ≤ q c) (hc : ∀ b c, b < n → c < m → G b c ≤ v b + q c) : bestV G m n ≤ sumW v n + sumW q m := by
  obtain ⟨A, hA, hw⟩ := best_ex (G := G) (m := m) n topP
  have := weak hA hv hq hc
  unfold bestV
  omega
theorem bestV_ge {A : Nat → Option Nat} (h : Mt G m n topP A) : wtN G A n ≤ bestV G m n := best_ge h
/-- No numbers that prove it are lower for any item. -/
theorem num_le {v q : Nat → Int} (hv : ∀ b, b < n → 0 ≤ v b) (hq : ∀ c, c < m → 0 ≤ q c) (hc : ∀ b c, b < n → c < m → G b c ≤ v b + q c) (hs : sumW v n + sumW q m = bestV G m n) {k : Nat} (hk : k < m) : numP G m n k ≤ q k := by
  have h1 := best_le (G := oneG G m k) (m := m + 1) (n := n) (v := v) (q := fun c => if c = m then q k else q c) hv (fun c hcm => by
    by_cases h : c = m
    · simp only [if_pos h]; exact hq k hk
    · simp only [if_neg h]; exact hq c (by omega)) (fun b c hb hcm => by
    rw [oneG]
    by_cases h : c = m
    · simp only [if_pos h]; exact hc b k hb hk
    · simp only [if_neg h]; exact hc b c hb (by omega))
  rw [sumW, sum_congr (f := fun c => if c = m then q k else q c) (g := q) fun c hcm => by simp only [if_neg (show c ≠ m by omega)]] at h1
  simp only [if_pos] at h1
  unfold numP
  omega
theorem one_ok {A : Nat → Option Nat} {k : Nat} (h : Mt G m n topP A) : Mt (oneG G m k) (m + 1) n topP A ∧ wtN (oneG G m k) A n = wtN G A n := by
  refine ⟨⟨h.inj, fun b hb c e => ?_⟩, one_wt (fun b hb c e => (h.ok b hb c e).1) (Nat.le_refl _)⟩
  obtain ⟨h1, _, h2⟩ := h.ok b hb c e
  exact ⟨by omega, rfl, by rw [oneG, if_neg (by omega)]; exact h2⟩
theorem num_nonneg (k : Nat) : 0 ≤ numP G m n k := by
  obtain ⟨A, hA, hw⟩ := best_ex (G := G) (m := m) n topP
  obtain ⟨h1, h2⟩ := one_ok (k := k) hA
  have h3 := bestV_ge h1
  unfold numP
  have : bestV G m n = wtN G A n := hw.symm
  omega
/-! Along a best matching. -/
variable {A : Nat → Option Nat}
theorem along (hA : Mt G m n topP A) (hw : wtN G A n = bestV G m n) {i j : Nat} (hi : i < n) (hj : A i = some j) :
    numP G m n j ≤ G i j ∧ ∀ k, k < m → G i k - numP G m n k ≤ G i j - numP G m n j := by
  obtain ⟨B, hB, hwB⟩ := best_ex (G := oneG G m j) (m := m + 1) n topP
  obtain ⟨X, Y, mX, mY, h0, hs⟩ := part_two hA hi hj hB
  have hX := bestV_ge mX
  have hY := bestV_ge mY
  have hV : wtN (oneG G m j) B n = bestV (oneG G m j) (m + 1) n := hwB
  have h1 : numP G m n j ≤ G i j := by unfold numP; omega
  refine ⟨h1, fun k hk => ?_⟩
  by_cases hg : 0 ≤ G i k
  · obtain ⟨h2, h3⟩ := give_ok (k := k) mX hi h0 hg
    have h4 := bestV_ge h2
    unfold numP
    omega
  · have := num_nonneg (G := G) (m := m) (n := n) k
    omega
theorem idle_b (hA : Mt G m n topP A) (hw : wtN G A n = bestV G m n) {i : Nat} (hi : i < n) (h0 : A i = none) : ∀ k, k < m → G i k ≤ numP G m n k := fun k hk => by
  by_cases hg : 0 ≤ G i k
  · obtain ⟨h2, h3⟩ := give_ok (k := k) hA hi h0 hg
    have h4 := bestV_ge h2
    unfold numP
    omega
  · have := num_nonneg (G := G) (m := m) (n := n) k
    omega
theorem idle_c (hA : Mt G m n topP A) (hw : wtN G A n = bestV G m n) {k : Nat} (hk : k < m) (h0 : ∀ b, b < n → A b ≠ some k) : numP G m n k = 0 := by
  obtain ⟨B, hB, hwB⟩ := best_ex (G := oneG G m k) (m := m + 1) n topP
  obtain ⟨X, Y, hs, hX, hY⟩ := two_parts n A (downN m k B) fun c => by
    have h1 := use_one hA.inj c (Nat.le_refl n)
    have h2 := use_one hB.inj c (Nat.le_refl n)
    have h3 := use_one hB.inj m (Nat.le_refl n)
    have h4 := down_use (B := B) (c := c) hk (j := n)
    by_cases hc : c = k
    · have h6 : useN A c n = 0 := use_zero fun b hb e => h0 b hb (hc ▸ e)
      rw [if_pos hc] at h4
      omega
    · rw [if_neg hc] at h4
      omega
  obtain ⟨oX, oY⟩ := swap_ok (Q := fun b c => c < m ∧ 0 ≤ G b c) hs (fun b hb c e => ⟨(hA.ok b hb c e).1, (hA.ok b hb c e).2.2⟩) (down_ok hk hB)
  have mX := bestV_ge (G := G) (m := m) (A := X) ⟨hX, fun b hb c e => ⟨(oX b hb c e).1, rfl, (oX b hb c e).2⟩⟩
  have mY := bestV_ge (G := G) (m := m) (A := Y) ⟨hY, fun b hb c e => ⟨(oY b hb c e).1, rfl, (oY b hb c e).2⟩⟩
  have hws := swap_wt (G := G) hs
  rw [down_wt] at hws
  have hV : wtN (oneG G m k) B n = bestV (oneG G m k) (m + 1) n := hwB
  have := num_nonneg (G := G) (m := m) (n := n) k
  unfold numP at this ⊢
  omega
/-- A bidder's number: the greatest of 0 and what it gains by an item, less that item's number. -/
def topN (f : Nat → Int) : Nat → Int
  | 0 => 0
  | m + 1 => max (topN f m) (f m)
theorem top_nonneg (f : Nat → Int) : ∀ m, 0 ≤ topN f m
  | 0 => Int.le_refl _
  | m + 1 => Int.le_trans (top_nonneg f m) (Int.le_max_left _ _)
theorem top_ge {f : Nat → Int} : ∀ {m k : Nat}, k < m → f k ≤ topN f m
  | 0, k, h => absurd h (by omega)
  | m + 1, k, h => by
    rw [topN]
    by_cases e : k = m
    · rw [e]; exact Int.le_max_right _ _
    · exact Int.le_trans (top_ge (show k < m by omega)) (Int.le_max_left _ _)
theorem top_le {f : Nat → Int} {a : Int} (h0 : 0 ≤ a) : ∀ {m : Nat}, (∀ k, k < m → f k ≤ a) → topN f m ≤ a
  | 0, _ => h0
  | m + 1, h => by
    rw [topN]
    exact Int.max_le.2 ⟨top_le h0 fun k hk => h k (by omega), h m (by omega)⟩
def bidP (G : Nat → Nat → Int) (m n i : Nat) : Int := topN (fun k => G i k - numP G m n k) m
theorem bid_at (hA : Mt G m n topP A) (hw : wtN G A n = bestV G m n) {i : Nat} (hi : i < n) : bidP G m n i = gainO (G i) (A i) - gainO (numP G m n) (A i) := by
  cases e : A i with
  | none =>
    simp only [gainO, bidP]
    refine Int.le_antisymm (top_le (by omega) fun k hk => ?_) (top_nonneg _ _)
    have := idle_b hA hw hi e k hk
    omega
  | some j =>
    simp only [gainO, bidP]
    obtain ⟨h1, h2⟩ := along hA hw hi e
    exact Int.le_antisymm (top_le (by omega) h2) (top_ge (f := fun k => G i k - numP G m n k) (hA.ok i hi j e).1)
/-- All these numbers together are the most that can be gained. -/
theorem num_sum : sumW (bidP G m n) n + sumW (numP G m n) m = bestV G m n := by
  obtain ⟨A, hA, hw⟩ := best_ex (G := G) (m := m) n topP
  have hw : wtN G A n = bestV G m n := hw
  have h1 : sumW (bidP G m n) n + sumW (fun b => gainO (numP G m n) (A b)) n = wtN G A n := by
    rw [wt_sum, ← sum_add]
    refine sum_congr fun b hb => ?_
    rw [bid_at hA hw hb]; omega
  rw [sum_use _ fun b hb c e => (hA.ok b hb c e).1] at h1
  have h2 : sumW (fun c => (useN A c n : Int) * numP G m n c) m = sumW (numP G m n) m := sum_congr fun c hc => by
    by_cases hu : useN A c n = 0
    · have h3 : numP G m n c = 0 := idle_c hA hw hc fun b hb e => by have := use_pos hb e; omega
      rw [h3]; simp
    · have h3 := use_one hA.inj c (Nat.le_refl n)
      rw [show useN A c n = 1 by omega]; simp
  omega
theorem bid_cover {i k : Nat} (hk : k < m) : G i k ≤ bidP G m n i + numP G m n k := by
  have := top_ge (f := fun k => G i k - numP G m n k) hk
  unfold bidP
  omega
theorem bid_nonneg (i : Nat) : 0 ≤ bidP G m n i := top_nonneg _ _

/-! Without a bidder. -/
def noneG (G : Nat → Nat → Int) (i b c : Nat) : Int := if b = i then -1 else G b c
theorem none_wt {i : Nat} : ∀ {j : Nat}, A i = none → wtN (noneG G i) A j = wtN G A j
  | 0, _ => rfl
  | j + 1, h => by
    rw [wtN, wtN, none_wt h]
    by_cases e : j = i
    · rw [e, h]; rfl
    · congr 1
      cases e2 : A j with
      | none => rfl
      | some d => simp only [gainO, noneG]; rw [if_neg e]
theorem none_ok {i : Nat} (hA : Mt G m n topP A) (h0 : A i = none) : Mt (noneG G i) m n topP A := ⟨hA.inj, fun b hb c e => by
  obtain ⟨h1, _, h2⟩ := hA.ok b hb c e
  refine ⟨h1, rfl, ?_⟩
  rw [noneG, if_neg fun h => by rw [h, h0] at e; cases e]
  exact h2⟩
theorem sum_but {f : Nat → Int} {i : Nat} : ∀ {n : Nat}, sumW (fun b => if b = i then 0 else f b) n = sumW f n - if i < n then f i else 0
  | 0 => rfl
  | n + 1 => by
    rw [sumW, sumW, sum_but]
    by_cases h : n = i
    · subst h
      rw [if_neg (by omega), if_pos rfl, if_pos (by omega)]; omega
    · rw [if_neg h]
      by_cases h2 : i < n
      · rw [if_pos h2, if_pos (by omega)]; omega
      · rw [if_neg h2, if_neg (by omega)]; omega
/-- A bidder's number is what all would gain less without it. -/
theorem bid_loss {i : Nat} (hi : i < n) : bidP G m n i = bestV G m n - bestV (noneG G i) m n := by
  obtain ⟨A, hA, hw⟩ := best_ex (G := G) (m := m) n topP
  have hw : wtN G A n = bestV G m n := hw
  have hle : bestV (noneG G i) m n ≤ bestV G m n - bidP G m n i := by
    have h1 := best_le (G := noneG G i) (m := m) (n := n) (v := fun b => if b = i then 0 else bidP G m n b) (q := numP G m n) (fun b _ => by
      by_cases h : b = i
      · simp only [if_pos h]; omega
      · simp only [if_neg h]; exact bid_nonneg b) (fun c _ => num_nonneg c) (fun b c _ hc => by
      rw [noneG]
      by_cases h : b = i
      · simp only [if_pos h]
        have := num_nonneg (G := G) (m := m) (n := n) c
        omega
      · simp only [if_neg h]; exact bid_cover hc)
    rw [sum_but, if_pos hi] at h1
    have := num_sum (G := G) (m := m) (n := n)
    omega
  have hge : bestV G m n - bidP G m n i ≤ bestV (noneG G i) m n := by
    cases e : A i with
    | none =>
      have h1 := bestV_ge (none_ok hA e)
      rw [none_wt e] at h1
      have := bid_nonneg (G := G) (m := m) (n := n) i
      omega
    | some j =>
      obtain ⟨B, hB, hwB⟩ := best_ex (G := oneG G m j) (m := m + 1) n topP
      obtain ⟨X, Y, mX, mY, h0, hs⟩ := part_two hA hi e hB
      have hX := bestV_ge (none_ok mX h0)
      rw [none_wt h0] at hX
      have hY := bestV_ge mY
      have hV : wtN (oneG G m j) B n = bestV (oneG G m j) (m + 1) n := hwB
      have h3 := bid_at hA hw hi
      rw [e] at h3
      simp only [gainO] at h3
      unfold numP at h3
      omega
  omega
end
end Go.Proofs.Ytjjaajmjcdihoaa
