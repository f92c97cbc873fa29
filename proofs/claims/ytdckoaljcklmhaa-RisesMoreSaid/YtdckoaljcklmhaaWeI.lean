/-
  Layer 10 over lists: gains that are made from others.
-/
import Derived.Test.YtdckoaljcklmhaaGrD
import Derived.Test.YtdckoaljcklmhaaGrO
namespace Go.Proofs.Ytdckoaljcklmhaa
set_option linter.unusedVariables false

/-! Who has what: of each bidder an item, or none. -/
def InjN (n : Nat) (A : Nat → Option Nat) : Prop := ∀ b b' c, b < n → b' < n → A b = some c → A b' = some c → b = b'
def useN (A : Nat → Option Nat) (c : Nat) : Nat → Nat
  | 0 => 0
  | n + 1 => useN A c n + if A n = some c then 1 else 0
/-- Of each bidder the same two, in whatever order. -/
def SwapN (n : Nat) (A B A' B' : Nat → Option Nat) : Prop := ∀ b, b < n → (A' b = A b ∧ B' b = B b) ∨ (A' b = B b ∧ B' b = A b)
theorem use_pos {A : Nat → Option Nat} {c b : Nat} : ∀ {n}, b < n → A b = some c → 1 ≤ useN A c n
  | 0, h, _ => absurd h (by omega)
  | n + 1, h, e => by
    rw [useN]
    by_cases hb : b = n
    · rw [← hb, if_pos e]; omega
    · have := use_pos (n := n) (by omega) e
      omega
theorem use_swap {A B A' B' : Nat → Option Nat} {c : Nat} : ∀ {n}, SwapN n A B A' B' → useN A' c n + useN B' c n = useN A c n + useN B c n
  | 0, _ => rfl
  | n + 1, h => by
    have ih := use_swap (c := c) (n := n) fun b hb => h b (by omega)
    rw [useN, useN, useN, useN]
    rcases h n (by omega) with ⟨h1, h2⟩ | ⟨h1, h2⟩
    · rw [h1, h2]; omega
    · rw [h1, h2]; omega
/-- Whom one comes to from one: whoever has in A what the last one has in B. -/
inductive Come (n : Nat) (A B : Nat → Option Nat) (s : Nat) : Nat → Prop
  | base : Come n A B s s
  | step (x y d : Nat) : Come n A B s x → x < n → y < n → B x = some d → A y = some d → Come n A B s y
open Classical in
noncomputable def flipN (n : Nat) (A B : Nat → Option Nat) (s : Nat) (U V : Nat → Option Nat) (b : Nat) : Option Nat := if Come n A B s b then V b else U b
section
variable {n s c1 : Nat} {A B : Nat → Option Nat}
theorem flip_in {U V : Nat → Option Nat} {b : Nat} (h : Come n A B s b) : flipN n A B s U V b = V b := if_pos h
theorem flip_out {U V : Nat → Option Nat} {b : Nat} (h : ¬ Come n A B s b) : flipN n A B s U V b = U b := if_neg h
theorem flip_swap : SwapN n A B (flipN n A B s A B) (flipN n A B s B A) := fun b _ => by
  by_cases h : Come n A B s b
  · exact .inr ⟨flip_in h, flip_in h⟩
  · exact .inl ⟨flip_out h, flip_out h⟩
theorem flip_injA (hA : InjN n A) (hB : InjN n B) : InjN n (flipN n A B s A B) := by
  intro b b' c hb hb' h1 h2
  by_cases k1 : Come n A B s b
  · rw [flip_in k1] at h1
    by_cases k2 : Come n A B s b'
    · rw [flip_in k2] at h2
      exact hB b b' c hb hb' h1 h2
    · rw [flip_out k2] at h2
      exact absurd (.step b b' c k1 hb hb' h1 h2) k2
  · rw [flip_out k1] at h1
    by_cases k2 : Come n A B s b'
    · rw [flip_in k2] at h2
      exact absurd (.step b' b c k2 hb' hb h2 h1) k1
    · rw [flip_out k2] at h2
      exact hA b b' c hb hb' h1 h2
theorem flip_back (hB : InjN n B) (hA : InjN n A) (hs : s < n) (h1 : A s = some c1) (hno : ∀ b, b < n → B b ≠ some c1) {b b' c : Nat} (hb : b < n) (hb' : b' < n) (k : Come n A B s b) (e1 : A b = some c) (e2 : B b' = some c) : Come n A B s b' := by
  cases k with
  | base =>
    rw [h1] at e1
    cases e1
    exact absurd e2 (hno b' hb')
  | step x y d hx hxn hyn hBx hAy =>
    rw [e1] at hAy
    cases hAy
    rw [← hB x b' c hxn hb' hBx e2]
    exact hx
theorem flip_injB (hA : InjN n A) (hB : InjN n B) (hs : s < n) (h1 : A s = some c1) (hno : ∀ b, b < n → B b ≠ some c1) : InjN n (flipN n A B s B A) := by
  intro b b' c hb hb' e1 e2
  by_cases k1 : Come n A B s b
  · rw [flip_in k1] at e1
    by_cases k2 : Come n A B s b'
    · rw [flip_in k2] at e2
      exact hA b b' c hb hb' e1 e2
    · rw [flip_out k2] at e2
      exact absurd (flip_back hB hA hs h1 hno hb hb' k1 e1 e2) k2
  · rw [flip_out k1] at e1
    by_cases k2 : Come n A B s b'
    · rw [flip_in k2] at e2
      exact absurd (flip_back hB hA hs h1 hno hb' hb k2 e2 e1) k1
    · rw [flip_out k2] at e2
      exact hB b b' c hb hb' e1 e2
/-- Who has one in A that stands in B nowhere, and is not where one began, is not come to. -/
theorem come_not {c2 b2 : Nat} (hA : InjN n A) (hs : s < n) (h1 : A s = some c1) (hb2 : b2 < n) (h2 : A b2 = some c2) (hne : c1 ≠ c2) (hno : ∀ b, b < n → B b ≠ some c2) : ¬ Come n A B s b2 := by
  intro k
  cases k with
  | base => rw [h1] at h2; cases h2; exact hne rfl
  | step x y d hx hxn hyn hBx hAy =>
    rw [h2] at hAy
    cases hAy
    exact hno x hxn hBx
end
theorem SwapN.trans {n : Nat} {A B A' B' A2 B2 : Nat → Option Nat} (h1 : SwapN n A B A' B') (h2 : SwapN n A' B' A2 B2) : SwapN n A B A2 B2 := fun b hb => by
  rcases h1 b hb with ⟨e1, e2⟩ | ⟨e1, e2⟩
  · rcases h2 b hb with ⟨e3, e4⟩ | ⟨e3, e4⟩
    · exact .inl ⟨e3.trans e1, e4.trans e2⟩
    · exact .inr ⟨e3.trans e2, e4.trans e1⟩
  · rcases h2 b hb with ⟨e3, e4⟩ | ⟨e3, e4⟩
    · exact .inr ⟨e3.trans e1, e4.trans e2⟩
    · exact .inl ⟨e3.trans e2, e4.trans e1⟩
theorem SwapN.comm {n : Nat} {A B A' B' : Nat → Option Nat} (h : SwapN n A B A' B') : SwapN n B A B' A' := fun b hb => by
  rcases h b hb with ⟨e1, e2⟩ | ⟨e1, e2⟩
  · exact .inl ⟨e2, e1⟩
  · exact .inr ⟨e2, e1⟩
/-- One bidder more. -/
def putN (A : Nat → Option Nat) (n : Nat) (v : Option Nat) (b : Nat) : Option Nat := if b = n then v else A b
theorem put_eq (A : Nat → Option Nat) (n : Nat) (v : Option Nat) : putN A n v n = v := if_pos rfl
theorem put_ne {A : Nat → Option Nat} {n b : Nat} {v : Option Nat} (h : b ≠ n) : putN A n v b = A b := if_neg h
theorem put_inj {n : Nat} {A : Nat → Option Nat} {v : Option Nat} (hA : InjN n A) (h : ∀ c, v = some c → ∀ b, b < n → A b ≠ some c) : InjN (n + 1) (putN A n v) := by
  intro b b' c hb hb' e1 e2
  by_cases h1 : b = n
  · by_cases h2 : b' = n
    · omega
    · rw [h1, put_eq] at e1
      rw [put_ne h2] at e2
      exact absurd e2 (h c e1 b' (by omega))
  · rw [put_ne h1] at e1
    by_cases h2 : b' = n
    · rw [h2, put_eq] at e2
      exact absurd e1 (h c e2 b (by omega))
    · rw [put_ne h2] at e2
      exact hA b b' c (by omega) (by omega) e1 e2
theorem put_swap {n : Nat} {A B A' B' : Nat → Option Nat} (h : SwapN n A B A' B') : SwapN (n + 1) A B (putN A' n (A n)) (putN B' n (B n)) := fun b hb => by
  by_cases h1 : b = n
  · rw [h1, put_eq, put_eq]; exact .inl ⟨rfl, rfl⟩
  · rw [put_ne h1, put_ne h1]; exact h b (by omega)
theorem put_swap2 {n : Nat} {A B A' B' : Nat → Option Nat} (h : SwapN n A B A' B') : SwapN (n + 1) A B (putN A' n (B n)) (putN B' n (A n)) := fun b hb => by
  by_cases h1 : b = n
  · rw [h1, put_eq, put_eq]; exact .inr ⟨rfl, rfl⟩
  · rw [put_ne h1, put_ne h1]; exact h b (by omega)
/-- Two that are in A both: one of them is moved. -/
theorem two_rows {n : Nat} {A B : Nat → Option Nat} {c1 c2 b1 b2 : Nat} (hA : InjN n A) (hB : InjN n B) (hb1 : b1 < n) (hb2 : b2 < n) (h1 : A b1 = some c1) (h2 : A b2 = some c2) (hne : c1 ≠ c2)
    (no1 : ∀ b, b < n → B b ≠ some c1) (no2 : ∀ b, b < n → B b ≠ some c2) :
    ∃ A' B', SwapN n A B A' B' ∧ InjN n A' ∧ InjN n B' ∧ (∀ b, b < n → A' b ≠ some c1) ∧ ∀ b, b < n → B' b ≠ some c2 := by
  refine ⟨flipN n A B b1 A B, flipN n A B b1 B A, flip_swap, flip_injA hA hB, flip_injB hA hB hb1 h1 no1, fun b hb e => ?_, fun b hb e => ?_⟩
  · by_cases k : Come n A B b1 b
    · rw [flip_in k] at e
      exact no1 b hb e
    · rw [flip_out k] at e
      exact k (hA b1 b c1 hb1 hb h1 e ▸ .base)
  · by_cases k : Come n A B b1 b
    · rw [flip_in k] at e
      have := hA b2 b c2 hb2 hb h2 e
      subst this
      exact come_not hA hb1 h1 hb2 h2 hne no2 k
    · rw [flip_out k] at e
      exact no2 b hb e
/-- Where no item stands more than twice in both, they are two others in which none stands twice in one. -/
theorem two_parts : ∀ (n : Nat) (A B : Nat → Option Nat), (∀ c, useN A c n + useN B c n ≤ 2) → ∃ A' B', SwapN n A B A' B' ∧ InjN n A' ∧ InjN n B'
  | 0, A, B, _ => ⟨A, B, fun b hb => absurd hb (by omega), fun b _ _ hb => absurd hb (by omega), fun b _ _ hb => absurd hb (by omega)⟩
  | n + 1, A, B, h => by
    obtain ⟨A', B', hs, hA, hB⟩ := two_parts n A B fun c => by
      have := h c
      rw [useN, useN] at this
      omega
    have huse : ∀ c, (A n = some c → useN A' c n + useN B' c n ≤ 1) ∧ (B n = some c → useN A' c n + useN B' c n ≤ 1) ∧ (A n = some c → B n = some c → useN A' c n + useN B' c n = 0) := fun c => by
      have h1 := h c
      rw [useN, useN] at h1
      rw [use_swap hs]
      refine ⟨fun e => ?_, fun e => ?_, fun e e' => ?_⟩
      · rw [if_pos e] at h1; omega
      · rw [if_pos e] at h1; omega
      · rw [if_pos e, if_pos e'] at h1; omega
    have one : ∀ c, useN A' c n + useN B' c n ≤ 1 → ∀ b b', b < n → b' < n → A' b = some c → B' b' ≠ some c := fun c hc b b' hb hb' e1 e2 => by
      have := use_pos hb e1
      have := use_pos hb' e2
      omega
    by_cases q1 : (∀ c, A n = some c → ∀ b, b < n → A' b ≠ some c) ∧ ∀ c, B n = some c → ∀ b, b < n → B' b ≠ some c
    · exact ⟨_, _, put_swap hs, put_inj hA q1.1, put_inj hB q1.2⟩
    by_cases q2 : (∀ c, B n = some c → ∀ b, b < n → A' b ≠ some c) ∧ ∀ c, A n = some c → ∀ b, b < n → B' b ≠ some c
    · exact ⟨_, _, put_swap2 hs, put_inj hA q2.1, put_inj hB q2.2⟩
    -- both stand in one of the two
    have ex : ∀ {X : Nat → Option Nat} {v : Option Nat}, (¬ ∀ c, v = some c → ∀ b, b < n → X b ≠ some c) → ∃ c b, v = some c ∧ b < n ∧ X b = some c := fun {X v} hx => by
      obtain ⟨c, hc⟩ := Classical.not_forall.1 hx
      obtain ⟨e, hc⟩ := Classical.not_imp.1 hc
      obtain ⟨b, hb⟩ := Classical.not_forall.1 hc
      obtain ⟨hb, e2⟩ := Classical.not_imp.1 hb
      exact ⟨c, b, e, hb, Classical.not_not.1 e2⟩
    have both : (∃ c1 c2 b1 b2, A n = some c1 ∧ B n = some c2 ∧ b1 < n ∧ b2 < n ∧ A' b1 = some c1 ∧ A' b2 = some c2) ∨ ∃ c1 c2 b1 b2, A n = some c1 ∧ B n = some c2 ∧ b1 < n ∧ b2 < n ∧ B' b1 = some c1 ∧ B' b2 = some c2 := by
      rcases Classical.not_and_iff_not_or_not.1 q1 with k1 | k1
      · obtain ⟨c1, b1, e1, hb1, f1⟩ := ex k1
        rcases Classical.not_and_iff_not_or_not.1 q2 with k2 | k2
        · obtain ⟨c2, b2, e2, hb2, f2⟩ := ex k2
          exact .inl ⟨c1, c2, b1, b2, e1, e2, hb1, hb2, f1, f2⟩
        · obtain ⟨c2, b2, e2, hb2, f2⟩ := ex k2
          rw [e1] at e2
          cases e2
          exact absurd f2 (one c1 ((huse c1).1 e1) b1 b2 hb1 hb2 f1)
      · obtain ⟨c2, b2, e2, hb2, f2⟩ := ex k1
        rcases Classical.not_and_iff_not_or_not.1 q2 with k2 | k2
        · obtain ⟨c1, b1, e1, hb1, f1⟩ := ex k2
          rw [e2] at e1
          cases e1
          exact absurd f2 (one c2 ((huse c2).2.1 e2) b1 b2 hb1 hb2 f1)
        · obtain ⟨c1, b1, e1, hb1, f1⟩ := ex k2
          exact .inr ⟨c1, c2, b1, b2, e1, e2, hb1, hb2, f1, f2⟩
    rcases both with ⟨c1, c2, b1, b2, e1, e2, hb1, hb2, f1, f2⟩ | ⟨c1, c2, b1, b2, e1, e2, hb1, hb2, f1, f2⟩
    · have hne : c1 ≠ c2 := fun he => by
        rw [← he] at e2
        have := (huse c1).2.2 e1 e2
        have := use_pos hb1 f1
        omega
      obtain ⟨A2, B2, hs2, hA2, hB2, n1, n2⟩ := two_rows hA hB hb1 hb2 f1 f2 hne (fun b hb => one c1 ((huse c1).1 e1) b1 b hb1 hb f1) (fun b hb => one c2 ((huse c2).2.1 e2) b2 b hb2 hb f2)
      refine ⟨_, _, put_swap (hs.trans hs2), put_inj hA2 fun c hc => ?_, put_inj hB2 fun c hc => ?_⟩
      · rw [e1] at hc; cases hc; exact n1
      · rw [e2] at hc; cases hc; exact n2
    · have hne : c1 ≠ c2 := fun he => by
        rw [← he] at e2
        have := (huse c1).2.2 e1 e2
        have := use_pos hb1 f1
        omega
      obtain ⟨B2, A2, hs2, hB2, hA2, n1, n2⟩ := two_rows hB hA hb1 hb2 f1 f2 hne (fun b hb e => one c1 ((huse c1).1 e1) b b1 hb hb1 e f1) (fun b hb e => one c2 ((huse c2).2.1 e2) b b2 hb hb2 e f2)
      refine ⟨_, _, put_swap2 (hs.trans hs2.comm), put_inj hA2 fun c hc => ?_, put_inj hB2 fun c hc => ?_⟩
      · rw [e2] at hc; cases hc; exact n2
      · rw [e1] at hc; cases hc; exact n1
end Go.Proofs.Ytdckoaljcklmhaa

namespace Go.Proofs.Ytdckoaljcklmhaa
set_option linter.unusedVariables false

/-- What one bidder adds, over these items: as it is reckoned. -/
def bestStep (G : Nat → Int) (v : Nat → Int) (P : Nat → Bool) (acc : Int) (k : Nat) : Int := if (P k && decide (0 ≤ G k)) = true then max acc (v k + G k) else acc
def lessP (P : Nat → Bool) (k : Nat) (j : Nat) : Bool := P j && decide (j ≠ k)
/-- The most that a matching of the first bidders gains, of items of a set. -/
def bestN (G : Nat → Nat → Int) (m : Nat) : Nat → (Nat → Bool) → Int
  | 0, _ => 0
  | n + 1, P => (List.range m).foldl (bestStep (G n) (fun k => bestN G m n (lessP P k)) P) (bestN G m n P)
/-- A matching of the first bidders, of items of a set. -/
structure Mt (G : Nat → Nat → Int) (m n : Nat) (P : Nat → Bool) (A : Nat → Option Nat) : Prop where
  inj : InjN n A
  ok : ∀ b, b < n → ∀ c, A b = some c → c < m ∧ P c = true ∧ 0 ≤ G b c
def gainO (G : Nat → Int) : Option Nat → Int
  | some c => G c
  | none => 0
def wtN (G : Nat → Nat → Int) (A : Nat → Option Nat) : Nat → Int
  | 0 => 0
  | n + 1 => wtN G A n + gainO (G n) (A n)
section
variable {G : Nat → Nat → Int} {m n : Nat} {P : Nat → Bool} {A : Nat → Option Nat}
theorem fold_ge (g v : Nat → Int) : ∀ (l : List Nat) (a : Int), a ≤ l.foldl (bestStep g v P) a
  | [], a => Int.le_refl _
  | k :: l, a => by
    rw [List.foldl_cons]
    refine Int.le_trans ?_ (fold_ge g v l _)
    unfold bestStep
    split
    · exact Int.le_max_left _ _
    · exact Int.le_refl _
theorem fold_at (g v : Nat → Int) : ∀ (l : List Nat) (a : Int) {k : Nat}, k ∈ l → P k = true → 0 ≤ g k → v k + g k ≤ l.foldl (bestStep g v P) a
  | [], _, _, h, _, _ => by simp at h
  | j :: l, a, k, h, hp, hg => by
    rw [List.foldl_cons]
    rcases List.mem_cons.1 h with rfl | h
    · refine Int.le_trans ?_ (fold_ge g v l _)
      unfold bestStep
      rw [if_pos (by rw [hp, decide_eq_true hg]; rfl)]
      exact Int.le_max_right _ _
    · exact fold_at g v l _ h hp hg
theorem fold_is (g v : Nat → Int) : ∀ (l : List Nat) (a : Int), l.foldl (bestStep g v P) a = a ∨ ∃ k ∈ l, P k = true ∧ 0 ≤ g k ∧ l.foldl (bestStep g v P) a = v k + g k
  | [], a => .inl rfl
  | j :: l, a => by
    rw [List.foldl_cons]
    rcases fold_is g v l (bestStep g v P a j) with h | ⟨k, hk, h1, h2, h3⟩
    · rw [h]
      unfold bestStep
      split
      · rename_i hc
        rw [Bool.and_eq_true] at hc
        by_cases hm : a ≤ v j + g j
        · exact .inr ⟨j, by simp, hc.1, of_decide_eq_true hc.2, Int.max_eq_right hm⟩
        · exact .inl (Int.max_eq_left (by omega))
      · exact .inl rfl
    · exact .inr ⟨k, by simp [hk], h1, h2, h3⟩
theorem Mt.less (h : Mt G m (n + 1) P A) : Mt G m n P A := ⟨fun b b' c hb hb' => h.inj b b' c (by omega) (by omega), fun b hb => h.ok b (by omega)⟩
theorem best_ge : ∀ {n : Nat} {P : Nat → Bool}, Mt G m n P A → wtN G A n ≤ bestN G m n P
  | 0, _, _ => Int.le_refl _
  | n + 1, P, h => by
    rw [wtN, bestN]
    cases e : A n with
    | none =>
      refine Int.le_trans ?_ (fold_ge _ _ _ _)
      have := best_ge h.less
      simp only [gainO]; omega
    | some k =>
      obtain ⟨hk, hp, hg⟩ := h.ok n (by omega) k e
      refine Int.le_trans ?_ (fold_at (G n) (fun k => bestN G m n (lessP P k)) (List.range m) _ (List.mem_range.2 hk) hp hg)
      have h2 : Mt G m n (lessP P k) A := ⟨h.less.inj, fun b hb c e2 => by
        obtain ⟨h3, h4, h5⟩ := h.ok b (by omega) c e2
        refine ⟨h3, ?_, h5⟩
        rw [lessP, h4, decide_eq_true (show c ≠ k from fun hc => by
          rw [hc] at e2
          have := h.inj b n k (by omega) (by omega) e2 e
          omega)]; rfl⟩
      have := best_ge h2
      simp only [gainO]; omega
theorem wt_put (v : Option Nat) : ∀ {j : Nat}, j ≤ n → wtN G (putN A n v) j = wtN G A j
  | 0, _ => rfl
  | j + 1, h => by rw [wtN, wtN, wt_put v (by omega), put_ne (by omega)]
theorem best_ex : ∀ (n : Nat) (P : Nat → Bool), ∃ A, Mt G m n P A ∧ wtN G A n = bestN G m n P
  | 0, _ => ⟨fun _ => none, ⟨fun b _ _ hb => absurd hb (by omega), fun b hb => absurd hb (by omega)⟩, rfl⟩
  | n + 1, P => by
    rw [bestN]
    rcases fold_is (P := P) (G n) (fun k => bestN G m n (lessP P k)) (List.range m) (bestN G m n P) with h | ⟨k, hk, h1, h2, h3⟩
    · obtain ⟨A, hA, hw⟩ := best_ex n P
      refine ⟨putN A n none, ⟨put_inj hA.inj (fun c hc => by cases hc), fun b hb c e => ?_⟩, ?_⟩
      · by_cases hbn : b = n
        · rw [hbn, put_eq] at e; cases e
        · rw [put_ne hbn] at e; exact hA.ok b (by omega) c e
      · rw [h, wtN, wt_put none (Nat.le_refl _), put_eq, hw, gainO]; omega
    · obtain ⟨A, hA, hw⟩ := best_ex n (lessP P k)
      refine ⟨putN A n (some k), ⟨put_inj hA.inj (fun c hc b hb e => ?_), fun b hb c e => ?_⟩, ?_⟩
      · cases hc
        have h4 := (hA.ok b hb k e).2.1
        rw [lessP, decide_eq_false (show ¬ k ≠ k from fun h => h rfl), Bool.and_false] at h4
        cases h4
      · by_cases hbn : b = n
        · rw [hbn, put_eq] at e
          cases e
          rw [hbn]
          exact ⟨List.mem_range.1 hk, h1, h2⟩
        · rw [put_ne hbn] at e
          obtain ⟨h4, h5, h6⟩ := hA.ok b (by omega) c e
          rw [lessP, Bool.and_eq_true] at h5
          exact ⟨h4, h5.1, h6⟩
      · rw [h3, wtN, wt_put _ (Nat.le_refl _), put_eq, hw, gainO]
end

/-! All items, and one more of one. -/
def topP (_ : Nat) : Bool := true
def bestV (G : Nat → Nat → Int) (m n : Nat) : Int := bestN G m n topP
def oneG (G : Nat → Nat → Int) (m k : Nat) (b c : Nat) : Int := if c = m then G b k else G b c
def numP (G : Nat → Nat → Int) (m n k : Nat) : Int := bestV (oneG G m k) (m + 1) n - bestV G m n
section
variable {G : Nat → Nat → Int} {m n : Nat} {A B : Nat → Option Nat}
theorem use_one (h : InjN n A) (c : Nat) : ∀ {j : Nat}, j ≤ n → useN A c j ≤ 1
  | 0, _ => by rw [useN]; omega
  | j + 1, hj => by
    rw [useN]
    by_cases e : A j = some c
    · rw [if_pos e]
      have h0 : ∀ i, i ≤ j → useN A c i = 0 := fun i => by
        induction i with
        | zero => exact fun _ => rfl
        | succ i ih =>
          intro hi
          rw [useN, ih (by omega), if_neg (fun e2 => by have := h i j c (by omega) (by omega) e2 e; omega)]
      rw [h0 j (Nat.le_refl _)]; omega
    · rw [if_neg e]
      have := use_one h c (j := j) (by omega)
      omega
theorem use_zero {c : Nat} : ∀ {j : Nat}, (∀ b, b < j → A b ≠ some c) → useN A c j = 0
  | 0, _ => rfl
  | j + 1, h => by rw [useN, use_zero fun b hb => h b (by omega), if_neg (h j (by omega))]
/-- The further one is one of these. -/
def downN (m k : Nat) (B : Nat → Option Nat) (b : Nat) : Option Nat := match B b with
  | some c => some (if c = m then k else c)
  | none => none
theorem down_use {k c : Nat} (hk : k < m) : ∀ {j : Nat}, useN (downN m k B) c j ≤ useN B c j + if c = k then useN B m j else 0
  | 0 => by simp [useN]
  | j + 1 => by
    have ih := down_use (c := c) hk (j := j)
    rw [useN, useN]
    by_cases hck : c = k
    · rw [if_pos hck] at ih ⊢
      rw [useN]
      unfold downN at ih ⊢
      cases e : B j with
      | none => simp; omega
      | some d =>
        simp only [Option.some.injEq]
        by_cases hd : d = m
        · rw [if_pos hd, if_pos hck.symm, if_pos hd]
          split <;> omega
        · rw [if_neg hd, if_neg hd]; omega
    · rw [if_neg hck] at ih ⊢
      unfold downN at ih ⊢
      cases e : B j with
      | none => simp; omega
      | some d =>
        simp only [Option.some.injEq]
        by_cases hd : d = m
        · rw [if_pos hd, if_neg (fun h => hck h.symm)]; omega
        · rw [if_neg hd]; omega
theorem down_wt {k : Nat} : ∀ {j : Nat}, wtN G (downN m k B) j = wtN (oneG G m k) B j
  | 0 => rfl
  | j + 1 => by
    rw [wtN, wtN, down_wt]
    congr 1
    unfold downN
    cases e : B j with
    | none => rfl
    | some d =>
      simp only [gainO, oneG]
      by_cases hd : d = m
      · rw [if_pos hd, if_pos hd]
      · rw [if_neg hd, if_neg hd]
theorem down_ok {k : Nat} (hk : k < m) (h : Mt (oneG G m k) (m + 1) n topP B) : ∀ b, b < n → ∀ c, downN m k B b = some c → c < m ∧ 0 ≤ G b c := fun b hb c e => by
  unfold downN at e
  cases e2 : B b with
  | none => rw [e2] at e; cases e
  | some d =>
    rw [e2] at e
    simp only [Option.some.injEq] at e
    obtain ⟨h1, _, h2⟩ := h.ok b hb d e2
    rw [oneG] at h2
    by_cases hd : d = m
    · rw [if_pos hd] at e h2; subst e; exact ⟨hk, h2⟩
    · rw [if_neg hd] at e h2; subst e; exact ⟨by omega, h2⟩
theorem swap_wt {A' B' : Nat → Option Nat} : ∀ {n : Nat}, SwapN n A B A' B' → wtN G A' n + wtN G B' n = wtN G A n + wtN G B n
  | 0, _ => rfl
  | n + 1, h => by
    have ih := swap_wt (n := n) fun b hb => h b (by omega)
    rw [wtN, wtN, wtN, wtN]
    rcases h n (by omega) with ⟨h1, h2⟩ | ⟨h1, h2⟩
    · rw [h1, h2]; omega
    · rw [h1, h2]; omega
theorem swap_ok {A' B' : Nat → Option Nat} {Q : Nat → Nat → Prop} (h : SwapN n A B A' B') (hA : ∀ b, b < n → ∀ c, A b = some c → Q b c) (hB : ∀ b, b < n → ∀ c, B b = some c → Q b c) :
    (∀ b, b < n → ∀ c, A' b = some c → Q b c) ∧ ∀ b, b < n → ∀ c, B' b = some c → Q b c := by
  refine ⟨fun b hb c e => ?_, fun b hb c e => ?_⟩
  · rcases h b hb with ⟨h1, _⟩ | ⟨h1, _⟩
    · exact hA b hb c (h1 ▸ e)
    · exact hB b hb c (h1 ▸ e)
  · rcases h b hb with ⟨_, h1⟩ | ⟨_, h1⟩
    · exact hB b hb c (h1 ▸ e)
    · exact hA b hb c (h1 ▸ e)
/-- A bidder has nothing. -/
def dropN (A : Nat → Option Nat) (i b : Nat) : Option Nat := if b = i then none else A b
theorem drop_wt {i : Nat} : ∀ {j : Nat}, wtN G (dropN A i) j = wtN G A j - if i < j then gainO (G i) (A i) else 0
  | 0 => rfl
  | j + 1 => by
    rw [wtN, wtN, drop_wt]
    by_cases h : j = i
    · subst h
      rw [if_neg (by omega), if_pos (by omega)]
      unfold dropN
      rw [if_pos rfl]
      simp only [gainO]; omega
    · unfold dropN
      rw [if_neg h]
      by_cases h2 : i < j
      · rw [if_pos h2, if_pos (by omega)]; omega
      · rw [if_neg h2, if_neg (by omega)]; omega
theorem drop_use {i c : Nat} : ∀ {j : Nat}, useN (dropN A i) c j ≤ useN A c j
  | 0 => Nat.le_refl _
  | j + 1 => by
    rw [useN, useN]
    have := drop_use (i := i) (c := c) (j := j)
    unfold dropN at this ⊢
    by_cases h : j = i
    · simp only [if_pos h]; simp; omega
    · simp only [if_neg h]; omega
/-- What a bidder has is away, and one more of it is there: two matchings, in one of which that bidder has nothing. -/
theorem part_two {i j : Nat} (hA : Mt G m n topP A) (hi : i < n) (hj : A i = some j) (hB : Mt (oneG G m j) (m + 1) n topP B) :
    ∃ X Y, Mt G m n topP X ∧ Mt G m n topP Y ∧ X i = none ∧ wtN G X n + wtN G Y n = wtN G A n - G i j + wtN (oneG G m j) B n := by
  have hjm := (hA.ok i hi j hj).1
  obtain ⟨X, Y, hs, hX, hY⟩ := two_parts n (dropN A i) (downN m j B) fun c => by
    have h1 := use_one hA.inj c (Nat.le_refl n)
    have h2 := use_one hB.inj c (Nat.le_refl n)
    have h3 := use_one hB.inj m (Nat.le_refl n)
    have h4 := down_use (B := B) (c := c) hjm (j := n)
    have h5 := drop_use (A := A) (i := i) (c := c) (j := n)
    by_cases hc : c = j
    · have h6 : useN (dropN A i) c n = 0 := use_zero fun b hb e => by
        unfold dropN at e
        by_cases hbi : b = i
        · rw [if_pos hbi] at e; cases e
        · rw [if_neg hbi, hc] at e
          exact hbi (hA.inj b i j hb hi e hj)
      rw [if_pos hc] at h4
      omega
    · rw [if_neg hc] at h4
      omega
  obtain ⟨oX, oY⟩ := swap_ok (Q := fun b c => c < m ∧ 0 ≤ G b c) hs (fun b hb c e => by
    unfold dropN at e
    by_cases hbi : b = i
    · rw [if_pos hbi] at e; cases e
    · rw [if_neg hbi] at e
      exact ⟨(hA.ok b hb c e).1, (hA.ok b hb c e).2.2⟩) (down_ok hjm hB)
  have mX : Mt G m n topP X := ⟨hX, fun b hb c e => ⟨(oX b hb c e).1, rfl, (oX b hb c e).2⟩⟩
  have mY : Mt G m n topP Y := ⟨hY, fun b hb c e => ⟨(oY b hb c e).1, rfl, (oY b hb c e).2⟩⟩
  have hw := swap_wt (G := G) hs
  rw [down_wt, drop_wt, if_pos hi, hj] at hw
  have hd : dropN A i i = none := if_pos rfl
  rcases hs i hi with ⟨h1, h2⟩ | ⟨h1, h2⟩
  · exact ⟨X, Y, mX, mY, h1.trans hd, hw⟩
  · refine ⟨Y, X, mY, mX, h2.trans hd, ?_⟩
    simp only [gainO] at hw
    omega
/-- One who has nothing is given a further one. -/
def giveN (X : Nat → Option Nat) (i c : Nat) (b : Nat) : Option Nat := if b = i then some c else X b
theorem give_wt {X : Nat → Option Nat} {i c : Nat} (h0 : X i = none) : ∀ {j : Nat}, wtN G (giveN X i c) j = wtN G X j + if i < j then G i c else 0
  | 0 => rfl
  | j + 1 => by
    rw [wtN, wtN, give_wt h0]
    unfold giveN
    by_cases h : j = i
    · subst h
      rw [if_pos rfl, if_neg (by omega), if_pos (by omega), h0]
      simp only [gainO]
    · rw [if_neg h]
      by_cases h2 : i < j
      · rw [if_pos h2, if_pos (by omega)]; omega
      · rw [if_neg h2, if_neg (by omega)]; omega
theorem one_wt {k : Nat} {X : Nat → Option Nat} (h : ∀ b, b < n → ∀ c, X b = some c → c < m) : ∀ {j : Nat}, j ≤ n → wtN (oneG G m k) X j = wtN G X j
  | 0, _ => rfl
  | j + 1, hj => by
    rw [wtN, wtN, one_wt h (by omega)]
    congr 1
    cases e : X j with
    | none => rfl
    | some d =>
      simp only [gainO, oneG]
      rw [if_neg (by have := h j (by omega) d e; omega)]
theorem give_ok {X : Nat → Option Nat} {i k : Nat} (hX : Mt G m n topP X) (hi : i < n) (h0 : X i = none) (hg : 0 ≤ G i k) : Mt (oneG G m k) (m + 1) n topP (giveN X i m) ∧ wtN (oneG G m k) (giveN X i m) n = wtN G X n + G i k := by
  have hlt : ∀ b, b < n → ∀ c, X b = some c → c < m := fun b hb c e => (hX.ok b hb c e).1
  refine ⟨⟨fun b b' c hb hb' e1 e2 => ?_, fun b hb c e => ?_⟩, ?_⟩
  · unfold giveN at e1 e2
    by_cases h1 : b = i
    · by_cases h2 : b' = i
      · omega
      · rw [if_pos h1] at e1
        rw [if_neg h2] at e2
        cases e1
        have := hlt b' hb' m e2
        omega
    · rw [if_neg h1] at e1
      by_cases h2 : b' = i
      · rw [if_pos h2] at e2
        cases e2
        have := hlt b hb m e1
        omega
      · rw [if_neg h2] at e2
        exact hX.inj b b' c hb hb' e1 e2
  · unfold giveN at e
    by_cases h1 : b = i
    · rw [if_pos h1] at e
      cases e
      refine ⟨by omega, rfl, ?_⟩
      rw [oneG, if_pos rfl, h1]; exact hg
    · rw [if_neg h1] at e
      obtain ⟨h2, _, h3⟩ := hX.ok b hb c e
      refine ⟨by omega, rfl, ?_⟩
      rw [oneG, if_neg (by omega)]; exact h3
  · rw [give_wt h0, one_wt hlt (Nat.le_refl _), if_pos hi, oneG, if_pos rfl]
end
end Go.Proofs.Ytdckoaljcklmhaa

namespace Go.Proofs.Ytdckoaljcklmhaa
set_option linter.unusedVariables false

def sumW (f : Nat → Int) : Nat → Int
  | 0 => 0
  | n + 1 => sumW f n + f n
theorem sum_congr {f g : Nat → Int} : ∀ {n : Nat}, (∀ i, i < n → f i = g i) → sumW f n = sumW g n
  | 0, _ => rfl
  | n + 1, h => by rw [sumW, sumW, sum_congr fun i hi => h i (by omega), h n (by omega)]
theorem sum_le {f g : Nat → Int} : ∀ {n : Nat}, (∀ i, i < n → f i ≤ g i) → sumW f n ≤ sumW g n
  | 0, _ => Int.le_refl _
  | n + 1, h => by
    rw [sumW, sumW]
    have := sum_le (f := f) (g := g) (n := n) fun i hi => h i (by omega)
    have := h n (by omega)
    omega
theorem sum_add (f g : Nat → Int) : ∀ n : Nat, sumW (fun i => f i + g i) n = sumW f n + sumW g n
  | 0 => rfl
  | n + 1 => by rw [sumW, sumW, sumW, sum_add f g n]; omega
theorem sumW_one {d : Nat} (q : Int) : ∀ {n : Nat}, sumW (fun c => if d = c then q else 0) n = if d < n then q else 0
  | 0 => rfl
  | n + 1 => by
    rw [sumW, sumW_one q]
    by_cases h : d = n
    · rw [if_neg (by omega), if_pos h, if_pos (by omega)]; omega
    · rw [if_neg h]
      by_cases h2 : d < n
      · rw [if_pos h2, if_pos (by omega)]; omega
      · rw [if_neg h2, if_neg (by omega)]; omega
theorem sum_zero {f : Nat → Int} : ∀ {n : Nat}, (∀ i, i < n → f i = 0) → sumW f n = 0
  | 0, _ => rfl
  | n + 1, h => by rw [sumW, sum_zero fun i hi => h i (by omega), h n (by omega)]; rfl
theorem wt_sum (G : Nat → Nat → Int) (A : Nat → Option Nat) : ∀ n, wtN G A n = sumW (fun b => gainO (G b) (A b)) n
  | 0 => rfl
  | n + 1 => by rw [wtN, sumW, wt_sum G A n]
/-- By items, how often each stands. -/
theorem sum_use {A : Nat → Option Nat} {m : Nat} (q : Nat → Int) : ∀ {n : Nat}, (∀ b, b < n → ∀ c, A b = some c → c < m) → sumW (fun b => gainO q (A b)) n = sumW (fun c => (useN A c n : Int) * q c) m
  | 0, _ => by
    rw [sumW]
    exact (sum_zero fun i _ => by simp [useN]).symm
  | n + 1, h => by
    rw [sumW, sum_use q fun b hb => h b (by omega)]
    cases e : A n with
    | none =>
      rw [gainO, Int.add_zero]
      refine sum_congr fun c _ => ?_
      rw [useN, e]; simp
    | some d =>
      have hd := h n (by omega) d e
      have h1 := sumW_one (d := d) (q d) (n := m)
      rw [if_pos hd] at h1
      rw [gainO, ← h1, ← sum_add]
      refine sum_congr fun c _ => ?_
      rw [useN, e]
      by_cases hc : d = c
      · subst hc
        simp [Int.add_mul]
      · rw [if_neg hc, if_neg (by simpa using hc)]; simp
section
variable {G : Nat → Nat → Int} {m n : Nat}
/-- No matching gains more than numbers that cover it. -/
theorem weak {A : Nat → Option Nat} (hA : Mt G m n topP A) {v q : Nat → Int} (hv : ∀ b, b < n → 0 ≤ v b) (hq : ∀ c, c < m → 0 ≤ q c) (hc : ∀ b c, b < n → c < m → G b c ≤ v b + q c) : wtN G A n ≤ sumW v n + sumW q m := by
  have h1 : wtN G A n ≤ sumW v n + sumW (fun b => gainO q (A b)) n := by
    rw [wt_sum, ← sum_add]
    refine sum_le fun b hb => ?_
    cases e : A b with
    | none => simp only [gainO]; have := hv b hb; omega
    | some c => exact hc b c hb (hA.ok b hb c e).1
  rw [sum_use q fun b hb c e => (hA.ok b hb c e).1] at h1
  have h2 : sumW (fun c => (useN A c n : Int) * q c) m ≤ sumW q m := sum_le fun c hc => by
    have h3 := use_one hA.inj c (Nat.le_refl n)
    have h4 := hq c hc
    have h5 : useN A c n = 0 ∨ useN A c n = 1 := by omega
    rcases h5 with h5 | h5
    · rw [h5]; simpa using h4
    · rw [h5]; simp
  omega
theorem best_le {v q : Nat → Int} (hv : ∀ b, b < n → 0 ≤ v b) (hq : ∀ c, c < m → 0 ≤ q c) (hc : ∀ b c, b < n → c < m → G b c ≤ v b + q c) : bestV G m n ≤ sumW v n + sumW q m := by
  obtain ⟨A, hA, hw⟩ := best_ex (G := G) (m := m) n topP
  have := weak hA hv hq hc
  unfold bestV
  omega
theorem bestV_ge {A : Nat → Option Nat} (h : Mt G m n topP A) : wtN G A n ≤ bestV G m n := best_ge h
/-- No numbers that prove it are lower for any item. -/
theorem num_le {v q : Nat → Int} (hv : ∀ b, b < n → 0 ≤ v b) (hq : ∀ c, c < m → 0 ≤ q c) (hc : ∀ b c, b < n → c < m → G b c ≤ v b + q c) (hs : sumW v n + sumW q m = bestV G m n) {k : Nat} (hk : k < m) : numP G m n k ≤ q k := by
  have h1 := best_le (G := oneG G m k) (m := m + 1) (n := n) (v := v) (q := fun c => if c = m then q k else q c) hv (fun c hcm => by
    by_cases h : c = m
    · simp only [if_pos h]; exact hq k hk
    · simp only [if_neg h]; exact hq c (by omega)) (fun b c hb hcm => by
    rw [oneG]
    by_cases h : c = m
    · simp only [if_pos h]; exact hc b k hb hk
    · simp only [if_neg h]; exact hc b c hb (by omega))
  rw [sumW, sum_congr (f := fun c => if c = m then q k else q c) (g := q) fun c hcm => by simp only [if_neg (show c ≠ m by omega)]] at h1
  simp only [if_pos] at h1
  unfold numP
  omega
theorem one_ok {A : Nat → Option Nat} {k : Nat} (h : Mt G m n topP A) : Mt (oneG G m k) (m + 1) n topP A ∧ wtN (oneG G m k) A n = wtN G A n := by
  refine ⟨⟨h.inj, fun b hb c e => ?_⟩, one_wt (fun b hb c e => (h.ok b hb c e).1) (Nat.le_refl _)⟩
  obtain ⟨h1, _, h2⟩ := h.ok b hb c e
  exact ⟨by omega, rfl, by rw [oneG, if_neg (by omega)]; exact h2⟩
theorem num_nonneg (k : Nat) : 0 ≤ numP G m n k := by
  obtain ⟨A, hA, hw⟩ := best_ex (G := G) (m := m) n topP
  obtain ⟨h1, h2⟩ := one_ok (k := k) hA
  have h3 := bestV_ge h1
  unfold numP
  have : bestV G m n = wtN G A n := hw.symm
  omega
/-! Along a best matching. -/
variable {A : Nat → Option Nat}
theorem along (hA : Mt G m n topP A) (hw : wtN G A n = bestV G m n) {i j : Nat} (hi : i < n) (hj : A i = some j) :
    numP G m n j ≤ G i j ∧ ∀ k, k < m → G i k - numP G m n k ≤ G i j - numP G m n j := by
  obtain ⟨B, hB, hwB⟩ := best_ex (G := oneG G m j) (m := m + 1) n topP
  obtain ⟨X, Y, mX, mY, h0, hs⟩ := part_two hA hi hj hB
  have hX := bestV_ge mX
  have hY := bestV_ge mY
  have hV : wtN (oneG G m j) B n = bestV (oneG G m j) (m + 1) n := hwB
  have h1 : numP G m n j ≤ G i j := by unfold numP; omega
  refine ⟨h1, fun k hk => ?_⟩
  by_cases hg : 0 ≤ G i k
  · obtain ⟨h2, h3⟩ := give_ok (k := k) mX hi h0 hg
    have h4 := bestV_ge h2
    unfold numP
    omega
  · have := num_nonneg (G := G) (m := m) (n := n) k
    omega
theorem idle_b (hA : Mt G m n topP A) (hw : wtN G A n = bestV G m n) {i : Nat} (hi : i < n) (h0 : A i = none) : ∀ k, k < m → G i k ≤ numP G m n k := fun k hk => by
  by_cases hg : 0 ≤ G i k
  · obtain ⟨h2, h3⟩ := give_ok (k := k) hA hi h0 hg
    have h4 := bestV_ge h2
    unfold numP
    omega
  · have := num_nonneg (G := G) (m := m) (n := n) k
    omega
theorem idle_c (hA : Mt G m n topP A) (hw : wtN G A n = bestV G m n) {k : Nat} (hk : k < m) (h0 : ∀ b, b < n → A b ≠ some k) : numP G m n k = 0 := by
  obtain ⟨B, hB, hwB⟩ := best_ex (G := oneG G m k) (m := m + 1) n topP
  obtain ⟨X, Y, hs, hX, hY⟩ := two_parts n A (downN m k B) fun c => by
    have h1 := use_one hA.inj c (Nat.le_refl n)
    have h2 := use_one hB.inj c (Nat.le_refl n)
    have h3 := use_one hB.inj m (Nat.le_refl n)
    have h4 := down_use (B := B) (c := c) hk (j := n)
    by_cases hc : c = k
    · have h6 : useN A c n = 0 := use_zero fun b hb e => h0 b hb (hc ▸ e)
      rw [if_pos hc] at h4
      omega
    · rw [if_neg hc] at h4
      omega
  obtain ⟨oX, oY⟩ := swap_ok (Q := fun b c => c < m ∧ 0 ≤ G b c) hs (fun b hb c e => ⟨(hA.ok b hb c e).1, (hA.ok b hb c e).2.2⟩) (down_ok hk hB)
  have mX := bestV_ge (G := G) (m := m) (A := X) ⟨hX, fun b hb c e => ⟨(oX b hb c e).1, rfl, (oX b hb c e).2⟩⟩
  have mY := bestV_ge (G := G) (m := m) (A := Y) ⟨hY, fun b hb c e => ⟨(oY b hb c e).1, rfl, (oY b hb c e).2⟩⟩
  have hws := swap_wt (G := G) hs
  rw [down_wt] at hws
  have hV : wtN (oneG G m k) B n = bestV (oneG G m k) (m + 1) n := hwB
  have := num_nonneg (G := G) (m := m) (n := n) k
  unfold numP at this ⊢
  omega
/-- A bidder's number: the greatest of 0 and what it gains by an item, less that item's number. -/
def topN (f : Nat → Int) : Nat → Int
  | 0 => 0
  | m + 1 => max (topN f m) (f m)
theorem top_nonneg (f : Nat → Int) : ∀ m, 0 ≤ topN f m
  | 0 => Int.le_refl _
  | m + 1 => Int.le_trans (top_nonneg f m) (Int.le_max_left _ _)
theorem top_ge {f : Nat → Int} : ∀ {m k : Nat}, k < m → f k ≤ topN f m
  | 0, k, h => absurd h (by omega)
  | m + 1, k, h => by
    rw [topN]
    by_cases e : k = m
    · rw [e]; exact Int.le_max_right _ _
    · exact Int.le_trans (top_ge (show k < m by omega)) (Int.le_max_left _ _)
theorem top_le {f : Nat → Int} {a : Int} (h0 : 0 ≤ a) : ∀ {m : Nat}, (∀ k, k < m → f k ≤ a) → topN f m ≤ a
  | 0, _ => h0
  | m + 1, h => by
    rw [topN]
    exact Int.max_le.2 ⟨top_le h0 fun k hk => h k (by omega), h m (by omega)⟩
def bidP (G : Nat → Nat → Int) (m n i : Nat) : Int := topN (fun k => G i k - numP G m n k) m
theorem bid_at (hA : Mt G m n topP A) (hw : wtN G A n = bestV G m n) {i : Nat} (hi : i < n) : bidP G m n i = gainO (G i) (A i) - gainO (numP G m n) (A i) := by
  cases e : A i with
  | none =>
    simp only [gainO, bidP]
    refine Int.le_antisymm (top_le (by omega) fun k hk => ?_) (top_nonneg _ _)
    have := idle_b hA hw hi e k hk
    omega
  | some j =>
    simp only [gainO, bidP]
    obtain ⟨h1, h2⟩ := along hA hw hi e
    exact Int.le_antisymm (top_le (by omega) h2) (top_ge (f := fun k => G i k - numP G m n k) (hA.ok i hi j e).1)
/-- All these numbers together are the most that can be gained. -/
theorem num_sum : sumW (bidP G m n) n + sumW (numP G m n) m = bestV G m n := by
  obtain ⟨A, hA, hw⟩ := best_ex (G := G) (m := m) n topP
  have hw : wtN G A n = bestV G m n := hw
  have h1 : sumW (bidP G m n) n + sumW (fun b => gainO (numP G m n) (A b)) n = wtN G A n := by
    rw [wt_sum, ← sum_add]
    refine sum_congr fun b hb => ?_
    rw [bid_at hA hw hb]; omega
  rw [sum_use _ fun b hb c e => (hA.ok b hb c e).1] at h1
  have h2 : sumW (fun c => (useN A c n : Int) * numP G m n c) m = sumW (numP G m n) m := sum_congr fun c hc => by
    by_cases hu : useN A c n = 0
    · have h3 : numP G m n c = 0 := idle_c hA hw hc fun b hb e => by have := use_pos hb e; omega
      rw [h3]; simp
    · have h3 := use_one hA.inj c (Nat.le_refl n)
      rw [show useN A c n = 1 by omega]; simp
  omega
theorem bid_cover {i k : Nat} (hk : k < m) : G i k ≤ bidP G m n i + numP G m n k := by
  have := top_ge (f := fun k => G i k - numP G m n k) hk
  unfold bidP
  omega
theorem bid_nonneg (i : Nat) : 0 ≤ bidP G m n i := top_nonneg _ _

/-! Without a bidder. -/
def noneG (G : Nat → Nat → Int) (i b c : Nat) : Int := if b = i then -1 else G b c
theorem none_wt {i : Nat} : ∀ {j : Nat}, A i = none → wtN (noneG G i) A j = wtN G A j
  | 0, _ => rfl
  | j + 1, h => by
    rw [wtN, wtN, none_wt h]
    by_cases e : j = i
    · rw [e, h]; rfl
    · congr 1
      cases e2 : A j with
      | none => rfl
      | some d => simp only [gainO, noneG]; rw [if_neg e]
theorem none_ok {i : Nat} (hA : Mt G m n topP A) (h0 : A i = none) : Mt (noneG G i) m n topP A := ⟨hA.inj, fun b hb c e => by
  obtain ⟨h1, _, h2⟩ := hA.ok b hb c e
  refine ⟨h1, rfl, ?_⟩
  rw [noneG, if_neg fun h => by rw [h, h0] at e; cases e]
  exact h2⟩
theorem sum_but {f : Nat → Int} {i : Nat} : ∀ {n : Nat}, sumW (fun b => if b = i then 0 else f b) n = sumW f n - if i < n then f i else 0
  | 0 => rfl
  | n + 1 => by
    rw [sumW, sumW, sum_but]
    by_cases h : n = i
    · subst h
      rw [if_neg (by omega), if_pos rfl, if_pos (by omega)]; omega
    · rw [if_neg h]
      by_cases h2 : i < n
      · rw [if_pos h2, if_pos (by omega)]; omega
      · rw [if_neg h2, if_neg (by omega)]; omega
/-- A bidder's number is what all would gain less without it. -/
theorem bid_loss {i : Nat} (hi : i < n) : bidP G m n i = bestV G m n - bestV (noneG G i) m n := by
  obtain ⟨A, hA, hw⟩ := best_ex (G := G) (m := m) n topP
  have hw : wtN G A n = bestV G m n := hw
  have hle : bestV (noneG G i) m n ≤ bestV G m n - bidP G m n i := by
    have h1 := best_le (G := noneG G i) (m := m) (n := n) (v := fun b => if b = i then 0 else bidP G m n b) (q := numP G m n) (fun b _ => by
      by_cases h : b = i
      · simp only [if_pos h]; omega
      · simp only [if_neg h]; exact bid_nonneg b) (fun c _ => num_nonneg c) (fun b c _ hc => by
      rw [noneG]
      by_cases h : b = i
      · simp only [if_pos h]
        have := num_nonneg (G := G) (m := m) (n := n) c
        omega
      · simp only [if_neg h]; exact bid_cover hc)
    rw [sum_but, if_pos hi] at h1
    have := num_sum (G := G) (m := m) (n := n)
    omega
  have hge : bestV G m n - bidP G m n i ≤ bestV (noneG G i) m n := by
    cases e : A i with
    | none =>
      have h1 := bestV_ge (none_ok hA e)
      rw [none_wt e] at h1
      have := bid_nonneg (G := G) (m := m) (n := n) i
      omega
    | some j =>
      obtain ⟨B, hB, hwB⟩ := best_ex (G := oneG G m j) (m := m + 1) n topP
      obtain ⟨X, Y, mX, mY, h0, hs⟩ := part_two hA hi e hB
      have hX := bestV_ge (none_ok mX h0)
      rw [none_wt h0] at hX
      have hY := bestV_ge mY
      have hV : wtN (oneG G m j) B n = bestV (oneG G m j) (m + 1) n := hwB
      have h3 := bid_at hA hw hi
      rw [e] at h3
      simp only [gainO] at h3
      unfold numP at h3
      omega
  omega
end
end Go.Proofs.Ytdckoaljcklmhaa

namespace Go.Proofs.Ytdckoaljcklmhaa
set_option linter.unusedVariables false

section
variable {G G' : Nat → Nat → Int} {m n m' n' : Nat} {A B : Nat → Option Nat}
theorem best_mono (h : ∀ A, Mt G m n topP A → ∃ A', Mt G' m' n' topP A' ∧ wtN G A n ≤ wtN G' A' n') : bestV G m n ≤ bestV G' m' n' := by
  obtain ⟨A, hA, hw⟩ := best_ex (G := G) (m := m) n topP
  obtain ⟨A', hA', hle⟩ := h A hA
  have h1 := bestV_ge hA'
  have hw : wtN G A n = bestV G m n := hw
  omega
theorem wt_congr : ∀ {j : Nat}, (∀ b, b < j → ∀ c, A b = some c → G b c = G' b c) → wtN G A j = wtN G' A j
  | 0, _ => rfl
  | j + 1, h => by
    rw [wtN, wtN, wt_congr fun b hb => h b (by omega)]
    congr 1
    cases e : A j with
    | none => rfl
    | some d => exact h j (by omega) d e
/-- What one loses by makes no difference. -/
theorem best_congr (h : ∀ b c, b < n → c < m → (0 ≤ G b c ∨ 0 ≤ G' b c) → G b c = G' b c) : bestV G m n = bestV G' m n := by
  refine Int.le_antisymm (best_mono fun A hA => ⟨A, ⟨hA.inj, fun b hb c e => ?_⟩, ?_⟩) (best_mono fun A hA => ⟨A, ⟨hA.inj, fun b hb c e => ?_⟩, ?_⟩)
  · obtain ⟨h1, h2, h3⟩ := hA.ok b hb c e
    exact ⟨h1, h2, by rw [← h b c hb h1 (.inl h3)]; exact h3⟩
  · exact Int.le_of_eq (wt_congr fun b hb c e => h b c hb (hA.ok b hb c e).1 (.inl (hA.ok b hb c e).2.2))
  · obtain ⟨h1, h2, h3⟩ := hA.ok b hb c e
    exact ⟨h1, h2, by rw [h b c hb h1 (.inr h3)]; exact h3⟩
  · exact Int.le_of_eq (wt_congr fun b hb c e => (h b c hb (hA.ok b hb c e).1 (.inr (hA.ok b hb c e).2.2)).symm)
/-! Without an item. -/
def noneC (G : Nat → Nat → Int) (k b c : Nat) : Int := if c = k then -1 else G b c
theorem noneC_ok {k : Nat} (hA : Mt (noneC G k) m n topP A) : Mt G m n topP A ∧ wtN G A n = wtN (noneC G k) A n ∧ ∀ b, b < n → A b ≠ some k := by
  have hn : ∀ b, b < n → ∀ c, A b = some c → c ≠ k := fun b hb c e hc => by
    have := (hA.ok b hb c e).2.2
    rw [noneC, if_pos hc] at this
    omega
  refine ⟨⟨hA.inj, fun b hb c e => ?_⟩, wt_congr fun b hb c e => ?_, fun b hb e => hn b hb k e rfl⟩
  · obtain ⟨h1, h2, h3⟩ := hA.ok b hb c e
    rw [noneC, if_neg (hn b hb c e)] at h3
    exact ⟨h1, h2, h3⟩
  · rw [noneC, if_neg (hn b hb c e)]
theorem num_upper {k : Nat} (hk : k < m) : numP G m n k ≤ bestV G m n - bestV (noneC G k) m n := by
  obtain ⟨A, hA, hw⟩ := best_ex (G := noneC G k) (m := m) n topP
  obtain ⟨hA, hwA, h0⟩ := noneC_ok hA
  obtain ⟨B, hB, hwB⟩ := best_ex (G := oneG G m k) (m := m + 1) n topP
  obtain ⟨X, Y, hs, hX, hY⟩ := two_parts n A (downN m k B) fun c => by
    have h1 := use_one hA.inj c (Nat.le_refl n)
    have h2 := use_one hB.inj c (Nat.le_refl n)
    have h3 := use_one hB.inj m (Nat.le_refl n)
    have h4 := down_use (B := B) (c := c) hk (j := n)
    by_cases hc : c = k
    · have h6 : useN A c n = 0 := use_zero fun b hb e => h0 b hb (hc ▸ e)
      rw [if_pos hc] at h4
      omega
    · rw [if_neg hc] at h4
      omega
  obtain ⟨oX, oY⟩ := swap_ok (Q := fun b c => c < m ∧ 0 ≤ G b c) hs (fun b hb c e => ⟨(hA.ok b hb c e).1, (hA.ok b hb c e).2.2⟩) (down_ok hk hB)
  have mX := bestV_ge (G := G) (m := m) (A := X) ⟨hX, fun b hb c e => ⟨(oX b hb c e).1, rfl, (oX b hb c e).2⟩⟩
  have mY := bestV_ge (G := G) (m := m) (A := Y) ⟨hY, fun b hb c e => ⟨(oY b hb c e).1, rfl, (oY b hb c e).2⟩⟩
  have hws := swap_wt (G := G) hs
  rw [down_wt] at hws
  have hV : wtN (oneG G m k) B n = bestV (oneG G m k) (m + 1) n := hwB
  have hV2 : wtN (noneC G k) A n = bestV (noneC G k) m n := hw
  unfold numP
  omega
/-! The more there are, the less one more adds. -/
theorem noneG_ok {i : Nat} (hA : Mt (noneG G i) m n topP A) : Mt G m n topP A ∧ wtN G A n = wtN (noneG G i) A n ∧ (i < n → A i = none) := by
  have hn : ∀ b, b < n → ∀ c, A b = some c → b ≠ i := fun b hb c e hbi => by
    have := (hA.ok b hb c e).2.2
    rw [noneG, if_pos hbi] at this
    omega
  refine ⟨⟨hA.inj, fun b hb c e => ?_⟩, wt_congr fun b hb c e => ?_, fun hi => ?_⟩
  · obtain ⟨h1, h2, h3⟩ := hA.ok b hb c e
    rw [noneG, if_neg (hn b hb c e)] at h3
    exact ⟨h1, h2, h3⟩
  · rw [noneG, if_neg (hn b hb c e)]
  · cases e : A i with
    | none => rfl
    | some c => exact absurd rfl (hn i hi c e)
/-- Two bidders have one further item each, the same. -/
def bothN (B : Nat → Option Nat) (i k z b : Nat) : Option Nat := if b = i ∨ b = k then some z else B b
/-- That one is nothing. -/
def offN (X : Nat → Option Nat) (z b : Nat) : Option Nat := if X b = some z then none else X b
theorem off_wt {z : Nat} {X : Nat → Option Nat} (hz : ∀ b, b < n → G b z = 0) : ∀ {j : Nat}, j ≤ n → wtN G (offN X z) j = wtN G X j
  | 0, _ => rfl
  | j + 1, hj => by
    rw [wtN, wtN, off_wt hz (by omega)]
    congr 1
    unfold offN
    by_cases e : X j = some z
    · rw [if_pos e, e]
      simp only [gainO]
      exact (hz j (by omega)).symm
    · rw [if_neg e]
theorem both_use {i k z c : Nat} (hB : ∀ b, b < n → B b ≠ some z) (hik : i ≠ k) : ∀ {j : Nat}, j ≤ n → useN (bothN B i k z) c j ≤ (if c = z then (if i < j then 1 else 0) + (if k < j then 1 else 0) else useN B c j)
  | 0, _ => by rw [useN]; omega
  | j + 1, hj => by
    have ih := both_use (c := c) hB hik (j := j) (by omega)
    rw [useN]
    by_cases hc : c = z
    · rw [if_pos hc] at ih ⊢
      unfold bothN at ih ⊢
      by_cases h : j = i ∨ j = k
      · rw [if_pos h, if_pos (by rw [hc])]
        rcases h with h | h
        · rw [if_neg (show ¬ i < j by omega)] at ih
          rw [if_pos (show i < j + 1 by omega)]
          by_cases h2 : k < j
          · rw [if_pos h2] at ih; rw [if_pos (by omega)]; omega
          · rw [if_neg h2] at ih; rw [if_neg (by omega)]; omega
        · rw [if_neg (show ¬ k < j by omega)] at ih
          rw [if_pos (show k < j + 1 by omega)]
          by_cases h2 : i < j
          · rw [if_pos h2] at ih; rw [if_pos (by omega)]; omega
          · rw [if_neg h2] at ih; rw [if_neg (by omega)]; omega
      · rw [if_neg h, if_neg (by rw [hc]; exact hB j (by omega))]
        by_cases h1 : i < j
        · rw [if_pos h1] at ih; rw [if_pos (by omega)]
          by_cases h2 : k < j
          · rw [if_pos h2] at ih; rw [if_pos (by omega)]; omega
          · rw [if_neg h2] at ih; rw [if_neg (by omega)]; omega
        · rw [if_neg h1] at ih; rw [if_neg (by omega)]
          by_cases h2 : k < j
          · rw [if_pos h2] at ih; rw [if_pos (by omega)]; omega
          · rw [if_neg h2] at ih; rw [if_neg (by omega)]; omega
    · rw [if_neg hc] at ih ⊢
      rw [useN]
      unfold bothN at ih ⊢
      by_cases h : j = i ∨ j = k
      · rw [if_pos h, if_neg (by simpa using fun h => hc h.symm)]; omega
      · rw [if_neg h]; omega
theorem both_wt {i k z : Nat} (hz : ∀ b, b < n → G b z = 0) (hi : B i = none) (hk : B k = none) : ∀ {j : Nat}, j ≤ n → wtN G (bothN B i k z) j = wtN G B j
  | 0, _ => rfl
  | j + 1, hj => by
    rw [wtN, wtN, both_wt hz hi hk (by omega)]
    congr 1
    unfold bothN
    by_cases h : j = i ∨ j = k
    · rw [if_pos h]
      have : B j = none := by rcases h with h | h <;> (rw [h]; assumption)
      rw [this]
      simp only [gainO]
      exact hz j (by omega)
    · rw [if_neg h]
def zG (G : Nat → Nat → Int) (m b c : Nat) : Int := if c = m then 0 else G b c
theorem fewer {i k : Nat} (hi : i < n) (hk : k < n) (hik : i ≠ k) : bestV G m n + bestV (noneG (noneG G k) i) m n ≤ bestV (noneG G i) m n + bestV (noneG G k) m n := by
  obtain ⟨A, hA, hw⟩ := best_ex (G := G) (m := m) n topP
  obtain ⟨B, hB, hwB⟩ := best_ex (G := noneG (noneG G k) i) (m := m) n topP
  obtain ⟨hB1, hw1, hBi⟩ := noneG_ok hB
  obtain ⟨hB2, hw2, hBk⟩ := noneG_ok hB1
  have hBi := hBi hi
  have hBk := hBk hk
  have hz : ∀ b, b < n → zG G m b m = 0 := fun b _ => if_pos rfl
  have hBz : ∀ b, b < n → B b ≠ some m := fun b hb e => by have := (hB2.ok b hb m e).1; omega
  have hAz : ∀ b, b < n → A b ≠ some m := fun b hb e => by have := (hA.ok b hb m e).1; omega
  obtain ⟨X, Y, hs, hX, hY⟩ := two_parts n A (bothN B i k m) fun c => by
    have h1 := use_one hA.inj c (Nat.le_refl n)
    have h2 := use_one hB2.inj c (Nat.le_refl n)
    have h3 := both_use (c := c) hBz hik (Nat.le_refl n)
    by_cases hc : c = m
    · have h6 : useN A c n = 0 := use_zero fun b hb e => hAz b hb (hc ▸ e)
      rw [if_pos hc, if_pos hi, if_pos hk] at h3
      omega
    · rw [if_neg hc] at h3
      omega
  obtain ⟨oX, oY⟩ := swap_ok (Q := fun b c => c = m ∨ c < m ∧ 0 ≤ G b c) hs (fun b hb c e => .inr ⟨(hA.ok b hb c e).1, (hA.ok b hb c e).2.2⟩) (fun b hb c e => by
    unfold bothN at e
    by_cases h : b = i ∨ b = k
    · rw [if_pos h] at e; cases e; exact .inl rfl
    · rw [if_neg h] at e; exact .inr ⟨(hB2.ok b hb c e).1, (hB2.ok b hb c e).2.2⟩)
  have off : ∀ {Z : Nat → Option Nat}, InjN n Z → (∀ b, b < n → ∀ c, Z b = some c → c = m ∨ c < m ∧ 0 ≤ G b c) → Mt G m n topP (offN Z m) := fun {Z} hZ oZ => by
    refine ⟨fun b b' c hb hb' e1 e2 => ?_, fun b hb c e => ?_⟩
    · unfold offN at e1 e2
      split at e1
      · cases e1
      · split at e2
        · cases e2
        · exact hZ b b' c hb hb' e1 e2
    · unfold offN at e
      split at e
      · cases e
      · rename_i hne
        rcases oZ b hb c e with h | h
        · rw [h] at e; exact absurd e hne
        · exact ⟨h.1, rfl, h.2⟩
  have mX := off hX oX
  have mY := off hY oY
  have hoz : ∀ {Z : Nat → Option Nat}, wtN (zG G m) (offN Z m) n = wtN G (offN Z m) n := fun {Z} => wt_congr fun b hb c e => by
    unfold offN at e
    split at e
    · cases e
    · rename_i hne
      rw [zG, if_neg (show ¬ c = m from fun h => hne (by rw [h] at e; exact e))]
  have hws := swap_wt (G := zG G m) hs
  rw [both_wt hz hBi hBk (Nat.le_refl n), ← off_wt (X := X) hz (Nat.le_refl n), ← off_wt (X := Y) hz (Nat.le_refl n), hoz, hoz,
    wt_congr (G := zG G m) (G' := G) (A := A) (fun b hb c e => by rw [zG, if_neg (show ¬ c = m from fun h => hAz b hb (by rw [h] at e; exact e))]),
    wt_congr (G := zG G m) (G' := G) (A := B) (fun b hb c e => by rw [zG, if_neg (show ¬ c = m from fun h => hBz b hb (by rw [h] at e; exact e))])] at hws
  have hV : wtN G A n = bestV G m n := hw
  have hV2 : wtN (noneG (noneG G k) i) B n = bestV (noneG (noneG G k) i) m n := hwB
  have bi : bothN B i k m i = some m := if_pos (.inl rfl)
  have bk : bothN B i k m k = some m := if_pos (.inr rfl)
  have toff : ∀ {Z : Nat → Option Nat} {b : Nat}, Z b = some m → offN Z m b = none := fun {Z b} e => if_pos e
  -- these two have it in different ones
  have hd : (X i = some m ∧ Y k = some m) ∨ (Y i = some m ∧ X k = some m) := by
    rcases hs i hi with ⟨h1, h2⟩ | ⟨h1, h2⟩
    · rcases hs k hk with ⟨h3, h4⟩ | ⟨h3, h4⟩
      · exact absurd (hY i k m hi hk (h2.trans bi) (h4.trans bk)) hik
      · exact .inr ⟨h2.trans bi, h3.trans bk⟩
    · rcases hs k hk with ⟨h3, h4⟩ | ⟨h3, h4⟩
      · exact .inl ⟨h1.trans bi, h4.trans bk⟩
      · exact absurd (hX i k m hi hk (h1.trans bi) (h3.trans bk)) hik
  rcases hd with ⟨h1, h2⟩ | ⟨h1, h2⟩
  · have q1 := bestV_ge (none_ok mX (toff h1))
    have q2 := bestV_ge (none_ok mY (toff h2))
    rw [none_wt (toff h1)] at q1
    rw [none_wt (toff h2)] at q2
    omega
  · have q1 := bestV_ge (none_ok mY (toff h1))
    have q2 := bestV_ge (none_ok mX (toff h2))
    rw [none_wt (toff h1)] at q1
    rw [none_wt (toff h2)] at q2
    omega
/-! One bidder more. -/
theorem best_sub : ∀ {n : Nat} {P Q : Nat → Bool}, (∀ k, P k = true → Q k = true) → bestN G m n P ≤ bestN G m n Q := fun {n P Q} h => by
  obtain ⟨A, hA, hw⟩ := best_ex (G := G) (m := m) n P
  rw [← hw]
  exact best_ge ⟨hA.inj, fun b hb c e => ⟨(hA.ok b hb c e).1, h c (hA.ok b hb c e).2.1, (hA.ok b hb c e).2.2⟩⟩
theorem best_more : bestV G m n ≤ bestV G m (n + 1) ∧ bestV G m (n + 1) ≤ bestV G m n + topN (G n) m := by
  refine ⟨fold_ge _ _ _ _, ?_⟩
  rcases fold_is (P := topP) (G n) (fun k => bestN G m n (lessP topP k)) (List.range m) (bestN G m n topP) with h | ⟨k, hk, _, h2, h3⟩
  · show List.foldl _ _ _ ≤ _
    rw [h]
    have := top_nonneg (G n) m
    unfold bestV
    omega
  · show List.foldl _ _ _ ≤ _
    rw [h3]
    have h4 := best_sub (G := G) (m := m) (n := n) (P := lessP topP k) (Q := topP) fun _ _ => rfl
    have h5 := top_ge (f := G n) (List.mem_range.1 hk)
    unfold bestV
    omega
/-! Where one gains more by one item. -/
theorem best_raised {i k : Nat} (hi : i < n) (hk : k < m) (hsame : ∀ b c, ¬ (b = i ∧ c = k) → G' b c = G b c) (hle : G i k ≤ G' i k) : bestV G m n ≤ bestV G' m n ∧ bestV G' m n ≤ bestV G m n + max 0 (G' i k) - max 0 (G i k) := by
  have hall : ∀ b c, G b c ≤ G' b c := fun b c => by
    by_cases h : b = i ∧ c = k
    · rw [h.1, h.2]; exact hle
    · rw [hsame b c h]; omega
  have hmono : ∀ (A : Nat → Option Nat) (j : Nat), wtN G A j ≤ wtN G' A j := fun A j => by
    induction j with
    | zero => exact Int.le_refl _
    | succ j ih =>
      rw [wtN, wtN]
      have : gainO (G j) (A j) ≤ gainO (G' j) (A j) := by
        cases A j with
        | none => exact Int.le_refl _
        | some c => exact hall j c
      omega
  refine ⟨best_mono fun A hA => ⟨A, ⟨hA.inj, fun b hb c e => ?_⟩, hmono A n⟩, ?_⟩
  · obtain ⟨h1, h2, h3⟩ := hA.ok b hb c e
    exact ⟨h1, h2, Int.le_trans h3 (hall b c)⟩
  · obtain ⟨A, hA, hw⟩ := best_ex (G := G') (m := m) n topP
    have hw : wtN G' A n = bestV G' m n := hw
    by_cases hu : A i = some k
    · have h3 := (hA.ok i hi k hu).2.2
      have hwd : wtN G' (dropN A i) n = wtN G (dropN A i) n := wt_congr fun b hb c e => hsame b c fun h => by
        unfold dropN at e
        rw [if_pos h.1] at e; cases e
      have hdw := drop_wt (G := G') (A := A) (i := i) (j := n)
      rw [if_pos hi, hu] at hdw
      have hdw2 := drop_wt (G := G) (A := A) (i := i) (j := n)
      rw [if_pos hi, hu] at hdw2
      simp only [gainO] at hdw hdw2
      by_cases hg : 0 ≤ G i k
      · have h4 := bestV_ge (G := G) (m := m) (n := n) (A := A) ⟨hA.inj, fun b hb c e => by
          obtain ⟨h1, h2, h5⟩ := hA.ok b hb c e
          refine ⟨h1, h2, ?_⟩
          by_cases h : b = i ∧ c = k
          · rw [h.1, h.2]; exact hg
          · rw [← hsame b c h]; exact h5⟩
        omega
      · have h4 := bestV_ge (G := G) (m := m) (n := n) (A := dropN A i) ⟨fun b b' c hb hb' e1 e2 => by
          unfold dropN at e1 e2
          split at e1
          · cases e1
          · split at e2
            · cases e2
            · exact hA.inj b b' c hb hb' e1 e2, fun b hb c e => by
          unfold dropN at e
          split at e
          · cases e
          · rename_i hbi
            obtain ⟨h1, h2, h5⟩ := hA.ok b hb c e
            refine ⟨h1, h2, ?_⟩
            rw [← hsame b c fun h => hbi h.1]; exact h5⟩
        omega
    · have hne : ∀ b, b < n → ∀ c, A b = some c → ¬ (b = i ∧ c = k) := fun b hb c e h => hu (by rw [← h.1, ← h.2]; exact e)
      have h4 := bestV_ge (G := G) (m := m) (n := n) (A := A) ⟨hA.inj, fun b hb c e => by
        obtain ⟨h1, h2, h5⟩ := hA.ok b hb c e
        exact ⟨h1, h2, by rw [← hsame b c (hne b hb c e)]; exact h5⟩⟩
      have h5 : wtN G' A n = wtN G A n := wt_congr fun b hb c e => hsame b c (hne b hb c e)
      omega
/-! As often as great. -/
def mulG (f : Nat) (G : Nat → Nat → Int) (b c : Nat) : Int := f * G b c
theorem mul_nn {f : Nat} (hf : 0 < f) (a : Int) : 0 ≤ (f : Int) * a ↔ 0 ≤ a := by
  have h0 : (0 : Int) < f := by omega
  constructor
  · intro h
    refine Int.not_lt.1 fun h2 => ?_
    have := Int.mul_neg_of_pos_of_neg h0 h2
    omega
  · intro h; exact Int.mul_nonneg (by omega) h
theorem mul_wt (f : Nat) (A : Nat → Option Nat) : ∀ n, wtN (mulG f G) A n = f * wtN G A n
  | 0 => by simp [wtN]
  | n + 1 => by
    rw [wtN, wtN, mul_wt f A n, Int.mul_add]
    congr 1
    cases A n with
    | none => simp [gainO]
    | some c => rfl
theorem best_mul {f : Nat} (hf : 0 < f) : bestV (mulG f G) m n = f * bestV G m n := by
  have h1 : ∀ A, Mt (mulG f G) m n topP A ↔ Mt G m n topP A := fun A => by
    constructor
    · intro h; exact ⟨h.inj, fun b hb c e => ⟨(h.ok b hb c e).1, rfl, (mul_nn hf _).1 (h.ok b hb c e).2.2⟩⟩
    · intro h; exact ⟨h.inj, fun b hb c e => ⟨(h.ok b hb c e).1, rfl, (mul_nn hf _).2 (h.ok b hb c e).2.2⟩⟩
  obtain ⟨A, hA, hw⟩ := best_ex (G := mulG f G) (m := m) n topP
  obtain ⟨B, hB, hwB⟩ := best_ex (G := G) (m := m) n topP
  have h2 := bestV_ge ((h1 A).1 hA)
  have h3 := bestV_ge ((h1 B).2 hB)
  rw [mul_wt] at h3 hw
  have hw : (f : Int) * wtN G A n = bestV (mulG f G) m n := hw
  have hwB : wtN G B n = bestV G m n := hwB
  rw [hwB] at h3
  have h4 : (f : Int) * wtN G A n ≤ f * bestV G m n := Int.mul_le_mul_of_nonneg_left h2 (by omega)
  omega
theorem num_mul {f : Nat} (hf : 0 < f) (k : Nat) : numP (mulG f G) m n k = f * numP G m n k := by
  have h1 : oneG (mulG f G) m k = mulG f (oneG G m k) := by
    funext b c
    show (if c = m then (f : Int) * G b k else f * G b c) = f * (if c = m then G b k else G b c)
    split <;> rfl
  unfold numP
  rw [h1, best_mul hf, best_mul hf, Int.mul_sub]
theorem top_mul {f : Nat} (hf : 0 < f) (g : Nat → Int) : ∀ m, topN (fun k => (f : Int) * g k) m = f * topN g m
  | 0 => by simp [topN]
  | m + 1 => by
    rw [topN, topN, top_mul hf g m]
    by_cases h : topN g m ≤ g m
    · rw [Int.max_eq_right h, Int.max_eq_right (Int.mul_le_mul_of_nonneg_left h (by omega))]
    · have h' : g m ≤ topN g m := by omega
      rw [Int.max_eq_left h', Int.max_eq_left (Int.mul_le_mul_of_nonneg_left h' (by omega))]
theorem bid_mul {f : Nat} (hf : 0 < f) (i : Nat) : bidP (mulG f G) m n i = f * bidP G m n i := by
  unfold bidP
  rw [← top_mul hf]
  congr 1
  funext k
  rw [num_mul hf, mulG, Int.mul_sub]
end
end Go.Proofs.Ytdckoaljcklmhaa

namespace Go.Proofs.Ytdckoaljcklmhaa
set_option linter.unusedVariables false

theorem sum_split (g : Nat → Int) (a : Nat) : ∀ b, sumW g (a + b) = sumW g a + sumW (fun i => g (i + a)) b
  | 0 => by simp [sumW]
  | b + 1 => by
    rw [← Nat.add_assoc, sumW, sum_split g a b, sumW, Nat.add_comm b a]
    omega
theorem rot_lt {n r b : Nat} (hb : b < n) : (b + r) % n < n := Nat.mod_lt _ (by omega)
theorem rot_back {n r b : Nat} (hr : r ≤ n) (hb : b < n) : ((b + (n - r)) % n + r) % n = b := by
  rw [Nat.mod_add_mod, show b + (n - r) + r = b + n by omega, Nat.add_mod_right, Nat.mod_eq_of_lt hb]
theorem rot_forth {n r b : Nat} (hr : r ≤ n) (hb : b < n) : ((b + r) % n + (n - r)) % n = b := by
  rw [Nat.mod_add_mod, show b + r + (n - r) = b + n by omega, Nat.add_mod_right, Nat.mod_eq_of_lt hb]
theorem rot_inj {n r b b' : Nat} (hr : r ≤ n) (hb : b < n) (hb' : b' < n) (h : (b + r) % n = (b' + r) % n) : b = b' := by
  have h1 := rot_forth hr hb
  rw [h, rot_forth hr hb'] at h1
  exact h1.symm
theorem sum_rot (f : Nat → Int) {n r : Nat} (hr : r ≤ n) : sumW (fun i => f ((i + r) % n)) n = sumW f n := by
  have h1 := sum_split (fun i => f ((i + r) % n)) (n - r) r
  have h2 := sum_split f r (n - r)
  rw [show n - r + r = n by omega] at h1
  rw [show r + (n - r) = n by omega] at h2
  rw [h1, h2]
  have h3 : sumW (fun i => f ((i + r) % n)) (n - r) = sumW (fun i => f (i + r)) (n - r) := sum_congr fun i hi => by rw [Nat.mod_eq_of_lt (by omega)]
  have h4 : sumW (fun i => f ((i + (n - r) + r) % n)) r = sumW f r := sum_congr fun i hi => by
    rw [show i + (n - r) + r = i + n by omega, Nat.add_mod_right, Nat.mod_eq_of_lt (by omega)]
  rw [h3, h4]
  omega
section
variable {G G' : Nat → Nat → Int} {m n : Nat}
def mapO (f : Nat → Nat) : Option Nat → Option Nat
  | some c => some (f c)
  | none => none
theorem mapO_some {f : Nat → Nat} {o : Option Nat} {d : Nat} (h : mapO f o = some d) : ∃ c, o = some c ∧ d = f c := by
  cases o with
  | none => cases h
  | some c => cases h; exact ⟨c, rfl, rfl⟩
/-- Named otherwise. -/
theorem best_named {r : Nat} (σ : Nat → Nat) (hr : r ≤ n) (hs : ∀ c, c < m → σ c < m) (hi : ∀ c c', c < m → c' < m → σ c = σ c' → c = c') (hG : ∀ b c, b < n → c < m → G' b (σ c) = G ((b + r) % n) c) : bestV G m n ≤ bestV G' m n := by
  refine best_mono fun A hA => ⟨fun b => mapO σ (A ((b + r) % n)), ⟨fun b b' c hb hb' e1 e2 => ?_, fun b hb c e => ?_⟩, ?_⟩
  · obtain ⟨d1, f1, g1⟩ := mapO_some e1
    obtain ⟨d2, f2, g2⟩ := mapO_some e2
    have k1 := (hA.ok _ (rot_lt hb) d1 f1).1
    have k2 := (hA.ok _ (rot_lt hb') d2 f2).1
    have := hi d1 d2 k1 k2 (g1.symm.trans g2)
    subst this
    exact rot_inj hr hb hb' (hA.inj _ _ _ (rot_lt hb) (rot_lt hb') f1 f2)
  · obtain ⟨d, f, rfl⟩ := mapO_some e
    obtain ⟨k1, _, k3⟩ := hA.ok _ (rot_lt hb) d f
    exact ⟨hs d k1, rfl, by rw [hG b d hb k1]; exact k3⟩
  · rw [wt_sum, wt_sum, ← sum_rot (fun b => gainO (G b) (A b)) hr]
    refine Int.le_of_eq (sum_congr fun b hb => ?_)
    try simp only
    cases e : A ((b + r) % n) with
    | none => rfl
    | some d =>
      have k1 := (hA.ok _ (rot_lt hb) d e).1
      exact (hG b d hb k1).symm
/-- Bidders and items are moved. -/
def rotG (G : Nat → Nat → Int) (m n r s b c : Nat) : Int := G ((b + r) % n) ((c + s) % m)
variable {r s : Nat}
theorem rot_best (hr : r ≤ n) (hs : s ≤ m) : bestV (rotG G m n r s) m n = bestV G m n := by
  refine Int.le_antisymm (best_named (r := n - r) (fun c => (c + s) % m) (by omega) (fun c hc => rot_lt hc) (fun c c' hc hc' h => rot_inj hs hc hc' h) fun b c hb hc => ?_)
    (best_named (r := r) (fun c => (c + (m - s)) % m) hr (fun c hc => rot_lt hc) (fun c c' hc hc' h => rot_inj (r := m - s) (by omega) hc hc' h) fun b c hb hc => ?_)
  · rw [rotG, rot_back hr hb]
  · rw [rotG, rot_back hs hc]
theorem rot_one {k : Nat} (hr : r ≤ n) (hs : s ≤ m) (hk : k < m) : bestV (oneG (rotG G m n r s) m k) (m + 1) n = bestV (oneG G m ((k + s) % m)) (m + 1) n := by
  have hks : (k + s) % m < m := rot_lt hk
  refine Int.le_antisymm (best_named (r := n - r) (fun c => if c = m then m else (c + s) % m) (by omega) (fun c hc => ?_) (fun c c' hc hc' h => ?_) fun b c hb hc => ?_)
    (best_named (r := r) (fun c => if c = m then m else (c + (m - s)) % m) hr (fun c hc => ?_) (fun c c' hc hc' h => ?_) fun b c hb hc => ?_)
  · by_cases e : c = m
    · simp only [if_pos e]; omega
    · simp only [if_neg e]; have := rot_lt (r := s) (show c < m by omega); omega
  · by_cases e : c = m
    · by_cases e' : c' = m
      · omega
      · simp only [if_pos e, if_neg e'] at h
        have := rot_lt (r := s) (show c' < m by omega); omega
    · by_cases e' : c' = m
      · simp only [if_neg e, if_pos e'] at h
        have := rot_lt (r := s) (show c < m by omega); omega
      · simp only [if_neg e, if_neg e'] at h
        exact rot_inj hs (by omega) (by omega) h
  · by_cases e : c = m
    · simp only [if_pos e, oneG, rotG]
      rw [rot_back hr hb]; simp
    · simp only [if_neg e, oneG, rotG]
      have := rot_lt (r := s) (show c < m by omega)
      rw [if_neg (by omega), rot_back hr hb]
  · by_cases e : c = m
    · simp only [if_pos e]; omega
    · simp only [if_neg e]; have := rot_lt (r := m - s) (show c < m by omega); omega
  · by_cases e : c = m
    · by_cases e' : c' = m
      · omega
      · simp only [if_pos e, if_neg e'] at h
        have := rot_lt (r := m - s) (show c' < m by omega); omega
    · by_cases e' : c' = m
      · simp only [if_neg e, if_pos e'] at h
        have := rot_lt (r := m - s) (show c < m by omega); omega
      · simp only [if_neg e, if_neg e'] at h
        exact rot_inj (r := m - s) (by omega) (by omega) (by omega) h
  · by_cases e : c = m
    · simp only [if_pos e, oneG, rotG]; simp
    · simp only [if_neg e, oneG, rotG]
      have := rot_lt (r := m - s) (show c < m by omega)
      rw [if_neg (by omega), rot_back hs (by omega)]
theorem rot_num {k : Nat} (hr : r ≤ n) (hs : s ≤ m) (hk : k < m) : numP (rotG G m n r s) m n k = numP G m n ((k + s) % m) := by
  rw [numP, numP, rot_one hr hs hk, rot_best hr hs]
theorem rot_bid {i : Nat} (hr : r ≤ n) (hs : s ≤ m) : bidP (rotG G m n r s) m n i = bidP G m n ((i + r) % n) := by
  refine Int.le_antisymm (top_le (top_nonneg _ _) fun k hk => ?_) (top_le (top_nonneg _ _) fun k hk => ?_)
  · rw [rot_num hr hs hk]
    exact top_ge (f := fun k => G ((i + r) % n) k - numP G m n k) (rot_lt hk)
  · have h1 := top_ge (f := fun k => rotG G m n r s i k - numP (rotG G m n r s) m n k) (m := m) (k := (k + (m - s)) % m) (rot_lt hk)
    rw [rot_num hr hs (rot_lt hk), rotG, rot_back hs hk] at h1
    exact h1

/-! Idle ones. -/
def idleG (G : Nat → Nat → Int) (m n b c : Nat) : Int := if b = n ∨ c = m then -1 else G b c
theorem idle_best : bestV (idleG G m n) (m + 1) (n + 1) = bestV G m n := by
  refine Int.le_antisymm (best_mono fun A hA => ?_) (best_mono fun A hA => ?_)
  · have h0 : ∀ b, b < n + 1 → ∀ c, A b = some c → b < n ∧ c < m := fun b hb c e => by
      obtain ⟨h1, _, h2⟩ := hA.ok b hb c e
      rw [idleG] at h2
      by_cases h : b = n ∨ c = m
      · rw [if_pos h] at h2; omega
      · omega
    refine ⟨A, ⟨fun b b' c hb hb' => hA.inj b b' c (by omega) (by omega), fun b hb c e => ?_⟩, ?_⟩
    · obtain ⟨h1, _, h2⟩ := hA.ok b (by omega) c e
      obtain ⟨h3, h4⟩ := h0 b (by omega) c e
      rw [idleG, if_neg (by omega)] at h2
      exact ⟨h4, rfl, h2⟩
    · have hn : A n = none := by
        cases e : A n with
        | none => rfl
        | some c => have := (h0 n (by omega) c e).1; omega
      rw [wtN, hn, gainO, Int.add_zero]
      exact Int.le_of_eq (wt_congr fun b hb c e => by
        obtain ⟨h3, h4⟩ := h0 b (by omega) c e
        rw [idleG, if_neg (by omega)])
  · refine ⟨putN A n none, ⟨put_inj hA.inj (fun c hc => by cases hc), fun b hb c e => ?_⟩, ?_⟩
    · by_cases hbn : b = n
      · rw [hbn, put_eq] at e; cases e
      · rw [put_ne hbn] at e
        obtain ⟨h1, _, h2⟩ := hA.ok b (by omega) c e
        exact ⟨by omega, rfl, by rw [idleG, if_neg (by omega)]; exact h2⟩
    · rw [wtN, put_eq, gainO, Int.add_zero, wt_put none (Nat.le_refl _)]
      exact Int.le_of_eq (wt_congr fun b hb c e => by
        have := (hA.ok b hb c e).1
        rw [idleG, if_neg (by omega)])
theorem idle_one {k : Nat} (hk : k < m) : bestV (oneG (idleG G m n) (m + 1) k) (m + 1 + 1) (n + 1) = bestV (oneG G m k) (m + 1) n := by
  refine Int.le_antisymm (best_mono fun A hA => ?_) (best_mono fun A hA => ?_)
  · have h0 : ∀ b, b < n + 1 → ∀ c, A b = some c → b < n ∧ c ≠ m ∧ c < m + 2 := fun b hb c e => by
      obtain ⟨h1, _, h2⟩ := hA.ok b hb c e
      rw [oneG] at h2
      by_cases hc : c = m + 1
      · rw [if_pos hc, idleG] at h2
        by_cases h : b = n ∨ k = m
        · rw [if_pos h] at h2; omega
        · omega
      · rw [if_neg hc, idleG] at h2
        by_cases h : b = n ∨ c = m
        · rw [if_pos h] at h2; omega
        · omega
    have hg : ∀ b, b < n → ∀ c, c ≠ m → c < m + 2 → oneG G m k b (if c = m + 1 then m else c) = oneG (idleG G m n) (m + 1) k b c := fun b hb c h1 h2 => by
      by_cases hc : c = m + 1
      · rw [if_pos hc, oneG, if_pos rfl, oneG, if_pos hc, idleG, if_neg (by omega)]
      · rw [if_neg hc, oneG, if_neg h1, oneG, if_neg hc, idleG, if_neg (by omega)]
    refine ⟨fun b => mapO (fun c => if c = m + 1 then m else c) (A b), ⟨fun b b' c hb hb' e1 e2 => ?_, fun b hb c e => ?_⟩, ?_⟩
    · obtain ⟨d1, f1, g1⟩ := mapO_some e1
      obtain ⟨d2, f2, g2⟩ := mapO_some e2
      have k1 := h0 b (by omega) d1 f1
      have k2 := h0 b' (by omega) d2 f2
      have hd : d1 = d2 := by
        rw [g1] at g2
        by_cases q1 : d1 = m + 1
        · by_cases q2 : d2 = m + 1
          · omega
          · simp only [if_pos q1, if_neg q2] at g2; omega
        · by_cases q2 : d2 = m + 1
          · simp only [if_neg q1, if_pos q2] at g2; omega
          · simp only [if_neg q1, if_neg q2] at g2; exact g2
      subst hd
      exact hA.inj b b' d1 (by omega) (by omega) f1 f2
    · obtain ⟨d, f, rfl⟩ := mapO_some e
      obtain ⟨h1, h2, h3⟩ := h0 b (by omega) d f
      refine ⟨?_, rfl, ?_⟩
      · split <;> omega
      · rw [hg b hb d h2 h3]
        exact (hA.ok b (by omega) d f).2.2
    · have hn : A n = none := by
        cases e : A n with
        | none => rfl
        | some c => have := (h0 n (by omega) c e).1; omega
      rw [wtN, hn, gainO, Int.add_zero, wt_sum, wt_sum]
      refine Int.le_of_eq (sum_congr fun b hb => ?_)
      try simp only
      cases e : A b with
      | none => rfl
      | some d =>
        obtain ⟨h1, h2, h3⟩ := h0 b (by omega) d e
        exact (hg b hb d h2 h3).symm
  · have hg : ∀ b, b < n → ∀ c, c < m + 1 → oneG (idleG G m n) (m + 1) k b (if c = m then m + 1 else c) = oneG G m k b c := fun b hb c h1 => by
      by_cases hc : c = m
      · rw [if_pos hc, oneG, if_pos rfl, oneG, if_pos hc, idleG, if_neg (by omega)]
      · rw [if_neg hc, oneG, if_neg (by omega), oneG, if_neg hc, idleG, if_neg (by omega)]
    refine ⟨putN (fun b => mapO (fun c => if c = m then m + 1 else c) (A b)) n none, ⟨put_inj (fun b b' c hb hb' e1 e2 => ?_) (fun c hc => by cases hc), fun b hb c e => ?_⟩, ?_⟩
    · obtain ⟨d1, f1, g1⟩ := mapO_some e1
      obtain ⟨d2, f2, g2⟩ := mapO_some e2
      have k1 := (hA.ok b hb d1 f1).1
      have k2 := (hA.ok b' hb' d2 f2).1
      have hd : d1 = d2 := by
        rw [g1] at g2
        by_cases q1 : d1 = m
        · by_cases q2 : d2 = m
          · omega
          · simp only [if_pos q1, if_neg q2] at g2; omega
        · by_cases q2 : d2 = m
          · simp only [if_neg q1, if_pos q2] at g2; omega
          · simp only [if_neg q1, if_neg q2] at g2; exact g2
      subst hd
      exact hA.inj b b' d1 hb hb' f1 f2
    · by_cases hbn : b = n
      · rw [hbn, put_eq] at e; cases e
      · rw [put_ne hbn] at e
        obtain ⟨d, f, rfl⟩ := mapO_some e
        obtain ⟨h1, _, h2⟩ := hA.ok b (by omega) d f
        refine ⟨?_, rfl, ?_⟩
        · split <;> omega
        · rw [hg b (by omega) d h1]
          exact h2
    · rw [wtN, put_eq, gainO, Int.add_zero, wt_put none (Nat.le_refl _), wt_sum, wt_sum]
      refine Int.le_of_eq (sum_congr fun b hb => ?_)
      cases e : A b with
      | none => simp only [mapO]; rfl
      | some d =>
        simp only [mapO, gainO]
        exact (hg b hb d (hA.ok b hb d e).1).symm
theorem idle_last : bestV (oneG (idleG G m n) (m + 1) m) (m + 1 + 1) (n + 1) = bestV (idleG G m n) (m + 1) (n + 1) := by
  refine Int.le_antisymm (best_mono fun A hA => ?_) (best_mono fun A hA => ⟨A, one_ok hA |>.1, Int.le_of_eq (one_ok hA |>.2).symm⟩)
  have h0 : ∀ b, b < n + 1 → ∀ c, A b = some c → c < m + 1 := fun b hb c e => by
    obtain ⟨h1, _, h2⟩ := hA.ok b hb c e
    rw [oneG] at h2
    by_cases hc : c = m + 1
    · rw [if_pos hc, idleG, if_pos (.inr rfl)] at h2; omega
    · omega
  refine ⟨A, ⟨hA.inj, fun b hb c e => ?_⟩, ?_⟩
  · obtain ⟨h1, _, h2⟩ := hA.ok b hb c e
    have := h0 b hb c e
    rw [oneG, if_neg (by omega)] at h2
    exact ⟨this, rfl, h2⟩
  · exact Int.le_of_eq (one_wt h0 (Nat.le_refl _))
theorem idle_num {k : Nat} (hk : k < m) : numP (idleG G m n) (m + 1) (n + 1) k = numP G m n k := by
  rw [numP, numP, idle_one hk, idle_best]
theorem idle_num_last : numP (idleG G m n) (m + 1) (n + 1) m = 0 := by
  rw [numP, idle_last]; omega
theorem idle_bid {i : Nat} (hi : i < n) : bidP (idleG G m n) (m + 1) (n + 1) i = bidP G m n i := by
  refine Int.le_antisymm (top_le (top_nonneg _ _) fun k hk => ?_) (top_le (top_nonneg _ _) fun k hk => ?_)
  · by_cases e : k = m
    · rw [e, idle_num_last, idleG, if_pos (.inr rfl)]
      have := top_nonneg (fun k => G i k - numP G m n k) m
      omega
    · rw [idle_num (by omega), idleG, if_neg (by omega)]
      exact top_ge (f := fun k => G i k - numP G m n k) (by omega)
  · have h1 := top_ge (f := fun k => idleG G m n i k - numP (idleG G m n) (m + 1) (n + 1) k) (show k < m + 1 by omega)
    rw [idle_num hk, idleG, if_neg (by omega)] at h1
    exact h1
theorem idle_bid_last : bidP (idleG G m n) (m + 1) (n + 1) n = 0 := by
  refine Int.le_antisymm (top_le (by omega) fun k hk => ?_) (top_nonneg _ _)
  rw [idleG, if_pos (.inl rfl)]
  have := num_nonneg (G := idleG G m n) (m := m + 1) (n := n + 1) k
  omega
end
end Go.Proofs.Ytdckoaljcklmhaa

namespace Go.Proofs.Ytdckoaljcklmhaa
open Go.RowKit
set_option linter.unusedVariables false

def gG (g : List (List Int)) (b c : Nat) : Int := (g.getD b []).getD c 0
/-- May gains be? -/
def mayW (g : List (List Int)) (m : Int) : Bool := decide (1 ≤ m) && (decide (m ≤ 8) && (decide (g.length ≤ 8) && g.all fun l => decide ((l.length : Int) = m) && l.all fun z => decide (-1000000 ≤ z) && decide (z ≤ 1000000)))
theorem mayW_iff {g : List (List Int)} {m : Int} : mayW g m = true ↔ 1 ≤ m ∧ m ≤ 8 ∧ g.length ≤ 8 ∧ ∀ l ∈ g, (l.length : Int) = m ∧ ∀ z ∈ l, -1000000 ≤ z ∧ z ≤ 1000000 := by
  simp [mayW]
def bestE (g : List (List Int)) (m : Int) : Int := if mayW g m = true then bestV (gG g) m.toNat g.length else 0
def wErr (g : List (List Int)) (m : Int) : Int := if mayW g m = true then 0 else 1
def ofE (g : List (List Int)) (m : Int) : List Int := if mayW g m = true then (List.range m.toNat).map (numP (gG g) m.toNat g.length) else []
def bidE (g : List (List Int)) (m : Int) : List Int := if mayW g m = true then (List.range g.length).map (bidP (gG g) m.toNat g.length) else []
theorem we_ok {g : List (List Int)} {m : Nat} (h : mayW g m = true) : bestE g m = bestV (gG g) m g.length ∧ wErr g m = 0 ∧ ofE g m = (List.range m).map (numP (gG g) m g.length) ∧ bidE g m = (List.range g.length).map (bidP (gG g) m g.length) := by
  simp [bestE, wErr, ofE, bidE, h]
theorem we_bad {g : List (List Int)} {m : Int} (h : mayW g m = false) : bestE g m = 0 ∧ wErr g m = 1 ∧ ofE g m = [] ∧ bidE g m = [] := by
  simp [bestE, wErr, ofE, bidE, h]
def BestC (f : Nat) : Prop := ∀ (x : Gr) (m : Int) (w : World), x.Ok w → -9223372036854775808 ≤ m → m ≤ 9223372036854775807 →
  Calls Try.prog f #[x.v, .int .i64 m] w fun e w' => e = .returned (.tuple #[.int .i64 (bestE x.g m), .int .i64 (wErr x.g m)]) ∧ Below w.heap.size w w'
def ProvedC (f : Nat) : Prop := ∀ (x : Gr) (m : Int) (w : World), x.Ok w → -9223372036854775808 ≤ m → m ≤ 9223372036854775807 →
  Calls Try.prog f #[x.v, .int .i64 m] w fun e w' => ∃ A1 n1 c1 A2 n2 c2, e = .returned (.tuple #[.slice A1 n1 c1, .slice A2 n2 c2, .int .i64 (wErr x.g m)]) ∧ OwnI w' w.heap.size ⟨A1, n1, c1, bidE x.g m⟩ ∧ OwnI w' w.heap.size ⟨A2, n2, c2, ofE x.g m⟩ ∧
    AptL [⟨A1, n1, c1, bidE x.g m⟩, ⟨A2, n2, c2, ofE x.g m⟩] ∧ Below w.heap.size w w'
/-- How great what is reckoned can be. -/
theorem gG_bound {g : List (List Int)} {m : Int} (h : mayW g m = true) (b c : Nat) : -1000000 ≤ gG g b c ∧ gG g b c ≤ 1000000 := by
  obtain ⟨_, _, _, h4⟩ := mayW_iff.1 h
  unfold gG
  by_cases hb : b < g.length
  · rw [List.getD_eq_getElem?_getD (l := g), List.getElem?_eq_getElem hb]
    simp only [Option.getD_some]
    by_cases hc : c < g[b].length
    · rw [List.getD_eq_getElem?_getD, List.getElem?_eq_getElem hc]
      exact (h4 _ (List.getElem_mem hb)).2 _ (List.getElem_mem hc)
    · rw [List.getD_eq_getElem?_getD, List.getElem?_eq_none (by omega)]; simp
  · rw [List.getD_eq_getElem?_getD (l := g), List.getElem?_eq_none (by omega)]; simp
theorem wt_bound {G : Nat → Nat → Int} {A : Nat → Option Nat} {K : Int} (hK : 0 ≤ K) (h : ∀ b c, G b c ≤ K) : ∀ n : Nat, wtN G A n ≤ n * K
  | 0 => by simp [wtN]
  | n + 1 => by
    rw [wtN]
    have h1 := wt_bound hK h (A := A) n
    have h2 : gainO (G n) (A n) ≤ K := by
      cases A n with
      | none => exact hK
      | some c => exact h n c
    have h3 : ((n + 1 : Nat) : Int) * K = n * K + K := by rw [Int.natCast_add, Int.add_mul]; simp
    omega
theorem none_wt0 (G : Nat → Nat → Int) : ∀ n, wtN G (fun _ => none) n = 0
  | 0 => rfl
  | n + 1 => by rw [wtN, none_wt0 G n]; rfl
theorem bestV_nonneg (G : Nat → Nat → Int) (m n : Nat) : 0 ≤ bestV G m n := by
  have h := bestV_ge (G := G) (m := m) (n := n) (A := fun _ => none) ⟨fun b b' c _ _ e => (nomatch e), fun b _ c e => (nomatch e)⟩
  rw [none_wt0] at h
  exact h
theorem bestV_bound {G : Nat → Nat → Int} {K : Int} (hK : 0 ≤ K) (h : ∀ b c, G b c ≤ K) (m n : Nat) : bestV G m n ≤ n * K := by
  obtain ⟨A, hA, hw⟩ := best_ex (G := G) (m := m) n topP
  have hw : wtN G A n = bestV G m n := hw
  have := wt_bound hK h (A := A) n
  omega
end Go.Proofs.Ytdckoaljcklmhaa

namespace Go.Proofs.Ytdckoaljcklmhaa
set_option linter.unusedVariables false

theorem gG_at {g : List (List Int)} {b c : Nat} {l : List Int} (hb : g[b]? = some l) : gG g b c = l.getD c 0 := by
  rw [gG, List.getD_eq_getElem?_getD (l := g), hb]; rfl
theorem top_congr {f f' : Nat → Int} : ∀ {m : Nat}, (∀ k, k < m → f k = f' k) → topN f m = topN f' m
  | 0, _ => rfl
  | m + 1, h => by rw [topN, topN, top_congr fun k hk => h k (by omega), h m (by omega)]
section
variable {G G' : Nat → Nat → Int} {m n : Nat}
theorem best_same (h : ∀ b c, b < n → c < m → G b c = G' b c) : bestV G m n = bestV G' m n := best_congr fun b c hb hc _ => h b c hb hc
theorem num_same {k : Nat} (hk : k < m) (h : ∀ b c, b < n → c < m → G b c = G' b c) : numP G m n k = numP G' m n k := by
  rw [numP, numP, best_same h, best_same (G := oneG G m k) (G' := oneG G' m k) (m := m + 1) fun b c hb hc => ?_]
  unfold oneG
  by_cases e : c = m
  · rw [if_pos e, if_pos e]; exact h b k hb hk
  · rw [if_neg e, if_neg e]; exact h b c hb (by omega)
theorem bid_same {i : Nat} (hi : i < n) (h : ∀ b c, b < n → c < m → G b c = G' b c) : bidP G m n i = bidP G' m n i := by
  unfold bidP
  exact top_congr fun k hk => by rw [h i k hi hk, num_same hk h]
end
section
variable {g : List (List Int)} {m : Nat} {G : Nat → Nat → Int}
theorem bestE_of (h : mayW g m = true) (hG : ∀ b c, b < g.length → c < m → gG g b c = G b c) : bestE g m = bestV G m g.length := by
  rw [(we_ok h).1, best_same hG]
theorem ofE_of (h : mayW g m = true) (hG : ∀ b c, b < g.length → c < m → gG g b c = G b c) : ofE g m = (List.range m).map (numP G m g.length) := by
  rw [(we_ok h).2.2.1]
  exact List.map_congr_left fun k hk => num_same (List.mem_range.1 hk) hG
theorem bidE_of (h : mayW g m = true) (hG : ∀ b c, b < g.length → c < m → gG g b c = G b c) : bidE g m = (List.range g.length).map (bidP G m g.length) := by
  rw [(we_ok h).2.2.2]
  exact List.map_congr_left fun k hk => bid_same (List.mem_range.1 hk) hG
theorem ofE_len (h : mayW g m = true) : (ofE g m).length = m := by rw [(we_ok h).2.2.1]; simp
theorem bidE_len (h : mayW g m = true) : (bidE g m).length = g.length := by rw [(we_ok h).2.2.2]; simp
theorem ofE_get (h : mayW g m = true) {k : Nat} (hk : k < m) : (ofE g m)[k]? = some (numP (gG g) m g.length k) := by
  rw [(we_ok h).2.2.1, List.getElem?_map, List.getElem?_range hk]; rfl
theorem bidE_get (h : mayW g m = true) {i : Nat} (hi : i < g.length) : (bidE g m)[i]? = some (bidP (gG g) m g.length i) := by
  rw [(we_ok h).2.2.2, List.getElem?_map, List.getElem?_range hi]; rfl
theorem may_row (h : mayW g m = true) {b : Nat} (hb : b < g.length) : g[b].length = m ∧ ∀ z ∈ g[b], -1000000 ≤ z ∧ z ≤ 1000000 := by
  have h1 := (mayW_iff.1 h).2.2.2 _ (List.getElem_mem hb)
  exact ⟨by omega, h1.2⟩
theorem may_m (h : mayW g m = true) : 1 ≤ m ∧ m ≤ 8 ∧ g.length ≤ 8 := by
  have h1 := mayW_iff.1 h
  omega
end
/-- How great the numbers are. -/
theorem num_bound {g : List (List Int)} {m : Nat} (h : mayW g m = true) (k : Nat) (hk : k < m) : 0 ≤ numP (gG g) m g.length k ∧ numP (gG g) m g.length k ≤ 8000000 := by
  refine ⟨num_nonneg k, ?_⟩
  have h1 := num_upper (G := gG g) (m := m) (n := g.length) hk
  have h2 := bestV_bound (G := gG g) (K := 1000000) (by omega) (fun b c => (gG_bound h b c).2) m g.length
  have h3 := bestV_nonneg (noneC (gG g) k) m g.length
  have h4 := (may_m h).2.2
  have h5 : (g.length : Int) * 1000000 ≤ 8000000 := by omega
  omega
theorem best_bound {g : List (List Int)} {m : Nat} (h : mayW g m = true) : 0 ≤ bestV (gG g) m g.length ∧ bestV (gG g) m g.length ≤ 8000000 := by
  have h2 := bestV_bound (G := gG g) (K := 1000000) (by omega) (fun b c => (gG_bound h b c).2) m g.length
  have h4 := (may_m h).2.2
  have h5 : (g.length : Int) * 1000000 ≤ 8000000 := by omega
  exact ⟨bestV_nonneg _ _ _, by omega⟩
theorem bid_bound {g : List (List Int)} {m : Nat} (h : mayW g m = true) (i : Nat) : 0 ≤ bidP (gG g) m g.length i ∧ bidP (gG g) m g.length i ≤ 1000000 := by
  refine ⟨bid_nonneg i, ?_⟩
  refine top_le (by omega) fun k hk => ?_
  have h1 := (gG_bound h i k).2
  have h2 := (num_bound h k hk).1
  omega
/-- Without an item. -/
def skipN (k c : Nat) : Nat := if c < k then c else c + 1
theorem skip_inj {k c c' : Nat} (h : skipN k c = skipN k c') : c = c' := by
  unfold skipN at h
  split at h <;> split at h <;> omega
theorem skip_lt {m k c : Nat} (hk : k < m) (hc : c < m - 1) : skipN k c < m := by unfold skipN; split <;> omega
theorem best_skip {G : Nat → Nat → Int} {m n k : Nat} (hk : k < m) : bestV (fun b c => G b (skipN k c)) (m - 1) n ≤ bestV G m n := by
  refine best_mono fun A hA => ⟨fun b => mapO (skipN k) (A b), ⟨fun b b' c hb hb' e1 e2 => ?_, fun b hb c e => ?_⟩, ?_⟩
  · obtain ⟨d1, f1, g1⟩ := mapO_some e1
    obtain ⟨d2, f2, g2⟩ := mapO_some e2
    have := skip_inj (g1.symm.trans g2)
    subst this
    exact hA.inj _ _ _ hb hb' f1 f2
  · obtain ⟨d, f, rfl⟩ := mapO_some e
    obtain ⟨k1, _, k3⟩ := hA.ok _ hb d f
    exact ⟨skip_lt hk k1, rfl, k3⟩
  · rw [wt_sum, wt_sum]
    refine Int.le_of_eq (sum_congr fun b hb => ?_)
    try simp only
    cases e : A b with
    | none => rfl
    | some d => rfl
theorem erase_getD {l : List Int} {k c : Nat} (hk : k ≤ l.length) : (l.take k ++ l.drop (k + 1)).getD c 0 = l.getD (skipN k c) 0 := by
  rw [List.getD_eq_getElem?_getD, List.getD_eq_getElem?_getD]
  congr 1
  unfold skipN
  by_cases h : c < k
  · rw [if_pos h, List.getElem?_append_left (by rw [List.length_take]; omega), List.getElem?_take, if_pos h]
  · rw [if_neg h, List.getElem?_append_right (by rw [List.length_take]; omega), List.length_take, List.getElem?_drop]
    congr 1
    omega
end Go.Proofs.Ytdckoaljcklmhaa
