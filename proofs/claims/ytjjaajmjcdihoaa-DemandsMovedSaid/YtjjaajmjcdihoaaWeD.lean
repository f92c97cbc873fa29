/-
  The mathematics of layer 10: two matchings, in which no item stands more than twice, are two others in which none stands twice in one; the best that can be had, and what proves it.
-/
import Derived.Test.YtjjaajmjcdihoaaGrD
namespace Go.Proofs.Ytjjaajmjcdihoaa
set_option linter.unusedVariables false

/-! Who has what: of each bidder an item, or none. -/
def InjN (n : Nat) (A : Nat → Option Nat) : Prop := ∀ b b' c, b < n → b' < n → A b = some c → A b' = some c → b = b'
def useN (A : Nat → Option Nat) (c : Nat) : Nat → Nat
  | 0 => 0
  | n + 1 => useN A c n + if A n = some c then 1 else 0
/-- Of each bidder the same two, in whatever order. -/
def SwapN (n : Nat) (A B A' B' : Nat → Option Nat) : Prop := ∀ b, b < n → (A' b = A b ∧ B' b = B b) ∨ (A' b = B b ∧ B' b = A b)
theorem use_pos {A : Nat → Option Nat} {c b : Nat} : ∀ {n}, b < n → A b = some c → 1 ≤ useN A c n
  | 0, h, _ => absurd h (by omega)
  | n + 1, h, e => by
    rw [useN]
    by_cases hb : b = n
    · rw [← hb, if_pos e]; omega
    · have := use_pos (n := n) (by omega) e
      omega
theorem use_swap {A B A' B' : Nat → Option Nat} {c : Nat} : ∀ {n}, SwapN n A B A' B' → useN A' c n + useN B' c n = useN A c n + useN B c n
  | 0, _ => rfl
  | n + 1, h => by
    have ih := use_swap (c := c) (n := n) fun b hb => h b (by omega)
    rw [useN, useN, useN, useN]
    rcases h n (by omega) with ⟨h1, h2⟩ | ⟨h1, h2⟩
    · rw [h1, h2]; omega
    · rw [h1, h2]; omega
/-- Whom one comes to from one: whoever has in A what the last one has in B. -/
inductive Come (n : Nat) (A B : Nat → Option Nat) (s : Nat) : Nat → Prop
  | base : Come n A B s s
  | step (x y d : Nat) : Come n A B s x → x < n → y < n → B x = some d → A y = some d → Come n A B s y
open Classical in
noncomputable def flipN (n : Nat) (A B : Nat → Option Nat) (s : Nat) (U V : Nat → Option Nat) (b : Nat) : Option Nat := if Come n A B s b then V b else U b
section
variable {n s c1 : Nat} {A B : Nat → Option Nat}
theorem flip_in {U V : Nat → Option Nat} {b : Nat} (h : Come n A B s b) : flipN n A B s U V b = V b := if_pos h
theorem flip_out {U V : Nat → Option Nat} {b : Nat} (h : ¬ Come n A B s b) : flipN n A B s U V b = U b := if_neg h
theorem flip_swap : SwapN n A B (flipN n A B s A B) (flipN n A B s B A) := fun b _ => by
  by_cases h : Come n A B s b
  · exact .inr ⟨flip_in h, flip_in h⟩
  · exact .inl ⟨flip_out h, flip_out h⟩
theorem flip_injA (hA : InjN n A) (hB : InjN n B) : InjN n (flipN n A B s A B) := by
  intro b b' c hb hb' h1 h2
  by_cases k1 : Come n A B s b
  · rw [flip_in k1] at h1
    by_cases k2 : Come n A B s b'
    · rw [flip_in k2] at h2
      exact hB b b' c hb hb' h1 h2
    · rw [flip_out k2] at h2
      exact absurd (.step b b' c k1 hb hb' h1 h2) k2
  · rw [flip_out k1] at h1
    by_cases k2 : Come n A B s b'
    · rw [flip_in k2] at h2
      exact absurd (.step b' b c k2 hb' hb h2 h1) k1
    · rw [flip_out k2] at h2
      exact hA b b' c hb hb' h1 h2
theorem flip_back (hB : InjN n B) (hA : InjN n A) (hs : s < n) (h1 : A s = some c1) (hno : ∀ b, b < n → B b ≠ some c1) {b b' c : Nat} (hb : b < n) (hb' : b' < n) (k : Come n A B s b) (e1 : A b = some c) (e2 : B b' = some c) : Come n A B s b' := by
  cases k with
  | base =>
    rw [h1] at e1
    cases e1
    exact absurd e2 (hno b' hb')
  | step x y d hx hxn hyn hBx hAy =>
    rw [e1] at hAy
    cases hAy
    rw [← hB x b' c hxn hb' hBx e2]
    exact hx
theorem flip_injB (hA : InjN n A) (hB : InjN n B) (hs : s < n) (h1 : A s = some c1) (hno : ∀ b, b < n → B b ≠ some c1) : InjN n (flipN n A B s B A) := by
  intro b b' c hb hb' e1 e2
  by_cases k1 : Come n A B s b
  · rw [flip_in k1] at e1
    by_cases k2 : Come n A B s b'
    · rw [flip_in k2] at e2
      exact hA b b' c hb hb' e1 e2
    · rw [flip_out k2] at e2
      exact absurd (flip_back hB hA hs h1 hno hb hb' k1 e1 e2) k2
  · rw [flip_out k1] at e1
    by_cases k2 : Come n A B s b'
    · rw [flip_in k2] at e2
      exact absurd (flip_back hB hA hs h1 hno hb' hb k2 e2 e1) k1
    · rw [flip_out k2] at e2
      exact hB b b' c hb hb' e1 e2
/-- Who has one in A that stands in B nowhere, and is not where one began, is not come to. -/
theorem come_not {c2 b2 : Nat} (hA : InjN n A) (hs : s < n) (h1 : A s = some c1) (hb2 : b2 < n) (h2 : A b2 = some c2) (hne : c1 ≠ c2) (hno : ∀ b, b < n → B b ≠ some c2) : ¬ Come n A B s b2 := by
  intro k
  cases k with
  | base => rw [h1] at h2; cases h2; exact hne rfl
  | step x y d hx hxn hyn hBx hAy =>
    rw [h2] at hAy
    cases hAy
    exact hno x hxn hBx
end
theorem SwapN.trans {n : Nat} {A B A' B' A2 B2 : Nat → Option Nat} (h1 : SwapN n A B A' B') (h2 : SwapN n A' B' A2 B2) : SwapN n A B A2 B2 := fun b hb => by
  rcases h1 b hb with ⟨e1, e2⟩ | ⟨e1, e2⟩
  · rcases h2 b hb with ⟨e3, e4⟩ | ⟨e3, e4⟩
    · exact .inl ⟨e3.trans e1, e4.trans e2⟩
    · exact .inr ⟨e3.trans e2, e4.trans e1⟩
  · rcases h2 b hb with ⟨e3, e4⟩ | ⟨e3, e4⟩
    · exact .inr ⟨e3.trans e1, e4.trans e2⟩
    · exact .inl ⟨e3.trans e2, e4.trans e1⟩
theorem SwapN.comm {n : Nat} {A B A' B' : Nat → Option Nat} (h : SwapN n A B A' B') : SwapN n B A B' A' := fun b hb => by
  rcases h b hb with ⟨e1, e2⟩ | ⟨e1, e2⟩
  · exact .inl ⟨e2, e1⟩
  · exact .inr ⟨e2, e1⟩
/-- One bidder more. -/
def putN (A : Nat → Option Nat) (n : Nat) (v : Option Nat) (b : Nat) : Option Nat := if b = n then v else A b
theorem put_eq (A : Nat → Option Nat) (n : Nat) (v : Option Nat) : putN A n v n = v := if_pos rfl
theorem put_ne {A : Nat → Option Nat} {n b : Nat} {v : Option Nat} (h : b ≠ n) : putN A n v b = A b := if_neg h
theorem put_inj {n : Nat} {A : Nat → Option Nat} {v : Option Nat} (hA : InjN n A) (h : ∀ c, v = some c → ∀ b, b < n → A b ≠ some c) : InjN (n + 1) (putN A n v) := by
  intro b b' c hb hb' e1 e2
  by_cases h1 : b = n
  · by_cases h2 : b' = n
    · omega
    · rw [h1, put_eq] at e1
      rw [put_ne h2] at e2
      exact absurd e2 (h c e1 b' (by omega))
  · rw [put_ne h1] at e1
    by_cases h2 : b' = n
    · rw [h2, put_eq] at e2
      exact absurd e1 (h c e2 b (by omega))
    · rw [put_ne h2] at e2
      exact hA b b' c (by omega) (by omega) e1 e2
theorem put_swap {n : Nat} {A B A' B' : Nat → Option Nat} (h : SwapN n A B A' B') : SwapN (n + 1) A B (putN A' n (A n)) (putN B' n (B n)) := fun b hb => by
  by_cases h1 : b = n
  · rw [h1, put_eq, put_eq]; exact .inl ⟨rfl, rfl⟩
  · rw [put_ne h1, put_ne h1]; exact h b (by omega)
theorem put_swap2 {n : Nat} {A B A' B' : Nat → Option Nat} (h : SwapN n A B A' B') : SwapN (n + 1) A B (putN A' n (B n)) (putN B' n (A n)) := fun b hb => by
  by_cases h1 : b = n
  · rw [h1, put_eq, put_eq]; exact .inr ⟨rfl, rfl⟩
  · rw [put_ne h1, put_ne h1]; exact h b (by omega)
/-- Two that are in A both: one of them is moved. -/
theorem two_rows {n : Nat} {A B : Nat → Option Nat} {c1 c2 b1 b2 : Nat} (hA : InjN n A) (hB : InjN n B) (hb1 : b1 < n) (hb2 : b2 < n) (h1 : A b1 = some c1) (h2 : A b2 = some c2) (hne : c1 ≠ c2)
    (no1 : ∀ b, b < n → B b ≠ some c1) (no2 : ∀ b, b < n → B b ≠ some c2) :
    ∃ A' B', SwapN n A B A' B' ∧ InjN n A' ∧ InjN n B' ∧ (∀ b, b < n → A' b ≠ some c1) ∧ ∀ b, b < n → B' b ≠ some c2 := by
  refine ⟨flipN n A B b1 A B, flipN n A B b1 B A, flip_swap, flip_injA hA hB, flip_injB hA hB hb1 h1 no1, fun b hb e => ?_, fun b hb e => ?_⟩
  · by_cases k : Come n A B b1 b
    · rw [flip_in k] at e
      exact no1 b hb e
    · rw [flip_out k] at e
      exact k (hA b1 b c1 hb1 hb h1 e ▸ .base)
  · by_cases k : Come n A B b1 b
    · rw [flip_in k] at e
      have := hA b2 b c2 hb2 hb h2 e
      subst this
      exact come_not hA hb1 h1 hb2 h2 hne no2 k
    · rw [flip_out k] at e
      exact no2 b hb e
/-- Where no item stands more than twice in both, they are two others in which none stands twice in one. -/
theorem two_parts : ∀ (n : Nat) (A B : Nat → Option Nat), (∀ c, useN A c n + useN B c n ≤ 2) → ∃ A' B', SwapN n A B A' B' ∧ InjN n A' ∧ InjN n B'
  | 0, A, B, _ => ⟨A, B, fun b hb => absurd hb (by omega), fun b _ _ hb => absurd hb (by omega), fun b _ _ hb => absurd hb (by omega)⟩
  | n + 1, A, B, h => by
    obtain ⟨A', B', hs, hA, hB⟩ := two_parts n A B fun c => by
      have := h c
      rw [useN, useN] at this
      omega
    have huse : ∀ c, (A n = some c → useN A' c n + useN B' c n ≤ 1) ∧ (B n = some c → useN A' c n + useN B' c n ≤ 1) ∧ (A n = some c → B n = some c → useN A' c n + useN B' c n = 0) := fun c => by
      have h1 := h c
      rw [useN, useN] at h1
      rw [use_swap hs]
      refine ⟨fun e => ?_, fun e => ?_, fun e e' => ?_⟩
      · rw [if_pos e] at h1; omega
      · rw [if_pos e] at h1; omega
      · rw [if_pos e, if_pos e'] at h1; omega
    have one : ∀ c, useN A' c n + useN B' c n ≤ 1 → ∀ b b', b < n → b' < n → A' b = some c → B' b' ≠ some c := fun c hc b b' hb hb' e1 e2 => by
      have := use_pos hb e1
      have := use_pos hb' e2
      omega
    by_cases q1 : (∀ c, A n = some c → ∀ b, b < n → A' b ≠ some c) ∧ ∀ c, B n = some c → ∀ b, b < n → B' b ≠ some c
    · exact ⟨_, _, put_swap hs, put_inj hA q1.1, put_inj hB q1.2⟩
    by_cases q2 : (∀ c, B n = some c → ∀ b, b < n → A' b ≠ some c) ∧ ∀ c, A n = some c → ∀ b, b < n → B' b ≠ some c
    · exact ⟨_, _, put_swap2 hs, put_inj hA q2.1, put_inj hB q2.2⟩
    -- both stand in one of the two
    have ex : ∀ {X : Nat → Option Nat} {v : Option Nat}, (¬ ∀ c, v = some c → ∀ b, b < n → X b ≠ some c) → ∃ c b, v = some c ∧ b < n ∧ X b = some c := fun {X v} hx => by
      obtain ⟨c, hc⟩ := Classical.not_forall.1 hx
      obtain ⟨e, hc⟩ := Classical.not_imp.1 hc
      obtain ⟨b, hb⟩ := Classical.not_forall.1 hc
      obtain ⟨hb, e2⟩ := Classical.not_imp.1 hb
      exact ⟨c, b, e, hb, Classical.not_not.1 e2⟩
    have both : (∃ c1 c2 b1 b2, A n = some c1 ∧ B n = some c2 ∧ b1 < n ∧ b2 < n ∧ A' b1 = some c1 ∧ A' b2 = some c2) ∨ ∃ c1 c2 b1 b2, A n = some c1 ∧ B n = some c2 ∧ b1 < n ∧ b2 < n ∧ B' b1 = some c1 ∧ B' b2 = some c2 := by
      rcases Classical.not_and_iff_not_or_not.1 q1 with k1 | k1
      · obtain ⟨c1, b1, e1, hb1, f1⟩ := ex k1
        rcases Classical.not_and_iff_not_or_not.1 q2 with k2 | k2
        · obtain ⟨c2, b2, e2, hb2, f2⟩ := ex k2
          exact .inl ⟨c1, c2, b1, b2, e1, e2, hb1, hb2, f1, f2⟩
        · obtain ⟨c2, b2, e2, hb2, f2⟩ := ex k2
          rw [e1] at e2
          cases e2
          exact absurd f2 (one c1 ((huse c1).1 e1) b1 b2 hb1 hb2 f1)
      · obtain ⟨c2, b2, e2, hb2, f2⟩ := ex k1
        rcases Classical.not_and_iff_not_or_not.1 q2 with k2 | k2
        · obtain ⟨c1, b1, e1, hb1, f1⟩ := ex k2
          rw [e2] at e1
          cases e1
          exact absurd f2 (one c2 ((huse c2).2.1 e2) b1 b2 hb1 hb2 f1)
        · obtain ⟨c1, b1, e1, hb1, f1⟩ := ex k2
          exact .inr ⟨c1, c2, b1, b2, e1, e2, hb1, hb2, f1, f2⟩
    rcases both with ⟨c1, c2, b1, b2, e1, e2, hb1, hb2, f1, f2⟩ | ⟨c1, c2, b1, b2, e1, e2, hb1, hb2, f1, f2⟩
    · have hne : c1 ≠ c2 := fun he => by
        rw [← he] at e2
        have := (huse c1).2.2 e1 e2
        have := use_pos hb1 f1
        omega
      obtain ⟨A2, B2, hs2, hA2, hB2, n1, n2⟩ := two_rows hA hB hb1 hb2 f1 f2 hne (fun b hb => one c1 ((huse c1).1 e1) b1 b hb1 hb f1) (fun b hb => one c2 ((huse c2).2.1 e2) b2 b hb2 hb f2)
      refine ⟨_, _, put_swap (hs.trans hs2), put_inj hA2 fun c hc => ?_, put_inj hB2 fun c hc => ?_⟩
      · rw [e1] at hc; cases hc; exact n1
      · rw [e2] at hc; cases hc; exact n2
    · have hne : c1 ≠ c2 := fun he => by
        rw [← he] at e2
        have := (huse c1).2.2 e1 e2
        have := use_pos hb1 f1
        omega
      obtain ⟨B2, A2, hs2, hB2, hA2, n1, n2⟩ := two_rows hB hA hb1 hb2 f1 f2 hne (fun b hb e => one c1 ((huse c1).1 e1) b b1 hb hb1 e f1) (fun b hb e => one c2 ((huse c2).2.1 e2) b b2 hb hb2 e f2)
      refine ⟨_, _, put_swap2 (hs.trans hs2.comm), put_inj hA2 fun c hc => ?_, put_inj hB2 fun c hc => ?_⟩
      · rw [e2] at hc; cases hc; exact n2
      · rw [e1] at hc; cases hc; exact n1
end Go.Proofs.Ytjjaajmjcdihoaa
