/-
  Layer 10 over lists: gains that are made from others.
-/
import Derived.Test.YtdckoaljcklmhaaGreatDoorGrD
import Derived.Test.YtdckoaljcklmhaaGreatDoorGrO
namespace Go.Proofs.YtdckoaljcklmhaaGreatDoor
set_option linter.unusedVariables false

/-! Who has what: of each bidder an item, or none. -/
def InjN (n : Nat) (A : Nat → Option Nat) : Prop := ∀ b b' c, b < n → b' < n → A b = some c → A b' = some c → b = b'
def useN (A : Nat → Option Nat) (c : Nat) : Nat → Nat
  | 0 => 0
  | n + 1 => useN A c n + if A n = some c then 1 else 0
/-- Of each bidder the same two, in whatever order. -/
def SwapN (n : Nat) (A B A' B' : Nat → Option Nat) : Prop := ∀ b, b < n → (A' b = A b ∧ B' b = B b) ∨ (A' b = B b ∧ B' b = A b)
theorem use_pos {A : Nat → Option Nat} {c b : Nat} : ∀ {n}, b < n → A b = some c → 1 ≤ useN A c n
  | 0, h, _ => absurd h (by omega)
  | n + 1, h, e => by
    rw [useN]
    by_cases hb : b = n
    · rw [← hb, if_pos e]; omega
    · have := use_pos (n := n) (by omega) e
      omega
theorem use_swap {A B A' B' : Nat → Option Nat} {c : Nat} : ∀ {n}, SwapN n A B A' B' → useN A' c n + useN B' c n = useN A c n + useN B c n
  | 0, _ => rfl
  | n + 1, h => by
    have ih := use_swap (c := c) (n := n) fun b hb => h b (by omega)
    rw [useN, useN, useN, useN]
    rcases h n (by omega) with ⟨h1, h2⟩ | ⟨h1, h2⟩
    · rw [h1, h2]; omega
    · rw [h1, h2]; omega
/-- Whom one comes to from one: whoever has in A what the last one has in B. -/
inductive Come (n : Nat) (A B : Nat → Option Nat) (s : Nat) : Nat → Prop
  | base : Come n A B s s
  | step (x y d : Nat) : Come n A B s x → x < n → y < n → B x = some d → A y = some d → Come n A B s y
open Classical in
noncomputable def flipN (n : Nat) (A B : Nat → Option Nat) (s : Nat) (U V : Nat → Option Nat) (b : Nat) : Option Nat := if Come n A B s b then V b else U b
section
variable {n s c1 : Nat} {A B : Nat → Option Nat}
theorem flip_in {U V : Nat → Option Nat} {b : Nat} (h : Come n A B s b) : flipN n A B s U V b = V b := if_pos h
theorem flip_out {U V : Nat → Option Nat} {b : Nat} (h : ¬ Come n A B s b) : flipN n A B s U V b = U b := if_neg h
theorem flip_swap : SwapN n A B (flipN n A B s A B) (flipN n A B s B A) := fun b _ => by
  by_cases h : Come n A B s b
  · exact .inr ⟨flip_in h, flip_in h⟩
  · exact .inl ⟨flip_out h, flip_out h⟩
theorem flip_injA (hA : InjN n A) (hB : InjN n B) : InjN n (flipN n A B s A B) := by
  intro b b' c hb hb' h1 h2
  by_cases k1 : Come n A B s b
  · rw [flip_in k1] at h1
    by_cases k2 : Come n A B s b'
    · rw [flip_in k2] at h2
      exact hB b b' c hb hb' h1 h2
    · rw [flip_out k2] at h2
      exact absurd (.step b b' c k1 hb hb' h1 h2) k2
  · rw [flip_out k1] at h1
    by_cases k2 : Come n A B s b'
    · rw [flip_in k2] at h2
      exact absurd (.step b' b c k2 hb' hb h2 h1) k1
    · rw [flip_out k2] at h2
      exact hA b b' c hb hb' h1 h2
theorem flip_back (hB : InjN n B) (hA : InjN n A) (hs : s < n) (h1 : A s = some c1) (hno : ∀ b, b < n → B b ≠ some c1) {b b' c : Nat} (hb : b < n) (hb' : b' < n) (k : Come n A B s b) (e1 : A b = some c) (e2 : B b' = some c) : Come n A B s b' := by
  cases k with
  | base =>
    rw [h1] at e1
    cases e1
    exact absurd e2 (hno b' hb')
  | step x y d hx hxn hyn hBx hAy =>
    rw [e1] at hAy
    cases hAy
    rw [← hB x b' c hxn hb' hBx e2]
    exact hx
theorem flip_injB (hA : InjN n A) (hB : InjN n B) (hs : s < n) (h1 : A s = some c1) (hno : ∀ b, b < n → B b ≠ some c1) : InjN n (flipN n A B s B A) := by
  intro b b' c hb hb' e1 e2
  by_cases k1 : Come n A B s b
  · rw [flip_in k1] at e1
    by_cases k2 : Come n A B s b'
    · rw [flip_in k2] at e2
      exact hA b b' c hb hb' e1 e2
    · rw [flip_out k2] at e2
      exact absurd (flip_back hB hA hs h1 hno hb hb' k1 e1 e2) k2
  · rw [flip_out k1] at e1
    by_cases k2 : Come n A B s b'
    · rw [flip_in k2] at e2
      exact absurd (flip_back hB hA hs h1 hno hb' hb k2 e2 e1) k1
    · rw [flip_out k2] at e2
      exact hB b b' c hb hb' e1 e2
/-- Who has one in A that stands in B nowhere, and is not where one began, is not come to. -/
theorem come_not {c2 b2 : Nat} (hA : InjN n A) (hs : s < n) (h1 : A s = some c1) (hb2 : b2 < n) (h2 : A b2 = some c2) (hne : c1 ≠ c2) (hno : ∀ b, b < n → B b ≠ some c2) : ¬ Come n A B s b2 := by
  intro k
  cases k with
  | base => rw [h1] at h2; cases h2; exact hne rfl
  | step x y d hx hxn hyn hBx hAy =>
    rw [h2] at hAy
    cases hAy
    exact hno x hxn hBx
end
theorem SwapN.trans {n : Nat} {A B A' B' A2 B2 : Nat → Option Nat} (h1 : SwapN n A B A' B') (h2 : SwapN n A' B' A2 B2) : SwapN n A B A2 B2 := fun b hb => by
  rcases h1 b hb with ⟨e1, e2⟩ | ⟨e1, e2⟩
  · rcases h2 b hb with ⟨e3, e4⟩ | ⟨e3, e4⟩
    · exact .inl ⟨e3.trans e1, e4.trans e2⟩
    · exact .inr ⟨e3.trans e2, e4.trans e1⟩
  · rcases h2 b hb with ⟨e3, e4⟩ | ⟨e3, e4⟩
    · exact .inr ⟨e3.trans e1, e4.trans e2⟩
    · exact .inl ⟨e3.trans e2, e4.trans e1⟩
theorem SwapN.comm {n : Nat} {A B A' B' : Nat → Option Nat} (h : SwapN n A B A' B') : SwapN n B A B' A' := fun b hb => by
  rcases h b hb with ⟨e1, e2⟩ | ⟨e1, e2⟩
  · exact .inl ⟨e2, e1⟩
  · exact .inr ⟨e2, e1⟩
/-- One bidder more. -/
def putN (A : Nat → Option Nat) (n : Nat) (v : Option Nat) (b : Nat) : Option Nat := if b = n then v else A b
theorem put_eq (A : Nat → Option Nat) (n : Nat) (v : Option Nat) : putN A n v n = v := if_pos rfl
theorem put_ne {A : Nat → Option Nat} {n b : Nat} {v : Option Nat} (h : b ≠ n) : putN A n v b = A b := if_neg h
theorem put_inj {n : Nat} {A : Nat → Option Nat} {v : Option Nat} (hA : InjN n A) (h : ∀ c, v = some c → ∀ b, b < n → A b ≠ some c) : InjN (n + 1) (putN A n v) := by
  intro b b' c hb hb' e1 e2
  by_cases h1 : b = n
  · by_cases h2 : b' = n
    · omega
    · rw [h1, put_eq] at e1
      rw [put_ne h2] at e2
      exact absurd e2 (h c e1 b' (by omega))
  · rw [put_ne h1] at e1
    by_cases h2 : b' = n
    · rw [h2, put_eq] at e2
      exact absurd e1 (h c e2 b (by omega))
    · rw [put_ne h2] at e2
      exact hA b b' c (by omega) (by omega) e1 e2
theorem put_swap {n : Nat} {A B A' B' : Nat → Option Nat} (h : SwapN n A B A' B') : SwapN (n + 1) A B (putN A' n (A n)) (putN B' n (B n)) := fun b hb => by
  by_cases h1 : b = n
  · rw [h1, put_eq, put_eq]; exact .inl ⟨rfl, rfl⟩
  · rw [put_ne h1, put_ne h1]; exact h b (by omega)
theorem put_swap2 {n : Nat} {A B A' B' : Nat → Option Nat} (h : SwapN n A B A' B') : SwapN (n + 1) A B (putN A' n (B n)) (putN B' n (A n)) := fun b hb => by
  by_cases h1 : b = n
  · rw [h1, put_eq, put_eq]; exact .inr ⟨rfl, rfl⟩
  · rw [put_ne h1, put_ne h1]; exact h b (by omega)
/-- Two that are in A both: one of them is moved. -/
theorem two_rows {n : Nat} {A B : Nat → Option Nat} {c1 c2 b1 b2 : Nat} (hA : InjN n A) (hB : InjN n B) (hb1 : b1 < n) (hb2 : b2 < n) (h1 : A b1 = some c1) (h2 : A b2 = some c2) (hne : c1 ≠ c2)
    (no1 : ∀ b, b < n → B b ≠ some c1) (no2 : ∀ b, b < n → B b ≠ some c2) :
    ∃ A' B', SwapN n A B A' B' ∧ InjN n A' ∧ InjN n B' ∧ (∀ b, b < n → A' b ≠ some c1) ∧ ∀ b, b < n → B' b ≠ some c2 := by
  refine ⟨flipN n A B b1 A B, flipN n A B b1 B A, flip_swap, flip_injA hA hB, flip_injB hA hB hb1 h1 no1, fun b hb e => ?_, fun b hb e => ?_⟩
  · by_cases k : Come n A B b1 b
    · rw [flip_in k] at e
      exact no1 b hb e
    · rw [flip_out k] at e
      exact k (hA b1 b c1 hb1 hb h1 e ▸ .base)
  · by_cases k : Come n A B b1 b
    · rw [flip_in k] at e
      have := hA b2 b c2 hb2 hb h2 e
      subst this
      exact come_not hA hb1 h1 hb2 h2 hne no2 k
    · rw [flip_out k] at e
      exact no2 b hb e
/-- Where no item stands more than twice in both, they are two others in which none stands twice in one. -/
theorem two_parts : ∀ (n : Nat) (A B : Nat → Option Nat), (∀ c, useN A c n + useN B c n ≤ 2) → ∃ A' B', SwapN n A B A' B' ∧ InjN n A' ∧ InjN n B'
  | 0, A, B, _ => ⟨A, B, fun b hb => absurd hb (by omega), fun b _ _ hb => absurd hb (by omega), fun b _ _ hb => absurd hb (by omega)⟩
  | n + 1, A, B, h => by
    obtain ⟨A', B', hs, hA, hB⟩ := two_parts n A B fun c => by
      have := h c
      rw [useN, useN] at this
      omega
    have huse : ∀ c, (A n = some c → useN A' c n + useN B' c n ≤ 1) ∧ (B n = some c → useN A' c n + useN B' c n ≤ 1) ∧ (A n = some c → B n = some c → useN A' c n + useN B' c n = 0) := fun c => by
      have h1 := h c
      rw [useN, useN] at h1
      rw [use_swap hs]
      refine ⟨fun e => ?_, fun e => ?_, fun e e' => ?_⟩
      · rw [if_pos e] at h1; omega
      · rw [if_pos e] at h1; omega
      · rw [if_pos e, if_pos e'] at h1; omega
    have one : ∀ c, useN A' c n + useN B' c n ≤ 1 → ∀ b b', b < n → b' < n → A' b = some c → B' b' ≠ some c := fun c hc b b' hb hb' e1 e2 => by
      have := use_pos hb e1
      have := use_pos hb' e2
      omega
    by_cases q1 : (∀ c, A n = some c → ∀ b, b < n → A' b ≠ some c) ∧ ∀ c, B n = some c → ∀ b, b < n → B' b ≠ some c
    · exact ⟨_, _, put_swap hs, put_inj hA q1.1, put_inj hB q1.2⟩
    by_cases q2 : (∀ c, B n = some c → ∀ b, b < n → A' b ≠ some c) ∧ ∀ c, A n = some c → ∀ b, b < n → B' b ≠ some c
    · exact ⟨_, _, put_swap2 hs, put_inj hA q2.1, put_inj hB q2.2⟩
    -- both stand in one of the two
    have ex : ∀ {X : Nat → Option Nat} {v : Option Nat}, (¬ ∀ c, v = some c → ∀ b, b < n → X b ≠ some c) → ∃ c b, v = some c ∧ b < n ∧ X b = some c := fun {X v} hx => by
      obtain ⟨c, hc⟩ := Classical.not_forall.1 hx
      obtain ⟨e, hc⟩ := Classical.not_imp.1 hc
      obtain ⟨b, hb⟩ := Classical.not_forall.1 hc
      obtain ⟨hb, e2⟩ := Classical.not_imp.1 hb
      exact ⟨c, b, e, hb, Classical.not_not.1 e2⟩
    have both : (∃ c1 c2 b1 b2, A n = some c1 ∧ B n = some c2 ∧ b1 < n ∧ b2 < n ∧ A' b1 = some c1 ∧ A' b2 = some c2) ∨ ∃ c1 c2 b1 b2, A n = some c1 ∧ B n = some c2 ∧ b1 < n ∧ b2 < n ∧ B' b1 = some c1 ∧ B' b2 = some c2 := by
      rcases Classical.not_and_iff_not_or_not.1 q1 with k1 | k1
      · obtain ⟨c1, b1, e1, hb1, f1⟩ := ex k1
        rcases Classical.not_and_iff_not_or_not.1 q2 with k2 | k2
        · obtain ⟨c2, b2, e2, hb2, f2⟩ := ex k2
          exact .inl ⟨c1, c2, b1, b2, e1, e2, hb1, hb2, f1, f2⟩
        · obtain ⟨c2, b2, e2, hb2, f2⟩ := ex k2
          rw [e1] at e2
          cases e2
          exact absurd f2 (one c1 ((huse c1).1 e1) b1 b2 hb1 hb2 f1)
      · obtain ⟨c2, b2, e2, hb2, f2⟩ := ex k1
        rcases Classical.not_and_iff_not_or_not.1 q2 with k2 | k2
        · obtain ⟨c1, b1, e1, hb1, f1⟩ := ex k2
          rw [e2] at e1
          cases e1
          exact absurd f2 (one c2 ((huse c2).2.1 e2) b1 b2 hb1 hb2 f1)
        · obtain ⟨c1, b1, e1, hb1, f1⟩ := ex k2
          exact .inr ⟨c1, c2, b1, b2, e1, e2, hb1, hb2, f1, f2⟩
    rcases both with ⟨c1, c2, b1, b2, e1, e2, hb1, hb2, f1, f2⟩ | ⟨c1, c2, b1, b2, e1, e2, hb1, hb2, f1, f2⟩
    · have hne : c1 ≠ c2 := fun he => by
        rw [← he] at e2
        have := (huse c1).2.2 e1 e2
        have := use_pos hb1 f1
        omega
      obtain ⟨A2, B2, hs2, hA2, hB2, n1, n2⟩ := two_rows hA hB hb1 hb2 f1 f2 hne (fun b hb => one c1 ((huse c1).1 e1) b1 b hb1 hb f1) (fun b hb => one c2 ((huse c2).2.1 e2) b2 b hb2 hb f2)
      refine ⟨_, _, put_swap (hs.trans hs2), put_inj hA2 fun c hc => ?_, put_inj hB2 fun c hc => ?_⟩
      · rw [e1] at hc; cases hc; exact n1
      · rw [e2] at hc; cases hc; exact n2
    · have hne : c1 ≠ c2 := fun he => by
        rw [← he] at e2
        have := (huse c1).2.2 e1 e2
        have := use_pos hb1 f1
        omega
      obtain ⟨B2, A2, hs2, hB2, hA2, n1, n2⟩ := two_rows hB hA hb1 hb2 f1 f2 hne (fun b hb e => one c1 ((huse c1).1 e1) b b1 hb hb1 e f1) (fun b hb e => one c2 ((huse c2).2.1 e2) b b2 hb hb2 e f2)
      refine ⟨_, _, put_swap2 (hs.trans hs2.comm), put_inj hA2 fun c hc => ?_, put_inj hB2 fun c hc => ?_⟩
      · rw [e2] at hc; cases hc; exact n2
      · rw [e1] at hc; cases hc; exact n1
end Go.Proofs.YtdckoaljcklmhaaGreatDoor


namespace Go.Proofs.YtdckoaljcklmhaaGreatDoor
set_option linter.unusedVariables false

/-- What one bidder adds, over these items: as it is reckoned. -/
def bestStep (G : Nat → Int) (v : Nat → Int) (P : Nat → Bool) (acc : Int) (k : Nat) : Int := if (P k && decide (0 ≤ G k)) = true then max acc (v k + G k) else acc
def lessP (P : Nat → Bool) (k : Nat) (j : Nat) : Bool := P j && decide (j ≠ k)
/-- The most that a matching of the first bidders gains, of items of a set. -/
def bestN (G : Nat → Nat → Int) (m : Nat) : Nat → (Nat → Bool) → Int
  | 0, _ => 0
  | n + 1, P => (List.range m).foldl (bestStep (G n) (fun k => bestN G m n (lessP P k)) P) (bestN G m n P)
/-- A matching of the first bidders, of items of a set. -/
structure Mt (G : Nat → Nat → Int) (m n : Nat) (P : Nat → Bool) (A : Nat → Option Nat) : Prop where
  inj : InjN n A
  ok : ∀ b, b < n → ∀ c, A b = some c → c < m ∧ P c = true ∧ 0 ≤ G b c
def gainO (G : Nat → Int) : Option Nat → Int
  | some c => G c
  | none => 0
def wtN (G : Nat → Nat → Int) (A : Nat → Option Nat) : Nat → Int
  | 0 => 0
  | n + 1 => wtN G A n + gainO (G n) (A n)
section
variable {G : Nat → Nat → Int} {m n : Nat} {P : Nat → Bool} {A : Nat → Option Nat}
theorem fold_ge (g v : Nat → Int) : ∀ (l : List Nat) (a : Int), a ≤ l.foldl (bestStep g v P) a
  | [], a => Int.le_refl _
  | k :: l, a => by
    rw [List.foldl_cons]
    refine Int.le_trans ?_ (fold_ge g v l _)
    unfold bestStep
    split
    · exact Int.le_max_left _ _
    · exact Int.le_refl _
theorem fold_at (g v : Nat → Int) : ∀ (l : List Nat) (a : Int) {k : Nat}, k ∈ l → P k = true → 0 ≤ g k → v k + g k ≤ l.foldl (bestStep g v P) a
  | [], _, _, h, _, _ => by simp at h
  | j :: l, a, k, h, hp, hg => by
    rw [List.foldl_cons]
    rcases List.mem_cons.1 h with rfl | h
    · refine Int.le_trans ?_ (fold_ge g v l _)
      unfold bestStep
      rw [if_pos (by rw [hp, decide_eq_true hg]; rfl)]
      exact Int.le_max_right _ _
    · exact fold_at g v l _ h hp hg
theorem fold_is (g v : Nat → Int) : ∀ (l : List Nat) (a : Int), l.foldl (bestStep g v P) a = a ∨ ∃ k ∈ l, P k = true ∧ 0 ≤ g k ∧ l.foldl (bestStep g v P) a = v k + g k
  | [], a => .inl rfl
  | j :: l, a => by
    rw [List.foldl_cons]
    rcases fold_is g v l (bestStep g v P a j) with h | ⟨k, hk, h1, h2, h3⟩
    · rw [h]
      unfold bestStep
      split
      · rename_i hc
        rw [Bool.and_eq_true] at hc
        by_cases hm : a ≤ v j + g j
        · exact .inr ⟨j, by simp, hc.1, of_decide_eq_true hc.2, Int.max_eq_right hm⟩
        · exact .inl (Int.max_eq_left (by omega))
      · exact .inl rfl
    · exact .inr ⟨k, by simp [hk], h1, h2, h3⟩
theorem Mt.less (h : Mt G m (n + 1) P A) : Mt G m n P A := ⟨fun b b' c hb hb' => h.inj b b' c (by omega) (by omega), fun b hb => h.ok b (by omega)⟩
theorem best_ge : ∀ {n : Nat} {P : Nat → Bool}, Mt G m n P A → wtN G A n ≤ bestN G m n P
  | 0, _, _ => Int.le_refl _
  | n + 1, P, h => by
    rw [wtN, bestN]
    cases e : A n with
    | none =>
      refine Int.le_trans ?_ (fold_ge _ _ _ _)
      have := best_ge h.less
      simp only [gainO]; omega
    | some k =>
      obtain ⟨hk, hp, hg⟩ := h.ok n (by omega) k e
      refine Int.le_trans ?_ (fold_at (G n) (fun k => bestN G m n (lessP P k)) (List.range m) _ (List.mem_range.2 hk) hp hg)
      have h2 : Mt G m n (lessP P k) A := ⟨h.less.inj, fun b hb c e2 => by
        obtain ⟨h3, h4, h5⟩ := h.ok b (by omega) c e2
        refine ⟨h3, ?_, h5⟩
        rw [lessP, h4, decide_eq_true (show c ≠ k from fun hc => by
          rw [hc] at e2
          have := h.inj b n k (by omega) (by omega) e2 e
          omega)]; rfl⟩
      have := best_ge h2
      simp only [gainO]; omega
theorem wt_put (v : Option Nat) : ∀ {j : Nat}, j ≤ n → wtN G (putN A n v) j = wtN G A j
  | 0, _ => rfl
  | j + 1, h => by rw [wtN, wtN, wt_put v (by omega), put_ne (by omega)]
theorem best_ex : ∀ (n : Nat) (P : Nat → Bool), ∃ A, Mt G m n P A ∧ wtN G A n = bestN G m n P
  | 0, _ => ⟨fun _ => none, ⟨fun b _ _ hb => absurd hb (by omega), fun b hb => absurd hb (by omega)⟩, rfl⟩
  | n + 1, P => by
    rw [bestN]
    rcases fold_is (P := P) (G n) (fun k => bestN G m n (lessP P k)) (List.range m) (bestN G m n P) with h | ⟨k, hk, h1, h2, h3⟩
    · obtain ⟨A, hA, hw⟩ := best_ex n P
      refine ⟨putN A n none, ⟨put_inj hA.inj (fun c hc => by cases hc), fun b hb c e => ?_⟩, ?_⟩
      · by_cases hbn : b = n
        · rw [hbn, put_eq] at e; cases e
        · rw [put_ne hbn] at e; exact hA.ok b (by omega) c e
      · rw [h, wtN, wt_put none (Nat.le_refl _), put_eq, hw, gainO]; omega
    · obtain ⟨A, hA, hw⟩ := best_ex n (lessP P k)
      refine ⟨putN A n (some k), ⟨put_inj hA.inj (fun c hc b hb e => ?_), fun b hb c e => ?_⟩, ?_⟩
      · cases hc
        have h4 := (hA.ok b hb k e).2.1
        rw [lessP, decide_eq_false (show ¬ k ≠ k from fun h => h rfl), Bool.and_false] at h4
        cases h4
      · by_cases hbn : b = n
        · rw [hbn, put_eq] at e
          cases e
          rw [hbn]
          exact ⟨List.mem_range.1 hk, h1, h2⟩
        · rw [put_ne hbn] at e
          obtain ⟨h4, h5, h6⟩ := hA.ok b (by omega) c e
          rw [lessP, Bool.and_eq_true] at h5
          exact ⟨h4, h5.1, h6⟩
      · rw [h3, wtN, wt_put _ (Nat.le_refl _), put_eq, hw, gainO]
end

/-! All items, and one more of one. -/
def topP (_ : Nat) : Bool := true
def bestV (G : Nat → Nat → Int) (m n : Nat) : Int := bestN G m n topP
def oneG (G : Nat → Nat → Int) (m k : Nat) (b c : Nat) : Int := if c = m then G b k else G b c
def numP (G : Nat → Nat → Int) (m n k : Nat) : Int := bestV (oneG G m k) (m + 1) n - bestV G m n
section
variable {G : Nat → Nat → Int} {m n : Nat} {A B : Nat → Option Nat}
theorem use_one (h : InjN n A) (c : Nat) : ∀ {j : Nat}, j ≤ n → useN A c j ≤ 1
  | 0, _ => by rw [useN]; omega
  | j + 1, hj => by
    rw [useN]
    by_cases e : A j = some c
    · rw [if_pos e]
      have h0 : ∀ i, i ≤ j → useN A c i = 0 := fun i => by
        induction i with
        | zero => exact fun _ => rfl
        | succ i ih =>
          intro hi
          rw [useN, ih (by omega), if_neg (fun e2 => by have := h i j c (by omega) (by omega) e2 e; omega)]
      rw [h0 j (Nat.le_refl _)]; omega
    · rw [if_neg e]
      have := use_one h c (j := j) (by omega)
      omega
theorem use_zero {c : Nat} : ∀ {j : Nat}, (∀ b, b < j → A b ≠ some c) → useN A c j = 0
  | 0, _ => rfl
  | j + 1, h => by rw [useN, use_zero fun b hb => h b (by omega), if_neg (h j (by omega))]
/-- The further one is one of these. -/
def downN (m k : Nat) (B : Nat → Option Nat) (b : Nat) : Option Nat := match B b with
  | some c => some (if c = m then k else c)
  | none => none
theorem down_use {k c : Nat} (hk : k < m) : ∀ {j : Nat}, useN (downN m k B) c j ≤ useN B c j + if c = k then useN B m j else 0
  | 0 => by simp [useN]
  | j + 1 => by
    have ih := down_use (c := c) hk (j := j)
    rw [useN, useN]
    by_cases hck : c = k
    · rw [if_pos hck] at ih ⊢
      rw [useN]
      unfold downN at ih ⊢
      cases e : B j with
      | none => simp; omega
      | some d =>
        simp only [Option.some.injEq]
        by_cases hd : d = m
        · rw [if_pos hd, if_pos hck.symm, if_pos hd]
          split <;> omega
        · rw [if_neg hd, if_neg hd]; omega
    · rw [if_neg hck] at ih ⊢
      unfold downN at ih ⊢
      cases e : B j with
      | none => simp; omega
      | some d =>
        simp only [Option.some.injEq]
        by_cases hd : d = m
        · rw [if_pos hd, if_neg (fun h => hck h.symm)]; omega
        · rw [if_neg hd]; omega
theorem down_wt {k : Nat} : ∀ {j : Nat}, wtN G (downN m k B) j = wtN (oneG G m k) B j
  | 0 => rfl
  | j + 1 => by
    rw [wtN, wtN, down_wt]
    congr 1
    unfold downN
    cases e : B j with
    | none => rfl
    | some d =>
      simp only [gainO, oneG]
      by_cases hd : d = m
      · rw [if_pos hd, if_pos hd]
      · rw [if_neg hd, if_neg hd]
theorem down_ok {k : Nat} (hk : k < m) (h : Mt (oneG G m k) (m + 1) n topP B) : ∀ b, b < n → ∀ c, downN m k B b = some c → c < m ∧ 0 ≤ G b c := fun b hb c e => by
  unfold downN at e
  cases e2 : B b with
  | none => rw [e2] at e; cases e
  | some d =>
    rw [e2] at e
    simp only [Option.some.injEq] at e
    obtain ⟨h1, _, h2⟩ := h.ok b hb d e2
    rw [oneG] at h2
    by_cases hd : d = m
    · rw [if_pos hd] at e h2; subst e; exact ⟨hk, h2⟩
    · rw [if_neg hd] at e h2; subst e; exact ⟨by omega, h2⟩
theorem swap_wt {A' B' : Nat → Option Nat} : ∀ {n : Nat}, SwapN n A B A' B' → wtN G A' n + wtN G B' n = wtN G A n + wtN G B n
  | 0, _ => rfl
  | n + 1, h => by
    have ih := swap_wt (n := n) fun b hb => h b (by omega)
    rw [wtN, wtN, wtN, wtN]
    rcases h n (by omega) with ⟨h1, h2⟩ | ⟨h1, h2⟩
    · rw [h1, h2]; omega
    · rw [h1, h2]; omega
theorem swap_ok {A' B' : Nat → Option Nat} {Q : Nat → Nat → Prop} (h : SwapN n A B A' B') (hA : ∀ b, b < n → ∀ c, A b = some c → Q b c) (hB : ∀ b, b < n → ∀ c, B b = some c → Q b c) :
    (∀ b, b < n → ∀ c, A' b = some c → Q b c) ∧ ∀ b, b < n → ∀ c, B' b = some c → Q b c := by
  refine ⟨fun b hb c e => ?_, fun b hb c e => ?_⟩
  · rcases h b hb with ⟨h1, _⟩ | ⟨h1, _⟩
    · exact hA b hb c (h1 ▸ e)
    · exact hB b hb c (h1 ▸ e)
  · rcases h b hb with ⟨_, h1⟩ | ⟨_, h1⟩
    · exact hB b hb c (h1 ▸ e)
    · exact hA b hb c (h1 ▸ e)
/-- A bidder has nothing. -/
def dropN (A : Nat → Option Nat) (i b : Nat) : Option Nat := if b = i then none else A b
theorem drop_wt {i : Nat} : ∀ {j : Nat}, wtN G (dropN A i) j = wtN G A j - if i < j then gainO (G i) (A i) else 0
  | 0 => rfl
  | j + 1 => by
    rw [wtN, wtN, drop_wt]
    by_cases h : j = i
    · subst h
      rw [if_neg (by omega), if_pos (by omega)]
      unfold dropN
      rw [if_pos rfl]
      simp only [gainO]; omega
    · unfold dropN
      rw [if_neg h]
      by_cases h2 : i < j
      · rw [if_pos h2, if_pos (by omega)]; omega
      · rw [if_neg h2, if_neg (by omega)]; omega
theorem drop_use {i c : Nat} : ∀ {j : Nat}, useN (dropN A i) c j ≤ useN A c j
  | 0 => Nat.le_refl _
  | j + 1 => by
    rw [useN, useN]
    have := drop_use (i := i) (c := c) (j := j)
    unfold dropN at this ⊢
    by_cases h : j = i
    · simp only [if_pos h]; simp; omega
    · simp only [if_neg h]; omega
/-- What a bidder has is away, and one more of it is there: two matchings, in one of which that bidder has nothing. -/
theorem part_two {i j : Nat} (hA : Mt G m n topP A) (hi : i < n) (hj : A i = some j) (hB : Mt (oneG G m j) (m + 1) n topP B) :
    ∃ X Y, Mt G m n topP X ∧ Mt G m n topP Y ∧ X i = none ∧ wtN G X n + wtN G Y n = wtN G A n - G i j + wtN (oneG G m j) B n := by
  have hjm := (hA.ok i hi j hj).1
  obtain ⟨X, Y, hs, hX, hY⟩ := two_parts n (dropN A i) (downN m j B) fun c => by
    have h1 := use_one hA.inj c (Nat.le_refl n)
    have h2 := use_one hB.inj c (Nat.le_refl n)
    have h3 := use_one hB.inj m (Nat.le_refl n)
    have h4 := down_use (B := B) (c := c) hjm (j := n)
    have h5 := drop_use (A := A) (i := i) (c := c) (j := n)
    by_cases hc : c = j
    · have h6 : useN (dropN A i) c n = 0 := use_zero fun b hb e => by
        unfold dropN at e
        by_cases hbi : b = i
        · rw [if_pos hbi] at e; cases e
        · rw [if_neg hbi, hc] at e
          exact hbi (hA.inj b i j hb hi e hj)
      rw [if_pos hc] at h4
      omega
    · rw [if_neg hc] at h4
      omega
  obtain ⟨oX, oY⟩ := swap_ok (Q := fun b c => c < m ∧ 0 ≤ G b c) hs (fun b hb c e => by
    unfold dropN at e
    by_cases hbi : b = i
    · rw [if_pos hbi] at e; cases e
    · rw [if_neg hbi] at e
      exact ⟨(hA.ok b hb c e).1, (hA.ok b hb c e).2.2⟩) (down_ok hjm hB)
  have mX : Mt G m n topP X := ⟨hX, fun b hb c e => ⟨(oX b hb c e).1, rfl, (oX b hb c e).2⟩⟩
  have mY : Mt G m n topP Y := ⟨hY, fun b hb c e => ⟨(oY b hb c e).1, rfl, (oY b hb c e).2⟩⟩
  have hw := swap_wt (G := G) hs
  rw [down_wt, drop_wt, if_pos hi, hj] at hw
  have hd : dropN A i i = none := if_pos rfl
  rcases hs i hi with ⟨h1, h2⟩ | ⟨h1, h2⟩
  · exact ⟨X, Y, mX, mY, h1.trans hd, hw⟩
  · refine ⟨Y, X, mY, mX, h2.trans hd, ?_⟩
    simp only [gainO] at hw
    omega
/-- One who has nothing is given a further one. -/
def giveN (X : Nat → Option Nat) (i c : Nat) (b : Nat) : Option Nat := if b = i then some c else X b
theorem give_wt {X : Nat → Option Nat} {i c : Nat} (h0 : X i = none) : ∀ {j : Nat}, wtN G (giveN X i c) j = wtN G X j + if i < j then G i c else 0
  | 0 => rfl
  | j + 1 => by
    rw [wtN, wtN, give_wt h0]
    unfold giveN
    by_cases h : j = i
    · subst h
      rw [if_pos rfl, if_neg (by omega), if_pos (by omega), h0]
      simp only [gainO]
    · rw [if_neg h]
      by_cases h2 : i < j
      · rw [if_pos h2, if_pos (by omega)]; omega
      · rw [if_neg h2, if_neg (by omega)]; omega
theorem one_wt {k : Nat} {X : Nat → Option Nat} (h : ∀ b, b < n → ∀ c, X b = some c → c < m) : ∀ {j : Nat}, j ≤ n → wtN (oneG G m k) X j = wtN G X j
  | 0, _ => rfl
  | j + 1, hj => by
    rw [wtN, wtN, one_wt h (by omega)]
    congr 1
    cases e : X j with
    | none => rfl
    | some d =>
      simp only [gainO, oneG]
      rw [if_neg (by have := h j (by omega) d e; omega)]
theorem give_ok {X : Nat → Option Nat} {i k : Nat} (hX : Mt G m n topP X) (hi : i < n) (h0 : X i = none) (hg : 0 ≤ G i k) : Mt (oneG G m k) (m + 1) n topP (giveN X i m) ∧ wtN (oneG G m k) (giveN X i m) n = wtN G X n + G i k := by
  have hlt : ∀ b, b < n → ∀ c, X b = some c → c < m := fun b hb c e => (hX.ok b hb c e).1
  refine ⟨⟨fun b b' c hb hb' e1 e2 => ?_, fun b hb c e => ?_⟩, ?_⟩
  · unfold giveN at e1 e2
    by_cases h1 : b = i
    · by_cases h2 : b' = i
      · omega
      · rw [if_pos h1] at e1
        rw [if_neg h2] at e2
        cases e1
        have := hlt b' hb' m e2
        omega
    · rw [if_neg h1] at e1
      by_cases h2 : b' = i
      · rw [if_pos h2] at e2
        cases e2
        have := hlt b hb m e1
        omega
      · rw [if_neg h2] at e2
        exact hX.inj b b' c hb hb' e1 e2
  · unfold giveN at e
    by_cases h1 : b = i
    · rw [if_pos h1] at e
      cases e
      refine ⟨by omega, rfl, ?_⟩
      rw [oneG, if_pos rfl, h1]; exact hg
    · rw [if_neg h1] at e
      obtain ⟨h2, _, h3⟩ := hX.ok b hb c e
      refine ⟨by omega, rfl, ?_⟩
      rw [oneG, if_neg (by omega)]; exact h3
  · rw [give_wt h0, one_wt hlt (Nat.le_refl _), if_pos hi, oneG, if_pos rfl]
end
end Go.Proofs.YtdckoaljcklmhaaGreatDoor


namespace Go.Proofs.YtdckoaljcklmhaaGreatDoor
set_option linter.unusedVariables false

def sumW (f : Nat → Int) : Nat → Int
  | 0 => 0
  | n + 1 => sumW f n + f n
theorem sum_congr {f g : Nat → Int} : ∀ {n : Nat}, (∀ i, i < n → f i = g i) → sumW f n = sumW g n
  | 0, _ => rfl
  | n + 1, h => by rw [sumW, sumW, sum_congr fun i hi => h i (by omega), h n (by omega)]
theorem sum_le {f g : Nat → Int} : ∀ {n : Nat}, (∀ i, i < n → f i ≤ g i) → sumW f n ≤ sumW g n
  | 0, _ => Int.le_refl _
  | n + 1, h => by
    rw [sumW, sumW]
    have := sum_le (f := f) (g := g) (n := n) fun i hi => h i (by omega)
    have := h n (by omega)
    omega
theorem sum_add (f g : Nat → Int) : ∀ n : Nat, sumW (fun i => f i + g i) n = sumW f n + sumW g n
  | 0 => rfl
  | n + 1 => by rw [sumW, sumW, sumW, sum_add f g n]; omega
theorem sumW_one {d : Nat} (q : Int) : ∀ {n : Nat}, sumW (fun c => if d = c then q else 0) n = if d < n then q else 0
  | 0 => rfl
  | n + 1 => by
    rw [sumW, sumW_one q]
    by_cases h : d = n
    · rw [if_neg (by omega), if_pos h, if_pos (by omega)]; omega
    · rw [if_neg h]
      by_cases h2 : d < n
      · rw [if_pos h2, if_pos (by omega)]; omega
      · rw [if_neg h2, if_neg (by omega)]; omega
theorem sum_zero {f : Nat → Int} : ∀ {n : Nat}, (∀ i, i < n → f i = 0) → sumW f n = 0
  | 0, _ => rfl
  | n + 1, h => by rw [sumW, sum_zero fun i hi => h i (by omega), h n (by omega)]; rfl
theorem wt_sum (G : Nat → Nat → Int) (A : Nat → Option Nat) : ∀ n, wtN G A n = sumW (fun b => gainO (G b) (A b)) n
  | 0 => rfl
  | n + 1 => by rw [wtN, sumW, wt_sum G A n]
/-- By items, how often each stands. -/
theorem sum_use {A : Nat → Option Nat} {m : Nat} (q : Nat → Int) : ∀ {n : Nat}, (∀ b, b < n → ∀ c, A b = some c → c < m) → sumW (fun b => gainO q (A b)) n = sumW (fun c => (useN A c n : Int) * q c) m
  | 0, _ => by
    rw [sumW]
    exact (sum_zero fun i _ => by simp [useN]).symm
  | n + 1, h => by
    rw [sumW, sum_use q fun b hb => h b (by omega)]
    cases e : A n with
    | none =>
      rw [gainO, Int.add_zero]
      refine sum_congr fun c _ => ?_
      rw [useN, e]; simp
    | some d =>
      have hd := h n (by omega) d e
      have h1 := sumW_one (d := d) (q d) (n := m)
      rw [if_pos hd] at h1
      rw [gainO, ← h1, ← sum_add]
      refine sum_congr fun c _ => ?_
      rw [useN, e]
      by_cases hc : d = c
      · subst hc
        simp [Int.add_mul]
      · rw [if_neg hc, if_neg (by simpa using hc)]; simp
section
variable {G : Nat → Nat → Int} {m n : Nat}
theorem bestV_ge {A : Nat → Option Nat} (h : Mt G m n topP A) : wtN G A n ≤ bestV G m n := best_ge h
theorem one_ok {A : Nat → Option Nat} {k : Nat} (h : Mt G m n topP A) : Mt (oneG G m k) (m + 1) n topP A ∧ wtN (oneG G m k) A n = wtN G A n := by
  refine ⟨⟨h.inj, fun b hb c e => ?_⟩, one_wt (fun b hb c e => (h.ok b hb c e).1) (Nat.le_refl _)⟩
  obtain ⟨h1, _, h2⟩ := h.ok b hb c e
  exact ⟨by omega, rfl, by rw [oneG, if_neg (by omega)]; exact h2⟩
theorem num_nonneg (k : Nat) : 0 ≤ numP G m n k := by
  obtain ⟨A, hA, hw⟩ := best_ex (G := G) (m := m) n topP
  obtain ⟨h1, h2⟩ := one_ok (k := k) hA
  have h3 := bestV_ge h1
  unfold numP
  have : bestV G m n = wtN G A n := hw.symm
  omega
/-! Along a best matching. -/
variable {A : Nat → Option Nat}
theorem along (hA : Mt G m n topP A) (hw : wtN G A n = bestV G m n) {i j : Nat} (hi : i < n) (hj : A i = some j) :
    numP G m n j ≤ G i j ∧ ∀ k, k < m → G i k - numP G m n k ≤ G i j - numP G m n j := by
  obtain ⟨B, hB, hwB⟩ := best_ex (G := oneG G m j) (m := m + 1) n topP
  obtain ⟨X, Y, mX, mY, h0, hs⟩ := part_two hA hi hj hB
  have hX := bestV_ge mX
  have hY := bestV_ge mY
  have hV : wtN (oneG G m j) B n = bestV (oneG G m j) (m + 1) n := hwB
  have h1 : numP G m n j ≤ G i j := by unfold numP; omega
  refine ⟨h1, fun k hk => ?_⟩
  by_cases hg : 0 ≤ G i k
  · obtain ⟨h2, h3⟩ := give_ok (k := k) mX hi h0 hg
    have h4 := bestV_ge h2
    unfold numP
    omega
  · have := num_nonneg (G := G) (m := m) (n := n) k
    omega
theorem idle_b (hA : Mt G m n topP A) (hw : wtN G A n = bestV G m n) {i : Nat} (hi : i < n) (h0 : A i = none) : ∀ k, k < m → G i k ≤ numP G m n k := fun k hk => by
  by_cases hg : 0 ≤ G i k
  · obtain ⟨h2, h3⟩ := give_ok (k := k) hA hi h0 hg
    have h4 := bestV_ge h2
    unfold numP
    omega
  · have := num_nonneg (G := G) (m := m) (n := n) k
    omega
/-- A bidder's number: the greatest of 0 and what it gains by an item, less that item's number. -/
def topN (f : Nat → Int) : Nat → Int
  | 0 => 0
  | m + 1 => max (topN f m) (f m)
theorem top_nonneg (f : Nat → Int) : ∀ m, 0 ≤ topN f m
  | 0 => Int.le_refl _
  | m + 1 => Int.le_trans (top_nonneg f m) (Int.le_max_left _ _)
theorem top_ge {f : Nat → Int} : ∀ {m k : Nat}, k < m → f k ≤ topN f m
  | 0, k, h => absurd h (by omega)
  | m + 1, k, h => by
    rw [topN]
    by_cases e : k = m
    · rw [e]; exact Int.le_max_right _ _
    · exact Int.le_trans (top_ge (show k < m by omega)) (Int.le_max_left _ _)
theorem top_le {f : Nat → Int} {a : Int} (h0 : 0 ≤ a) : ∀ {m : Nat}, (∀ k, k < m → f k ≤ a) → topN f m ≤ a
  | 0, _ => h0
  | m + 1, h => by
    rw [topN]
    exact Int.max_le.2 ⟨top_le h0 fun k hk => h k (by omega), h m (by omega)⟩
def bidP (G : Nat → Nat → Int) (m n i : Nat) : Int := topN (fun k => G i k - numP G m n k) m
theorem bid_at (hA : Mt G m n topP A) (hw : wtN G A n = bestV G m n) {i : Nat} (hi : i < n) : bidP G m n i = gainO (G i) (A i) - gainO (numP G m n) (A i) := by
  cases e : A i with
  | none =>
    simp only [gainO, bidP]
    refine Int.le_antisymm (top_le (by omega) fun k hk => ?_) (top_nonneg _ _)
    have := idle_b hA hw hi e k hk
    omega
  | some j =>
    simp only [gainO, bidP]
    obtain ⟨h1, h2⟩ := along hA hw hi e
    exact Int.le_antisymm (top_le (by omega) h2) (top_ge (f := fun k => G i k - numP G m n k) (hA.ok i hi j e).1)
/-! Without a bidder. -/
def noneG (G : Nat → Nat → Int) (i b c : Nat) : Int := if b = i then -1 else G b c
theorem none_wt {i : Nat} : ∀ {j : Nat}, A i = none → wtN (noneG G i) A j = wtN G A j
  | 0, _ => rfl
  | j + 1, h => by
    rw [wtN, wtN, none_wt h]
    by_cases e : j = i
    · rw [e, h]; rfl
    · congr 1
      cases e2 : A j with
      | none => rfl
      | some d => simp only [gainO, noneG]; rw [if_neg e]
theorem none_ok {i : Nat} (hA : Mt G m n topP A) (h0 : A i = none) : Mt (noneG G i) m n topP A := ⟨hA.inj, fun b hb c e => by
  obtain ⟨h1, _, h2⟩ := hA.ok b hb c e
  refine ⟨h1, rfl, ?_⟩
  rw [noneG, if_neg fun h => by rw [h, h0] at e; cases e]
  exact h2⟩
end
end Go.Proofs.YtdckoaljcklmhaaGreatDoor


namespace Go.Proofs.YtdckoaljcklmhaaGreatDoor
set_option linter.unusedVariables false

section
variable {G G' : Nat → Nat → Int} {m n m' n' : Nat} {A B : Nat → Option Nat}
theorem wt_congr : ∀ {j : Nat}, (∀ b, b < j → ∀ c, A b = some c → G b c = G' b c) → wtN G A j = wtN G' A j
  | 0, _ => rfl
  | j + 1, h => by
    rw [wtN, wtN, wt_congr fun b hb => h b (by omega)]
    congr 1
    cases e : A j with
    | none => rfl
    | some d => exact h j (by omega) d e
/-! Without an item. -/
/-! The more there are, the less one more adds. -/
theorem noneG_ok {i : Nat} (hA : Mt (noneG G i) m n topP A) : Mt G m n topP A ∧ wtN G A n = wtN (noneG G i) A n ∧ (i < n → A i = none) := by
  have hn : ∀ b, b < n → ∀ c, A b = some c → b ≠ i := fun b hb c e hbi => by
    have := (hA.ok b hb c e).2.2
    rw [noneG, if_pos hbi] at this
    omega
  refine ⟨⟨hA.inj, fun b hb c e => ?_⟩, wt_congr fun b hb c e => ?_, fun hi => ?_⟩
  · obtain ⟨h1, h2, h3⟩ := hA.ok b hb c e
    rw [noneG, if_neg (hn b hb c e)] at h3
    exact ⟨h1, h2, h3⟩
  · rw [noneG, if_neg (hn b hb c e)]
  · cases e : A i with
    | none => rfl
    | some c => exact absurd rfl (hn i hi c e)
/-- Two bidders have one further item each, the same. -/
def bothN (B : Nat → Option Nat) (i k z b : Nat) : Option Nat := if b = i ∨ b = k then some z else B b
/-- That one is nothing. -/
def offN (X : Nat → Option Nat) (z b : Nat) : Option Nat := if X b = some z then none else X b
theorem off_wt {z : Nat} {X : Nat → Option Nat} (hz : ∀ b, b < n → G b z = 0) : ∀ {j : Nat}, j ≤ n → wtN G (offN X z) j = wtN G X j
  | 0, _ => rfl
  | j + 1, hj => by
    rw [wtN, wtN, off_wt hz (by omega)]
    congr 1
    unfold offN
    by_cases e : X j = some z
    · rw [if_pos e, e]
      simp only [gainO]
      exact (hz j (by omega)).symm
    · rw [if_neg e]
theorem both_use {i k z c : Nat} (hB : ∀ b, b < n → B b ≠ some z) (hik : i ≠ k) : ∀ {j : Nat}, j ≤ n → useN (bothN B i k z) c j ≤ (if c = z then (if i < j then 1 else 0) + (if k < j then 1 else 0) else useN B c j)
  | 0, _ => by rw [useN]; omega
  | j + 1, hj => by
    have ih := both_use (c := c) hB hik (j := j) (by omega)
    rw [useN]
    by_cases hc : c = z
    · rw [if_pos hc] at ih ⊢
      unfold bothN at ih ⊢
      by_cases h : j = i ∨ j = k
      · rw [if_pos h, if_pos (by rw [hc])]
        rcases h with h | h
        · rw [if_neg (show ¬ i < j by omega)] at ih
          rw [if_pos (show i < j + 1 by omega)]
          by_cases h2 : k < j
          · rw [if_pos h2] at ih; rw [if_pos (by omega)]; omega
          · rw [if_neg h2] at ih; rw [if_neg (by omega)]; omega
        · rw [if_neg (show ¬ k < j by omega)] at ih
          rw [if_pos (show k < j + 1 by omega)]
          by_cases h2 : i < j
          · rw [if_pos h2] at ih; rw [if_pos (by omega)]; omega
          · rw [if_neg h2] at ih; rw [if_neg (by omega)]; omega
      · rw [if_neg h, if_neg (by rw [hc]; exact hB j (by omega))]
        by_cases h1 : i < j
        · rw [if_pos h1] at ih; rw [if_pos (by omega)]
          by_cases h2 : k < j
          · rw [if_pos h2] at ih; rw [if_pos (by omega)]; omega
          · rw [if_neg h2] at ih; rw [if_neg (by omega)]; omega
        · rw [if_neg h1] at ih; rw [if_neg (by omega)]
          by_cases h2 : k < j
          · rw [if_pos h2] at ih; rw [if_pos (by omega)]; omega
          · rw [if_neg h2] at ih; rw [if_neg (by omega)]; omega
    · rw [if_neg hc] at ih ⊢
      rw [useN]
      unfold bothN at ih ⊢
      by_cases h : j = i ∨ j = k
      · rw [if_pos h, if_neg (by simpa using fun h => hc h.symm)]; omega
      · rw [if_neg h]; omega
theorem both_wt {i k z : Nat} (hz : ∀ b, b < n → G b z = 0) (hi : B i = none) (hk : B k = none) : ∀ {j : Nat}, j ≤ n → wtN G (bothN B i k z) j = wtN G B j
  | 0, _ => rfl
  | j + 1, hj => by
    rw [wtN, wtN, both_wt hz hi hk (by omega)]
    congr 1
    unfold bothN
    by_cases h : j = i ∨ j = k
    · rw [if_pos h]
      have : B j = none := by rcases h with h | h <;> (rw [h]; assumption)
      rw [this]
      simp only [gainO]
      exact hz j (by omega)
    · rw [if_neg h]
def zG (G : Nat → Nat → Int) (m b c : Nat) : Int := if c = m then 0 else G b c
theorem fewer {i k : Nat} (hi : i < n) (hk : k < n) (hik : i ≠ k) : bestV G m n + bestV (noneG (noneG G k) i) m n ≤ bestV (noneG G i) m n + bestV (noneG G k) m n := by
  obtain ⟨A, hA, hw⟩ := best_ex (G := G) (m := m) n topP
  obtain ⟨B, hB, hwB⟩ := best_ex (G := noneG (noneG G k) i) (m := m) n topP
  obtain ⟨hB1, hw1, hBi⟩ := noneG_ok hB
  obtain ⟨hB2, hw2, hBk⟩ := noneG_ok hB1
  have hBi := hBi hi
  have hBk := hBk hk
  have hz : ∀ b, b < n → zG G m b m = 0 := fun b _ => if_pos rfl
  have hBz : ∀ b, b < n → B b ≠ some m := fun b hb e => by have := (hB2.ok b hb m e).1; omega
  have hAz : ∀ b, b < n → A b ≠ some m := fun b hb e => by have := (hA.ok b hb m e).1; omega
  obtain ⟨X, Y, hs, hX, hY⟩ := two_parts n A (bothN B i k m) fun c => by
    have h1 := use_one hA.inj c (Nat.le_refl n)
    have h2 := use_one hB2.inj c (Nat.le_refl n)
    have h3 := both_use (c := c) hBz hik (Nat.le_refl n)
    by_cases hc : c = m
    · have h6 : useN A c n = 0 := use_zero fun b hb e => hAz b hb (hc ▸ e)
      rw [if_pos hc, if_pos hi, if_pos hk] at h3
      omega
    · rw [if_neg hc] at h3
      omega
  obtain ⟨oX, oY⟩ := swap_ok (Q := fun b c => c = m ∨ c < m ∧ 0 ≤ G b c) hs (fun b hb c e => .inr ⟨(hA.ok b hb c e).1, (hA.ok b hb c e).2.2⟩) (fun b hb c e => by
    unfold bothN at e
    by_cases h : b = i ∨ b = k
    · rw [if_pos h] at e; cases e; exact .inl rfl
    · rw [if_neg h] at e; exact .inr ⟨(hB2.ok b hb c e).1, (hB2.ok b hb c e).2.2⟩)
  have off : ∀ {Z : Nat → Option Nat}, InjN n Z → (∀ b, b < n → ∀ c, Z b = some c → c = m ∨ c < m ∧ 0 ≤ G b c) → Mt G m n topP (offN Z m) := fun {Z} hZ oZ => by
    refine ⟨fun b b' c hb hb' e1 e2 => ?_, fun b hb c e => ?_⟩
    · unfold offN at e1 e2
      split at e1
      · cases e1
      · split at e2
        · cases e2
        · exact hZ b b' c hb hb' e1 e2
    · unfold offN at e
      split at e
      · cases e
      · rename_i hne
        rcases oZ b hb c e with h | h
        · rw [h] at e; exact absurd e hne
        · exact ⟨h.1, rfl, h.2⟩
  have mX := off hX oX
  have mY := off hY oY
  have hoz : ∀ {Z : Nat → Option Nat}, wtN (zG G m) (offN Z m) n = wtN G (offN Z m) n := fun {Z} => wt_congr fun b hb c e => by
    unfold offN at e
    split at e
    · cases e
    · rename_i hne
      rw [zG, if_neg (show ¬ c = m from fun h => hne (by rw [h] at e; exact e))]
  have hws := swap_wt (G := zG G m) hs
  rw [both_wt hz hBi hBk (Nat.le_refl n), ← off_wt (X := X) hz (Nat.le_refl n), ← off_wt (X := Y) hz (Nat.le_refl n), hoz, hoz,
    wt_congr (G := zG G m) (G' := G) (A := A) (fun b hb c e => by rw [zG, if_neg (show ¬ c = m from fun h => hAz b hb (by rw [h] at e; exact e))]),
    wt_congr (G := zG G m) (G' := G) (A := B) (fun b hb c e => by rw [zG, if_neg (show ¬ c = m from fun h => hBz b hb (by rw [h] at e; exact e))])] at hws
  have hV : wtN G A n = bestV G m n := hw
  have hV2 : wtN (noneG (noneG G k) i) B n = bestV (noneG (noneG G k) i) m n := hwB
  have bi : bothN B i k m i = some m := if_pos (.inl rfl)
  have bk : bothN B i k m k = some m := if_pos (.inr rfl)
  have toff : ∀ {Z : Nat → Option Nat} {b : Nat}, Z b = some m → offN Z m b = none := fun {Z b} e => if_pos e
  -- these two have it in different ones
  have hd : (X i = some m ∧ Y k = some m) ∨ (Y i = some m ∧ X k = some m) := by
    rcases hs i hi with ⟨h1, h2⟩ | ⟨h1, h2⟩
    · rcases hs k hk with ⟨h3, h4⟩ | ⟨h3, h4⟩
      · exact absurd (hY i k m hi hk (h2.trans bi) (h4.trans bk)) hik
      · exact .inr ⟨h2.trans bi, h3.trans bk⟩
    · rcases hs k hk with ⟨h3, h4⟩ | ⟨h3, h4⟩
      · exact .inl ⟨h1.trans bi, h4.trans bk⟩
      · exact absurd (hX i k m hi hk (h1.trans bi) (h3.trans bk)) hik
  rcases hd with ⟨h1, h2⟩ | ⟨h1, h2⟩
  · have q1 := bestV_ge (none_ok mX (toff h1))
    have q2 := bestV_ge (none_ok mY (toff h2))
    rw [none_wt (toff h1)] at q1
    rw [none_wt (toff h2)] at q2
    omega
  · have q1 := bestV_ge (none_ok mY (toff h1))
    have q2 := bestV_ge (none_ok mX (toff h2))
    rw [none_wt (toff h1)] at q1
    rw [none_wt (toff h2)] at q2
    omega
/-! One bidder more. -/
/-! Where one gains more by one item. -/
/-! As often as great. -/
end
end Go.Proofs.YtdckoaljcklmhaaGreatDoor


namespace Go.Proofs.YtdckoaljcklmhaaGreatDoor
set_option linter.unusedVariables false

section
variable {G G' : Nat → Nat → Int} {m n : Nat}
variable {r s : Nat}
/-! Idle ones. -/
end
end Go.Proofs.YtdckoaljcklmhaaGreatDoor


namespace Go.Proofs.YtdckoaljcklmhaaGreatDoor
open Go.RowKit
set_option linter.unusedVariables false

def gG (g : List (List Int)) (b c : Nat) : Int := (g.getD b []).getD c 0
end Go.Proofs.YtdckoaljcklmhaaGreatDoor


namespace Go.Proofs.YtdckoaljcklmhaaGreatDoor
set_option linter.unusedVariables false

theorem gG_at {g : List (List Int)} {b c : Nat} {l : List Int} (hb : g[b]? = some l) : gG g b c = l.getD c 0 := by
  rw [gG, List.getD_eq_getElem?_getD (l := g), hb]; rfl
theorem top_congr {f f' : Nat → Int} : ∀ {m : Nat}, (∀ k, k < m → f k = f' k) → topN f m = topN f' m
  | 0, _ => rfl
  | m + 1, h => by rw [topN, topN, top_congr fun k hk => h k (by omega), h m (by omega)]
section
variable {G G' : Nat → Nat → Int} {m n : Nat}
end
section
variable {g : List (List Int)} {m : Nat} {G : Nat → Nat → Int}
end
end Go.Proofs.YtdckoaljcklmhaaGreatDoor

