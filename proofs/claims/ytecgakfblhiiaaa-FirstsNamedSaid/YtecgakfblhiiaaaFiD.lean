/-
  Layer 11: the first of the best: bidder by bidder, by an order, the least item with which what is left makes up the most.
-/
import Derived.Test.YtecgakfblhiiaaaWeI
namespace Go.Proofs.Ytecgakfblhiiaaa
set_option linter.unusedVariables false

section
variable {G G' : Nat → Nat → Int} {m n : Nat} {A A' : Nat → Option Nat}
/-- One has another item. -/
def setN (A : Nat → Option Nat) (w : Nat) (v : Option Nat) (b : Nat) : Option Nat := if b = w then v else A b
theorem setN_eq (A : Nat → Option Nat) (w : Nat) (v : Option Nat) : setN A w v w = v := if_pos rfl
theorem setN_ne {w b : Nat} {v : Option Nat} (h : b ≠ w) : setN A w v b = A b := if_neg h
theorem wt_set {w : Nat} {v : Option Nat} : ∀ {j : Nat}, wtN G (setN A w v) j = wtN G A j + if w < j then gainO (G w) v - gainO (G w) (A w) else 0
  | 0 => by rw [wtN, wtN, if_neg (by omega)]; rfl
  | j + 1 => by
    rw [wtN, wtN, wt_set]
    by_cases e : j = w
    · subst e
      rw [setN_eq, if_neg (by omega), if_pos (by omega)]; omega
    · rw [setN_ne e]
      by_cases h : w < j
      · rw [if_pos h, if_pos (by omega)]; omega
      · rw [if_neg h, if_neg (by omega)]; omega
theorem Mt.setNone {w : Nat} (h : Mt G m n topP A) : Mt G m n topP (setN A w none) := ⟨fun b b' c hb hb' e e' => by
    by_cases h1 : b = w
    · rw [h1, setN_eq] at e; cases e
    · by_cases h2 : b' = w
      · rw [h2, setN_eq] at e'; cases e'
      · rw [setN_ne h1] at e; rw [setN_ne h2] at e'; exact h.inj b b' c hb hb' e e',
  fun b hb c e => by
    by_cases h1 : b = w
    · rw [h1, setN_eq] at e; cases e
    · rw [setN_ne h1] at e; exact h.ok b hb c e⟩
theorem Mt.setSome {w k : Nat} (h : Mt G m n topP A) (hk : k < m) (hg : 0 ≤ G w k) (hno : ∀ b, b < n → b ≠ w → A b ≠ some k) : Mt G m n topP (setN A w (some k)) := ⟨fun b b' c hb hb' e e' => by
    by_cases h1 : b = w
    · rw [h1, setN_eq] at e
      cases e
      by_cases h2 : b' = w
      · omega
      · rw [setN_ne h2] at e'; exact absurd e' (hno b' hb' h2)
    · rw [setN_ne h1] at e
      by_cases h2 : b' = w
      · rw [h2, setN_eq] at e'
        cases e'
        exact absurd e (hno b hb h1)
      · rw [setN_ne h2] at e'; exact h.inj b b' c hb hb' e e',
  fun b hb c e => by
    by_cases h1 : b = w
    · rw [h1, setN_eq] at e
      cases e
      rw [h1]; exact ⟨hk, rfl, hg⟩
    · rw [setN_ne h1] at e; exact h.ok b hb c e⟩
theorem noneC_in {k : Nat} (h : Mt G m n topP A) (hno : ∀ b, b < n → A b ≠ some k) : Mt (noneC G k) m n topP A ∧ wtN (noneC G k) A n = wtN G A n := by
  have he : ∀ b, b < n → ∀ c, A b = some c → noneC G k b c = G b c := fun b hb c e => by
    rw [noneC, if_neg (fun hc => hno b hb (by rw [← hc]; exact e))]
  exact ⟨⟨h.inj, fun b hb c e => by rw [he b hb c e]; exact h.ok b hb c e⟩, wt_congr he⟩
/-- Without one bidder, and without an item. -/
def goneG (G : Nat → Nat → Int) (w k : Nat) : Nat → Nat → Int := noneC (noneG G w) k
theorem gone_in {w k : Nat} (h : Mt G m n topP A) (hw : w < n) (e : A w = some k) : Mt (goneG G w k) m n topP (setN A w none) ∧ wtN (goneG G w k) (setN A w none) n + G w k = wtN G A n := by
  have h1 := h.setNone (w := w)
  have h2 : Mt (noneG G w) m n topP (setN A w none) := none_ok h1 (setN_eq _ _ _)
  obtain ⟨h3, h4⟩ := noneC_in (k := k) h2 fun b hb e2 => by
    by_cases hb2 : b = w
    · rw [hb2, setN_eq] at e2; cases e2
    · rw [setN_ne hb2] at e2
      exact hb2 (h.inj b w k hb hw e2 e)
  refine ⟨h3, ?_⟩
  rw [goneG, h4, none_wt (setN_eq _ _ _), wt_set, if_pos hw, e]
  simp only [gainO]; omega
theorem gone_out {w k : Nat} (h : Mt (goneG G w k) m n topP A) (hw : w < n) (hk : k < m) (hg : 0 ≤ G w k) : Mt G m n topP (setN A w (some k)) ∧ wtN G (setN A w (some k)) n = wtN (goneG G w k) A n + G w k := by
  obtain ⟨h1, h2, h3⟩ := noneC_ok h
  obtain ⟨h4, h5, h6⟩ := noneG_ok h1
  refine ⟨h4.setSome hk hg fun b hb _ => h3 b hb, ?_⟩
  rw [wt_set, if_pos hw, h6 hw, goneG, ← h2, ← h5]
  simp only [gainO]; omega
theorem gone_best {w k : Nat} (hw : w < n) (hk : k < m) (hg : 0 ≤ G w k) : G w k + bestV (goneG G w k) m n ≤ bestV G m n := by
  obtain ⟨A, hA, hwt⟩ := best_ex (G := goneG G w k) (m := m) n topP
  have hwt : wtN (goneG G w k) A n = bestV (goneG G w k) m n := hwt
  obtain ⟨h1, h2⟩ := gone_out hA hw hk hg
  have := bestV_ge h1
  omega

/-- The least item with which what is left makes up the most. -/
def pickF (G : Nat → Nat → Int) (m n w : Nat) : Option Nat := (List.range m).find? fun k => decide (0 ≤ G w k) && decide (G w k + bestV (goneG G w k) m n = bestV G m n)
theorem find_range {p : Nat → Bool} : ∀ {m k : Nat}, (List.range m).find? p = some k ↔ k < m ∧ p k = true ∧ ∀ j, j < k → p j = false
  | 0, k => by simp
  | m + 1, k => by
    rw [List.range_succ, List.find?_append]
    cases e : (List.range m).find? p with
    | some j =>
      obtain ⟨h1, h2, h3⟩ := find_range.1 e
      rw [Option.some_or, Option.some.injEq]
      refine ⟨fun h => by subst h; exact ⟨by omega, h2, h3⟩, fun ⟨h4, h5, h6⟩ => ?_⟩
      rcases Nat.lt_trichotomy j k with h | h | h
      · rw [h6 j h] at h2; cases h2
      · exact h
      · rw [h3 k h] at h5; cases h5
    | none =>
      have hn : ∀ j, j < m → p j = false := fun j hj => by
        have := List.find?_eq_none.1 e j (List.mem_range.2 hj)
        simpa using this
      rw [Option.none_or, List.find?_singleton]
      by_cases hp : p m = true
      · rw [if_pos hp, Option.some.injEq]
        refine ⟨fun h => by subst h; exact ⟨by omega, hp, hn⟩, fun ⟨h4, h5, h6⟩ => ?_⟩
        by_cases hk : k < m
        · rw [hn k hk] at h5; cases h5
        · omega
      · rw [if_neg hp]
        refine ⟨fun h => (nomatch h), fun ⟨h4, h5, h6⟩ => ?_⟩
        by_cases hk : k < m
        · rw [hn k hk] at h5; cases h5
        · obtain rfl : k = m := by omega
          exact absurd h5 hp
theorem find_range_none {p : Nat → Bool} {m : Nat} : (List.range m).find? p = none ↔ ∀ j, j < m → p j = false := by
  rw [List.find?_eq_none]
  simp
theorem pick_some {w k : Nat} (h : pickF G m n w = some k) : k < m ∧ 0 ≤ G w k ∧ G w k + bestV (goneG G w k) m n = bestV G m n ∧ ∀ j, j < k → 0 ≤ G w j → G w j + bestV (goneG G w j) m n ≠ bestV G m n := by
  obtain ⟨h1, h2, h3⟩ := find_range.1 h
  rw [Bool.and_eq_true, decide_eq_true_eq, decide_eq_true_eq] at h2
  refine ⟨h1, h2.1, h2.2, fun j hj hg he => ?_⟩
  have := h3 j hj
  rw [decide_eq_true hg, decide_eq_true he] at this
  cases this
theorem pick_none {w : Nat} (h : pickF G m n w = none) {j : Nat} (hj : j < m) (hg : 0 ≤ G w j) : G w j + bestV (goneG G w j) m n ≠ bestV G m n := fun he => by
  have := find_range_none.1 h j hj
  rw [decide_eq_true hg, decide_eq_true he] at this
  cases this
/-- Whoever has an item in any of the best has one with which what is left makes up the most. -/
theorem best_makes {w k : Nat} (hA : Mt G m n topP A) (hwt : wtN G A n = bestV G m n) (hw : w < n) (e : A w = some k) : k < m ∧ 0 ≤ G w k ∧ G w k + bestV (goneG G w k) m n = bestV G m n ∧ Mt (goneG G w k) m n topP (setN A w none) ∧ wtN (goneG G w k) (setN A w none) n = bestV (goneG G w k) m n := by
  obtain ⟨h1, _, h2⟩ := hA.ok w hw k e
  obtain ⟨h3, h4⟩ := gone_in hA hw e
  have h5 := bestV_ge h3
  have h6 := gone_best hw h1 h2
  exact ⟨h1, h2, by omega, h3, by omega⟩
theorem pick_none_has {w : Nat} (h : pickF G m n w = none) (hA : Mt G m n topP A) (hwt : wtN G A n = bestV G m n) (hw : w < n) : A w = none := by
  cases e : A w with
  | none => rfl
  | some k =>
    obtain ⟨h1, h2, h3, _⟩ := best_makes hA hwt hw e
    exact absurd h3 (pick_none h h1 h2)
theorem pick_none_best {w : Nat} (h : pickF G m n w = none) (hw : w < n) : bestV (noneG G w) m n = bestV G m n := by
  obtain ⟨A, hA, hwt⟩ := best_ex (G := G) (m := m) n topP
  have hwt : wtN G A n = bestV G m n := hwt
  have h0 := pick_none_has h hA hwt hw
  have h1 := bestV_ge (none_ok hA h0)
  rw [none_wt h0] at h1
  obtain ⟨A2, hA2, hwt2⟩ := best_ex (G := noneG G w) (m := m) n topP
  have hwt2 : wtN (noneG G w) A2 n = bestV (noneG G w) m n := hwt2
  obtain ⟨h2, h3, _⟩ := noneG_ok hA2
  have := bestV_ge h2
  omega
end

/-- The first of the best, by an order. -/
def firstF (G : Nat → Nat → Int) (m n : Nat) : List Nat → Nat → Option Nat
  | [], _ => none
  | w :: l, b => match pickF G m n w with
    | some k => if b = w then some k else firstF (goneG G w k) m n l b
    | none => if b = w then none else firstF (noneG G w) m n l b
/-- One stands ahead of another. -/
def Before : Option Nat → Option Nat → Prop
  | some k, some j => k < j
  | some _, none => True
  | none, _ => False
structure FirstOf (G : Nat → Nat → Int) (m n : Nat) (l : List Nat) (A : Nat → Option Nat) : Prop where
  mt : Mt G m n topP A
  wt : wtN G A n = bestV G m n
  first : ∀ A', Mt G m n topP A' → wtN G A' n = bestV G m n → ∀ j (hj : j < l.length), (∀ i (hi : i < j), A (l[i]'(by omega)) = A' (l[i]'(by omega))) → A l[j] ≠ A' l[j] → Before (A l[j]) (A' l[j])
section
variable {G G' : Nat → Nat → Int} {m n : Nat} {A A' : Nat → Option Nat}
theorem neg_none (hneg : ∀ b, b < n → ∀ c, c < m → G b c < 0) (hA : Mt G m n topP A) {b : Nat} (hb : b < n) : A b = none := by
  cases e : A b with
  | none => rfl
  | some c =>
    obtain ⟨h1, _, h2⟩ := hA.ok b hb c e
    have := hneg b hb c h1
    omega
theorem wt_same : ∀ {j : Nat}, (∀ b, b < j → A b = A' b) → wtN G A j = wtN G A' j
  | 0, _ => rfl
  | j + 1, h => by rw [wtN, wtN, wt_same fun b hb => h b (by omega), h j (by omega)]
theorem first_cons_some {w k : Nat} {l : List Nat} (h : pickF G m n w = some k) : firstF G m n (w :: l) = setN (firstF (goneG G w k) m n l) w (some k) := by
  funext b
  rw [firstF, h]; rfl
theorem first_cons_none {w : Nat} {l : List Nat} (h : pickF G m n w = none) : firstF G m n (w :: l) = setN (firstF (noneG G w) m n l) w none := by
  funext b
  rw [firstF, h]; rfl
theorem firstF_spec : ∀ (l : List Nat) (G : Nat → Nat → Int), l.Nodup → (∀ b ∈ l, b < n) → (∀ b, b < n → b ∉ l → ∀ c, c < m → G b c < 0) → FirstOf G m n l (firstF G m n l)
  | [], G, _, _, hneg => by
    have hneg' : ∀ b, b < n → ∀ c, c < m → G b c < 0 := fun b hb => hneg b hb (by simp)
    refine ⟨⟨fun b b' c _ _ e => (nomatch e), fun b _ c e => (nomatch e)⟩, ?_, fun _ _ _ j hj => absurd hj (by simp)⟩
    obtain ⟨A, hA, hwt⟩ := best_ex (G := G) (m := m) n topP
    have hwt : wtN G A n = bestV G m n := hwt
    rw [← hwt]
    exact wt_same fun b hb => (neg_none hneg' hA hb).symm
  | w :: l, G, hnd, hlt, hneg => by
    have hw : w < n := hlt w (by simp)
    obtain ⟨hwl, hnd'⟩ := List.nodup_cons.1 hnd
    cases hp : pickF G m n w with
    | some k =>
      obtain ⟨h1, h2, h3, h4⟩ := pick_some hp
      obtain ⟨i1, i2, i3⟩ := firstF_spec l (goneG G w k) hnd' (fun b hb => hlt b (by simp [hb])) fun b hb hbl c hc => by
        rw [goneG, noneC]
        by_cases e : c = k
        · rw [if_pos e]; omega
        · rw [if_neg e, noneG]
          by_cases e2 : b = w
          · rw [if_pos e2]; omega
          · rw [if_neg e2]; exact hneg b hb (by simp [e2, hbl]) c hc
      obtain ⟨o1, o2⟩ := gone_out i1 hw h1 h2
      rw [first_cons_some hp]
      refine ⟨o1, by rw [o2, i2]; omega, fun A2 hA2 hwt2 j hj hsame hne => ?_⟩
      match j, hj, hsame, hne with
      | 0, _, _, hne =>
        simp only [List.getElem_cons_zero, setN_eq] at hne ⊢
        cases e : A2 w with
        | none => exact trivial
        | some k2 =>
          obtain ⟨q1, q2, q3, _⟩ := best_makes hA2 hwt2 hw e
          show k < k2
          rcases Nat.lt_trichotomy k k2 with h | h | h
          · exact h
          · exact absurd (by rw [e, h]) hne
          · exact absurd q3 (h4 k2 h q2)
      | j + 1, hj, hsame, hne =>
        have h0 := hsame 0 (by omega)
        simp only [List.getElem_cons_zero, setN_eq] at h0
        obtain ⟨q1, q2, q3, q4, q5⟩ := best_makes hA2 hwt2 hw h0.symm
        have hlj : ∀ i (hi : i < l.length), l[i] ≠ w := fun i hi e => hwl (by rw [← e]; exact List.getElem_mem hi)
        have hjl : j < l.length := by simpa using hj
        have := i3 _ q4 q5 j hjl (fun i hi => by
          have h5 := hsame (i + 1) (by omega)
          simp only [List.getElem_cons_succ] at h5
          rw [setN_ne (hlj i (by omega))] at h5
          rw [setN_ne (hlj i (by omega))]; exact h5)
        simp only [List.getElem_cons_succ] at hne ⊢
        rw [setN_ne (hlj j hjl)] at this hne ⊢
        exact this hne
    | none =>
      have hb := pick_none_best hp hw
      obtain ⟨i1, i2, i3⟩ := firstF_spec l (noneG G w) hnd' (fun b hb => hlt b (by simp [hb])) fun b hb hbl c hc => by
        rw [noneG]
        by_cases e2 : b = w
        · rw [if_pos e2]; omega
        · rw [if_neg e2]; exact hneg b hb (by simp [e2, hbl]) c hc
      obtain ⟨o1, o2, o3⟩ := noneG_ok i1
      have he : setN (firstF (noneG G w) m n l) w none = firstF (noneG G w) m n l := by
        funext b
        by_cases e : b = w
        · rw [e, setN_eq, o3 hw]
        · rw [setN_ne e]
      rw [first_cons_none hp, he]
      refine ⟨o1, by rw [o2, i2, hb], fun A2 hA2 hwt2 j hj hsame hne => ?_⟩
      have h0 := pick_none_has hp hA2 hwt2 hw
      match j, hj, hsame, hne with
      | 0, _, _, hne =>
        simp only [List.getElem_cons_zero] at hne
        rw [o3 hw, h0] at hne
        exact absurd rfl hne
      | j + 1, hj, hsame, hne =>
        have hjl : j < l.length := by simpa using hj
        have := i3 A2 (none_ok hA2 h0) (by rw [none_wt h0, hwt2, hb]) j hjl (fun i hi => by
          have h5 := hsame (i + 1) (by omega)
          simp only [List.getElem_cons_succ] at h5
          exact h5)
        simp only [List.getElem_cons_succ] at hne ⊢
        exact this hne
/-- Who gains by nothing has nothing, wherever it stands. -/
theorem pick_neg {w : Nat} (h : ∀ c, c < m → G w c < 0) : pickF G m n w = none := find_range_none.2 fun j hj => by
  rw [decide_eq_false (by have := h j hj; omega)]; rfl
theorem first_neg : ∀ (l : List Nat) (G : Nat → Nat → Int) {w : Nat}, (∀ c, c < m → G w c < 0) → firstF G m n l w = none
  | [], _, _, _ => rfl
  | u :: l, G, w, h => by
    cases hp : pickF G m n u with
    | some k =>
      rw [first_cons_some hp]
      by_cases e : w = u
      · subst e; rw [pick_neg h] at hp; cases hp
      · rw [setN_ne e]
        refine first_neg l _ fun c hc => ?_
        rw [goneG, noneC]
        by_cases e2 : c = k
        · rw [if_pos e2]; omega
        · rw [if_neg e2, noneG, if_neg e]; exact h c hc
    | none =>
      rw [first_cons_none hp]
      by_cases e : w = u
      · rw [e, setN_eq]
      · rw [setN_ne e]
        refine first_neg l _ fun c hc => ?_
        rw [noneG, if_neg e]; exact h c hc

/-! Of others that are as these: which items who may have at no loss, and how much the best gain. -/
/-- As often as great, bidders named otherwise, further items and bidders by which nobody gains. -/
theorem first_sim {R : (Nat → Nat → Int) → (Nat → Nat → Int) → Prop} {f : Int} {ρ : Nat → Nat} {m2 n2 : Nat} (hf : 0 < f) (hm : m ≤ m2)
    (hbest : ∀ G G2, R G G2 → bestV G2 m2 n2 = f * bestV G m n)
    (hg : ∀ G G2 w c, R G G2 → w < n → c < m → (0 ≤ G2 (ρ w) c ↔ 0 ≤ G w c) ∧ (0 ≤ G w c → G2 (ρ w) c = f * G w c))
    (hout : ∀ G G2 w c, R G G2 → w < n → m ≤ c → c < m2 → G2 (ρ w) c < 0)
    (hN : ∀ G G2 w, R G G2 → w < n → R (noneG G w) (noneG G2 (ρ w)))
    (hC : ∀ G G2 w k, R G G2 → w < n → k < m → R (goneG G w k) (goneG G2 (ρ w) k))
    (hinj : ∀ b b', b < n → b' < n → ρ b = ρ b' → b = b') :
    ∀ (l : List Nat) (G G2 : Nat → Nat → Int), R G G2 → (∀ b ∈ l, b < n) → ∀ b, b < n → firstF G2 m2 n2 (l.map ρ) (ρ b) = firstF G m n l b
  | [], _, _, _, _, _, _ => rfl
  | w :: l, G, G2, hR, hl, b, hb => by
    have hw : w < n := hl w (by simp)
    have hpk : pickF G2 m2 n2 (ρ w) = pickF G m n w := by
      have hcond : ∀ j, j < m → (decide (0 ≤ G2 (ρ w) j) && decide (G2 (ρ w) j + bestV (goneG G2 (ρ w) j) m2 n2 = bestV G2 m2 n2)) = (decide (0 ≤ G w j) && decide (G w j + bestV (goneG G w j) m n = bestV G m n)) := fun j hj => by
        obtain ⟨h1, h2⟩ := hg G G2 w j hR hw hj
        by_cases h0 : 0 ≤ G w j
        · rw [decide_eq_true h0, decide_eq_true (h1.2 h0), h2 h0, hbest _ _ hR, hbest _ _ (hC _ _ _ j hR hw hj), ← Int.mul_add]
          congr 1
          rw [decide_eq_decide]
          exact ⟨fun h => Int.eq_of_mul_eq_mul_left (by omega) h, fun h => by rw [h]⟩
        · rw [decide_eq_false h0, decide_eq_false (fun h => h0 (h1.1 h))]; rfl
      cases hp : pickF G m n w with
      | some k =>
        obtain ⟨h1, h2, h3⟩ := find_range.1 hp
        exact find_range.2 ⟨by omega, by rw [hcond k h1]; exact h2, fun j hj => by rw [hcond j (by omega)]; exact h3 j hj⟩
      | none =>
        refine find_range_none.2 fun j hj => ?_
        by_cases hjm : j < m
        · rw [hcond j hjm]; exact find_range_none.1 hp j hjm
        · rw [decide_eq_false (by have := hout G G2 w j hR hw (by omega) hj; omega)]; rfl
    rw [List.map_cons]
    cases hp : pickF G m n w with
    | some k =>
      have hkm := (pick_some hp).1
      rw [first_cons_some hp, first_cons_some (hpk.trans hp)]
      by_cases e : b = w
      · subst e; rw [setN_eq, setN_eq]
      · rw [setN_ne e, setN_ne (fun h => e (hinj _ _ hb hw h))]
        exact first_sim hf hm hbest hg hout hN hC hinj l _ _ (hC _ _ _ k hR hw hkm) (fun b hb => hl b (by simp [hb])) b hb
    | none =>
      rw [first_cons_none hp, first_cons_none (hpk.trans hp)]
      by_cases e : b = w
      · subst e; rw [setN_eq, setN_eq]
      · rw [setN_ne e, setN_ne (fun h => e (hinj _ _ hb hw h))]
        exact first_sim hf hm hbest hg hout hN hC hinj l _ _ (hN _ _ _ hR hw) (fun b hb => hl b (by simp [hb])) b hb
/-- As they are, where either is no loss. -/
def SimR (m n : Nat) (G G2 : Nat → Nat → Int) : Prop := ∀ b c, b < n → c < m → (0 ≤ G b c ∨ 0 ≤ G2 b c) → G b c = G2 b c
theorem SimR.none {w : Nat} (h : SimR m n G G') : SimR m n (noneG G w) (noneG G' w) := fun b c hb hc h0 => by
  unfold noneG at h0 ⊢
  by_cases e : b = w
  · rw [if_pos e, if_pos e]
  · rw [if_neg e, if_neg e] at h0 ⊢; exact h b c hb hc h0
theorem SimR.gone {w k : Nat} (h : SimR m n G G') : SimR m n (goneG G w k) (goneG G' w k) := fun b c hb hc h0 => by
  unfold goneG noneC at h0 ⊢
  by_cases e : c = k
  · rw [if_pos e, if_pos e]
  · rw [if_neg e, if_neg e] at h0 ⊢; exact h.none b c hb hc h0
theorem first_congr {l : List Nat} (h : SimR m n G G') (hl : ∀ b ∈ l, b < n) {b : Nat} (hb : b < n) : firstF G' m n l b = firstF G m n l b := by
  have := first_sim (R := SimR m n) (f := 1) (ρ := id) (m := m) (n := n) (m2 := m) (n2 := n) (by omega) (Nat.le_refl _) (fun G G2 hR => by rw [Int.one_mul]; exact (best_congr hR).symm)
    (fun G G2 w c hR hw hc => ⟨⟨fun h => by have := hR w c hw hc (.inr h); simp only [id] at h ⊢; omega, fun h => by have := hR w c hw hc (.inl h); simp only [id]; omega⟩, fun h => by have := hR w c hw hc (.inl h); simp only [id]; omega⟩)
    (fun G G2 w c _ _ h1 h2 => absurd h2 (by omega)) (fun G G2 w hR _ => hR.none) (fun G G2 w k hR _ _ => hR.gone) (fun b b' _ _ h => h) l G G' h hl b hb
  rw [List.map_id] at this
  exact this
/-- One that gains by nothing, put into the order, changes nothing. -/
theorem first_put {w : Nat} : ∀ (l l2 : List Nat) (G : Nat → Nat → Int), (∀ c, c < m → G w c < 0) → (∀ b ∈ l ++ l2, b < n) → ∀ b, b < n → b ≠ w → firstF G m n (l ++ w :: l2) b = firstF G m n (l ++ l2) b
  | [], l2, G, h, hl, b, hb, hbw => by
    rw [List.nil_append, List.nil_append, first_cons_none (pick_neg h), setN_ne hbw]
    refine first_congr (fun b c hb hc h0 => ?_) hl hb
    rw [noneG]
    by_cases e : b = w
    · rw [if_pos e]
      rw [noneG, if_pos e, e] at h0
      have := h c hc
      omega
    · rw [if_neg e]
  | u :: l, l2, G, h, hl, b, hb, hbw => by
    rw [List.cons_append, List.cons_append]
    cases hp : pickF G m n u with
    | some k =>
      rw [first_cons_some hp, first_cons_some hp]
      by_cases e : b = u
      · rw [e, setN_eq, setN_eq]
      · rw [setN_ne e, setN_ne e]
        refine first_put l l2 _ (fun c hc => ?_) (fun b hb => hl b (by simp at hb ⊢; exact .inr hb)) b hb hbw
        rw [goneG, noneC]
        by_cases e2 : c = k
        · rw [if_pos e2]; omega
        · rw [if_neg e2, noneG]
          by_cases e3 : w = u
          · rw [if_pos e3]; omega
          · rw [if_neg e3]; exact h c hc
    | none =>
      rw [first_cons_none hp, first_cons_none hp]
      by_cases e : b = u
      · rw [e, setN_eq, setN_eq]
      · rw [setN_ne e, setN_ne e]
        refine first_put l l2 _ (fun c hc => ?_) (fun b hb => hl b (by simp at hb ⊢; exact .inr hb)) b hb hbw
        rw [noneG]
        by_cases e3 : w = u
        · rw [if_pos e3]; omega
        · rw [if_neg e3]; exact h c hc
end
end Go.Proofs.Ytecgakfblhiiaaa
