/-
  The first of the best, told by what those behind a place gain of the items of a set.
-/
import Derived.Test.YtecgakfblhiiaaaDoorWeI
import Derived.Test.YtecgakfblhiiaaaDoorWeO
import Derived.Test.YtecgakfblhiiaaaDoorMarkO
import Derived.Test.YtecgakfblhiiaaaDoorWeW
namespace Go.Proofs.YtecgakfblhiiaaaDoor
set_option linter.unusedVariables false

section
variable {G G' : Nat → Nat → Int} {m n : Nat} {A A' : Nat → Option Nat}
/-- One has another item. -/
def setN (A : Nat → Option Nat) (w : Nat) (v : Option Nat) (b : Nat) : Option Nat := if b = w then v else A b
theorem setN_eq (A : Nat → Option Nat) (w : Nat) (v : Option Nat) : setN A w v w = v := if_pos rfl
theorem setN_ne {w b : Nat} {v : Option Nat} (h : b ≠ w) : setN A w v b = A b := if_neg h
theorem wt_set {w : Nat} {v : Option Nat} : ∀ {j : Nat}, wtN G (setN A w v) j = wtN G A j + if w < j then gainO (G w) v - gainO (G w) (A w) else 0
  | 0 => by rw [wtN, wtN, if_neg (by omega)]; rfl
  | j + 1 => by
    rw [wtN, wtN, wt_set]
    by_cases e : j = w
    · subst e
      rw [setN_eq, if_neg (by omega), if_pos (by omega)]; omega
    · rw [setN_ne e]
      by_cases h : w < j
      · rw [if_pos h, if_pos (by omega)]; omega
      · rw [if_neg h, if_neg (by omega)]; omega
theorem Mt.setNone {w : Nat} (h : Mt G m n topP A) : Mt G m n topP (setN A w none) := ⟨fun b b' c hb hb' e e' => by
    by_cases h1 : b = w
    · rw [h1, setN_eq] at e; cases e
    · by_cases h2 : b' = w
      · rw [h2, setN_eq] at e'; cases e'
      · rw [setN_ne h1] at e; rw [setN_ne h2] at e'; exact h.inj b b' c hb hb' e e',
  fun b hb c e => by
    by_cases h1 : b = w
    · rw [h1, setN_eq] at e; cases e
    · rw [setN_ne h1] at e; exact h.ok b hb c e⟩
theorem Mt.setSome {w k : Nat} (h : Mt G m n topP A) (hk : k < m) (hg : 0 ≤ G w k) (hno : ∀ b, b < n → b ≠ w → A b ≠ some k) : Mt G m n topP (setN A w (some k)) := ⟨fun b b' c hb hb' e e' => by
    by_cases h1 : b = w
    · rw [h1, setN_eq] at e
      cases e
      by_cases h2 : b' = w
      · omega
      · rw [setN_ne h2] at e'; exact absurd e' (hno b' hb' h2)
    · rw [setN_ne h1] at e
      by_cases h2 : b' = w
      · rw [h2, setN_eq] at e'
        cases e'
        exact absurd e (hno b hb h1)
      · rw [setN_ne h2] at e'; exact h.inj b b' c hb hb' e e',
  fun b hb c e => by
    by_cases h1 : b = w
    · rw [h1, setN_eq] at e
      cases e
      rw [h1]; exact ⟨hk, rfl, hg⟩
    · rw [setN_ne h1] at e; exact h.ok b hb c e⟩
theorem noneC_in {k : Nat} (h : Mt G m n topP A) (hno : ∀ b, b < n → A b ≠ some k) : Mt (noneC G k) m n topP A ∧ wtN (noneC G k) A n = wtN G A n := by
  have he : ∀ b, b < n → ∀ c, A b = some c → noneC G k b c = G b c := fun b hb c e => by
    rw [noneC, if_neg (fun hc => hno b hb (by rw [← hc]; exact e))]
  exact ⟨⟨h.inj, fun b hb c e => by rw [he b hb c e]; exact h.ok b hb c e⟩, wt_congr he⟩
/-- Without one bidder, and without an item. -/
def goneG (G : Nat → Nat → Int) (w k : Nat) : Nat → Nat → Int := noneC (noneG G w) k
theorem gone_in {w k : Nat} (h : Mt G m n topP A) (hw : w < n) (e : A w = some k) : Mt (goneG G w k) m n topP (setN A w none) ∧ wtN (goneG G w k) (setN A w none) n + G w k = wtN G A n := by
  have h1 := h.setNone (w := w)
  have h2 : Mt (noneG G w) m n topP (setN A w none) := none_ok h1 (setN_eq _ _ _)
  obtain ⟨h3, h4⟩ := noneC_in (k := k) h2 fun b hb e2 => by
    by_cases hb2 : b = w
    · rw [hb2, setN_eq] at e2; cases e2
    · rw [setN_ne hb2] at e2
      exact hb2 (h.inj b w k hb hw e2 e)
  refine ⟨h3, ?_⟩
  rw [goneG, h4, none_wt (setN_eq _ _ _), wt_set, if_pos hw, e]
  simp only [gainO]; omega
theorem gone_out {w k : Nat} (h : Mt (goneG G w k) m n topP A) (hw : w < n) (hk : k < m) (hg : 0 ≤ G w k) : Mt G m n topP (setN A w (some k)) ∧ wtN G (setN A w (some k)) n = wtN (goneG G w k) A n + G w k := by
  obtain ⟨h1, h2, h3⟩ := noneC_ok h
  obtain ⟨h4, h5, h6⟩ := noneG_ok h1
  refine ⟨h4.setSome hk hg fun b hb _ => h3 b hb, ?_⟩
  rw [wt_set, if_pos hw, h6 hw, goneG, ← h2, ← h5]
  simp only [gainO]; omega
theorem gone_best {w k : Nat} (hw : w < n) (hk : k < m) (hg : 0 ≤ G w k) : G w k + bestV (goneG G w k) m n ≤ bestV G m n := by
  obtain ⟨A, hA, hwt⟩ := best_ex (G := goneG G w k) (m := m) n topP
  have hwt : wtN (goneG G w k) A n = bestV (goneG G w k) m n := hwt
  obtain ⟨h1, h2⟩ := gone_out hA hw hk hg
  have := bestV_ge h1
  omega

/-- The least item with which what is left makes up the most. -/
def pickF (G : Nat → Nat → Int) (m n w : Nat) : Option Nat := (List.range m).find? fun k => decide (0 ≤ G w k) && decide (G w k + bestV (goneG G w k) m n = bestV G m n)
theorem find_range {p : Nat → Bool} : ∀ {m k : Nat}, (List.range m).find? p = some k ↔ k < m ∧ p k = true ∧ ∀ j, j < k → p j = false
  | 0, k => by simp
  | m + 1, k => by
    rw [List.range_succ, List.find?_append]
    cases e : (List.range m).find? p with
    | some j =>
      obtain ⟨h1, h2, h3⟩ := find_range.1 e
      rw [Option.some_or, Option.some.injEq]
      refine ⟨fun h => by subst h; exact ⟨by omega, h2, h3⟩, fun ⟨h4, h5, h6⟩ => ?_⟩
      rcases Nat.lt_trichotomy j k with h | h | h
      · rw [h6 j h] at h2; cases h2
      · exact h
      · rw [h3 k h] at h5; cases h5
    | none =>
      have hn : ∀ j, j < m → p j = false := fun j hj => by
        have := List.find?_eq_none.1 e j (List.mem_range.2 hj)
        simpa using this
      rw [Option.none_or, List.find?_singleton]
      by_cases hp : p m = true
      · rw [if_pos hp, Option.some.injEq]
        refine ⟨fun h => by subst h; exact ⟨by omega, hp, hn⟩, fun ⟨h4, h5, h6⟩ => ?_⟩
        by_cases hk : k < m
        · rw [hn k hk] at h5; cases h5
        · omega
      · rw [if_neg hp]
        refine ⟨fun h => (nomatch h), fun ⟨h4, h5, h6⟩ => ?_⟩
        by_cases hk : k < m
        · rw [hn k hk] at h5; cases h5
        · obtain rfl : k = m := by omega
          exact absurd h5 hp
theorem find_range_none {p : Nat → Bool} {m : Nat} : (List.range m).find? p = none ↔ ∀ j, j < m → p j = false := by
  rw [List.find?_eq_none]
  simp
theorem pick_some {w k : Nat} (h : pickF G m n w = some k) : k < m ∧ 0 ≤ G w k ∧ G w k + bestV (goneG G w k) m n = bestV G m n ∧ ∀ j, j < k → 0 ≤ G w j → G w j + bestV (goneG G w j) m n ≠ bestV G m n := by
  obtain ⟨h1, h2, h3⟩ := find_range.1 h
  rw [Bool.and_eq_true, decide_eq_true_eq, decide_eq_true_eq] at h2
  refine ⟨h1, h2.1, h2.2, fun j hj hg he => ?_⟩
  have := h3 j hj
  rw [decide_eq_true hg, decide_eq_true he] at this
  cases this
theorem pick_none {w : Nat} (h : pickF G m n w = none) {j : Nat} (hj : j < m) (hg : 0 ≤ G w j) : G w j + bestV (goneG G w j) m n ≠ bestV G m n := fun he => by
  have := find_range_none.1 h j hj
  rw [decide_eq_true hg, decide_eq_true he] at this
  cases this
/-- Whoever has an item in any of the best has one with which what is left makes up the most. -/
theorem best_makes {w k : Nat} (hA : Mt G m n topP A) (hwt : wtN G A n = bestV G m n) (hw : w < n) (e : A w = some k) : k < m ∧ 0 ≤ G w k ∧ G w k + bestV (goneG G w k) m n = bestV G m n ∧ Mt (goneG G w k) m n topP (setN A w none) ∧ wtN (goneG G w k) (setN A w none) n = bestV (goneG G w k) m n := by
  obtain ⟨h1, _, h2⟩ := hA.ok w hw k e
  obtain ⟨h3, h4⟩ := gone_in hA hw e
  have h5 := bestV_ge h3
  have h6 := gone_best hw h1 h2
  exact ⟨h1, h2, by omega, h3, by omega⟩
theorem pick_none_has {w : Nat} (h : pickF G m n w = none) (hA : Mt G m n topP A) (hwt : wtN G A n = bestV G m n) (hw : w < n) : A w = none := by
  cases e : A w with
  | none => rfl
  | some k =>
    obtain ⟨h1, h2, h3, _⟩ := best_makes hA hwt hw e
    exact absurd h3 (pick_none h h1 h2)
theorem pick_none_best {w : Nat} (h : pickF G m n w = none) (hw : w < n) : bestV (noneG G w) m n = bestV G m n := by
  obtain ⟨A, hA, hwt⟩ := best_ex (G := G) (m := m) n topP
  have hwt : wtN G A n = bestV G m n := hwt
  have h0 := pick_none_has h hA hwt hw
  have h1 := bestV_ge (none_ok hA h0)
  rw [none_wt h0] at h1
  obtain ⟨A2, hA2, hwt2⟩ := best_ex (G := noneG G w) (m := m) n topP
  have hwt2 : wtN (noneG G w) A2 n = bestV (noneG G w) m n := hwt2
  obtain ⟨h2, h3, _⟩ := noneG_ok hA2
  have := bestV_ge h2
  omega
end

/-- The first of the best, by an order. -/
def firstF (G : Nat → Nat → Int) (m n : Nat) : List Nat → Nat → Option Nat
  | [], _ => none
  | w :: l, b => match pickF G m n w with
    | some k => if b = w then some k else firstF (goneG G w k) m n l b
    | none => if b = w then none else firstF (noneG G w) m n l b
/-- One stands ahead of another. -/
def Before : Option Nat → Option Nat → Prop
  | some k, some j => k < j
  | some _, none => True
  | none, _ => False
structure FirstOf (G : Nat → Nat → Int) (m n : Nat) (l : List Nat) (A : Nat → Option Nat) : Prop where
  mt : Mt G m n topP A
  wt : wtN G A n = bestV G m n
  first : ∀ A', Mt G m n topP A' → wtN G A' n = bestV G m n → ∀ j (hj : j < l.length), (∀ i (hi : i < j), A (l[i]'(by omega)) = A' (l[i]'(by omega))) → A l[j] ≠ A' l[j] → Before (A l[j]) (A' l[j])
section
variable {G G' : Nat → Nat → Int} {m n : Nat} {A A' : Nat → Option Nat}
theorem neg_none (hneg : ∀ b, b < n → ∀ c, c < m → G b c < 0) (hA : Mt G m n topP A) {b : Nat} (hb : b < n) : A b = none := by
  cases e : A b with
  | none => rfl
  | some c =>
    obtain ⟨h1, _, h2⟩ := hA.ok b hb c e
    have := hneg b hb c h1
    omega
theorem wt_same : ∀ {j : Nat}, (∀ b, b < j → A b = A' b) → wtN G A j = wtN G A' j
  | 0, _ => rfl
  | j + 1, h => by rw [wtN, wtN, wt_same fun b hb => h b (by omega), h j (by omega)]
theorem first_cons_some {w k : Nat} {l : List Nat} (h : pickF G m n w = some k) : firstF G m n (w :: l) = setN (firstF (goneG G w k) m n l) w (some k) := by
  funext b
  rw [firstF, h]; rfl
theorem first_cons_none {w : Nat} {l : List Nat} (h : pickF G m n w = none) : firstF G m n (w :: l) = setN (firstF (noneG G w) m n l) w none := by
  funext b
  rw [firstF, h]; rfl
theorem firstF_spec : ∀ (l : List Nat) (G : Nat → Nat → Int), l.Nodup → (∀ b ∈ l, b < n) → (∀ b, b < n → b ∉ l → ∀ c, c < m → G b c < 0) → FirstOf G m n l (firstF G m n l)
  | [], G, _, _, hneg => by
    have hneg' : ∀ b, b < n → ∀ c, c < m → G b c < 0 := fun b hb => hneg b hb (by simp)
    refine ⟨⟨fun b b' c _ _ e => (nomatch e), fun b _ c e => (nomatch e)⟩, ?_, fun _ _ _ j hj => absurd hj (by simp)⟩
    obtain ⟨A, hA, hwt⟩ := best_ex (G := G) (m := m) n topP
    have hwt : wtN G A n = bestV G m n := hwt
    rw [← hwt]
    exact wt_same fun b hb => (neg_none hneg' hA hb).symm
  | w :: l, G, hnd, hlt, hneg => by
    have hw : w < n := hlt w (by simp)
    obtain ⟨hwl, hnd'⟩ := List.nodup_cons.1 hnd
    cases hp : pickF G m n w with
    | some k =>
      obtain ⟨h1, h2, h3, h4⟩ := pick_some hp
      obtain ⟨i1, i2, i3⟩ := firstF_spec l (goneG G w k) hnd' (fun b hb => hlt b (by simp [hb])) fun b hb hbl c hc => by
        rw [goneG, noneC]
        by_cases e : c = k
        · rw [if_pos e]; omega
        · rw [if_neg e, noneG]
          by_cases e2 : b = w
          · rw [if_pos e2]; omega
          · rw [if_neg e2]; exact hneg b hb (by simp [e2, hbl]) c hc
      obtain ⟨o1, o2⟩ := gone_out i1 hw h1 h2
      rw [first_cons_some hp]
      refine ⟨o1, by rw [o2, i2]; omega, fun A2 hA2 hwt2 j hj hsame hne => ?_⟩
      match j, hj, hsame, hne with
      | 0, _, _, hne =>
        simp only [List.getElem_cons_zero, setN_eq] at hne ⊢
        cases e : A2 w with
        | none => exact trivial
        | some k2 =>
          obtain ⟨q1, q2, q3, _⟩ := best_makes hA2 hwt2 hw e
          show k < k2
          rcases Nat.lt_trichotomy k k2 with h | h | h
          · exact h
          · exact absurd (by rw [e, h]) hne
          · exact absurd q3 (h4 k2 h q2)
      | j + 1, hj, hsame, hne =>
        have h0 := hsame 0 (by omega)
        simp only [List.getElem_cons_zero, setN_eq] at h0
        obtain ⟨q1, q2, q3, q4, q5⟩ := best_makes hA2 hwt2 hw h0.symm
        have hlj : ∀ i (hi : i < l.length), l[i] ≠ w := fun i hi e => hwl (by rw [← e]; exact List.getElem_mem hi)
        have hjl : j < l.length := by simpa using hj
        have := i3 _ q4 q5 j hjl (fun i hi => by
          have h5 := hsame (i + 1) (by omega)
          simp only [List.getElem_cons_succ] at h5
          rw [setN_ne (hlj i (by omega))] at h5
          rw [setN_ne (hlj i (by omega))]; exact h5)
        simp only [List.getElem_cons_succ] at hne ⊢
        rw [setN_ne (hlj j hjl)] at this hne ⊢
        exact this hne
    | none =>
      have hb := pick_none_best hp hw
      obtain ⟨i1, i2, i3⟩ := firstF_spec l (noneG G w) hnd' (fun b hb => hlt b (by simp [hb])) fun b hb hbl c hc => by
        rw [noneG]
        by_cases e2 : b = w
        · rw [if_pos e2]; omega
        · rw [if_neg e2]; exact hneg b hb (by simp [e2, hbl]) c hc
      obtain ⟨o1, o2, o3⟩ := noneG_ok i1
      have he : setN (firstF (noneG G w) m n l) w none = firstF (noneG G w) m n l := by
        funext b
        by_cases e : b = w
        · rw [e, setN_eq, o3 hw]
        · rw [setN_ne e]
      rw [first_cons_none hp, he]
      refine ⟨o1, by rw [o2, i2, hb], fun A2 hA2 hwt2 j hj hsame hne => ?_⟩
      have h0 := pick_none_has hp hA2 hwt2 hw
      match j, hj, hsame, hne with
      | 0, _, _, hne =>
        simp only [List.getElem_cons_zero] at hne
        rw [o3 hw, h0] at hne
        exact absurd rfl hne
      | j + 1, hj, hsame, hne =>
        have hjl : j < l.length := by simpa using hj
        have := i3 A2 (none_ok hA2 h0) (by rw [none_wt h0, hwt2, hb]) j hjl (fun i hi => by
          have h5 := hsame (i + 1) (by omega)
          simp only [List.getElem_cons_succ] at h5
          exact h5)
        simp only [List.getElem_cons_succ] at hne ⊢
        exact this hne
/-- Who gains by nothing has nothing, wherever it stands. -/
theorem pick_neg {w : Nat} (h : ∀ c, c < m → G w c < 0) : pickF G m n w = none := find_range_none.2 fun j hj => by
  rw [decide_eq_false (by have := h j hj; omega)]; rfl
theorem first_neg : ∀ (l : List Nat) (G : Nat → Nat → Int) {w : Nat}, (∀ c, c < m → G w c < 0) → firstF G m n l w = none
  | [], _, _, _ => rfl
  | u :: l, G, w, h => by
    cases hp : pickF G m n u with
    | some k =>
      rw [first_cons_some hp]
      by_cases e : w = u
      · subst e; rw [pick_neg h] at hp; cases hp
      · rw [setN_ne e]
        refine first_neg l _ fun c hc => ?_
        rw [goneG, noneC]
        by_cases e2 : c = k
        · rw [if_pos e2]; omega
        · rw [if_neg e2, noneG, if_neg e]; exact h c hc
    | none =>
      rw [first_cons_none hp]
      by_cases e : w = u
      · rw [e, setN_eq]
      · rw [setN_ne e]
        refine first_neg l _ fun c hc => ?_
        rw [noneG, if_neg e]; exact h c hc

/-! Of others that are as these: which items who may have at no loss, and how much the best gain. -/
/-- As often as great, bidders named otherwise, further items and bidders by which nobody gains. -/
theorem first_sim {R : (Nat → Nat → Int) → (Nat → Nat → Int) → Prop} {f : Int} {ρ : Nat → Nat} {m2 n2 : Nat} (hf : 0 < f) (hm : m ≤ m2)
    (hbest : ∀ G G2, R G G2 → bestV G2 m2 n2 = f * bestV G m n)
    (hg : ∀ G G2 w c, R G G2 → w < n → c < m → (0 ≤ G2 (ρ w) c ↔ 0 ≤ G w c) ∧ (0 ≤ G w c → G2 (ρ w) c = f * G w c))
    (hout : ∀ G G2 w c, R G G2 → w < n → m ≤ c → c < m2 → G2 (ρ w) c < 0)
    (hN : ∀ G G2 w, R G G2 → w < n → R (noneG G w) (noneG G2 (ρ w)))
    (hC : ∀ G G2 w k, R G G2 → w < n → k < m → R (goneG G w k) (goneG G2 (ρ w) k))
    (hinj : ∀ b b', b < n → b' < n → ρ b = ρ b' → b = b') :
    ∀ (l : List Nat) (G G2 : Nat → Nat → Int), R G G2 → (∀ b ∈ l, b < n) → ∀ b, b < n → firstF G2 m2 n2 (l.map ρ) (ρ b) = firstF G m n l b
  | [], _, _, _, _, _, _ => rfl
  | w :: l, G, G2, hR, hl, b, hb => by
    have hw : w < n := hl w (by simp)
    have hpk : pickF G2 m2 n2 (ρ w) = pickF G m n w := by
      have hcond : ∀ j, j < m → (decide (0 ≤ G2 (ρ w) j) && decide (G2 (ρ w) j + bestV (goneG G2 (ρ w) j) m2 n2 = bestV G2 m2 n2)) = (decide (0 ≤ G w j) && decide (G w j + bestV (goneG G w j) m n = bestV G m n)) := fun j hj => by
        obtain ⟨h1, h2⟩ := hg G G2 w j hR hw hj
        by_cases h0 : 0 ≤ G w j
        · rw [decide_eq_true h0, decide_eq_true (h1.2 h0), h2 h0, hbest _ _ hR, hbest _ _ (hC _ _ _ j hR hw hj), ← Int.mul_add]
          congr 1
          rw [decide_eq_decide]
          exact ⟨fun h => Int.eq_of_mul_eq_mul_left (by omega) h, fun h => by rw [h]⟩
        · rw [decide_eq_false h0, decide_eq_false (fun h => h0 (h1.1 h))]; rfl
      cases hp : pickF G m n w with
      | some k =>
        obtain ⟨h1, h2, h3⟩ := find_range.1 hp
        exact find_range.2 ⟨by omega, by rw [hcond k h1]; exact h2, fun j hj => by rw [hcond j (by omega)]; exact h3 j hj⟩
      | none =>
        refine find_range_none.2 fun j hj => ?_
        by_cases hjm : j < m
        · rw [hcond j hjm]; exact find_range_none.1 hp j hjm
        · rw [decide_eq_false (by have := hout G G2 w j hR hw (by omega) hj; omega)]; rfl
    rw [List.map_cons]
    cases hp : pickF G m n w with
    | some k =>
      have hkm := (pick_some hp).1
      rw [first_cons_some hp, first_cons_some (hpk.trans hp)]
      by_cases e : b = w
      · subst e; rw [setN_eq, setN_eq]
      · rw [setN_ne e, setN_ne (fun h => e (hinj _ _ hb hw h))]
        exact first_sim hf hm hbest hg hout hN hC hinj l _ _ (hC _ _ _ k hR hw hkm) (fun b hb => hl b (by simp [hb])) b hb
    | none =>
      rw [first_cons_none hp, first_cons_none (hpk.trans hp)]
      by_cases e : b = w
      · subst e; rw [setN_eq, setN_eq]
      · rw [setN_ne e, setN_ne (fun h => e (hinj _ _ hb hw h))]
        exact first_sim hf hm hbest hg hout hN hC hinj l _ _ (hN _ _ _ hR hw) (fun b hb => hl b (by simp [hb])) b hb
/-- As they are, where either is no loss. -/
def SimR (m n : Nat) (G G2 : Nat → Nat → Int) : Prop := ∀ b c, b < n → c < m → (0 ≤ G b c ∨ 0 ≤ G2 b c) → G b c = G2 b c
theorem SimR.none {w : Nat} (h : SimR m n G G') : SimR m n (noneG G w) (noneG G' w) := fun b c hb hc h0 => by
  unfold noneG at h0 ⊢
  by_cases e : b = w
  · rw [if_pos e, if_pos e]
  · rw [if_neg e, if_neg e] at h0 ⊢; exact h b c hb hc h0
theorem SimR.gone {w k : Nat} (h : SimR m n G G') : SimR m n (goneG G w k) (goneG G' w k) := fun b c hb hc h0 => by
  unfold goneG noneC at h0 ⊢
  by_cases e : c = k
  · rw [if_pos e, if_pos e]
  · rw [if_neg e, if_neg e] at h0 ⊢; exact h.none b c hb hc h0
theorem first_congr {l : List Nat} (h : SimR m n G G') (hl : ∀ b ∈ l, b < n) {b : Nat} (hb : b < n) : firstF G' m n l b = firstF G m n l b := by
  have := first_sim (R := SimR m n) (f := 1) (ρ := id) (m := m) (n := n) (m2 := m) (n2 := n) (by omega) (Nat.le_refl _) (fun G G2 hR => by rw [Int.one_mul]; exact (best_congr hR).symm)
    (fun G G2 w c hR hw hc => ⟨⟨fun h => by have := hR w c hw hc (.inr h); simp only [id] at h ⊢; omega, fun h => by have := hR w c hw hc (.inl h); simp only [id]; omega⟩, fun h => by have := hR w c hw hc (.inl h); simp only [id]; omega⟩)
    (fun G G2 w c _ _ h1 h2 => absurd h2 (by omega)) (fun G G2 w hR _ => hR.none) (fun G G2 w k hR _ _ => hR.gone) (fun b b' _ _ h => h) l G G' h hl b hb
  rw [List.map_id] at this
  exact this
/-- One that gains by nothing, put into the order, changes nothing. -/
theorem first_put {w : Nat} : ∀ (l l2 : List Nat) (G : Nat → Nat → Int), (∀ c, c < m → G w c < 0) → (∀ b ∈ l ++ l2, b < n) → ∀ b, b < n → b ≠ w → firstF G m n (l ++ w :: l2) b = firstF G m n (l ++ l2) b
  | [], l2, G, h, hl, b, hb, hbw => by
    rw [List.nil_append, List.nil_append, first_cons_none (pick_neg h), setN_ne hbw]
    refine first_congr (fun b c hb hc h0 => ?_) hl hb
    rw [noneG]
    by_cases e : b = w
    · rw [if_pos e]
      rw [noneG, if_pos e, e] at h0
      have := h c hc
      omega
    · rw [if_neg e]
  | u :: l, l2, G, h, hl, b, hb, hbw => by
    rw [List.cons_append, List.cons_append]
    cases hp : pickF G m n u with
    | some k =>
      rw [first_cons_some hp, first_cons_some hp]
      by_cases e : b = u
      · rw [e, setN_eq, setN_eq]
      · rw [setN_ne e, setN_ne e]
        refine first_put l l2 _ (fun c hc => ?_) (fun b hb => hl b (by simp at hb ⊢; exact .inr hb)) b hb hbw
        rw [goneG, noneC]
        by_cases e2 : c = k
        · rw [if_pos e2]; omega
        · rw [if_neg e2, noneG]
          by_cases e3 : w = u
          · rw [if_pos e3]; omega
          · rw [if_neg e3]; exact h c hc
    | none =>
      rw [first_cons_none hp, first_cons_none hp]
      by_cases e : b = u
      · rw [e, setN_eq, setN_eq]
      · rw [setN_ne e, setN_ne e]
        refine first_put l l2 _ (fun c hc => ?_) (fun b hb => hl b (by simp at hb ⊢; exact .inr hb)) b hb hbw
        rw [noneG]
        by_cases e3 : w = u
        · rw [if_pos e3]; omega
        · rw [if_neg e3]; exact h c hc
end
end Go.Proofs.YtecgakfblhiiaaaDoor

namespace Go.Proofs.YtecgakfblhiiaaaDoor
set_option linter.unusedVariables false

section
variable {G G' : Nat → Nat → Int} {m n : Nat} {A : Nat → Option Nat} {l : List Nat}
theorem first_taken (h : FirstOf G m n l A) (hnd : l.Nodup) (hl : ∀ b, b < n → b ∈ l) {k : Nat} (hk : k < m) (hno : ∀ b, b < n → A b ≠ some k) {i : Nat} (hi : i < n) :
    (A i = none → G i k < 0) ∧ ∀ c, A i = some c → G i k ≤ G i c := by
  have hset : ∀ hg : 0 ≤ G i k, wtN G A n + (G i k - gainO (G i) (A i)) ≤ bestV G m n := fun hg => by
    have h1 := bestV_ge (h.mt.setSome hk hg fun b hb _ => hno b hb)
    rw [wt_set, if_pos hi] at h1
    exact h1
  refine ⟨fun e => ?_, fun c e => ?_⟩
  · rcases Int.lt_or_le (G i k) 0 with hg | hg
    · exact hg
    · have h1 := hset hg
      rw [h.wt, e] at h1
      simp only [gainO] at h1
      have hmt := h.mt.setSome (w := i) hk hg fun b hb _ => hno b hb
      have hw : wtN G (setN A i (some k)) n = bestV G m n := by
        rw [wt_set, if_pos hi, e, h.wt]
        simp only [gainO]; omega
      obtain ⟨j, hj, hji⟩ := List.getElem_of_mem (hl i hi)
      have h2 := h.first _ hmt hw j hj (fun t ht => by
        rw [setN_ne]
        intro e2
        have h3 := (List.pairwise_iff_getElem.1 hnd) t j (by omega) hj ht
        exact h3 (e2.trans hji.symm)) (by rw [hji, e, setN_eq]; simp)
      rw [hji, e] at h2
      exact h2.elim
  · rcases Int.lt_or_le (G i c) (G i k) with hg | hg
    · have h0 := (h.mt.ok i hi c e).2.2
      have h1 := hset (by omega)
      rw [h.wt, e] at h1
      simp only [gainO] at h1
      omega
    · exact hg

/-! Named otherwise. -/
def TurnR (m n r : Nat) (G G2 : Nat → Nat → Int) : Prop := ∀ b c, b < n → c < m → G2 ((b + r) % n) c = G b c
theorem turnR_best {r : Nat} (hr : r ≤ n) (h : TurnR m n r G G') : bestV G' m n = bestV G m n := by
  refine Int.le_antisymm ?_ ?_
  · exact best_named (r := r) id hr (fun c hc => hc) (fun c c' _ _ h => h) fun b c hb hc => (h b c hb hc).symm
  · refine best_named (r := n - r) id (by omega) (fun c hc => hc) (fun c c' _ _ h => h) fun b c hb hc => ?_
    have h1 := h ((b + (n - r)) % n) c (rot_lt hb) hc
    rw [rot_back hr hb] at h1
    exact h1
theorem turn_none {r w : Nat} (hr : r ≤ n) (hw : w < n) (h : TurnR m n r G G') : TurnR m n r (noneG G w) (noneG G' ((w + r) % n)) := fun b c hb hc => by
  unfold noneG
  by_cases e : b = w
  · rw [if_pos e, if_pos (by rw [e])]
  · rw [if_neg e, if_neg (fun h2 => e (rot_inj hr hb hw h2))]; exact h b c hb hc
theorem first_turn {r : Nat} (hr : r ≤ n) (h : TurnR m n r G G') (hl : ∀ b ∈ l, b < n) {b : Nat} (hb : b < n) : firstF G' m n (l.map fun b => (b + r) % n) ((b + r) % n) = firstF G m n l b :=
  first_sim (R := TurnR m n r) (f := 1) (ρ := fun b => (b + r) % n) (by omega) (Nat.le_refl _) (fun G G2 hR => by rw [Int.one_mul]; exact turnR_best hr hR)
    (fun G G2 w c hR hw hc => by have h1 : G2 ((w + r) % n) c = G w c := hR w c hw hc; refine ⟨?_, fun _ => ?_⟩; (show 0 ≤ G2 ((w + r) % n) c ↔ 0 ≤ G w c); rw [h1]; (show G2 ((w + r) % n) c = 1 * G w c); rw [h1, Int.one_mul])
    (fun G G2 w c _ _ h1 h2 => absurd h2 (by omega)) (fun G G2 w hR hw => turn_none hr hw hR)
    (fun G G2 w k hR hw hk b c hb hc => by
      unfold goneG noneC
      by_cases e : c = k
      · rw [if_pos e, if_pos e]
      · rw [if_neg e, if_neg e]; exact turn_none hr hw hR b c hb hc)
    (fun b b' hb hb' h => rot_inj hr hb hb' h) l G G' h hl b hb

/-! As often as great. -/
def MulR (m n f : Nat) (G G2 : Nat → Nat → Int) : Prop := ∀ b c, b < n → c < m → (0 ≤ G2 b c ∨ 0 ≤ (f : Int) * G b c) → G2 b c = f * G b c
theorem mulr_best {f : Nat} (hf : 0 < f) (h : MulR m n f G G') : bestV G' m n = f * bestV G m n := by
  rw [← best_mul hf]
  exact best_congr fun b c hb hc h0 => h b c hb hc h0
theorem mulr_none {f w : Nat} (h : MulR m n f G G') (hf : 0 < f) : MulR m n f (noneG G w) (noneG G' w) := fun b c hb hc h0 => by
  unfold noneG at h0 ⊢
  by_cases e : b = w
  · rw [if_pos e, if_pos e] at h0
    rcases h0 with h0 | h0
    · omega
    · have := (mul_nn hf (-1)).1 h0; omega
  · rw [if_neg e, if_neg e] at h0 ⊢; exact h b c hb hc h0
theorem first_mul {f : Nat} (hf : 0 < f) (h : MulR m n f G G') (hl : ∀ b ∈ l, b < n) {b : Nat} (hb : b < n) : firstF G' m n l b = firstF G m n l b := by
  have := first_sim (R := MulR m n f) (f := (f : Int)) (ρ := id) (by omega) (Nat.le_refl _) (fun G G2 hR => mulr_best hf hR)
    (fun G G2 w c hR hw hc => ⟨⟨fun h0 => by have h1 := hR w c hw hc (.inl h0); simp only [id] at h0; rw [h1] at h0; exact (mul_nn hf _).1 h0, fun h0 => by have h2 := (mul_nn hf (G w c)).2 h0; have h1 := hR w c hw hc (.inr h2); simp only [id]; rw [h1]; exact h2⟩, fun h0 => hR w c hw hc (.inr ((mul_nn hf (G w c)).2 h0))⟩)
    (fun G G2 w c _ _ h1 h2 => absurd h2 (by omega)) (fun G G2 w hR _ => mulr_none hR hf)
    (fun G G2 w k hR hw hk b c hb hc h0 => by
      unfold goneG noneC at h0 ⊢
      by_cases e : c = k
      · rw [if_pos e, if_pos e] at h0
        rcases h0 with h0 | h0
        · omega
        · have := (mul_nn hf (-1)).1 h0; omega
      · rw [if_neg e, if_neg e] at h0 ⊢; exact mulr_none hR hf b c hb hc h0)
    (fun b b' _ _ h => h) l G G' h hl b hb
  rw [List.map_id] at this
  exact this

/-! An item, and a bidder, that gain nothing. -/
structure IdleR (m n : Nat) (G G2 : Nat → Nat → Int) : Prop where
  same : ∀ b c, b < n → c < m → (0 ≤ G2 b c ∨ 0 ≤ G b c) → G2 b c = G b c
  item : ∀ b, b < n → G2 b m < 0
  who : ∀ c, c ≤ m → G2 n c < 0
theorem idler_best (h : IdleR m n G G') : bestV G' (m + 1) (n + 1) = bestV G m n := by
  rw [← idle_best (G := G) (m := m) (n := n)]
  refine best_congr fun b c hb hc h0 => ?_
  unfold idleG at h0 ⊢
  by_cases e : b = n ∨ c = m
  · rw [if_pos e] at h0 ⊢
    have h1 : G' b c < 0 := by
      by_cases e2 : b = n
      · rw [e2]; exact h.who c (by omega)
      · rcases e with e | e
        · exact absurd e e2
        · rw [e]; exact h.item b (by omega)
    omega
  · rw [if_neg e] at h0 ⊢
    exact h.same b c (by omega) (by omega) h0
theorem idler_none {w : Nat} (hw : w < n) (h : IdleR m n G G') : IdleR m n (noneG G w) (noneG G' w) := ⟨fun b c hb hc h0 => by
    unfold noneG at h0 ⊢
    by_cases e : b = w
    · rw [if_pos e, if_pos e]
    · rw [if_neg e, if_neg e] at h0 ⊢; exact h.same b c hb hc h0,
  fun b hb => by
    unfold noneG
    by_cases e : b = w
    · rw [if_pos e]; omega
    · rw [if_neg e]; exact h.item b hb,
  fun c hc => by rw [noneG, if_neg (by omega)]; exact h.who c hc⟩
theorem idler_gone {w k : Nat} (hw : w < n) (h : IdleR m n G G') : IdleR m n (goneG G w k) (goneG G' w k) := by
  have h2 := idler_none hw h
  refine ⟨fun b c hb hc h0 => ?_, fun b hb => ?_, fun c hc => ?_⟩
  · unfold goneG noneC at h0 ⊢
    by_cases e : c = k
    · rw [if_pos e, if_pos e]
    · rw [if_neg e, if_neg e] at h0 ⊢; exact h2.same b c hb hc h0
  · unfold goneG noneC
    by_cases e : m = k
    · rw [if_pos e]; omega
    · rw [if_neg e]; exact h2.item b hb
  · unfold goneG noneC
    by_cases e : c = k
    · rw [if_pos e]; omega
    · rw [if_neg e]; exact h2.who c hc
theorem first_idle {l1 l2 : List Nat} (h : IdleR m n G G') (hl : ∀ b ∈ l1 ++ l2, b < n) {b : Nat} (hb : b < n) : firstF G' (m + 1) (n + 1) (l1 ++ n :: l2) b = firstF G m n (l1 ++ l2) b := by
  rw [first_put l1 l2 G' (fun c hc => h.who c (by omega)) (fun b hb => by have := hl b hb; omega) b (by omega) (by omega)]
  have := first_sim (R := IdleR m n) (f := 1) (ρ := id) (by omega) (Nat.le_succ m) (fun G G2 hR => by rw [Int.one_mul]; exact idler_best hR)
    (fun G G2 w c hR hw hc => ⟨⟨fun h0 => by have := hR.same w c hw hc (.inl h0); simp only [id] at h0; omega, fun h0 => by have := hR.same w c hw hc (.inr h0); simp only [id]; omega⟩, fun h0 => by have := hR.same w c hw hc (.inr h0); simp only [id]; omega⟩)
    (fun G G2 w c hR hw h1 h2 => by rw [show c = m by omega]; exact hR.item w hw) (fun G G2 w hR hw => idler_none hw hR)
    (fun G G2 w k hR hw hk => idler_gone hw hR) (fun b b' _ _ h => h) (l1 ++ l2) G G' h hl b hb
  rw [List.map_id] at this
  exact this
theorem first_idle_last (h : IdleR m n G G') (l : List Nat) : firstF G' (m + 1) (n + 1) l n = none := first_neg l G' fun c hc => h.who c (by omega)

/-! Who stands first goes. -/
theorem first_head (w : Nat) : firstF G m n (w :: l) w = pickF G m n w := by
  cases hp : pickF G m n w with
  | some k => rw [first_cons_some hp, setN_eq]
  | none => rw [first_cons_none hp, setN_eq]
/-- What is left when one has gone with what it has. -/
def leftG (G : Nat → Nat → Int) (w : Nat) : Option Nat → Nat → Nat → Int
  | some k => goneG G w k
  | none => noneG G w
theorem first_ahead {w : Nat} (hw : w < n) (h : SimR m n (leftG G w (pickF G m n w)) G') (hg : ∀ c, c < m → G' w c < 0) (hl : ∀ b ∈ l, b < n) {b : Nat} (hb : b < n) (hbw : b ≠ w) : firstF G' m n (l ++ [w]) b = firstF G m n (w :: l) b := by
  rw [first_put l [] G' hg (fun b hb => hl b (by simpa using hb)) b hb hbw, List.append_nil, first_congr h hl hb]
  cases hp : pickF G m n w with
  | some k => rw [first_cons_some hp, setN_ne hbw]; rfl
  | none => rw [first_cons_none hp, setN_ne hbw]; rfl
end
end Go.Proofs.YtecgakfblhiiaaaDoor

namespace Go.Proofs.YtecgakfblhiiaaaDoor
open Go.RowKit
set_option linter.unusedVariables false

/-- Has an order each bidder, once? -/
def ordB (o : List Int) (n : Nat) : Bool := decide (o.length = n) && (List.range n).all fun i => decide (times o (i : Nat) = 1)
theorem ordB_iff {o : List Int} {n : Nat} : ordB o n = true ↔ o.length = n ∧ ∀ i, i < n → times o (i : Nat) = 1 := by
  simp [ordB]
/-- An order, as numbers of bidders. -/
def whoN (o : List Int) : List Nat := o.map Int.toNat
theorem whoN_len (o : List Int) : (whoN o).length = o.length := by rw [whoN, List.length_map]
theorem whoN_get {o : List Int} {j : Nat} (hj : j < o.length) : (whoN o)[j]'(by rw [whoN_len]; exact hj) = (o[j]).toNat := by simp [whoN]
theorem ord_in {o : List Int} {n : Nat} (h : ordB o n = true) : ∀ z ∈ o, 0 ≤ z ∧ z < n := by
  obtain ⟨h1, h2⟩ := ordB_iff.1 h
  exact order_in h1 h2
theorem ord_nodup {o : List Int} {n : Nat} (h : ordB o n = true) : (whoN o).Nodup := by
  obtain ⟨h1, h2⟩ := ordB_iff.1 h
  have h3 := ord_in h
  refine List.pairwise_iff_getElem.2 ?_
  intro i j hi hj hij e
  rw [whoN_len] at hi hj
  rw [whoN_get hi, whoN_get hj] at e
  have a1 := h3 _ (List.getElem_mem hi)
  have a2 := h3 _ (List.getElem_mem hj)
  have a3 : times o o[j] = 1 := by
    have := h2 o[j].toNat (by omega)
    rwa [show ((o[j].toNat : Nat) : Int) = o[j] by omega] at this
  exact once_ne j i hj hij a3 (by omega)
theorem ord_lt {o : List Int} {n : Nat} (h : ordB o n = true) : ∀ b ∈ whoN o, b < n := fun b hb => by
  obtain ⟨z, hz, rfl⟩ := List.mem_map.1 hb
  have := ord_in h z hz
  omega
theorem ord_all {o : List Int} {n : Nat} (h : ordB o n = true) {b : Nat} (hb : b < n) : b ∈ whoN o := by
  obtain ⟨h1, h2⟩ := ordB_iff.1 h
  have h3 := times_mem (h2 b hb)
  exact List.mem_map.2 ⟨_, h3, by simp⟩

def mayF (g : List (List Int)) (m : Int) (o : List Int) : Bool := mayW g m && ordB o g.length
theorem mayF_iff {g : List (List Int)} {m : Int} {o : List Int} : mayF g m o = true ↔ mayW g m = true ∧ ordB o g.length = true := by
  rw [mayF, Bool.and_eq_true]
def fErr (g : List (List Int)) (m : Int) (o : List Int) : Int := if mayF g m o = true then 0 else 1
/-- An item, or none, as a number. -/
def optI : Option Nat → Int
  | some k => k
  | none => -1
theorem optI_inj {a b : Option Nat} (h : optI a = optI b) : a = b := by
  cases a <;> cases b <;> simp only [optI] at h
  · rfl
  · omega
  · omega
  · rw [show _ = _ from Int.ofNat.inj h]
def firstV (g : List (List Int)) (m : Nat) (o : List Int) : Nat → Option Nat := firstF (gG g) m g.length (whoN o)
def firstE (g : List (List Int)) (m : Int) (o : List Int) : List Int := if mayF g m o = true then (List.range g.length).map fun b => optI (firstV g m.toNat o b) else []
theorem fi_ok {g : List (List Int)} {m : Nat} {o : List Int} (h : mayF g m o = true) : fErr g m o = 0 ∧ firstE g m o = (List.range g.length).map fun b => optI (firstV g m o b) := by
  simp [fErr, firstE, h]
theorem fi_bad {g : List (List Int)} {m : Int} {o : List Int} (h : mayF g m o = false) : fErr g m o = 1 ∧ firstE g m o = [] := by
  simp [fErr, firstE, h]
theorem firstE_len {g : List (List Int)} {m : Nat} {o : List Int} (h : mayF g m o = true) : (firstE g m o).length = g.length := by rw [(fi_ok h).2]; simp
theorem firstE_get {g : List (List Int)} {m : Nat} {o : List Int} (h : mayF g m o = true) {b : Nat} (hb : b < g.length) : (firstE g m o)[b]? = some (optI (firstV g m o b)) := by
  rw [(fi_ok h).2, List.getElem?_map, List.getElem?_range hb]; rfl
theorem first_is {g : List (List Int)} {m : Nat} {o : List Int} (h : mayF g m o = true) : FirstOf (gG g) m g.length (whoN o) (firstV g m o) := by
  obtain ⟨h1, h2⟩ := mayF_iff.1 h
  exact firstF_spec _ _ (ord_nodup h2) (ord_lt h2) fun b hb hn => absurd (ord_all h2 hb) hn
theorem first_lt {g : List (List Int)} {m : Nat} {o : List Int} (h : mayF g m o = true) {b k : Nat} (hb : b < g.length) (e : firstV g m o b = some k) : k < m := ((first_is h).mt.ok b hb k e).1
theorem optI_fit {g : List (List Int)} {m : Nat} {o : List Int} (h : mayF g m o = true) {b : Nat} (hb : b < g.length) : -1 ≤ optI (firstV g m o b) ∧ optI (firstV g m o b) < m := by
  cases e : firstV g m o b with
  | none => simp only [optI]; omega
  | some k => have := first_lt h hb e; simp only [optI]; omega

def FirstC (f : Nat) : Prop := ∀ (x : Gr) (m : Int) (y : Ls) (w : World), x.Ok w → -9223372036854775808 ≤ m → m ≤ 9223372036854775807 → y.Ok w →
  Calls Tryd.prog f #[x.v, .int .i64 m, y.v] w fun e w' => ∃ A n c, e = .returned (.tuple #[.slice A n c, .int .i64 (fErr x.g m y.zs)]) ∧ OwnI w' w.heap.size ⟨A, n, c, firstE x.g m y.zs⟩ ∧ Below w.heap.size w w'
end Go.Proofs.YtecgakfblhiiaaaDoor

namespace Go.Proofs.YtecgakfblhiiaaaDoor
open Go.RowKit
set_option linter.unusedVariables false

theorem xor_bit (s k c : Nat) : (s ^^^ 2 ^ k).testBit c = if c = k then !s.testBit k else s.testBit c := by
  rw [Nat.testBit_xor, Nat.testBit_two_pow]
  by_cases e : c = k
  · subst e; simp
  · have e2 : ¬ k = c := fun h => e h.symm
    rw [if_neg e, decide_eq_false e2, Bool.xor_false]
/-- Of some bidders, and of the items of a set, alone. -/
def restG (G : Nat → Nat → Int) (l : List Nat) (s b c : Nat) : Int := if b ∈ l ∧ s.testBit c = true then G b c else -1
section
variable {G : Nat → Nat → Int} {m n : Nat}
theorem rest_none {w s : Nat} {l : List Nat} (hw : w ∉ l) : noneG (restG G (w :: l) s) w = restG G l s := by
  funext b c
  unfold noneG restG
  by_cases e : b = w
  · rw [if_pos e, if_neg (fun h => hw (e ▸ h.1))]
  · rw [if_neg e]
    by_cases h : b ∈ l ∧ s.testBit c = true
    · rw [if_pos h, if_pos ⟨List.mem_cons_of_mem _ h.1, h.2⟩]
    · rw [if_neg h, if_neg fun h2 => h ⟨(List.mem_cons.1 h2.1).resolve_left e, h2.2⟩]
theorem rest_gone {w s k : Nat} {l : List Nat} (hw : w ∉ l) (hk : s.testBit k = true) : goneG (restG G (w :: l) s) w k = restG G l (s ^^^ 2 ^ k) := by
  rw [goneG, rest_none hw]
  funext b c
  unfold noneC restG
  rw [xor_bit]
  by_cases e : c = k
  · rw [if_pos e, if_pos e, hk, if_neg (fun h => by cases h.2)]
  · rw [if_neg e, if_neg e]
theorem gone_le {w k : Nat} : bestV (goneG G w k) m n ≤ bestV G m n := by
  obtain ⟨A, hA, hwt⟩ := best_ex (G := goneG G w k) (m := m) n topP
  have hwt : wtN (goneG G w k) A n = bestV (goneG G w k) m n := hwt
  obtain ⟨h1, h2, _⟩ := noneC_ok hA
  obtain ⟨h4, h5, _⟩ := noneG_ok h1
  have := bestV_ge h4
  have h6 : wtN (noneG G w) A n = wtN (goneG G w k) A n := h2
  omega
theorem none_le {w : Nat} : bestV (noneG G w) m n ≤ bestV G m n := by
  obtain ⟨A, hA, hwt⟩ := best_ex (G := noneG G w) (m := m) n topP
  have hwt : wtN (noneG G w) A n = bestV (noneG G w) m n := hwt
  obtain ⟨h4, h5, _⟩ := noneG_ok hA
  have := bestV_ge h4
  omega
theorem more_ge0 {F g : Nat → Int} {s : Nat} : ∀ {j}, F s ≤ moreF F g s j
  | 0 => Int.le_refl _
  | j + 1 => by
    have := more_ge0 (F := F) (g := g) (s := s) (j := j)
    rw [moreF]; split <;> omega
theorem more_ge {F g : Nat → Int} {s k : Nat} (hs : s.testBit k = true) : ∀ {j}, k < j → F (s ^^^ 2 ^ k) + g k ≤ moreF F g s j
  | 0, h => absurd h (by omega)
  | j + 1, h => by
    rw [moreF]
    by_cases e : k = j
    · subst e; rw [if_pos hs]; omega
    · have := more_ge (F := F) (g := g) hs (j := j) (by omega)
      split <;> omega
theorem more_le {F g : Nat → Int} {s : Nat} {B : Int} (h0 : F s ≤ B) : ∀ {j}, (∀ k, k < j → s.testBit k = true → F (s ^^^ 2 ^ k) + g k ≤ B) → moreF F g s j ≤ B
  | 0, _ => h0
  | j + 1, h => by
    have h1 := more_le h0 (j := j) fun k hk => h k (by omega)
    rw [moreF]
    by_cases e : s.testBit j = true
    · rw [if_pos e]; have := h j (by omega) e; omega
    · rw [if_neg e]; exact h1

/-- The most that those in a list gain of a set, one by one. -/
def hadO (G : Nat → Nat → Int) (m : Nat) : List Nat → Nat → Int
  | [], _ => 0
  | w :: l, s => moreF (hadO G m l) (G w) s m
theorem hadO_best : ∀ (l : List Nat) (s : Nat), l.Nodup → (∀ b ∈ l, b < n) → hadO G m l s = bestV (restG G l s) m n
  | [], s, _, _ => by
    obtain ⟨A, hA, hwt⟩ := best_ex (G := restG G [] s) (m := m) n topP
    have hwt : wtN (restG G [] s) A n = bestV (restG G [] s) m n := hwt
    have h0 : ∀ b, b < n → A b = none := fun b hb => neg_none (fun b _ c _ => by rw [restG, if_neg (fun h => by cases h.1)]; omega) hA hb
    rw [← hwt, wt_same (A' := fun _ => none) h0, none_wt0]; rfl
  | w :: l, s, hnd, hlt => by
    have hw : w < n := hlt w (by simp)
    obtain ⟨hwl, hnd'⟩ := List.nodup_cons.1 hnd
    have IH := fun s => hadO_best l s hnd' fun b hb => hlt b (by simp [hb])
    have hG : ∀ k, s.testBit k = true → restG G (w :: l) s w k = G w k := fun k hk => by rw [restG, if_pos ⟨by simp, hk⟩]
    rw [hadO]
    refine Int.le_antisymm (more_le ?_ fun k hk hs => ?_) ?_
    · rw [IH, ← rest_none hwl]; exact none_le
    · rw [IH, ← rest_gone hwl hs, ← hG k hs]
      by_cases h0 : 0 ≤ restG G (w :: l) s w k
      · have := gone_best (G := restG G (w :: l) s) hw hk h0
        omega
      · have := gone_le (G := restG G (w :: l) s) (m := m) (n := n) (w := w) (k := k)
        omega
    · obtain ⟨A, hA, hwt⟩ := best_ex (G := restG G (w :: l) s) (m := m) n topP
      have hwt : wtN (restG G (w :: l) s) A n = bestV (restG G (w :: l) s) m n := hwt
      cases e : A w with
      | none =>
        have h1 := bestV_ge (none_ok hA e)
        rw [none_wt e, rest_none hwl, ← IH] at h1
        have := more_ge0 (F := hadO G m l) (g := G w) (s := s) (j := m)
        omega
      | some k =>
        obtain ⟨h1, h2, h3, _⟩ := best_makes hA hwt hw e
        have hs : s.testBit k = true := by
          rcases hb : s.testBit k with _ | _
          · rw [restG, if_neg (fun h => by rw [hb] at h; cases h.2)] at h2; omega
          · rfl
        rw [rest_gone hwl hs, ← IH, hG k hs] at h3
        have := more_ge (F := hadO G m l) (g := G w) hs h1
        omega
/-- The least item of a set with which what is left makes up so much. -/
def leastF (g F : Nat → Int) (a : Int) (s m : Nat) : Option Nat := (List.range m).find? fun k => s.testBit k && decide (g k + F (s ^^^ 2 ^ k) = a)
theorem pick_least {w s : Nat} {l : List Nat} (hnd : (w :: l).Nodup) (hlt : ∀ b ∈ w :: l, b < n) : pickF (restG G (w :: l) s) m n w = leastF (G w) (hadO G m l) (hadO G m (w :: l) s) s m := by
  obtain ⟨hwl, hnd'⟩ := List.nodup_cons.1 hnd
  have IH := fun s => hadO_best (G := G) (m := m) l s hnd' fun b hb => hlt b (by simp [hb])
  have h0 := hadO_best (G := G) (m := m) (w :: l) s hnd hlt
  have hc : ∀ k, (decide (0 ≤ restG G (w :: l) s w k) && decide (restG G (w :: l) s w k + bestV (goneG (restG G (w :: l) s) w k) m n = bestV (restG G (w :: l) s) m n)) = (s.testBit k && decide (G w k + hadO G m l (s ^^^ 2 ^ k) = hadO G m (w :: l) s)) := fun k => by
    rcases hb : s.testBit k with _ | _
    · rw [restG, if_neg (fun h => by rw [hb] at h; cases h.2)]; rfl
    · have hG : restG G (w :: l) s w k = G w k := by rw [restG, if_pos ⟨by simp, hb⟩]
      have hle := gone_le (G := restG G (w :: l) s) (m := m) (n := n) (w := w) (k := k)
      rw [rest_gone hwl hb, ← IH, ← h0] at hle
      rw [rest_gone hwl hb, ← IH, ← h0, hG, Bool.true_and]
      by_cases h1 : 0 ≤ G w k
      · rw [decide_eq_true h1, Bool.true_and]
      · rw [decide_eq_false h1, decide_eq_false (by omega)]; rfl
  unfold pickF leastF
  congr 1
  funext k
  exact hc k
theorem least_some {g F : Nat → Int} {a : Int} {s m k : Nat} (h : leastF g F a s m = some k) : k < m ∧ s.testBit k = true ∧ g k + F (s ^^^ 2 ^ k) = a := by
  obtain ⟨h1, h2, _⟩ := find_range.1 h
  rw [Bool.and_eq_true, decide_eq_true_eq] at h2
  exact ⟨h1, h2.1, h2.2⟩
theorem hadO_bound {g : List (List Int)} {M : Nat} (h : mayW g M = true) {l : List Nat} (hnd : l.Nodup) (hlt : ∀ b ∈ l, b < g.length) (s : Nat) : 0 ≤ hadO (gG g) M l s ∧ hadO (gG g) M l s ≤ 8000000 := by
  rw [hadO_best l s hnd hlt]
  have h1 := bestV_nonneg (restG (gG g) l s) M g.length
  have h2 := bestV_bound (G := restG (gG g) l s) (K := 1000000) (by omega) (fun b c => by
    unfold restG
    split
    · exact (gG_bound h b c).2
    · omega) M g.length
  have h4 := (may_m h).2.2
  omega
end
/-- What stands there when so many have been asked. -/
structure StP (g : List (List Int)) (M : Nat) (o : List Int) (p s : Nat) (H : List Int) (a : Int) : Prop where
  hl : H.length = g.length
  fit : ∀ z ∈ H, -1 ≤ z ∧ z < 8
  a_ : a = hadO (gG g) M ((whoN o).drop p) s
  s_ : s < 2 ^ M
  at_ : ∀ b, b < g.length → optI (firstV g M o b) = if b ∈ (whoN o).take p then H.getD b (-1) else optI (firstF (restG (gG g) ((whoN o).drop p) s) M g.length ((whoN o).drop p) b)
theorem bit_all {M c : Nat} (h : c < M) : (2 ^ M - 1).testBit c = true := by
  rw [Nat.testBit_two_pow_sub_one]; simpa using h
theorem stp_start {g : List (List Int)} {M : Nat} {o : List Int} (h : mayF g M o = true) : StP g M o 0 (2 ^ M - 1) (List.replicate g.length 0) (bestV (gG g) M g.length) := by
  obtain ⟨h1, h2⟩ := mayF_iff.1 h
  have he : ∀ b c, b < g.length → c < M → gG g b c = restG (gG g) (whoN o) (2 ^ M - 1) b c := fun b c hb hc => by rw [restG, if_pos ⟨ord_all h2 hb, bit_all hc⟩]
  refine ⟨by simp, fun z hz => by rw [(List.mem_replicate.1 hz).2]; omega, ?_, Nat.sub_lt (Nat.two_pow_pos _) (by omega), fun b hb => ?_⟩
  · rw [List.drop_zero, hadO_best _ _ (ord_nodup h2) (ord_lt h2)]
    exact best_congr fun b c hb hc _ => he b c hb hc
  · rw [List.take_zero, if_neg (by simp), List.drop_zero, firstV]
    congr 1
    exact (first_congr (fun b c hb hc _ => he b c hb hc) (ord_lt h2) hb).symm
def restS (s : Nat) : Option Nat → Nat
  | some k => s ^^^ 2 ^ k
  | none => s
def restA (a : Int) (g : Nat → Int) : Option Nat → Int
  | some k => a - g k
  | none => a
theorem stp_step {g : List (List Int)} {M : Nat} {o : List Int} {p w s : Nat} {H : List Int} {a : Int} (ho : ordB o g.length = true) (h : StP g M o p s H a) (hM : M ≤ 8) (hw : (whoN o)[p]? = some w) (q : Option Nat)
    (hq : leastF (gG g w) (hadO (gG g) M ((whoN o).drop (p + 1))) a s M = q) :
    StP g M o (p + 1) (restS s q) (H.set w (optI q)) (restA a (gG g w) q) := by
  have hp : p < (whoN o).length := (List.getElem?_eq_some_iff.1 hw).1
  have hd : (whoN o).drop p = w :: (whoN o).drop (p + 1) := by
    rw [List.drop_eq_getElem_cons hp, (List.getElem?_eq_some_iff.1 hw).2]
  have ht : (whoN o).take (p + 1) = (whoN o).take p ++ [w] := by
    rw [List.take_succ_eq_append_getElem hp, (List.getElem?_eq_some_iff.1 hw).2]
  have hnd : (w :: (whoN o).drop (p + 1)).Nodup := by rw [← hd]; exact (ord_nodup ho).sublist (List.drop_sublist _ _)
  have hlt : ∀ b ∈ w :: (whoN o).drop (p + 1), b < g.length := fun b hb => by
    rw [← hd] at hb; exact ord_lt ho b (List.mem_of_mem_drop hb)
  have hwl := (List.nodup_cons.1 hnd).1
  have hwg : w < g.length := hlt w (by simp)
  have hwt : w ∉ (whoN o).take p := fun hm => by
    have h5 : ((whoN o).take p ++ (whoN o).drop p).Nodup := by rw [List.take_append_drop]; exact ord_nodup ho
    rw [hd] at h5
    exact (List.nodup_append.1 h5).2.2 w hm w (by simp) rfl
  have hpk := pick_least (G := gG g) (m := M) (s := s) hnd hlt
  have ha := h.a_
  rw [hd] at ha
  rw [← ha, hq] at hpk
  have hget : ∀ (z : Int) b, (H.set w z).getD b (-1) = if b = w then z else H.getD b (-1) := fun z b => by
    rw [List.getD_eq_getElem?_getD, List.getElem?_set]
    by_cases e : w = b
    · rw [if_pos e, if_pos (by rw [h.hl]; exact hwg), if_pos e.symm]; rfl
    · rw [if_neg e, if_neg (fun h => e h.symm), List.getD_eq_getElem?_getD]
  have hq8 : -1 ≤ optI q ∧ optI q < 8 := by
    cases q with
    | none => simp only [optI]; omega
    | some k => have := (least_some hq).1; simp only [optI]; omega
  refine ⟨by rw [List.length_set]; exact h.hl, fun z hz => ?_, ?_, ?_, fun b hb => ?_⟩
  · rcases List.mem_or_eq_of_mem_set hz with hz | rfl
    · exact h.fit z hz
    · exact hq8
  · cases q with
    | none =>
      have h1 := pick_none_best hpk hwg
      rw [rest_none hwl] at h1
      show a = hadO (gG g) M ((whoN o).drop (p + 1)) s
      rw [hadO_best _ s (List.nodup_cons.1 hnd).2 (fun b hb => hlt b (by simp [hb])), h1, ← hadO_best _ s hnd hlt]; exact ha
    | some k =>
      have := (least_some hq).2.2
      show a - gG g w k = hadO (gG g) M ((whoN o).drop (p + 1)) (s ^^^ 2 ^ k)
      omega
  · cases q with
    | none => exact h.s_
    | some k => exact Nat.xor_lt_two_pow h.s_ (Nat.pow_lt_pow_right (by omega) (least_some hq).1)
  · rw [h.at_ b hb, hd, ht, hget]
    by_cases e : b = w
    · subst e
      rw [if_neg hwt, if_pos (by simp), if_pos rfl]
      cases q with
      | none => rw [first_cons_none hpk, setN_eq]
      | some k => rw [first_cons_some hpk, setN_eq]
    · rw [if_neg e]
      by_cases hm : b ∈ (whoN o).take p
      · rw [if_pos hm, if_pos (by simp [hm])]
      · rw [if_neg hm, if_neg (by simp [hm, e])]
        congr 1
        cases q with
        | none => show _ = firstF (restG (gG g) ((whoN o).drop (p + 1)) s) M g.length _ b; rw [first_cons_none hpk, setN_ne e, rest_none hwl]
        | some k => show _ = firstF (restG (gG g) ((whoN o).drop (p + 1)) (s ^^^ 2 ^ k)) M g.length _ b; rw [first_cons_some hpk, setN_ne e, rest_gone hwl (least_some hq).2.1]
theorem stp_end {g : List (List Int)} {M : Nat} {o : List Int} {s : Nat} {H : List Int} {a : Int} (hf : mayF g M o = true) (h : StP g M o o.length s H a) : H = firstE g M o := by
  obtain ⟨h1, h2⟩ := mayF_iff.1 hf
  rw [(fi_ok hf).2]
  refine List.ext_getElem? fun b => ?_
  by_cases hb : b < g.length
  · rw [List.getElem?_map, List.getElem?_range hb]
    show _ = some (optI (firstV g M o b))
    rw [h.at_ b hb, if_pos (by rw [List.take_of_length_le (by rw [whoN_len]; exact Nat.le_refl _)]; exact ord_all h2 hb), List.getD_eq_getElem?_getD, List.getElem?_eq_getElem (by rw [h.hl]; exact hb)]; rfl
  · rw [List.getElem?_eq_none (by rw [h.hl]; omega), List.getElem?_eq_none (by simp; omega)]

/-! The table in memory. -/
theorem ci64_map_set (N s : Nat) (z : Int) (F : Nat → Int) : (ci64 ((List.range N).map F)).set s (.int .i64 z) = ci64 ((List.range N).map fun t => if t = s then z else F t) := by
  refine List.ext_getElem? fun i => ?_
  rw [List.getElem?_set]
  rw [show ci64 ((List.range N).map F) = ((List.range N).map F).map iV from rfl, show ci64 ((List.range N).map fun t => if t = s then z else F t) = ((List.range N).map fun t => if t = s then z else F t).map iV from rfl, List.getElem?_map, List.getElem?_map, List.length_map, List.length_map, List.length_range, List.getElem?_map, List.getElem?_map]
  by_cases hi : i < N
  · rw [List.getElem?_range hi, Option.map_some, Option.map_some, Option.map_some]
    by_cases e : s = i
    · rw [if_pos e, if_pos (by omega)]
      simp only [if_pos e.symm, Option.map_some]; rfl
    · rw [if_neg e]
      simp only [if_neg (fun h => e (Eq.symm h)), Option.map_some]
  · rw [List.getElem?_eq_none (l := List.range N) (by simp; omega)]
    by_cases e : s = i
    · rw [if_pos e, if_neg (by omega)]; rfl
    · rw [if_neg e]; rfl
def TbAt (w : World) (b : Nat) (F : Nat → Int) : Prop := w.heap[b]? = some (.cells (ci64 ((List.range 2048).map F)).toArray 67 (0, 0))
theorem TbAt.lt {w : World} {b : Nat} {F : Nat → Int} (h : TbAt w b F) : b < w.heap.size := (Array.getElem?_eq_some_iff.1 h).1
theorem TbAt.below {w w' : World} {b : Nat} {F : Nat → Int} (h : TbAt w b F) (hb : Below w.heap.size w w') : TbAt w' b F := (hb.block b h.lt).trans h
theorem TbAt.cell {w : World} {b s : Nat} {F : Nat → Int} (h : TbAt w b F) (hs : s < 2048) : w.cell? ⟨b, s, none⟩ = some (.int .i64 (F s)) := by
  rw [cell_of_row _ _ _ _ _ _ h, List.getElem?_toArray]
  rw [show ci64 ((List.range 2048).map F) = ((List.range 2048).map F).map iV from rfl, List.getElem?_map, List.getElem?_map, List.getElem?_range hs]; rfl
theorem TbAt.free {w : World} {b s : Nat} {F : Nat → Int} (h : TbAt w b F) : w.frozen? ⟨b, s, none⟩ = false := frozen_of_row _ _ _ _ _ h
theorem TbAt.set {w : World} {b s : Nat} {z : Int} {F : Nat → Int} (h : TbAt w b F) : TbAt (w.setCell ⟨b, s, none⟩ (.int .i64 z)) b fun t => if t = s then z else F t := by
  have h1 := heap_setCell_same w b s _ _ (.int .i64 z) h
  unfold TbAt
  rw [h1, List.setIfInBounds_toArray, ci64_map_set]
def tbC : Array Value := (ci64 ((List.range 2048).map fun _ => 0)).toArray
theorem tb_zero : (Tryd.prog.info? 67).bind (·.zero) = some (.agg tbC) := by kernel_rfl
theorem TbAt.new (w : World) : TbAt (w.alloc (.cells tbC 67)) w.heap.size fun _ => 0 := heap_alloc_new w _
theorem wpList_newTb {w : World} {ops : Array Oper} {rest : List Oper} {o : Oper} {a : Act} {Q : Exit → Act → World → Prop} (hg : o.guard = none) (hop : o.op = Op.alloc 67)
    (h : ∀ w', TbAt w' w.heap.size (fun _ => 0) → Below w.heap.size w w' → wpList Tryd.prog ops Q rest (a.put o.dst (.pointer (some ⟨w.heap.size, 0, none⟩))) w') : wpList Tryd.prog ops Q (o :: rest) a w := by
  refine wpList_plain hg fun K hK => ?_
  obtain ⟨i, hq, hz⟩ : ∃ i, Tryd.prog.info? 67 = some i ∧ i.zero = some (.agg tbC) := by
    have hz := tb_zero
    cases hq : Tryd.prog.info? 67 with
    | none => rw [hq] at hz; cases hz
    | some i => rw [hq] at hz; exact ⟨i, rfl, hz⟩
  have hr := run_allocAny (P := Tryd.prog) 67 i _ w hq hz
  have hc : (Value.agg tbC).cells = tbC := rfl
  rw [hc] at hr
  have h2 := hK _ _ (h (w.alloc (.cells tbC 67)) (TbAt.new w) ((Below.refl _ w).alloc (Nat.le_refl _) _))
  unfold Oper.wp execOp
  simp only [hop, Sem.run_bind, Sem.run_pure, Result.andThen_ok, hr]
  exact h2
end Go.Proofs.YtecgakfblhiiaaaDoor
