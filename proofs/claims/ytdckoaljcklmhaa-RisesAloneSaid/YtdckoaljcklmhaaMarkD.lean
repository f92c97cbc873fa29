/-
  What layer 5 (markets) says, as plain functions of lists and numbers: reserves r, bids b, order o.
-/
import Derived.Test.YtdckoaljcklmhaaVecD
namespace Go.Proofs.Ytdckoaljcklmhaa
set_option linter.unusedVariables false

/-- Numbers that four bytes tell. -/
def Small (zs : List Int) : Prop := zs.length ≤ 255 ∧ ∀ z ∈ zs, 0 ≤ z ∧ z < 4294967296
theorem mod_small {zs : List Int} (h : ∀ z ∈ zs, 0 ≤ z ∧ z < 4294967296) : (zs.map fun z => z % 4294967296) = zs := by
  induction zs with
  | nil => rfl
  | cons z r ih =>
    have hz := h z (by simp)
    rw [List.map_cons, ih (fun x hx => h x (by simp [hx])), show z % 4294967296 = z by omega]
theorem getL_small (r : List UInt8) (k : Nat) (hk : k ≤ 255) : Small (getL r k) := by
  refine ⟨by rw [getL_len]; exact hk, ?_⟩
  clear hk
  induction k generalizing r with
  | zero => intro z hz; simp [getL] at hz
  | succ k ih =>
    intro z hz
    rw [getL, List.mem_cons] at hz
    rcases hz with rfl | hz
    · have := getN_take4 r
      omega
    · exact ih _ z hz
theorem mayB_small {bid : List Int} {items : Int} (h : mayB bid items = true) : Small bid := by
  obtain ⟨h1, h2, h3, h4⟩ := (mayB_iff _ _).1 h
  exact ⟨by omega, fun z hz => by have := h4 z hz; omega⟩
theorem small_nil : Small [] := ⟨by simp, by simp⟩

/-! ## One list, and so many -/
/-- One list, and what stands behind it; none, if the bytes end ahead of it. -/
def getLp (bs : List UInt8) : Option (List Int × List UInt8) :=
  if bs.length < 1 + 4 * getN (bs.take 1) then none else some (getL (bs.drop 1) (getN (bs.take 1)), bs.drop (1 + 4 * getN (bs.take 1)))
theorem getLp_none {bs : List UInt8} (h : bs.length < 1 + 4 * getN (bs.take 1)) : getLp bs = none := by rw [getLp, if_pos h]
theorem getLp_some {bs : List UInt8} (h : ¬ bs.length < 1 + 4 * getN (bs.take 1)) : getLp bs = some (getL (bs.drop 1) (getN (bs.take 1)), bs.drop (1 + 4 * getN (bs.take 1))) := by rw [getLp, if_neg h]
theorem getLp_put (zs : List Int) (r : List UInt8) (h : Small zs) : getLp (putL zs ++ r) = some (zs, r) := by
  have h1 := putL_first zs h.1 r
  have h2 := putL_len zs
  rw [Nat.min_eq_left h.1] at h2
  rw [getLp_some (by rw [h1, List.length_append]; omega), h1, putL_rest zs h.1 r, mod_small h.2, List.drop_append_of_le_length (by omega), List.drop_of_length_le (by omega), List.nil_append]
theorem getLp_of {bs : List UInt8} {zs : List Int} {r : List UInt8} (h : getLp bs = some (zs, r)) : Small zs ∧ bs = putL zs ++ r := by
  by_cases h1 : bs.length < 1 + 4 * getN (bs.take 1)
  · rw [getLp_none h1] at h; cases h
  · rw [getLp_some h1] at h
    simp only [Option.some.injEq, Prod.mk.injEq] at h
    obtain ⟨rfl, rfl⟩ := h
    have h2 := getN_take1 bs
    refine ⟨getL_small _ _ (by omega), ?_⟩
    rw [putL_getL bs _ rfl (by omega), List.take_append_drop]
theorem getLp_cut (zs : List Int) (h : Small zs) (k : Nat) (hk : k < (putL zs).length) : getLp ((putL zs).take k) = none := by
  have h2 := putL_len zs
  rw [Nat.min_eq_left h.1] at h2
  refine getLp_none ?_
  rw [List.length_take, Nat.min_eq_left (by omega)]
  by_cases hk1 : 1 ≤ k
  · have h3 := putL_first zs h.1 []
    rw [List.append_nil] at h3
    rw [List.take_take, Nat.min_eq_left hk1, h3]
    omega
  · omega

/-- So many lists, one behind the other. -/
def getLs : Nat → List UInt8 → Option (List (List Int) × List UInt8)
  | 0, bs => some ([], bs)
  | k + 1, bs => match getLp bs with
    | none => none
    | some (l, r) => match getLs k r with
      | none => none
      | some (ls, q) => some (l :: ls, q)
def putLs : List (List Int) → List UInt8
  | [] => []
  | l :: r => putL l ++ putLs r
theorem putLs_app (a b : List (List Int)) : putLs (a ++ b) = putLs a ++ putLs b := by
  induction a with
  | nil => rfl
  | cons l a ih => rw [List.cons_append, putLs, putLs, ih, List.append_assoc]
theorem putLs_snoc (a : List (List Int)) (l : List Int) : putLs (a ++ [l]) = putLs a ++ putL l := by
  rw [putLs_app, putLs, putLs, List.append_nil]
theorem getLs_put (b : List (List Int)) (r : List UInt8) (h : ∀ l ∈ b, Small l) : getLs b.length (putLs b ++ r) = some (b, r) := by
  induction b with
  | nil => rfl
  | cons l b ih =>
    rw [List.length_cons, getLs, putLs, List.append_assoc, getLp_put l _ (h l (by simp))]
    simp only [ih (fun x hx => h x (by simp [hx]))]
theorem getLs_of {k : Nat} {bs : List UInt8} {b : List (List Int)} {r : List UInt8} (h : getLs k bs = some (b, r)) : b.length = k ∧ (∀ l ∈ b, Small l) ∧ bs = putLs b ++ r := by
  induction k generalizing bs b r with
  | zero =>
    rw [getLs] at h
    simp only [Option.some.injEq, Prod.mk.injEq] at h
    obtain ⟨rfl, rfl⟩ := h
    exact ⟨rfl, by simp, rfl⟩
  | succ k ih =>
    rw [getLs] at h
    cases h1 : getLp bs with
    | none => rw [h1] at h; cases h
    | some p =>
      obtain ⟨l, q⟩ := p
      rw [h1] at h
      simp only at h
      cases h2 : getLs k q with
      | none => rw [h2] at h; cases h
      | some p2 =>
        obtain ⟨ls, q2⟩ := p2
        rw [h2] at h
        simp only [Option.some.injEq, Prod.mk.injEq] at h
        obtain ⟨rfl, rfl⟩ := h
        obtain ⟨a1, a2, a3⟩ := ih h2
        obtain ⟨b1, b2⟩ := getLp_of h1
        refine ⟨by simp [a1], ?_, ?_⟩
        · intro x hx
          rcases List.mem_cons.1 hx with rfl | hx
          · exact b1
          · exact a2 x hx
        · rw [b2, a3, putLs, List.append_assoc]
/-- A step of the loop that reads them. -/
theorem getLs_snoc (k : Nat) (bs : List UInt8) : getLs (k + 1) bs = match getLs k bs with
    | none => none
    | some (ls, q) => match getLp q with
      | none => none
      | some (l, r) => some (ls ++ [l], r) := by
  induction k generalizing bs with
  | zero =>
    simp only [getLs]
    cases h : getLp bs with
    | none => rfl
    | some p => obtain ⟨l, r⟩ := p; rfl
  | succ k ih =>
    rw [getLs]
    cases h : getLp bs with
    | none => simp only [getLs, h]
    | some p =>
      obtain ⟨l, r⟩ := p
      simp only [ih r]
      rw [getLs, h]
      simp only
      cases h2 : getLs k r with
      | none => rfl
      | some p2 =>
        obtain ⟨ls, q⟩ := p2
        simp only
        cases h3 : getLp q with
        | none => rfl
        | some p3 => obtain ⟨l2, r2⟩ := p3; rfl
theorem getLs_cut (b : List (List Int)) (r : List UInt8) (h : ∀ l ∈ b, Small l) (k : Nat) (hk : k < (putLs b).length) : getLs b.length ((putLs b).take k) = none := by
  induction b generalizing k with
  | nil => simp [putLs] at hk
  | cons l b ih =>
    rw [putLs, List.length_append] at hk
    rw [List.length_cons, getLs, putLs]
    have hs := h l (by simp)
    by_cases h1 : k < (putL l).length
    · rw [List.take_append_of_le_length (by omega), getLp_cut l hs k h1]
    · rw [List.take_append, List.take_of_length_le (by omega), getLp_put l _ hs]
      simp only [ih (fun x hx => h x (by simp [hx])) (k - (putL l).length) (by omega)]

/-! ## Markets -/
/-- May a bid be, or is there none? -/
def bidB (bid : List Int) (items : Int) : Bool := decide (bid = []) || mayB bid items
/-- How often a bidder stands in the order. -/
def times (o : List Int) (i : Int) : Nat := o.countP fun z => decide (z = i)
/-- May a market be? -/
def mayM (r : List Int) (b : List (List Int)) (o : List Int) : Bool :=
  mayB r r.length && decide (1 ≤ b.length ∧ b.length ≤ 8 ∧ o.length = b.length) && b.all (fun l => bidB l r.length) && (List.range b.length).all fun i => decide (times o i = 1)
theorem mayM_iff (r : List Int) (b : List (List Int)) (o : List Int) : mayM r b o = true ↔
    mayB r r.length = true ∧ (1 ≤ b.length ∧ b.length ≤ 8 ∧ o.length = b.length) ∧ (∀ l ∈ b, bidB l r.length = true) ∧ ∀ i, i < b.length → times o (i : Nat) = 1 := by
  simp only [mayM, Bool.and_eq_true, decide_eq_true_eq, List.all_eq_true, List.mem_range, and_assoc]
theorem bidB_small {l : List Int} {n : Int} (h : bidB l n = true) : Small l := by
  simp only [bidB, Bool.or_eq_true, decide_eq_true_eq] at h
  rcases h with rfl | h
  · exact small_nil
  · exact mayB_small h
theorem bidB_len {l : List Int} {n : Int} (h : bidB l n = true) : l = [] ∨ (l.length : Int) = n := by
  simp only [bidB, Bool.or_eq_true, decide_eq_true_eq] at h
  rcases h with rfl | h
  · exact Or.inl rfl
  · exact Or.inr ((mayB_iff _ _).1 h).2.2.1

/-- As many numbers as there are bidders, each one there once: each is a bidder. -/
theorem times_mem {o : List Int} {i : Int} (h : times o i = 1) : i ∈ o := by
  have h1 : 0 < times o i := by omega
  rw [times, List.countP_pos_iff] at h1
  obtain ⟨z, hz, h2⟩ := h1
  simp only [decide_eq_true_eq] at h2
  exact h2 ▸ hz
/-- The numbers below n in o: the sum of how often each stands there. -/
theorem times_sum (o : List Int) (n : Nat) : (o.countP fun z => decide (0 ≤ z ∧ z < (n : Int))) = ((List.range n).map fun i => times o (i : Nat)).sum := by
  induction n with
  | zero =>
    simp only [List.range_zero, List.map_nil, List.sum_nil]
    rw [List.countP_eq_zero]
    intro z _
    simp only [decide_eq_true_eq]
    omega
  | succ n ih =>
    rw [List.range_succ, List.map_append, List.sum_append, ← ih]
    simp only [List.map_cons, List.map_nil, List.sum_cons, List.sum_nil, Nat.add_zero, times]
    clear ih
    induction o with
    | nil => rfl
    | cons z o ih2 =>
      simp only [List.countP_cons, ih2]
      by_cases h1 : z = (n : Int)
      · have a1 : decide (0 ≤ z ∧ z < ((n + 1 : Nat) : Int)) = true := decide_eq_true (by omega)
        have a2 : decide (0 ≤ z ∧ z < (n : Int)) = false := decide_eq_false (by omega)
        have a3 : decide (z = (n : Int)) = true := decide_eq_true h1
        simp only [a1, a2, a3, if_true, Bool.false_eq_true, if_false]
        omega
      · have a3 : decide (z = (n : Int)) = false := decide_eq_false h1
        have a1 : decide (0 ≤ z ∧ z < ((n + 1 : Nat) : Int)) = decide (0 ≤ z ∧ z < (n : Int)) := decide_eq_decide.2 (by omega)
        simp only [a1, a3, Bool.false_eq_true, if_false]
        omega
theorem sum_ones {l : List Nat} (h : ∀ x ∈ l, x = 1) : l.sum = l.length := by
  induction l with
  | nil => rfl
  | cons x l ih =>
    have := h x (by simp)
    rw [List.sum_cons, ih (fun y hy => h y (by simp [hy])), List.length_cons]
    omega
theorem order_in {o : List Int} {n : Nat} (hl : o.length = n) (h : ∀ i, i < n → times o (i : Nat) = 1) : ∀ z ∈ o, 0 ≤ z ∧ z < n := by
  have h1 := times_sum o n
  rw [sum_ones (by intro x hx; simp only [List.mem_map, List.mem_range] at hx; obtain ⟨i, hi, rfl⟩ := hx; exact h i hi), List.length_map, List.length_range, ← hl, List.countP_eq_length] at h1
  intro z hz
  have := h1 z hz
  simp only [decide_eq_true_eq] at this
  rw [hl] at this
  exact this

theorem mayM_small {r : List Int} {b : List (List Int)} {o : List Int} (h : mayM r b o = true) : Small r ∧ (∀ l ∈ b, Small l) ∧ Small o ∧ 1 ≤ b.length ∧ b.length ≤ 8 := by
  obtain ⟨h1, ⟨h2, h3, h4⟩, h5, h6⟩ := (mayM_iff r b o).1 h
  exact ⟨mayB_small h1, fun l hl => bidB_small (h5 l hl), ⟨by omega, fun z hz => by have := order_in h4 h6 z hz; omega⟩, h2, h3⟩

/-- A market's bytes. -/
def putM (r : List Int) (b : List (List Int)) (o : List Int) : List UInt8 := putL r ++ (putB b.length 1 ++ (putLs b ++ putL o))
/-- Whether they end too soon, and which market they would be; what stands behind it. -/
def readM (bs : List UInt8) : Option ((List Int × List (List Int) × List Int) × List UInt8) :=
  match getLp bs with
  | none => none
  | some (r, q) => if q.length < 1 then none else match getLs (getN (q.take 1)) (q.drop 1) with
    | none => none
    | some (b, q2) => match getLp q2 with
      | none => none
      | some (o, q3) => some ((r, b, o), q3)
theorem readM_put {r : List Int} {b : List (List Int)} {o : List Int} (h : mayM r b o = true) (q : List UInt8) : readM (putM r b o ++ q) = some ((r, b, o), q) := by
  obtain ⟨h1, h2, h3, h4, h5⟩ := mayM_small h
  rw [readM, putM, List.append_assoc, getLp_put r _ h1]
  have h6 := putB_len b.length 1
  simp only [List.append_assoc]
  rw [if_neg (by rw [List.length_append]; omega), List.take_append_of_le_length (by omega), List.take_of_length_le (by omega), List.drop_append_of_le_length (by omega), List.drop_of_length_le (by omega), List.nil_append, getN_put, Nat.mod_eq_of_lt (by omega), getLs_put b _ h2]
  simp only
  rw [getLp_put o _ h3]
theorem readM_of {bs : List UInt8} {r : List Int} {b : List (List Int)} {o : List Int} {q : List UInt8} (h : readM bs = some ((r, b, o), q)) : bs = putM r b o ++ q := by
  rw [readM] at h
  cases h1 : getLp bs with
  | none => rw [h1] at h; cases h
  | some p =>
    obtain ⟨r', q1⟩ := p
    rw [h1] at h
    simp only at h
    by_cases hq : q1.length < 1
    · rw [if_pos hq] at h; cases h
    · rw [if_neg hq] at h
      cases h2 : getLs (getN (q1.take 1)) (q1.drop 1) with
      | none => rw [h2] at h; cases h
      | some p2 =>
        obtain ⟨b', q2⟩ := p2
        rw [h2] at h
        simp only at h
        cases h3 : getLp q2 with
        | none => rw [h3] at h; cases h
        | some p3 =>
          obtain ⟨o', q3⟩ := p3
          rw [h3] at h
          simp only [Option.some.injEq, Prod.mk.injEq] at h
          obtain ⟨⟨rfl, rfl, rfl⟩, rfl⟩ := h
          obtain ⟨_, e1⟩ := getLp_of h1
          obtain ⟨e2, _, e3⟩ := getLs_of h2
          obtain ⟨_, e4⟩ := getLp_of h3
          rw [putM, e1, List.append_assoc, List.append_assoc, List.append_assoc, ← e4, ← e3, e2, putB_take_get q1 1 (by omega), List.take_append_drop]
theorem readM_cut {r : List Int} {b : List (List Int)} {o : List Int} (h : mayM r b o = true) (k : Nat) (hk : k < (putM r b o).length) : readM ((putM r b o).take k) = none := by
  obtain ⟨h1, h2, h3, h4, h5⟩ := mayM_small h
  have h6 := putB_len b.length 1
  simp only [putM, List.length_append] at hk
  rw [readM, putM]
  by_cases c1 : k < (putL r).length
  · rw [List.take_append_of_le_length (by omega), getLp_cut r h1 k c1]
  · rw [List.take_append, List.take_of_length_le (by omega), getLp_put r _ h1]
    simp only
    by_cases c2 : k - (putL r).length < 1
    · rw [if_pos (by rw [List.length_take]; omega)]
    · rw [if_neg (by rw [List.length_take, List.length_append]; omega), List.take_take, Nat.min_eq_left (by omega), List.take_append_of_le_length (by omega), List.take_of_length_le (by omega), getN_put, Nat.mod_eq_of_lt (by omega), List.take_append, List.take_of_length_le (l := putB b.length 1) (by omega), List.drop_append_of_le_length (by omega), List.drop_of_length_le (by omega), List.nil_append, h6]
      by_cases c3 : k - (putL r).length - 1 < (putLs b).length
      · rw [List.take_append_of_le_length (by omega), getLs_cut b [] h2 _ c3]
      · rw [List.take_append, List.take_of_length_le (l := putLs b) (by omega), getLs_put b _ h2]
        simp only
        rw [getLp_cut o h3 _ (by omega)]

/-- Which of the document's answers bytes get: 0, 4 or 5. -/
def getME (bs : List UInt8) : Int := match readM bs with
  | none => 5
  | some ((r, b, o), q) => if q = [] ∧ mayM r b o = true then 0 else 4
theorem getME_cases (bs : List UInt8) : getME bs = 0 ∨ getME bs = 4 ∨ getME bs = 5 := by
  unfold getME
  cases readM bs with
  | none => exact Or.inr (Or.inr rfl)
  | some p =>
    obtain ⟨⟨r, b, o⟩, q⟩ := p
    simp only
    by_cases h : q = [] ∧ mayM r b o = true
    · rw [if_pos h]; exact Or.inl rfl
    · rw [if_neg h]; exact Or.inr (Or.inl rfl)
theorem getME_put {r : List Int} {b : List (List Int)} {o : List Int} (h : mayM r b o = true) : getME (putM r b o) = 0 := by
  have h1 := readM_put h []
  rw [List.append_nil] at h1
  rw [getME, h1]
  exact if_pos ⟨rfl, h⟩
theorem getME_more {r : List Int} {b : List (List Int)} {o : List Int} (h : mayM r b o = true) (x : UInt8) : getME (putM r b o ++ [x]) = 4 := by
  rw [getME, readM_put h]
  exact if_neg (by simp)
theorem getME_cut {r : List Int} {b : List (List Int)} {o : List Int} (h : mayM r b o = true) (k : Nat) (hk : k < (putM r b o).length) : getME ((putM r b o).take k) = 5 := by
  rw [getME, readM_cut h k hk]
theorem getME_zero {bs : List UInt8} (h : getME bs = 0) : ∃ r b o, mayM r b o = true ∧ readM bs = some ((r, b, o), []) ∧ bs = putM r b o := by
  rw [getME] at h
  cases h1 : readM bs with
  | none => rw [h1] at h; simp at h
  | some p =>
    obtain ⟨⟨r, b, o⟩, q⟩ := p
    rw [h1] at h
    simp only at h
    by_cases h2 : q = [] ∧ mayM r b o = true
    · obtain ⟨rfl, h3⟩ := h2
      refine ⟨r, b, o, h3, rfl, ?_⟩
      have := readM_of h1
      rw [List.append_nil] at this
      exact this
    · rw [if_neg h2] at h; simp at h
theorem putLs_len {b : List (List Int)} (h : ∀ l ∈ b, Small l) : (putLs b).length = (b.map fun l => 1 + 4 * l.length).sum := by
  induction b with
  | nil => rfl
  | cons l b ih =>
    have h1 := h l (by simp)
    have h2 := putL_len l
    rw [Nat.min_eq_left h1.1] at h2
    rw [putLs, List.length_append, h2, ih (fun x hx => h x (by simp [hx])), List.map_cons, List.sum_cons]
theorem putM_len {r : List Int} {b : List (List Int)} {o : List Int} (h : mayM r b o = true) : (putM r b o).length = 3 + 4 * r.length + 4 * o.length + (b.map fun l => 1 + 4 * l.length).sum := by
  obtain ⟨h1, h2, h3, h4, h5⟩ := mayM_small h
  have h6 := putL_len r
  have h7 := putL_len o
  rw [Nat.min_eq_left h1.1] at h6
  rw [Nat.min_eq_left h3.1] at h7
  rw [putM, List.length_append, List.length_append, List.length_append, h6, h7, putB_len, putLs_len h2]
  omega

/-! ## What each one gains; without one -/
/-- What one gains by each item. -/
def gain (r : List Int) (l : List Int) : List Int := if l = [] then r.map fun _ => -1 else List.zipWith (· - ·) l r
def gains (r : List Int) (b : List (List Int)) : List (List Int) := b.map (gain r)
theorem gain_len {r l : List Int} (h : bidB l r.length = true) : (gain r l).length = r.length := by
  unfold gain
  by_cases hl : l = []
  · rw [if_pos hl, List.length_map]
  · have h1 := (bidB_len h).resolve_left hl
    rw [if_neg hl, List.length_zipWith]
    omega
/-- The bids without one. -/
def less (b : List (List Int)) (i : Nat) : List (List Int) := b.set i []
theorem less_len (b : List (List Int)) (i : Nat) : (less b i).length = b.length := List.length_set ..
theorem mayM_less {r : List Int} {b : List (List Int)} {o : List Int} (h : mayM r b o = true) (i : Nat) : mayM r (less b i) o = true := by
  obtain ⟨h1, h2, h3, h4⟩ := (mayM_iff r b o).1 h
  refine (mayM_iff r _ o).2 ⟨h1, by rw [less_len]; exact h2, ?_, by rw [less_len]; exact h4⟩
  intro l hl
  rcases List.mem_or_eq_of_mem_set hl with hl | rfl
  · exact h3 l hl
  · simp [bidB]
theorem less_comm (b : List (List Int)) (i k : Nat) : less (less b i) k = less (less b k) i := by
  unfold less
  by_cases h : i = k
  · rw [h]
  · exact List.set_comm _ _ h
theorem less_twice (b : List (List Int)) (i : Nat) : less (less b i) i = less b i := List.set_set ..
theorem less_none {b : List (List Int)} {i : Nat} (hi : i < b.length) (h : b[i] = []) : less b i = b := by
  unfold less
  rw [← h]
  exact List.set_getElem_self hi
/-- What one gains is worth what its bid says, where that is not below 0. -/
theorem gain_worth {r l : List Int} (h : bidB l r.length = true) (k : Nat) (hk : k < r.length) : max (-1) ((gain r l).getD k 0) = worth l r k := by
  unfold gain
  by_cases hl : l = []
  · subst hl
    rw [if_pos rfl, worth_out (by simp; omega)]
    simp [List.getD, hk]
  · have h1 := (bidB_len h).resolve_left hl
    rw [if_neg hl, worth_in k (by omega) hk]
    simp [List.getD, List.getElem?_zipWith, List.getElem?_eq_getElem hk, List.getElem?_eq_getElem (show k < l.length by omega)]
/-- Each stands in the order once: each is a bidder, and no two are the same. -/
theorem times_once {o : List Int} (h : ∀ (i k : Nat) (hi : i < o.length) (hk : k < i), o[i] ≠ o[k]'(by omega)) (z : Int) (hz : z ∈ o) : times o z = 1 := by
  induction o with
  | nil => simp at hz
  | cons x o ih =>
    have hx : times o x = 0 := by
      rw [times, List.countP_eq_zero]
      intro y hy
      simp only [decide_eq_true_eq]
      rintro rfl
      obtain ⟨i, hi, e⟩ := List.getElem_of_mem hy
      have h1 := h (i + 1) 0 (by simp only [List.length_cons]; omega) (by omega)
      simp only [List.getElem_cons_succ, List.getElem_cons_zero] at h1
      exact h1 e
    by_cases e : x = z
    · subst e
      unfold times at hx ⊢
      rw [List.countP_cons, hx]
      simp
    · rcases List.mem_cons.1 hz with rfl | hz
      · exact absurd rfl e
      · have h2 := ih (fun i k hi hk => by
          have h3 := h (i + 1) (k + 1) (by simp only [List.length_cons]; omega) (by omega)
          simpa using h3) hz
        unfold times at h2 ⊢
        rw [List.countP_cons, h2]
        simp [e]
theorem once_ne {o : List Int} (i k : Nat) (hi : i < o.length) (hk : k < i) (h : times o o[i] = 1) : o[i] ≠ o[k]'(by omega) := by
  intro e
  have h1 : o = o.take i ++ o[i] :: o.drop (i + 1) := by rw [List.getElem_cons_drop, List.take_append_drop]
  have h2 : o[k]'(by omega) ∈ o.take i := by
    rw [List.mem_take_iff_getElem]
    exact ⟨k, by omega, rfl⟩
  generalize o[i] = z at e h h1
  rw [h1, times, List.countP_append, List.countP_cons] at h
  have h3 : 0 < (o.take i).countP fun y => decide (y = z) := List.countP_pos_iff.2 ⟨_, h2, by simp [e]⟩
  simp only [decide_true, if_true] at h
  omega
theorem ones_of {l : List Nat} (h : ∀ x ∈ l, x ≤ 1) (hs : l.sum = l.length) : ∀ x ∈ l, x = 1 := by
  induction l with
  | nil => simp
  | cons x l ih =>
    have h1 := h x (by simp)
    have h2 : l.sum ≤ l.length := by
      clear ih hs h1
      have h3 : ∀ y ∈ l, y ≤ 1 := fun y hy => h y (by simp [hy])
      clear h
      induction l with
      | nil => simp
      | cons y l ih =>
        have := h3 y (by simp)
        have := ih (fun w hw => h3 w (by simp [hw]))
        rw [List.sum_cons, List.length_cons]
        omega
    rw [List.sum_cons, List.length_cons] at hs
    intro y hy
    rcases List.mem_cons.1 hy with rfl | hy
    · omega
    · exact ih (fun w hw => h w (by simp [hw])) (by omega) y hy
theorem times_le {o : List Int} (h : ∀ (i k : Nat) (hi : i < o.length) (hk : k < i), o[i] ≠ o[k]'(by omega)) (z : Int) : times o z ≤ 1 := by
  by_cases hz : z ∈ o
  · rw [times_once h z hz]
    omega
  · have : times o z = 0 := by
      rw [times, List.countP_eq_zero]
      intro y hy
      simp only [decide_eq_true_eq]
      rintro rfl
      exact hz hy
    omega
/-- The order has each bidder once, just if each is a bidder and no two are the same. -/
theorem order_iff {o : List Int} {n : Nat} (hl : o.length = n) : (∀ i, i < n → times o (i : Nat) = 1) ↔
    ∀ (i : Nat) (hi : i < o.length), (0 ≤ o[i] ∧ o[i] < (n : Int)) ∧ ∀ (k : Nat) (hk : k < i), o[i] ≠ o[k]'(by omega) := by
  constructor
  · intro h i hi
    have h1 := order_in hl h o[i] (List.getElem_mem hi)
    refine ⟨h1, fun k hk => once_ne i k hi hk ?_⟩
    have h2 := h o[i].toNat (by omega)
    rw [Int.toNat_of_nonneg h1.1] at h2
    exact h2
  · intro h i hi
    have h1 := times_sum o n
    rw [List.countP_eq_length.2 (by intro z hz; obtain ⟨j, hj, rfl⟩ := List.getElem_of_mem hz; simpa using (h j hj).1)] at h1
    refine ones_of (l := (List.range n).map fun i => times o (i : Nat)) ?_ (by rw [List.length_map, List.length_range]; omega) _ (List.mem_map.2 ⟨i, List.mem_range.2 hi, rfl⟩)
    intro x hx
    obtain ⟨j, _, rfl⟩ := List.mem_map.1 hx
    exact times_le (fun a b ha hb => (h a ha).2 b hb) _
end Go.Proofs.Ytdckoaljcklmhaa
