/-
  A region that draws its order, walked along a TREE of mine: as XReg's orders, but where two operations are ready at a time both ways are walked.
-/
import Derived.Test.YtdckoaljcklmhaaGreatDoorKit
import Derived.Deep.RegionHeld3
namespace Go.Proofs.YtdckoaljcklmhaaGreatDoor
open Go.RowKit
set_option linter.unusedVariables false

section
variable {P : Program} {ops : Array Oper} {Q : Exit → Act → World → Prop} {S : World → Prop}

def wpOrd (P : Program) (ops : Array Oper) (Q : Exit → Act → World → Prop) (S : World → Prop) : List (Oper × Bool) → Act → World → Prop
  | [], a, w => Q .normal a w
  | (o, true) :: r, a, w => ∃ v, YieldsIf P ops S o v a ∧ wpOrd P ops Q S r (a.put o.dst v) w
  | (o, false) :: r, a, w => if Region.wanted o (yielded ops a.tmps) = true then Oper.wp P o a w (fun a' w' => S w' ∧ wpOrd P ops Q S r a' w') Q else wpOrd P ops Q S r (a.put o.dst undef) w

def okOrd (ops : Array Oper) : List (Nat × Bool) → Array Bool → Bool
  | [], l => (Region.ready .any ops l).isEmpty
  | (i, true) :: r, l => Region.free .any ops l i && ((Region.ready .any ops l).contains i && okOrd ops r (l.setIfInBounds i true))
  | (i, false) :: r, l => (Region.ready .any ops l == [i]) && okOrd ops r (l.setIfInBounds i true)

def nth : List Oper → Nat → Oper → Oper
  | [], _, d => d
  | o :: _, 0, _ => o
  | _ :: r, n + 1, d => nth r n d

theorem nth_of (l : List Oper) (i : Nat) (d o : Oper) (h : l[i]? = some o) : nth l i d = o := by
  induction l generalizing i with
  | nil => simp at h
  | cons x r ih =>
    cases i with
    | zero => simpa [nth] using h
    | succ n => exact ih n (by simpa using h)

def getOrd (l : List Oper) (d : Oper) : List (Nat × Bool) → List (Oper × Bool)
  | [] => []
  | (i, b) :: r => (nth l i d, b) :: getOrd l d r

theorem wpAnyH_of_ord (d : Oper) (hs : Region.noSelect ops = true) (hQ : ∀ c a a' w, Q (.panic c) a w → Q (.panic c) a' w) :
    ∀ (ord : List (Nat × Bool)) (l : Array Bool) (fuel : Nat) (a : Act) (w : World), ord.length ≤ fuel → okOrd ops ord l = true → S w → wpOrd P ops Q S (getOrd ops.toList d ord) a w → wpAnyH P .any ops Q S fuel l a w
  | [], l, fuel, a, w, _, hok, _, h => by
    refine wpAnyH_done (List.isEmpty_iff.1 hok) h fuel
  | (i, true) :: r, l, fuel, a, w, hl, hok, hS, h => by
    simp only [okOrd, Bool.and_eq_true] at hok
    obtain ⟨f, rfl⟩ : ∃ f, fuel = f + 1 := ⟨fuel - 1, by simp at hl; omega⟩
    obtain ⟨_, o, ho, _⟩ := mem_ready.1 (show i ∈ Region.ready .any ops l by simpa using hok.2.1)
    simp only [getOrd, wpOrd, nth_of ops.toList i d o (by simpa using ho)] at h
    obtain ⟨v, hy, h⟩ := h
    exact wpAnyH_take ho hs hok.1 hok.2.1 (fun c a w hq => hQ c _ _ w hq) hy hS (wpAnyH_of_ord d hs hQ r _ f _ w (by simp at hl; omega) hok.2.2 hS h)
  | (i, false) :: r, l, fuel, a, w, hl, hok, hS, h => by
    simp only [okOrd, Bool.and_eq_true, beq_iff_eq] at hok
    obtain ⟨f, rfl⟩ : ∃ f, fuel = f + 1 := ⟨fuel - 1, by simp at hl; omega⟩
    obtain ⟨_, o, ho, _⟩ := mem_ready.1 (show i ∈ Region.ready .any ops l by rw [hok.1]; simp)
    simp only [getOrd, wpOrd, nth_of ops.toList i d o (by simpa using ho)] at h
    refine wpAnyH_all hok.1 (by simp) fun j hj => ?_
    obtain rfl : j = i := by simpa using hj
    unfold wpOp
    rw [ho]
    show if Region.wanted o (yielded ops a.tmps) = true then _ else _
    by_cases hw : Region.wanted o (yielded ops a.tmps) = true
    · rw [if_pos hw] at h ⊢
      exact .inl (Oper.wp_mono (fun a' w' h' => ⟨h'.1, wpAnyH_of_ord d hs hQ r _ f _ w' (by simp at hl; omega) hok.2 h'.1 h'.2⟩) h)
    · rw [if_neg hw] at h ⊢
      exact ⟨hS, wpAnyH_of_ord d hs hQ r _ f _ w (by simp at hl; omega) hok.2 hS h⟩

/-- THE BEGINNING. -/
theorem wp_region_ord {id : Nat} {a : Act} {w : World} (ord : List (Nat × Bool)) (d : Oper) (hm : P.follows .mixedOrders = true) (hs : Region.noSelect ops = true)
    (hok : (decide (ord.length ≤ ops.size) && okOrd ops ord (Array.replicate ops.size false)) = true) (hS : S w.drew) (h : wpOrd P ops (NoPanic Q) S (getOrd ops.toList d ord) a w.drew) :
    (Code.region id ops true).wp P Q a w := by
  simp only [Bool.and_eq_true, decide_eq_true_eq] at hok
  exact wp_region_noPanic (wp_region_held hm (wpAnyH_of_ord d hs (fun _ _ _ _ h => h) ord _ _ _ _ hok.1 hok.2 hS h))

/-- One that is taken first, and runs. -/
theorem ordQ {o : Oper} {r : List (Oper × Bool)} {a : Act} {w : World} {v : Value} (hw : Region.wanted o (yielded ops a.tmps) = true) (hy : ∀ w', S w' → (execOp a.eval o).run P w' = .ok (.value v) w')
    (h : wpOrd P ops Q S r (a.put o.dst v) w) : wpOrd P ops Q S ((o, true) :: r) a w := ⟨v, .inl ⟨hw, hy⟩, h⟩
/-- One that is taken first, and is left out. -/
theorem ordS {o : Oper} {r : List (Oper × Bool)} {a : Act} {w : World} (hw : Region.wanted o (yielded ops a.tmps) = false)
    (h : wpOrd P ops Q S r (a.put o.dst undef) w) : wpOrd P ops Q S ((o, true) :: r) a w := ⟨undef, .inr ⟨hw, rfl⟩, h⟩
/-- One that comes up alone, and is left out. -/
theorem ordN {o : Oper} {r : List (Oper × Bool)} {a : Act} {w : World} (hw : Region.wanted o (yielded ops a.tmps) = false)
    (h : wpOrd P ops Q S r (a.put o.dst undef) w) : wpOrd P ops Q S ((o, false) :: r) a w := by
  show if Region.wanted o (yielded ops a.tmps) = true then _ else _
  rw [hw]
  exact h
/-- One that comes up alone, and runs. -/
theorem ordD {o : Oper} {r : List (Oper × Bool)} {a : Act} {w : World} (hw : Region.wanted o (yielded ops a.tmps) = true)
    (h : ∀ K : Act → World → Prop, (∀ a w, S w → wpOrd P ops Q S r a w → K a w) → Oper.wp P o a w K Q) : wpOrd P ops Q S ((o, false) :: r) a w := by
  show if Region.wanted o (yielded ops a.tmps) = true then _ else _
  rw [hw]
  exact h _ fun a' w' hS hr => ⟨hS, hr⟩
theorem ordE {a : Act} {w : World} (h : Q .normal a w) : wpOrd P ops (NoPanic Q) S [] a w := h
end
end Go.Proofs.YtdckoaljcklmhaaGreatDoor


namespace Go.Proofs.YtdckoaljcklmhaaGreatDoor
open Go.RowKit
set_option linter.unusedVariables false

/-- A tree of orders, by the operations' places. -/
inductive Tr where
  | nil : Tr
  | q : Nat → Tr → Tr
  | d : Nat → Tr → Tr
  | b : Nat → Nat → Tr → Tr → Tr
/-- The same, by the operations themselves. -/
inductive TrO where
  | nil : TrO
  | q : Oper → TrO → TrO
  | d : Oper → TrO → TrO
  | b : Oper → Oper → TrO → TrO → TrO
def Tr.deep : Tr → Nat
  | .nil => 0
  | .q _ t => t.deep + 1
  | .d _ t => t.deep + 1
  | .b _ _ t u => (max t.deep u.deep) + 1
def getTr (l : List Oper) (d : Oper) : Tr → TrO
  | .nil => .nil
  | .q i t => .q (nth l i d) (getTr l d t)
  | .d i t => .d (nth l i d) (getTr l d t)
  | .b i j t u => .b (nth l i d) (nth l j d) (getTr l d t) (getTr l d u)

section
variable {P : Program} {ops : Array Oper} {Q : Exit → Act → World → Prop} {S : World → Prop}

def wpTr (P : Program) (ops : Array Oper) (Q : Exit → Act → World → Prop) (S : World → Prop) : TrO → Act → World → Prop
  | .nil, a, w => Q .normal a w
  | .q o r, a, w => ∃ v, YieldsIf P ops S o v a ∧ wpTr P ops Q S r (a.put o.dst v) w
  | .d o r, a, w => if Region.wanted o (yielded ops a.tmps) = true then Oper.wp P o a w (fun a' w' => S w' ∧ wpTr P ops Q S r a' w') Q else wpTr P ops Q S r (a.put o.dst undef) w
  | .b o o' r r', a, w => (if Region.wanted o (yielded ops a.tmps) = true then Oper.wp P o a w (fun a' w' => S w' ∧ wpTr P ops Q S r a' w') Q else wpTr P ops Q S r (a.put o.dst undef) w) ∧
      (if Region.wanted o' (yielded ops a.tmps) = true then Oper.wp P o' a w (fun a' w' => S w' ∧ wpTr P ops Q S r' a' w') Q else wpTr P ops Q S r' (a.put o'.dst undef) w)

def okTr (ops : Array Oper) : Tr → Array Bool → Bool
  | .nil, l => (Region.ready .any ops l).isEmpty
  | .q i r, l => Region.free .any ops l i && ((Region.ready .any ops l).contains i && okTr ops r (l.setIfInBounds i true))
  | .d i r, l => (Region.ready .any ops l == [i]) && okTr ops r (l.setIfInBounds i true)
  | .b i j r r', l => (Region.ready .any ops l == [i, j]) && (okTr ops r (l.setIfInBounds i true) && okTr ops r' (l.setIfInBounds j true))

theorem wpAnyH_of_tr (d : Oper) (hs : Region.noSelect ops = true) (hQ : ∀ c a a' w, Q (.panic c) a w → Q (.panic c) a' w) :
    ∀ (tr : Tr) (l : Array Bool) (fuel : Nat) (a : Act) (w : World), tr.deep ≤ fuel → okTr ops tr l = true → S w → wpTr P ops Q S (getTr ops.toList d tr) a w → wpAnyH P .any ops Q S fuel l a w
  | .nil, l, fuel, a, w, _, hok, _, h => wpAnyH_done (List.isEmpty_iff.1 hok) h fuel
  | .q i r, l, fuel, a, w, hl, hok, hS, h => by
    simp only [okTr, Bool.and_eq_true] at hok
    obtain ⟨f, rfl⟩ : ∃ f, fuel = f + 1 := ⟨fuel - 1, by simp [Tr.deep] at hl; omega⟩
    obtain ⟨_, o, ho, _⟩ := mem_ready.1 (show i ∈ Region.ready .any ops l by simpa using hok.2.1)
    simp only [getTr, wpTr, nth_of ops.toList i d o (by simpa using ho)] at h
    obtain ⟨v, hy, h⟩ := h
    exact wpAnyH_take ho hs hok.1 hok.2.1 (fun c a w hq => hQ c _ _ w hq) hy hS (wpAnyH_of_tr d hs hQ r _ f _ w (by simp [Tr.deep] at hl; omega) hok.2.2 hS h)
  | .d i r, l, fuel, a, w, hl, hok, hS, h => by
    simp only [okTr, Bool.and_eq_true, beq_iff_eq] at hok
    obtain ⟨f, rfl⟩ : ∃ f, fuel = f + 1 := ⟨fuel - 1, by simp [Tr.deep] at hl; omega⟩
    obtain ⟨_, o, ho, _⟩ := mem_ready.1 (show i ∈ Region.ready .any ops l by rw [hok.1]; simp)
    simp only [getTr, wpTr, nth_of ops.toList i d o (by simpa using ho)] at h
    refine wpAnyH_all hok.1 (by simp) fun j hj => ?_
    obtain rfl : j = i := by simpa using hj
    unfold wpOp
    rw [ho]
    show if Region.wanted o (yielded ops a.tmps) = true then _ else _
    by_cases hw : Region.wanted o (yielded ops a.tmps) = true
    · rw [if_pos hw] at h ⊢
      exact .inl (Oper.wp_mono (fun a' w' h' => ⟨h'.1, wpAnyH_of_tr d hs hQ r _ f _ w' (by simp [Tr.deep] at hl; omega) hok.2 h'.1 h'.2⟩) h)
    · rw [if_neg hw] at h ⊢
      exact ⟨hS, wpAnyH_of_tr d hs hQ r _ f _ w (by simp [Tr.deep] at hl; omega) hok.2 hS h⟩
  | .b i i' r r', l, fuel, a, w, hl, hok, hS, h => by
    simp only [okTr, Bool.and_eq_true, beq_iff_eq] at hok
    obtain ⟨f, rfl⟩ : ∃ f, fuel = f + 1 := ⟨fuel - 1, by simp [Tr.deep] at hl; omega⟩
    obtain ⟨_, o, ho, _⟩ := mem_ready.1 (show i ∈ Region.ready .any ops l by rw [hok.1]; simp)
    obtain ⟨_, o', ho', _⟩ := mem_ready.1 (show i' ∈ Region.ready .any ops l by rw [hok.1]; simp)
    simp only [getTr, wpTr, nth_of ops.toList i d o (by simpa using ho), nth_of ops.toList i' d o' (by simpa using ho')] at h
    have hd1 : r.deep ≤ f := by simp [Tr.deep] at hl; omega
    have hd2 : r'.deep ≤ f := by simp [Tr.deep] at hl; omega
    refine wpAnyH_all hok.1 (by simp) fun j hj => ?_
    have hj' : j = i ∨ j = i' := by simpa using hj
    rcases hj' with rfl | rfl
    · unfold wpOp
      rw [ho]
      show if Region.wanted o (yielded ops a.tmps) = true then _ else _
      have h := h.1
      by_cases hw : Region.wanted o (yielded ops a.tmps) = true
      · rw [if_pos hw] at h ⊢
        exact .inl (Oper.wp_mono (fun a' w' h' => ⟨h'.1, wpAnyH_of_tr d hs hQ r _ f _ w' hd1 hok.2.1 h'.1 h'.2⟩) h)
      · rw [if_neg hw] at h ⊢
        exact ⟨hS, wpAnyH_of_tr d hs hQ r _ f _ w hd1 hok.2.1 hS h⟩
    · unfold wpOp
      rw [ho']
      show if Region.wanted o' (yielded ops a.tmps) = true then _ else _
      have h := h.2
      by_cases hw : Region.wanted o' (yielded ops a.tmps) = true
      · rw [if_pos hw] at h ⊢
        exact .inl (Oper.wp_mono (fun a' w' h' => ⟨h'.1, wpAnyH_of_tr d hs hQ r' _ f _ w' hd2 hok.2.2 h'.1 h'.2⟩) h)
      · rw [if_neg hw] at h ⊢
        exact ⟨hS, wpAnyH_of_tr d hs hQ r' _ f _ w hd2 hok.2.2 hS h⟩

/-- THE BEGINNING. -/
theorem wp_region_tr {id : Nat} {a : Act} {w : World} (tr : Tr) (d : Oper) (hm : P.follows .mixedOrders = true) (hs : Region.noSelect ops = true)
    (hok : (decide (tr.deep ≤ ops.size) && okTr ops tr (Array.replicate ops.size false)) = true) (hS : S w.drew) (h : wpTr P ops (NoPanic Q) S (getTr ops.toList d tr) a w.drew) :
    (Code.region id ops true).wp P Q a w := by
  simp only [Bool.and_eq_true, decide_eq_true_eq] at hok
  exact wp_region_noPanic (wp_region_held hm (wpAnyH_of_tr d hs (fun _ _ _ _ h => h) tr _ _ _ _ hok.1 hok.2 hS h))

theorem trQ {o : Oper} {r : TrO} {a : Act} {w : World} {v : Value} (hw : Region.wanted o (yielded ops a.tmps) = true) (hy : ∀ w', S w' → (execOp a.eval o).run P w' = .ok (.value v) w')
    (h : wpTr P ops Q S r (a.put o.dst v) w) : wpTr P ops Q S (.q o r) a w := ⟨v, .inl ⟨hw, hy⟩, h⟩
theorem trS {o : Oper} {r : TrO} {a : Act} {w : World} (hw : Region.wanted o (yielded ops a.tmps) = false)
    (h : wpTr P ops Q S r (a.put o.dst undef) w) : wpTr P ops Q S (.q o r) a w := ⟨undef, .inr ⟨hw, rfl⟩, h⟩
theorem trN {o : Oper} {r : TrO} {a : Act} {w : World} (hw : Region.wanted o (yielded ops a.tmps) = false)
    (h : wpTr P ops Q S r (a.put o.dst undef) w) : wpTr P ops Q S (.d o r) a w := by
  show if Region.wanted o (yielded ops a.tmps) = true then _ else _
  rw [hw]
  exact h
theorem trD {o : Oper} {r : TrO} {a : Act} {w : World} (hw : Region.wanted o (yielded ops a.tmps) = true)
    (h : ∀ K : Act → World → Prop, (∀ a w, S w → wpTr P ops Q S r a w → K a w) → Oper.wp P o a w K Q) : wpTr P ops Q S (.d o r) a w := by
  show if Region.wanted o (yielded ops a.tmps) = true then _ else _
  rw [hw]
  exact h _ fun a' w' hS hr => ⟨hS, hr⟩
/-- Two that are ready at a time: both ways. -/
theorem trB {o o' : Oper} {r r' : TrO} {a : Act} {w : World} (h : wpTr P ops Q S (.d o r) a w) (h' : wpTr P ops Q S (.d o' r') a w) : wpTr P ops Q S (.b o o' r r') a w := ⟨h, h'⟩
theorem trE {a : Act} {w : World} (h : Q .normal a w) : wpTr P ops (NoPanic Q) S .nil a w := h
end
end Go.Proofs.YtdckoaljcklmhaaGreatDoor

