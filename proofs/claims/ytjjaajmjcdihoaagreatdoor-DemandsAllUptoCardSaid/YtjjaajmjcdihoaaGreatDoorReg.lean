/-
  A region that draws its order, walked in ONE order of mine: what only looks at temporaries (or, under S, at memory) is taken first, whether its guard lets it run or not; of the others one alone is ready at a time. The check of the order is one Bool.
-/
import Derived.Test.YtjjaajmjcdihoaaGreatDoorKit
import Derived.Deep.RegionHeld3
namespace Go.Proofs.YtjjaajmjcdihoaaGreatDoor
open Go.RowKit
set_option linter.unusedVariables false

section
variable {P : Program} {ops : Array Oper} {Q : Exit → Act → World → Prop} {S : World → Prop}

def wpOrd (P : Program) (ops : Array Oper) (Q : Exit → Act → World → Prop) (S : World → Prop) : List (Oper × Bool) → Act → World → Prop
  | [], a, w => Q .normal a w
  | (o, true) :: r, a, w => ∃ v, YieldsIf P ops S o v a ∧ wpOrd P ops Q S r (a.put o.dst v) w
  | (o, false) :: r, a, w => if Region.wanted o (yielded ops a.tmps) = true then Oper.wp P o a w (fun a' w' => S w' ∧ wpOrd P ops Q S r a' w') Q else wpOrd P ops Q S r (a.put o.dst undef) w

def okOrd (ops : Array Oper) : List (Nat × Bool) → Array Bool → Bool
  | [], l => (Region.ready .any ops l).isEmpty
  | (i, true) :: r, l => Region.free .any ops l i && ((Region.ready .any ops l).contains i && okOrd ops r (l.setIfInBounds i true))
  | (i, false) :: r, l => (Region.ready .any ops l == [i]) && okOrd ops r (l.setIfInBounds i true)

def nth : List Oper → Nat → Oper → Oper
  | [], _, d => d
  | o :: _, 0, _ => o
  | _ :: r, n + 1, d => nth r n d

theorem nth_of (l : List Oper) (i : Nat) (d o : Oper) (h : l[i]? = some o) : nth l i d = o := by
  induction l generalizing i with
  | nil => simp at h
  | cons x r ih =>
    cases i with
    | zero => simpa [nth] using h
    | succ n => exact ih n (by simpa using h)

def getOrd (l : List Oper) (d : Oper) : List (Nat × Bool) → List (Oper × Bool)
  | [] => []
  | (i, b) :: r => (nth l i d, b) :: getOrd l d r

theorem wpAnyH_of_ord (d : Oper) (hs : Region.noSelect ops = true) (hQ : ∀ c a a' w, Q (.panic c) a w → Q (.panic c) a' w) :
    ∀ (ord : List (Nat × Bool)) (l : Array Bool) (fuel : Nat) (a : Act) (w : World), ord.length ≤ fuel → okOrd ops ord l = true → S w → wpOrd P ops Q S (getOrd ops.toList d ord) a w → wpAnyH P .any ops Q S fuel l a w
  | [], l, fuel, a, w, _, hok, _, h => by
    refine wpAnyH_done (List.isEmpty_iff.1 hok) h fuel
  | (i, true) :: r, l, fuel, a, w, hl, hok, hS, h => by
    simp only [okOrd, Bool.and_eq_true] at hok
    obtain ⟨f, rfl⟩ : ∃ f, fuel = f + 1 := ⟨fuel - 1, by simp at hl; omega⟩
    obtain ⟨_, o, ho, _⟩ := mem_ready.1 (show i ∈ Region.ready .any ops l by simpa using hok.2.1)
    simp only [getOrd, wpOrd, nth_of ops.toList i d o (by simpa using ho)] at h
    obtain ⟨v, hy, h⟩ := h
    exact wpAnyH_take ho hs hok.1 hok.2.1 (fun c a w hq => hQ c _ _ w hq) hy hS (wpAnyH_of_ord d hs hQ r _ f _ w (by simp at hl; omega) hok.2.2 hS h)
  | (i, false) :: r, l, fuel, a, w, hl, hok, hS, h => by
    simp only [okOrd, Bool.and_eq_true, beq_iff_eq] at hok
    obtain ⟨f, rfl⟩ : ∃ f, fuel = f + 1 := ⟨fuel - 1, by simp at hl; omega⟩
    obtain ⟨_, o, ho, _⟩ := mem_ready.1 (show i ∈ Region.ready .any ops l by rw [hok.1]; simp)
    simp only [getOrd, wpOrd, nth_of ops.toList i d o (by simpa using ho)] at h
    refine wpAnyH_all hok.1 (by simp) fun j hj => ?_
    obtain rfl : j = i := by simpa using hj
    unfold wpOp
    rw [ho]
    show if Region.wanted o (yielded ops a.tmps) = true then _ else _
    by_cases hw : Region.wanted o (yielded ops a.tmps) = true
    · rw [if_pos hw] at h ⊢
      exact .inl (Oper.wp_mono (fun a' w' h' => ⟨h'.1, wpAnyH_of_ord d hs hQ r _ f _ w' (by simp at hl; omega) hok.2 h'.1 h'.2⟩) h)
    · rw [if_neg hw] at h ⊢
      exact ⟨hS, wpAnyH_of_ord d hs hQ r _ f _ w (by simp at hl; omega) hok.2 hS h⟩

/-- THE BEGINNING. -/
theorem wp_region_ord {id : Nat} {a : Act} {w : World} (ord : List (Nat × Bool)) (d : Oper) (hm : P.follows .mixedOrders = true) (hs : Region.noSelect ops = true)
    (hok : (decide (ord.length ≤ ops.size) && okOrd ops ord (Array.replicate ops.size false)) = true) (hS : S w.drew) (h : wpOrd P ops (NoPanic Q) S (getOrd ops.toList d ord) a w.drew) :
    (Code.region id ops true).wp P Q a w := by
  simp only [Bool.and_eq_true, decide_eq_true_eq] at hok
  exact wp_region_noPanic (wp_region_held hm (wpAnyH_of_ord d hs (fun _ _ _ _ h => h) ord _ _ _ _ hok.1 hok.2 hS h))

/-- One that is taken first, and runs. -/
theorem ordQ {o : Oper} {r : List (Oper × Bool)} {a : Act} {w : World} {v : Value} (hw : Region.wanted o (yielded ops a.tmps) = true) (hy : ∀ w', S w' → (execOp a.eval o).run P w' = .ok (.value v) w')
    (h : wpOrd P ops Q S r (a.put o.dst v) w) : wpOrd P ops Q S ((o, true) :: r) a w := ⟨v, .inl ⟨hw, hy⟩, h⟩
/-- One that is taken first, and is left out. -/
theorem ordS {o : Oper} {r : List (Oper × Bool)} {a : Act} {w : World} (hw : Region.wanted o (yielded ops a.tmps) = false)
    (h : wpOrd P ops Q S r (a.put o.dst undef) w) : wpOrd P ops Q S ((o, true) :: r) a w := ⟨undef, .inr ⟨hw, rfl⟩, h⟩
/-- One that comes up alone, and is left out. -/
theorem ordN {o : Oper} {r : List (Oper × Bool)} {a : Act} {w : World} (hw : Region.wanted o (yielded ops a.tmps) = false)
    (h : wpOrd P ops Q S r (a.put o.dst undef) w) : wpOrd P ops Q S ((o, false) :: r) a w := by
  show if Region.wanted o (yielded ops a.tmps) = true then _ else _
  rw [hw]
  exact h
/-- One that comes up alone, and runs. -/
theorem ordD {o : Oper} {r : List (Oper × Bool)} {a : Act} {w : World} (hw : Region.wanted o (yielded ops a.tmps) = true)
    (h : ∀ K : Act → World → Prop, (∀ a w, S w → wpOrd P ops Q S r a w → K a w) → Oper.wp P o a w K Q) : wpOrd P ops Q S ((o, false) :: r) a w := by
  show if Region.wanted o (yielded ops a.tmps) = true then _ else _
  rw [hw]
  exact h _ fun a' w' hS hr => ⟨hS, hr⟩
theorem ordE {a : Act} {w : World} (h : Q .normal a w) : wpOrd P ops (NoPanic Q) S [] a w := h
end
end Go.Proofs.YtjjaajmjcdihoaaGreatDoor
