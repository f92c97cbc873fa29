/-
  Regions that draw their order, within a round of a range over a function: what is shown of them outside of rounds holds there, where no operation defers.
-/
import Derived.RangeFuncNested
import Derived.Test.YtjjaajmjcdihoaaReg2
namespace Go.Proofs.Ytjjaajmjcdihoaa
open Go.RowKit
set_option linter.unusedVariables false

def noDefer (ops : Array Oper) : Bool := ops.all fun o => match o.op with | .defer _ => false | _ => true
theorem noDefer_get {ops : Array Oper} (h : noDefer ops = true) {i : Nat} {o : Oper} (ho : ops[i]? = some o) (c : Call) : o.op ≠ .defer c := by
  intro he
  obtain ⟨hi, rfl⟩ := Array.getElem?_eq_some_iff.1 ho
  have := Array.all_eq_true.1 h i hi
  rw [he] at this
  cases this
theorem wide_room (l k : Nat) : (Fence.wide.inRound l).room k := fun _ h => by simp [Fence.wide, Fence.inRound] at h

theorem rowsIn_of_rows {l n : Nat} {P : Program} {row : String} {args : Array Value} {w : World} {R : Value → World → Prop} (h : Rows P row args w R) : RowsIn (Fence.wide.inRound l) n P row args w R :=
  fun c cs _ => let ⟨v, w', r, s⟩ := h c cs; ⟨v, w', r, (stepsIn_wide (P := P)).2 s⟩

theorem operIn_of_oper {l n : Nat} {P : Program} {o : Oper} {a : Act} {w : World} {next next' : Act → World → Prop} {Q : Exit → Act → World → Prop} (hd : ∀ c, o.op ≠ .defer c) (hl : ¬ LetsOut Q) (hn : ∀ a w, next a w → next' a w)
    (h : o.wp P a w next Q) : o.wpIn (Fence.wide.inRound l) n P a w next' Q := by
  refine ⟨fun _ _ => trivial, ?_⟩
  have e : o.semAt (Fence.wide.inRound l).round a.eval = execOp a.eval o := Oper.semAt_some l _ _ hd
  rw [e]
  unfold Oper.wp at h
  generalize (execOp a.eval o).run P w = r at *
  have hdep : ∀ m : Nat, ((Fence.wide.inRound l).depth.isSome = true → 1 ≤ m) := fun m h => by simp [Fence.wide, Fence.inRound] at h
  cases r with
  | ok x w' =>
    cases x with
    | value v => exact hn _ _ h
    | skip => exact hn _ _ h
    | defer d => exact hn _ _ h
    | enter f args =>
      refine ⟨hdep _, CallsIn.inRound l (callsIn_wide.2 (Calls.mono h ?_))⟩
      intro e w'' he
      cases e with
      | returned v => exact hn _ _ he
      | panicked c => exact he
      | outgrown => exact he
    | row row args => exact ⟨hdep _, rowsIn_of_rows (Rows.mono h fun v w' hv => hn _ _ hv)⟩
    | round l f t s b => exact False.elim h
    | _ => exact False.elim h
  | halt x w' => cases x <;> first | exact h | exact False.elim h

theorem wpOpsIn_of_wpOps {l n : Nat} {P : Program} {ops : Array Oper} {Q : Exit → Act → World → Prop} (hd : noDefer ops = true) (hl : ¬ LetsOut Q) :
    ∀ (L : List Nat) (a : Act) (w : World), wpOps P ops Q L a w → wpOpsIn (Fence.wide.inRound l) n P ops Q L a w
  | [], a, w, h => h
  | i :: rest, a, w, h => by
    simp only [wpOps] at h
    simp only [wpOpsIn]
    cases ho : ops[i]? with
    | none =>
      rw [ho] at h
      exact wpOpsIn_of_wpOps hd hl rest a w h
    | some o =>
      rw [ho] at h
      by_cases hw : Region.wanted o (yielded ops a.tmps) = true
      · simp only [hw, if_true] at h ⊢
        rcases h with h | ⟨_, h⟩
        · exact operIn_of_oper (noDefer_get hd ho) hl (fun a w => wpOpsIn_of_wpOps hd hl rest a w) h
        · exact absurd h hl
      · simp only [hw, if_false, Bool.false_eq_true] at h ⊢
        exact ⟨fun _ _ => trivial, wpOpsIn_of_wpOps hd hl rest _ w h⟩

section
variable {P : Program} {ops : Array Oper} {Q : Exit → Act → World → Prop} {S : World → Prop}
/-- Q, where it ends as it should; False everywhere else. -/
def NormQ (Q : Exit → Act → World → Prop) : Exit → Act → World → Prop
  | .normal, a, w => Q .normal a w
  | _, _, _ => False
theorem NormQ.imp {Q : Exit → Act → World → Prop} : ∀ (e : Exit) (a : Act) (w : World), NormQ Q e a w → Q e a w := fun e a w h => by
  cases e <;> first | exact h | exact (h : False).elim
theorem letsOut_normQ (Q : Exit → Act → World → Prop) : ¬ LetsOut (NormQ Q) := fun ⟨_, _, hq⟩ => hq
/-- A region along a tree, in a round. -/
theorem wpIn_region_trR {l n id : Nat} {a : Act} {w : World} (tr : Tr) (d : Oper) (hm : P.follows .mixedOrders = true) (hs : Region.noSelect ops = true) (hd : noDefer ops = true)
    (hok : (decide (tr.deep ≤ ops.size) && okTr ops tr (Array.replicate ops.size false)) = true) (hS : S w.drew) (h : wpTr P ops (NormQ Q) S (getTr ops.toList d tr) a w.drew) :
    (Code.region id ops true).wpIn (Fence.wide.inRound l) n P Q a w := by
  simp only [Bool.and_eq_true, decide_eq_true_eq] at hok
  refine Go.wpIn_mono (Q := NormQ Q) (wpIn_region_draw fun t => ?_) NormQ.imp
  simp only [Region.schedule, hm, Bool.true_or, if_true]
  exact wpOpsIn_of_wpOps hd (letsOut_normQ Q) _ _ _ (wpAny_sound ops.size t _ a _ (wpAny_of_held _ _ _ _ (wpAnyH_of_tr d hs (fun _ _ _ _ h => h) tr _ _ _ _ hok.1 hok.2 hS h)))
theorem trER {a : Act} {w : World} (h : Q .normal a w) : wpTr P ops (NormQ Q) S .nil a w := h
/-- The same, in one order. -/
theorem wpIn_region_ordR {l n id : Nat} {a : Act} {w : World} (ord : List (Nat × Bool)) (d : Oper) (hm : P.follows .mixedOrders = true) (hs : Region.noSelect ops = true) (hd : noDefer ops = true)
    (hok : (decide (ord.length ≤ ops.size) && okOrd ops ord (Array.replicate ops.size false)) = true) (hS : S w.drew) (h : wpOrd P ops (NormQ Q) S (getOrd ops.toList d ord) a w.drew) :
    (Code.region id ops true).wpIn (Fence.wide.inRound l) n P Q a w := by
  simp only [Bool.and_eq_true, decide_eq_true_eq] at hok
  refine Go.wpIn_mono (Q := NormQ Q) (wpIn_region_draw fun t => ?_) NormQ.imp
  simp only [Region.schedule, hm, Bool.true_or, if_true]
  exact wpOpsIn_of_wpOps hd (letsOut_normQ Q) _ _ _ (wpAny_sound ops.size t _ a _ (wpAny_of_held _ _ _ _ (wpAnyH_of_ord d hs (fun _ _ _ _ h => h) ord _ _ _ _ hok.1 hok.2 hS h)))
theorem ordER {a : Act} {w : World} (h : Q .normal a w) : wpOrd P ops (NormQ Q) S [] a w := h
end
end Go.Proofs.Ytjjaajmjcdihoaa
