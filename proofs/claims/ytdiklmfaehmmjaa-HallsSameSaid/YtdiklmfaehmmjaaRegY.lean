/-
  Regions that draw their order, within a round of a range over a function, where one of the operations is a round of another one.
-/
import Derived.OrdersIn
import Derived.Test.YtdiklmfaehmmjaaRegR
namespace Go.Proofs.Ytdiklmfaehmmjaa
open Go.RowKit
set_option linter.unusedVariables false

theorem operIn_toRound {l n : Nat} {P : Program} {o : Oper} {a : Act} {w : World} {next next' : Act → World → Prop} {Q : Exit → Act → World → Prop} (hd : ∀ c, o.op ≠ .defer c) (hn : ∀ a w, next a w → next' a w) (h : o.wpIn Fence.wide n P a w next Q) :
    o.wpIn (Fence.wide.inRound l) n P a w next' Q := by
  have h2 := (Oper.wpIn_mono hn h).2
  have e : o.semAt (Fence.wide.inRound l).round a.eval = execOp a.eval o := Oper.semAt_some l _ _ hd
  have e' : o.semAt Fence.wide.round a.eval = execOp a.eval o := rfl
  refine ⟨fun _ _ => trivial, ?_⟩
  rw [e]
  rw [e'] at h2
  exact h2
theorem opsIn_toRound {l n : Nat} {P : Program} {ops : Array Oper} {Q : Exit → Act → World → Prop} (hd : noDefer ops = true) :
    ∀ (L : List Nat) (a : Act) (w : World), wpOpsIn Fence.wide n P ops Q L a w → wpOpsIn (Fence.wide.inRound l) n P ops Q L a w
  | [], a, w, h => h
  | i :: rest, a, w, h => by
    simp only [wpOpsIn] at h ⊢
    cases ho : ops[i]? with
    | none =>
      rw [ho] at h
      exact opsIn_toRound hd rest a w h
    | some o =>
      rw [ho] at h
      by_cases hw : Region.wanted o (yielded ops a.tmps) = true
      · simp only [hw, if_true] at h ⊢
        exact operIn_toRound (noDefer_get hd ho) (fun a w => opsIn_toRound hd rest a w) h
      · simp only [hw, if_false, Bool.false_eq_true] at h ⊢
        exact ⟨fun _ _ => trivial, opsIn_toRound hd rest _ w h.2⟩
theorem region_toRound {l n id : Nat} {P : Program} {ops : Array Oper} {Q : Exit → Act → World → Prop} {a : Act} {w : World} (hm : P.follows .mixedOrders = true) (hd : noDefer ops = true)
    (h : wpAnyIn Fence.wide n P .any ops Q ops.size (Array.replicate ops.size false) a w.drew) : (Code.region id ops true).wpIn (Fence.wide.inRound l) n P Q a w :=
  wpIn_region_draw fun t => by
    simp only [Region.schedule, hm, Bool.true_or, if_true]
    exact opsIn_toRound hd _ _ _ (wpAnyIn_sound ops.size t _ a _ h)
/-- The same, the walk under a name. -/
theorem region_toRoundF {l n id : Nat} {P : Program} {ops : Array Oper} {Q : Exit → Act → World → Prop} {a : Act} {w : World} (hm : P.follows .mixedOrders = true) (hd : noDefer ops = true)
    (h : ∀ F, F = wpAnyIn Fence.wide n P .any ops Q → F ops.size (Array.replicate ops.size false) a w.drew) : (Code.region id ops true).wpIn (Fence.wide.inRound l) n P Q a w := region_toRound hm hd (h _ rfl)
end Go.Proofs.Ytdiklmfaehmmjaa
