/-
  A range over a function whose rounds turn what the caller holds, and whose iterator may give what it made itself; no round ends it early.
-/
import Derived.Test.YtjjaajmjcdihoaaSeqO
namespace Go.Proofs.Ytjjaajmjcdihoaa
open Go.RowKit
set_option linter.unusedVariables false

/-- What stays so as long as all cells lie as they lay, and nothing ahead of B turns. -/
def Steady {β : Type} (B : Nat) (J : β → World → Prop) : Prop := ∀ s a b, Cel a b → Below B a b → J s a → J s b

section
variable {α : Type} {P : Program}
/-- AN ITERATOR: it goes through xs (S), N of them at most; what it gives is E (from where on: how much there was when the round ahead ended); what it needs is Kp. -/
def SeqE (P : Program) (gf : Nat) (lb : Array Value) (encs : α → Array Value) (E : α → Nat → World → Prop) (Kp : World → Prop) (S : List α → Prop) (N : Nat) (w : World) : Prop :=
  ∀ (l : Nat) (J : List α → World → Prop) (W : World), Below w.heap.size w W → Kp W → Steady W.heap.size J →
    (∀ pre x W0 W1, J pre W0 → Kp W1 → pre.length < N → Cel W0 W1 → Below W.heap.size W0 W1 → E x W0.heap.size W1 → YieldAt Fence.wide 3 P l (encs x) W1 fun e W' =>
      e = .returned (.bool true) ∧ J (pre ++ [x]) W' ∧ Kp W' ∧ W1.heap.size ≤ W'.heap.size) →
    J [] W →
    Calls P gf (#[.func (.yield l) #[] #[]] ++ lb) W fun e W' => (∃ v, e = .returned v) ∧ ∃ xs, S xs ∧ J xs W'

/-- How a round ends. -/
def roundE (I : List α → World → Prop) (Kp : World → Prop) (xs : List α) (W : World) : Exit → Act → World → Prop
  | .normal, _, W' => KeepsOthers W W' ∧ I xs W' ∧ Kp W'
  | _, _, _ => False

set_option maxHeartbeats 1000000 in
theorem range_seqE {g : Operand} {ps : Array Tmp} {assign body : Code} {Q : Exit → Act → World → Prop} {a : Act} {w : World} {n : Nat} (h1 : 1 ≤ n)
    {gf : Nat} {lb : Array Value} (hg : a.eval g = .func (.func gf) #[] lb) (eg : ∀ args w, (callFunc gf args).run P w = .ok (.enter gf args) w)
    {encs : α → Array Value} {E : α → Nat → World → Prop} {Kp : World → Prop} {S : List α → Prop} {N : Nat} {w0 : World} (hseq : SeqE P gf lb encs E Kp S N w0) (hb0 : Below w0.heap.size w0 w) (hps : ∀ x, (encs x).size = ps.size)
    (hE : ∀ x B a b, Cel a b → E x B a → E x B b) (hKp : ∀ a b, Cel a b → Kp a → Kp b) (hk0 : Kp w) (I : List α → World → Prop) (hI : Steady w.heap.size I) (h0 : I [] w)
    (Ax : α → Act → World → Prop) (hAx : ∀ x a' a b, Cel a b → Ax x a' a → Ax x a' b)
    (hassign : ∀ (l : Nat) (pre : List α) (x : α) (B : Nat) (W : World) (K : Act → World → Prop), I pre W → E x B W → w.heap.size ≤ W.heap.size → (∀ a' W', Below W.heap.size W W' → Ax x a' W' → K a' W') →
      assign.wpIn (Fence.wide.inRound l) (n - 1 - 1) P (Exit.then K (fun _ _ _ => False)) { tmps := (ps.zip (encs x)).foldl (fun t (p, v) => t.setIfInBounds p v) a.tmps, defers := [] } W)
    (hbody : ∀ (l : Nat) (pre : List α) (x : α) (a' : Act) (W0 W : World), I pre W0 → pre.length < N → Cel W0 W → Below w.heap.size W0 W → E x W0.heap.size W → Ax x a' W → Kp W → body.wpIn (Fence.wide.inRound l) (n - 1 - 1) P (roundE I Kp (pre ++ [x]) W) a' W)
    (hdone : ∀ (D : Nat) (xs : List α) (W : World), w.heap.size ≤ D → S xs → I xs W → W.heap[D]? = some (.deferred (some [])) → Q .normal { a with defers := { target := .collected D, args := #[] } :: a.defers } W) :
    (Code.rangeFunc g ps assign body).wpIn Fence.wide n P Q a w := by
  refine wpIn_rangeFunc fun fn hfn => ?_
  obtain ⟨rec, hrec⟩ : ∃ rec : LoopState → Option Code → Loop, rec = fun st pe => { state := st, pending := pe, fn, tmps := a.tmps, params := ps, assign, body, defers := w.heap.size } := ⟨_, rfl⟩
  obtain ⟨W1, hW1⟩ : ∃ W1, (w.alloc (.deferred (some []))).alloc (.loop (rec .ready none)) = W1 := ⟨_, rfl⟩
  obtain ⟨L, hL⟩ : ∃ L, L = w.heap.size + 1 := ⟨_, rfl⟩
  have hs1 : W1.heap.size = L + 1 := by rw [← hW1, hL, World.size_alloc, World.size_alloc]
  have gL : W1.heap[L]? = some (.loop (rec .ready none)) := by
    have h2 := World.alloc_heap_new (w.alloc (.deferred (some []))) (.loop (rec .ready none))
    rw [World.size_alloc] at h2
    rw [← hW1, hL]; exact h2
  have gD : W1.heap[w.heap.size]? = some (.deferred (some [])) := by rw [← hW1]; exact (Below.heap_alloc _ _ _ (by simp)).trans (World.alloc_heap_new w _)
  have hB1 : Below w.heap.size w W1 := by rw [← hW1]; exact ((Below.refl _ w).alloc (Nat.le_refl _) _).alloc (by simp) _
  have hc1 : Cel w W1 := cel_of_below hB1
  refine ⟨L, [{ target := .collected w.heap.size, args := #[] }], W1, { target := .fn (.func gf) lb, args := #[.func (.yield L) #[] #[]] }, W1, gf, #[.func (.yield L) #[] #[]] ++ lb, W1, ?_, ?_, ?_, ?_, fun _ => h1, ?_⟩
  · rw [← hW1, hrec, hL]; exact run_enterLoop_outer _ _ _ _ _
  · simp only [resolve, hg]
    simp [go_sem]
  · intro f' _; trivial
  · simp [invoke, go_sem, eg]
  refine callsIn_wide.2 (Calls.mono (hseq L
    (fun pre W => I pre W ∧ W.heap[L]? = some (.loop (rec .ready none)) ∧ W.heap[w.heap.size]? = some (.deferred (some [])))
    W1 (hb0.trans (hB1.mono hb0.size)) (hKp _ _ hc1 hk0) ?stays ?round ⟨hI _ _ _ hc1 hB1 h0, gL, gD⟩) ?behind)
  case stays =>
    rintro s x y hc hxy ⟨i1, i2, i3⟩
    exact ⟨hI s x y hc (hxy.mono (by omega)) i1, (hxy.block L (by omega)).trans i2, (hxy.block _ (by omega)).trans i3⟩
  case round =>
    rintro pre x W0 W ⟨j1, j2, j3⟩ hkw hlen hc hBW he
    have hBW' := hBW.mono (show w.heap.size ≤ W1.heap.size by omega)
    have i1 := hI _ _ _ hc hBW' j1
    have i2 := (hBW.block L (by omega)).trans j2
    have i3 := (hBW.block w.heap.size (by omega)).trans j3
    have hlt : L < W.heap.size := (Array.getElem?_eq_some_iff.1 i2).1
    have hy := run_yield (P := P) (args := encs x) i2 (by rw [hrec]; exact hps x)
    rw [hrec] at hy
    refine yield_wide (m := n - 1 - 1) ⟨fn, _, assign, body, hy, roundIn_of_wpIn hfn (hassign _ pre x _ W _ i1 he (by omega) ?_)⟩
    clear hy
    intro a' Wa hba hax
    have hca := cel_of_below hba
    have hba' := hba.mono (show w.heap.size ≤ W.heap.size by omega)
    have hl := (hba.block L hlt).trans i2
    have hk := (hba.block _ (by omega)).trans i3
    have hea := hE _ _ _ _ hca he
    have hlta : L < Wa.heap.size := by have := hba.size; omega
    refine ⟨_, run_beginRound hl (by rw [hrec]), ?_⟩
    obtain ⟨W2, hW2⟩ : ∃ W2, Wa.putObj L (.loop { rec .ready none with state := .busy }) = W2 := ⟨_, rfl⟩
    have hl2 : W2.heap[L]? = some (.loop { rec .ready none with state := .busy }) := by rw [← hW2]; exact World.putObj_heap_same hlta
    have hk2 : W2.heap[w.heap.size]? = some (.deferred (some [])) := by rw [← hW2]; exact (World.putObj_heap_other (by omega)).trans hk
    have hc2 : Cel Wa W2 := by rw [← hW2]; exact cel_putObj _ hl rfl
    have hb2 : Below w.heap.size Wa W2 := by rw [← hW2]; exact below_put (o := .loop (rec .ready none)) (by omega)
    have hs2 : W2.heap.size = Wa.heap.size := by rw [← hW2, World.putObj_size]
    rw [hW2]
    refine wpIn_mono (hbody _ pre x a' W0 W2 j1 hlen ((hc.trans hca).trans hc2) ((hBW'.trans hba').trans hb2) (hE _ _ _ _ hc2 hea) (hAx _ _ _ _ hc2 hax) (hKp _ _ hc2 (hKp _ _ hca hkw))) ?_
    rintro e a3 W3 hp
    cases e with
    | normal =>
      obtain ⟨hk3, hi3, hq3⟩ := hp
      have l3 := hk3.same L _ hl2 rfl
      have d3 := hk3.same _ _ hk2 rfl
      have r3 := run_endRound (P := P) none l3
      have hput : Below w.heap.size W3 (W3.putObj L (.loop (rec .ready none))) := below_put (o := .loop (rec .ready none)) (by omega)
      have hcp : Cel W3 (W3.putObj L (.loop (rec .ready none))) := cel_putObj _ l3 rfl
      have hnew : (W3.putObj L (.loop (rec .ready none))).heap[L]? = some (.loop (rec .ready none)) := World.putObj_heap_same (Array.getElem?_eq_some_iff.1 l3).1
      have hdef : (W3.putObj L (.loop (rec .ready none))).heap[w.heap.size]? = some (.deferred (some [])) := (World.putObj_heap_other (by omega)).trans d3
      have hi4 := hI _ _ _ hcp hput hi3
      have hq4 := hKp _ _ hcp hq3
      rw [hrec] at r3 hi4 hq4 hnew hdef ⊢
      exact ⟨_, _, r3, rfl, ⟨hi4, hnew, hdef⟩, hq4, by rw [World.putObj_size]; have := hba.size; have := hk3.size; omega⟩
    | ret => exact hp.elim
    | exit id => exact hp.elim
    | goto t => exact hp.elim
    | panic ch => exact hp.elim
    | outgrown => exact hp.elim
  case behind =>
    rintro e W2 ⟨⟨v, rfl⟩, xs, hS, i1, i2, i3⟩
    have hlt : L < W2.heap.size := (Array.getElem?_eq_some_iff.1 i2).1
    have r := run_endLoop (P := P) i2 (by rw [hrec]; simp)
    rw [hrec] at r
    exact ⟨none, _, r, hdone _ xs _ (Nat.le_refl _) hS (hI _ _ _ (cel_putObj _ i2 rfl) (below_put (o := .loop (rec .ready none)) (by omega)) i1) ((World.putObj_heap_other (by omega)).trans i3)⟩
end
end Go.Proofs.Ytjjaajmjcdihoaa
