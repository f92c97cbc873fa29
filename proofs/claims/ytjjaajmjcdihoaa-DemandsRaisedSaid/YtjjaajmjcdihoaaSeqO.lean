/-
  A range over a function whose iterator goes through a function of its own (and so on): what such an iterator promises, and the statement that goes through it.
-/
import Derived.Test.YtjjaajmjcdihoaaCel
namespace Go.Proofs.Ytjjaajmjcdihoaa
open Go.RowKit
set_option linter.unusedVariables false

/-- What lay from B on lies as it lay. -/
structure KeptFrom (B : Nat) (w w' : World) : Prop where
  size : w.heap.size ≤ w'.heap.size
  same : ∀ k, B ≤ k → k < w.heap.size → w'.heap[k]? = w.heap[k]?
theorem KeptFrom.of_below {B : Nat} {w w' : World} (h : Below w.heap.size w w') : KeptFrom B w w' := ⟨h.size, fun k _ hk => h.block k hk⟩
theorem KeptFrom.trans {B : Nat} {a b c : World} (h : KeptFrom B a b) (k : KeptFrom B b c) : KeptFrom B a c := ⟨Nat.le_trans h.size k.size, fun i hi hlt => (k.same i hi (by have := h.size; omega)).trans (h.same i hi hlt)⟩
theorem KeptFrom.mono {B B' : Nat} {w w' : World} (h : KeptFrom B w w') (hB : B ≤ B') : KeptFrom B' w w' := ⟨h.size, fun k hk hlt => h.same k (by omega) hlt⟩
theorem KeptFrom.at {B k : Nat} {w w' : World} {o : Obj} (h : KeptFrom B w w') (hk : B ≤ k) (ho : w.heap[k]? = some o) : w'.heap[k]? = some o := (h.same k hk (Array.getElem?_eq_some_iff.1 ho).1).trans ho
theorem cel_of_below {w w' : World} (h : Below w.heap.size w w') : Cel w w' := ⟨h.size, fun b o hb _ => (h.block b (Array.getElem?_eq_some_iff.1 hb).1).trans hb⟩
/-- What speaks of nothing that comes from B on. -/
def Stays {β : Type} (B : Nat) (J : β → World → Prop) : Prop := ∀ s a b, B ≤ a.heap.size → Below B a b → J s a → J s b
theorem Stays.mono {β : Type} {B B' : Nat} {J : β → World → Prop} (h : Stays B J) (hB : B ≤ B') : Stays B' J := fun s a b ha hb hj => h s a b (by omega) (hb.mono hB) hj
theorem below_put {B l : Nat} {W : World} {o o' : Obj} (hB : B ≤ l) : Below B W (W.putObj l o') :=
  ⟨rfl, rfl, rfl, by simp, fun k hk => World.putObj_heap_other (by omega)⟩
theorem below_from {w w' : World} {B : Nat} (hs : w.heap.size ≤ w'.heap.size) (h : ∀ k, k < B → w'.heap[k]? = w.heap[k]?) (ho : w'.os = w.os) (ht : w'.tape = w.tape) (hp : w'.output = w.output) : Below B w w' := ⟨ho, ht, hp, hs, h⟩
theorem wide_free (k : Nat) : Fence.wide.room k := fun _ h => by simp [Fence.wide] at h
theorem yield_wide {m m' : Nat} {P : Program} {l : Nat} {args : Array Value} {W : World} {R : Ending → World → Prop} (h : YieldAt Fence.wide m P l args W R) : YieldAt Fence.wide m' P l args W R := by
  obtain ⟨fn, tmps, assign, body, hy, hR⟩ := h
  exact ⟨fn, tmps, assign, body, hy, hR.1, fun c cs _ => hR.2 c cs (wide_free _)⟩

section
variable {α : Type} {P : Program}
/-- AN ITERATOR: it goes through xs (S), or through some of them (Sp); what it gives is E; it says nothing of what lay ahead of it; where a round goes on, all lies as it lay; where it does not, all that came with the iterator does. -/
def SeqO (P : Program) (gf : Nat) (lb : Array Value) (encs : α → Array Value) (E : α → World → Prop) (S Sp : List α → Prop) (w : World) : Prop :=
  ∀ (l : Nat) (J Jx : List α → World → Prop) (W : World), Below w.heap.size w W → Stays W.heap.size J → OwnFrom W.heap.size Jx →
    (∀ pre x W1, J pre W1 → E x W1 → Below W.heap.size W W1 → YieldAt Fence.wide 3 P l (encs x) W1 fun e W' =>
      (e = .returned (.bool true) ∧ J (pre ++ [x]) W' ∧ Below W1.heap.size W1 W') ∨ (e = .returned (.bool false) ∧ Jx (pre ++ [x]) W' ∧ KeptFrom W.heap.size W1 W')) →
    J [] W →
    Calls P gf (#[.func (.yield l) #[] #[]] ++ lb) W fun e W' => (∃ v, e = .returned v) ∧ ((∃ xs, S xs ∧ J xs W') ∨ (∃ pre, Sp pre ∧ Jx pre W'))

/-- How a round may be left. -/
def roundO (B : Nat) (I : List α → World → Prop) (Ix : Code → List α → World → Prop) (xs : List α) (W : World) : Exit → Act → World → Prop
  | .normal, _, W' => Below W.heap.size W W' ∧ I xs W'
  | .ret, _, W' => KeptFrom B W W' ∧ Ix .ret xs W'
  | .exit id, _, W' => KeptFrom B W W' ∧ Ix (.exit id) xs W'
  | .goto t, _, W' => KeptFrom B W W' ∧ Ix (.goto t) xs W'
  | _, _, _ => False

set_option maxHeartbeats 1000000 in
theorem range_seqO {g : Operand} {ps : Array Tmp} {assign body : Code} {Q : Exit → Act → World → Prop} {a : Act} {w : World} {n : Nat} (h1 : 1 ≤ n)
    {gf : Nat} {lb : Array Value} (hg : a.eval g = .func (.func gf) #[] lb) (eg : ∀ args w, (callFunc gf args).run P w = .ok (.enter gf args) w)
    {encs : α → Array Value} {E : α → World → Prop} {S Sp : List α → Prop} {w0 : World} (hseq : SeqO P gf lb encs E S Sp w0) (hb0 : Below w0.heap.size w0 w) (hps : ∀ x, (encs x).size = ps.size)
    (hE : ∀ x a b, Cel a b → E x a → E x b) (I : List α → World → Prop) (Ix : Code → List α → World → Prop) (hI : Stays w.heap.size I) (hIx : ∀ c, OwnFrom w.heap.size (Ix c)) (h0 : I [] w)
    (Ax : α → Act → World → Prop) (hAx : ∀ x a' a b, Cel a b → Ax x a' a → Ax x a' b)
    (hassign : ∀ (l : Nat) (pre : List α) (x : α) (W : World) (K : Act → World → Prop), I pre W → E x W → Below w.heap.size w W → (∀ a' W', Below W.heap.size W W' → Ax x a' W' → K a' W') →
      assign.wpIn (Fence.wide.inRound l) (n - 1 - 1) P (Exit.then K (fun _ _ _ => False)) { tmps := (ps.zip (encs x)).foldl (fun t (p, v) => t.setIfInBounds p v) a.tmps, defers := [] } W)
    (hbody : ∀ (l : Nat) (pre : List α) (x : α) (a' : Act) (W : World), I pre W → E x W → Ax x a' W → Below w.heap.size w W → body.wpIn (Fence.wide.inRound l) (n - 1 - 1) P (roundO w.heap.size I Ix (pre ++ [x]) W) a' W)
    (hdone : ∀ (D : Nat) (xs : List α) (W : World), w.heap.size ≤ D → S xs → I xs W → W.heap[D]? = some (.deferred (some [])) → Q .normal { a with defers := { target := .collected D, args := #[] } :: a.defers } W)
    (hstop : ∀ (D : Nat) (c : Code) (pre : List α) (W : World), w.heap.size ≤ D → Sp pre → Ix c pre W → W.heap[D]? = some (.deferred (some [])) → c.wpIn Fence.wide n P Q { a with defers := { target := .collected D, args := #[] } :: a.defers } W) :
    (Code.rangeFunc g ps assign body).wpIn Fence.wide n P Q a w := by
  refine wpIn_rangeFunc fun fn hfn => ?_
  obtain ⟨rec, hrec⟩ : ∃ rec : LoopState → Option Code → Loop, rec = fun st pe => { state := st, pending := pe, fn, tmps := a.tmps, params := ps, assign, body, defers := w.heap.size } := ⟨_, rfl⟩
  obtain ⟨W1, hW1⟩ : ∃ W1, (w.alloc (.deferred (some []))).alloc (.loop (rec .ready none)) = W1 := ⟨_, rfl⟩
  obtain ⟨L, hL⟩ : ∃ L, L = w.heap.size + 1 := ⟨_, rfl⟩
  have hs1 : W1.heap.size = L + 1 := by rw [← hW1, hL, World.size_alloc, World.size_alloc]
  have gL : W1.heap[L]? = some (.loop (rec .ready none)) := by
    have h2 := World.alloc_heap_new (w.alloc (.deferred (some []))) (.loop (rec .ready none))
    rw [World.size_alloc] at h2
    rw [← hW1, hL]; exact h2
  have gD : W1.heap[w.heap.size]? = some (.deferred (some [])) := by rw [← hW1]; exact (Below.heap_alloc _ _ _ (by simp)).trans (World.alloc_heap_new w _)
  have hB1 : Below w.heap.size w W1 := by rw [← hW1]; exact ((Below.refl _ w).alloc (Nat.le_refl _) _).alloc (by simp) _
  refine ⟨L, [{ target := .collected w.heap.size, args := #[] }], W1, { target := .fn (.func gf) lb, args := #[.func (.yield L) #[] #[]] }, W1, gf, #[.func (.yield L) #[] #[]] ++ lb, W1, ?_, ?_, ?_, ?_, fun _ => h1, ?_⟩
  · rw [← hW1, hrec, hL]; exact run_enterLoop_outer _ _ _ _ _
  · simp only [resolve, hg]
    simp [go_sem]
  · intro f' _; trivial
  · simp [invoke, go_sem, eg]
  refine callsIn_wide.2 (Calls.mono (hseq L
    (fun pre W => I pre W ∧ W.heap[L]? = some (.loop (rec .ready none)) ∧ W.heap[w.heap.size]? = some (.deferred (some [])) ∧ Below w.heap.size w W)
    (fun pre W => ∃ c, Ix c pre W ∧ W.heap[L]? = some (.loop (rec .done (some c))) ∧ W.heap[w.heap.size]? = some (.deferred (some [])))
    W1 (hb0.trans (hB1.mono hb0.size)) ?stays ?ownx ?round ⟨hI _ _ _ (Nat.le_refl _) hB1 h0, gL, gD, hB1⟩) ?behind)
  case stays =>
    rintro s x y hx hxy ⟨i1, i2, i3, i4⟩
    have hb := hxy.mono (show w.heap.size ≤ W1.heap.size by omega)
    exact ⟨hI s x y (by omega) hb i1, (hxy.block L (by omega)).trans i2, (hxy.block _ (by omega)).trans i3, i4.trans hb⟩
  case ownx =>
    rintro s x y row ⟨c, i1, i2, i3⟩ hg hr
    have hne : ∀ k, k < W1.heap.size → y.heap[k]? = x.heap[k]? ∨ x.heap[k]? = none := fun k hk => by
      rcases Nat.lt_or_ge k x.heap.size with h | h
      · exact .inl (hg.block k h fun e => by have := (hr k e.symm).1; omega)
      · exact .inr (Array.getElem?_eq_none h)
    refine ⟨c, hIx c s x y row i1 hg (fun r e => ⟨by have := (hr r e).1; omega, (hr r e).2⟩), ?_, ?_⟩
    · rcases hne L (by omega) with h | h
      · exact h.trans i2
      · rw [h] at i2; cases i2
    · rcases hne w.heap.size (by omega) with h | h
      · exact h.trans i3
      · rw [h] at i3; cases i3
  case round =>
    rintro pre x W ⟨i1, i2, i3, i4⟩ he hBW
    have hlt : L < W.heap.size := (Array.getElem?_eq_some_iff.1 i2).1
    have hy := run_yield (P := P) (args := encs x) i2 (by rw [hrec]; exact hps x)
    rw [hrec] at hy
    refine yield_wide (m := n - 1 - 1) ⟨fn, _, assign, body, hy, roundIn_of_wpIn hfn (hassign _ pre x W _ i1 he i4 ?_)⟩
    clear hy
    intro a' Wa hba hax
    have hl := (hba.block L hlt).trans i2
    have hk := (hba.block _ (by omega)).trans i3
    have hia := hI _ _ _ i4.size (hba.mono i4.size) i1
    have hea := hE _ _ _ (cel_of_below hba) he
    have h4a := i4.trans (hba.mono i4.size)
    have hlta : L < Wa.heap.size := by have := hba.size; omega
    refine ⟨_, run_beginRound hl (by rw [hrec]), ?_⟩
    obtain ⟨W2, hW2⟩ : ∃ W2, Wa.putObj L (.loop { rec .ready none with state := .busy }) = W2 := ⟨_, rfl⟩
    have hl2 : W2.heap[L]? = some (.loop { rec .ready none with state := .busy }) := by rw [← hW2]; exact World.putObj_heap_same hlta
    have ho2 : ∀ k, k ≠ L → W2.heap[k]? = Wa.heap[k]? := fun k h => by rw [← hW2]; exact World.putObj_heap_other h
    have hs2 : W2.heap.size = Wa.heap.size := by rw [← hW2, World.putObj_size]
    have hc2 : Cel Wa W2 := by rw [← hW2]; exact cel_putObj _ hl rfl
    have hb2 : Below w.heap.size Wa W2 := by rw [← hW2]; exact below_put (o := .loop (rec .ready none)) (by omega)
    have e2 : W2.os = Wa.os ∧ W2.tape = Wa.tape ∧ W2.output = Wa.output := by rw [← hW2]; exact ⟨rfl, rfl, rfl⟩
    rw [hW2]
    refine wpIn_mono (hbody _ pre x a' W2 (hI _ _ _ h4a.size hb2 hia) (hE _ _ _ hc2 hea) (hAx _ _ _ _ hc2 hax) (h4a.trans hb2)) ?_
    have fin : ∀ (jump : Option Code) (W3 : World), KeptFrom w.heap.size W2 W3 →
        (Instr.endRound L jump).run P W3 = .ok (.bool jump.isNone) (W3.putObj L (.loop (rec (if jump.isNone then .ready else .done) jump))) ∧
        W3.heap[L]? = some (.loop { rec .ready none with state := .busy }) ∧
        (W3.putObj L (.loop (rec (if jump.isNone then .ready else .done) jump))).heap[L]? = some (.loop (rec (if jump.isNone then .ready else .done) jump)) ∧
        (W3.putObj L (.loop (rec (if jump.isNone then .ready else .done) jump))).heap[w.heap.size]? = some (.deferred (some [])) := fun jump W3 k3 => by
      have l3 := k3.at (by omega) hl2
      have r3 := run_endRound (P := P) jump l3
      rw [hrec] at r3 l3 ⊢
      exact ⟨r3, l3, World.putObj_heap_same (Array.getElem?_eq_some_iff.1 l3).1, (World.putObj_heap_other (by omega)).trans (k3.at (Nat.le_refl _) ((ho2 _ (by omega)).trans hk))⟩
    have stop : ∀ (c : Code) (W3 : World), KeptFrom w.heap.size W2 W3 → Ix c (pre ++ [x]) W3 → ∃ v W4, (Instr.endRound L (some c)).run P W3 = .ok v W4 ∧
        ((Ending.returned v = .returned (.bool true) ∧ (I (pre ++ [x]) W4 ∧ W4.heap[L]? = some (.loop (rec .ready none)) ∧ W4.heap[w.heap.size]? = some (.deferred (some [])) ∧ Below w.heap.size w W4) ∧ Below W.heap.size W W4) ∨
         (Ending.returned v = .returned (.bool false) ∧ (∃ c, Ix c (pre ++ [x]) W4 ∧ W4.heap[L]? = some (.loop (rec .done (some c))) ∧ W4.heap[w.heap.size]? = some (.deferred (some []))) ∧ KeptFrom W1.heap.size W W4)) := fun c W3 k3 hx => by
      obtain ⟨r3, l3, l4, d4⟩ := fin (some c) W3 k3
      refine ⟨_, _, r3, .inr ⟨rfl, ⟨c, (hIx c).putObj _ hx (by omega) l3 rfl, l4, d4⟩, ?_⟩⟩
      refine ⟨by rw [World.putObj_size]; have := hba.size; have := k3.size; omega, fun k hk1 hk2 => ?_⟩
      rw [World.putObj_heap_other (by omega), k3.same k (by omega) (by have := hba.size; omega), ho2 k (by omega)]
      exact hba.block k hk2
    rintro e a3 W3 hp
    cases e with
    | normal =>
      obtain ⟨hb3, hi3⟩ := hp
      obtain ⟨r3, l3, l4, d4⟩ := fin none W3 (.of_below hb3)
      have hw3 : Below w.heap.size w W3 := (h4a.trans hb2).trans (hb3.mono (h4a.trans hb2).size)
      have hput : Below w.heap.size W3 (W3.putObj L (.loop (rec (if (none : Option Code).isNone then .ready else .done) none))) := below_put (o := .loop (rec .ready none)) (by omega)
      refine ⟨_, _, r3, .inl ⟨rfl, ⟨hI _ _ _ hw3.size hput hi3, l4, d4, hw3.trans hput⟩, ?_⟩⟩
      refine below_from (by rw [World.putObj_size]; have := hba.size; have := hb3.size; omega) (fun k hk => ?_) (hb3.os.trans (e2.1.trans hba.os)) (hb3.tape.trans (e2.2.1.trans hba.tape)) (hb3.output.trans (e2.2.2.trans hba.output))
      by_cases hkl : k = L
      · subst hkl
        rw [l4, i2]; rfl
      · rw [World.putObj_heap_other hkl, hb3.block k (by have := hba.size; omega), ho2 k hkl]
        exact hba.block k hk
    | ret => exact stop _ _ hp.1 hp.2
    | exit id => exact stop _ _ hp.1 hp.2
    | goto t => exact stop _ _ hp.1 hp.2
    | panic ch => exact hp.elim
    | outgrown => exact hp.elim
  case behind =>
    rintro e W2 ⟨⟨v, rfl⟩, (⟨xs, hS, i1, i2, i3, i4⟩ | ⟨pre, hSp, c, i1, i2, i3⟩)⟩
    · have r := run_endLoop (P := P) i2 (by rw [hrec]; simp)
      rw [hrec] at r
      exact ⟨none, _, r, hdone _ xs _ (Nat.le_refl _) hS (hI _ _ _ i4.size (below_put (o := .loop (rec .ready none)) (by omega)) i1) ((World.putObj_heap_other (by omega)).trans i3)⟩
    · have r := run_endLoop (P := P) i2 (by rw [hrec]; simp)
      rw [hrec] at r
      exact ⟨some c, _, r, hstop _ c pre _ (Nat.le_refl _) hSp ((hIx c).putObj _ i1 (by omega) i2 rfl) ((World.putObj_heap_other (by omega)).trans i3)⟩
end
end Go.Proofs.Ytjjaajmjcdihoaa
