/-
  A range over a function whose rounds turn what the caller holds, or return from the caller, and whose iterator hands out what it made and looks at it again.
-/
import Derived.RangeFuncNested
import Derived.Test.YtdckoaljcklmhaaGreatDoorReg2
import Derived.OrdersIn
import Derived.Test.YtdckoaljcklmhaaGreatDoorGrO
namespace Go.Proofs.YtdckoaljcklmhaaGreatDoor
open Go.RowKit
set_option linter.unusedVariables false

def noDefer (ops : Array Oper) : Bool := ops.all fun o => match o.op with | .defer _ => false | _ => true
theorem noDefer_get {ops : Array Oper} (h : noDefer ops = true) {i : Nat} {o : Oper} (ho : ops[i]? = some o) (c : Call) : o.op ≠ .defer c := by
  intro he
  obtain ⟨hi, rfl⟩ := Array.getElem?_eq_some_iff.1 ho
  have := Array.all_eq_true.1 h i hi
  rw [he] at this
  cases this
section
variable {P : Program} {ops : Array Oper} {Q : Exit → Act → World → Prop} {S : World → Prop}
/-- Q, where it ends as it should; False everywhere else. -/
def NormQ (Q : Exit → Act → World → Prop) : Exit → Act → World → Prop
  | .normal, a, w => Q .normal a w
  | _, _, _ => False
theorem NormQ.imp {Q : Exit → Act → World → Prop} : ∀ (e : Exit) (a : Act) (w : World), NormQ Q e a w → Q e a w := fun e a w h => by
  cases e <;> first | exact h | exact (h : False).elim
end
end Go.Proofs.YtdckoaljcklmhaaGreatDoor


namespace Go.Proofs.YtdckoaljcklmhaaGreatDoor
open Go.RowKit
set_option linter.unusedVariables false

theorem operIn_toRound {l n : Nat} {P : Program} {o : Oper} {a : Act} {w : World} {next next' : Act → World → Prop} {Q : Exit → Act → World → Prop} (hd : ∀ c, o.op ≠ .defer c) (hn : ∀ a w, next a w → next' a w) (h : o.wpIn Fence.wide n P a w next Q) :
    o.wpIn (Fence.wide.inRound l) n P a w next' Q := by
  have h2 := (Oper.wpIn_mono hn h).2
  have e : o.semAt (Fence.wide.inRound l).round a.eval = execOp a.eval o := Oper.semAt_some l _ _ hd
  have e' : o.semAt Fence.wide.round a.eval = execOp a.eval o := rfl
  refine ⟨fun _ _ => trivial, ?_⟩
  rw [e]
  rw [e'] at h2
  exact h2
theorem opsIn_toRound {l n : Nat} {P : Program} {ops : Array Oper} {Q : Exit → Act → World → Prop} (hd : noDefer ops = true) :
    ∀ (L : List Nat) (a : Act) (w : World), wpOpsIn Fence.wide n P ops Q L a w → wpOpsIn (Fence.wide.inRound l) n P ops Q L a w
  | [], a, w, h => h
  | i :: rest, a, w, h => by
    simp only [wpOpsIn] at h ⊢
    cases ho : ops[i]? with
    | none =>
      rw [ho] at h
      exact opsIn_toRound hd rest a w h
    | some o =>
      rw [ho] at h
      by_cases hw : Region.wanted o (yielded ops a.tmps) = true
      · simp only [hw, if_true] at h ⊢
        exact operIn_toRound (noDefer_get hd ho) (fun a w => opsIn_toRound hd rest a w) h
      · simp only [hw, if_false, Bool.false_eq_true] at h ⊢
        exact ⟨fun _ _ => trivial, opsIn_toRound hd rest _ w h.2⟩
theorem region_toRound {l n id : Nat} {P : Program} {ops : Array Oper} {Q : Exit → Act → World → Prop} {a : Act} {w : World} (hm : P.follows .mixedOrders = true) (hd : noDefer ops = true)
    (h : wpAnyIn Fence.wide n P .any ops Q ops.size (Array.replicate ops.size false) a w.drew) : (Code.region id ops true).wpIn (Fence.wide.inRound l) n P Q a w :=
  wpIn_region_draw fun t => by
    simp only [Region.schedule, hm, Bool.true_or, if_true]
    exact opsIn_toRound hd _ _ _ (wpAnyIn_sound ops.size t _ a _ h)
/-- The same, the walk under a name. -/
theorem region_toRoundF {l n id : Nat} {P : Program} {ops : Array Oper} {Q : Exit → Act → World → Prop} {a : Act} {w : World} (hm : P.follows .mixedOrders = true) (hd : noDefer ops = true)
    (h : ∀ F, F = wpAnyIn Fence.wide n P .any ops Q → F ops.size (Array.replicate ops.size false) a w.drew) : (Code.region id ops true).wpIn (Fence.wide.inRound l) n P Q a w := region_toRound hm hd (h _ rfl)
end Go.Proofs.YtdckoaljcklmhaaGreatDoor


namespace Go.Proofs.YtdckoaljcklmhaaGreatDoor
open Go.RowKit
set_option linter.unusedVariables false

structure Cel (w w' : World) : Prop where
  size : w.heap.size ≤ w'.heap.size
  same : ∀ (b : Nat) (o : Obj), w.heap[b]? = some o → o.isCells = true → w'.heap[b]? = some o
theorem Cel.refl (w : World) : Cel w w := ⟨Nat.le_refl _, fun _ _ h _ => h⟩
theorem Cel.trans {a b c : World} (h : Cel a b) (k : Cel b c) : Cel a c := ⟨Nat.le_trans h.size k.size, fun i o hi ho => k.same i o (h.same i o hi ho) ho⟩
theorem Cel.of_grownBy {w w' : World} {row : Option Nat} (hg : w.grownBy w' row) (hr : ∀ r, row = some r → ∃ o : Obj, w.heap[r]? = some o ∧ o.isCells = false) : Cel w w' :=
  ⟨hg.size, fun b o hb ho => (hg.block b (Array.getElem?_eq_some_iff.1 hb).1 (fun e => by
    obtain ⟨o', ho', hc⟩ := hr b e.symm
    rw [ho'] at hb; cases hb; rw [hc] at ho; cases ho)).trans hb⟩
theorem Cel.cell {w w' : World} (h : Cel w w') {p : Addr} {v : Value} (hc : w.cell? p = some v) : w'.cell? p = some v := by
  rw [← hc]
  cases hb : w.heap[p.block]? with
  | none => simp [World.cell?, hb] at hc
  | some o =>
    by_cases ho : o.isCells = true
    · exact World.cell?_of_block ((h.same _ _ hb ho).trans hb.symm)
    · exfalso
      cases o <;> first | (simp [Obj.isCells] at ho; done) | (simp [World.cell?, hb] at hc)
theorem Cel.frozen {w w' : World} (h : Cel w w') {p : Addr} {v : Value} (hc : w.cell? p = some v) : w'.frozen? p = w.frozen? p := by
  cases hb : w.heap[p.block]? with
  | none => simp [World.cell?, hb] at hc
  | some o =>
    by_cases ho : o.isCells = true
    · have := (h.same _ _ hb ho)
      simp [World.frozen?, hb, this]
    · exfalso
      cases o <;> first | (simp [Obj.isCells] at ho; done) | (simp [World.cell?, hb] at hc)
theorem cel_alloc (w : World) (o : Obj) : Cel w (w.alloc o) := Cel.of_grownBy (World.grownBy_alloc w o none) (fun r e => by cases e)

theorem Rd.cel {w w' : World} {A : Option Addr} {n : Nat} {xs : List Value} (h : Rd w A n xs) (hc : Cel w w') : Rd w' A n xs := by
  refine ⟨h.1, fun hn => ?_⟩
  obtain ⟨b, o, hA, hj⟩ := h.2 hn
  refine ⟨b, o, hA, fun j hlt => ?_⟩
  have h1 := hj j hlt
  rw [List.getElem?_eq_getElem (by have := h.1; omega)] at h1 ⊢
  exact hc.cell h1
theorem Ls.Ok.cel {w w' : World} {u : Ls} (h : u.Ok w) (hc : Cel w w') : u.Ok w' := ⟨h.rd.cel hc, h.cap, h.top, h.fit⟩
theorem Lss.cel {w w' : World} {A : Option Addr} {n : Nat} {t : List Ls} (h : Lss w A n t) (hc : Cel w w') : Lss w' A n t := by
  refine ⟨⟨h.at_.1, fun hn => ?_⟩, fun u hu => (h.ok u hu).cel hc⟩
  obtain ⟨b, o, hA, hj⟩ := h.at_.2 hn
  refine ⟨b, o, hA, fun j r hr i hi => ?_⟩
  have h1 := hj j r hr i hi
  rw [List.getElem?_map] at hr
  obtain ⟨u, hu, rfl⟩ := Option.map_eq_some_iff.1 hr
  rw [List.getElem?_eq_getElem (by simpa using hi)] at h1 ⊢
  exact hc.cell h1
theorem Gr.Ok.cel {w w' : World} {x : Gr} (h : x.Ok w) (hc : Cel w w') : x.Ok w' := ⟨h.lss.cel hc, h.cap, h.top⟩
theorem Own.cel {w w' : World} {B : Nat} {e : TypeId} {A : Option Addr} {n c : Nat} {xs : List Value} (h : Own w B e A n c xs) (hc : Cel w w') : Own w' B e A n c xs := by
  refine ⟨h.1, ?_⟩
  rcases h.2 with h0 | ⟨g, cur, hA, hg, hh, r⟩
  · exact .inl h0
  · exact .inr ⟨g, cur, hA, hg, hc.same _ _ hh rfl, r⟩
theorem OwnI.cel {w w' : World} {B : Nat} {u : Ls} (h : OwnI w B u) (hc : Cel w w') : OwnI w' B u := ⟨h.own.cel hc, h.fit⟩
theorem Outs.cel {w w' : World} {B : Nat} {A : Option Addr} {n c : Nat} {t : List Ls} (h : Outs w B A n c t) (hc : Cel w w') : Outs w' B A n c t := ⟨h.own.cel hc, fun u hu => (h.each u hu).cel hc, h.apt⟩
theorem boxed_cel {w w' : World} {B : Nat} {t : TypeId} {v : Value} (h : Boxed w B t v) (hc : Cel w w') : Boxed w' B t v := hc.same _ _ h rfl
/-- What speaks of cells alone is the caller's own. -/
theorem own_cel {β : Type} {I : β → World → Prop} (h : ∀ s w w', Cel w w' → I s w → I s w') : Go.Own I := fun s A B row hs hg hr => h s A B (Cel.of_grownBy hg hr) hs
theorem ownFrom_cel {β : Type} {I : β → World → Prop} (B : Nat) (h : ∀ s w w', Cel w w' → I s w → I s w') : OwnFrom B I := Go.Own.from (Go.Proofs.YtdckoaljcklmhaaGreatDoor.own_cel h) B
theorem cel_putObj {w : World} {l : Nat} {o : Obj} (o' : Obj) (hl : w.heap[l]? = some o) (ho : o.isCells = false) : Cel w (w.putObj l o') :=
  Cel.of_grownBy (grownBy_putObj' w l o') (fun r e => by cases e; exact ⟨o, hl, ho⟩)
/-- The iterator's word: what it goes through is still there. -/
theorem keepsK_b {p : World → Prop} (hp : ∀ a b, Cel a b → p a → p b) (w : World) (W : World) (l : Nat) (o o' : Obj) (_ : w.heap.size ≤ l) (h : W.heap[l]? = some o) (ho : o.isCells = false) (_ : o.isWalk = false) : (p W → p (W.putObj l o')) := hp _ _ (cel_putObj o' h ho)

theorem boxed_keep {w w' : World} {B : Nat} {t : TypeId} {v : Value} (h : Boxed w B t v) (hk : w'.heap[B]? = w.heap[B]?) : Boxed w' B t v := hk.trans h
theorem boxed_below {w w' : World} {B : Nat} {t : TypeId} {v : Value} (h : Boxed w B t v) (hb : Below w.heap.size w w') : Boxed w' B t v := (hb.block B h.lt).trans h
theorem postM_ret {F : Fence} {n : Nat} {P : Program} {fn : Func} {R : Ending → World → Prop} {a : Act} {w : World} {v : Value} (hr : (results fn a.tmps).run P w = .ok v w) (hd : a.defers = []) (h : R (.returned v) w) : bodyPostM F n P fn R .ret a w := by
  show LeavesInM F n P fn a.tmps R a.defers .returning w
  rw [hd]
  exact ⟨v, hr, h⟩
theorem postM_mark {F : Fence} {n : Nat} {P : Program} {fn : Func} {R : Ending → World → Prop} {a : Act} {w : World} {v : Value} {D : Nat} (hK : w.heap[D]? = some (.deferred (some []))) (hr : (results fn a.tmps).run P (w.putObj D (.deferred none)) = .ok v (w.putObj D (.deferred none))) (hd : a.defers = [{ target := .collected D, args := #[] }]) (h : R (.returned v) (w.putObj D (.deferred none))) : bodyPostM F n P fn R .ret a w := by
  show LeavesInM F n P fn a.tmps R a.defers .returning w
  rw [hd]
  exact ⟨by simp, .inl ⟨_, _, rfl, run_takeDeferred hK, ⟨v, hr, h⟩⟩⟩

/-- A set of things 0 to 7: an array by thing. t: its type. -/
def SetAt (w : World) (b : Nat) (t : TypeId) (f : Nat → Bool) : Prop := ∃ cur : Array Value, w.heap[b]? = some (.cells cur t (0, 0)) ∧ cur.size = 8 ∧ ∀ k, k < 8 → cur[k]? = some (.bool (f k))
theorem SetAt.lt {w : World} {b : Nat} {t : TypeId} {f : Nat → Bool} (h : SetAt w b t f) : b < w.heap.size := by obtain ⟨_, h1, _⟩ := h; exact (Array.getElem?_eq_some_iff.1 h1).1
theorem SetAt.new (w : World) (t : TypeId) : SetAt (w.alloc (.cells #[.bool false, .bool false, .bool false, .bool false, .bool false, .bool false, .bool false, .bool false] t)) w.heap.size t fun _ => false := by
  refine ⟨_, World.alloc_heap_new w _, rfl, fun k hk => ?_⟩
  match k, hk with
  | 0, _ => rfl
  | 1, _ => rfl
  | 2, _ => rfl
  | 3, _ => rfl
  | 4, _ => rfl
  | 5, _ => rfl
  | 6, _ => rfl
  | 7, _ => rfl
  | k + 8, h => omega
theorem SetAt.cell {w : World} {b : Nat} {t : TypeId} {f : Nat → Bool} (h : SetAt w b t f) {k : Nat} (hk : k < 8) : w.cell? ⟨b, k, none⟩ = some (.bool (f k)) := by
  obtain ⟨cur, h1, h2, h3⟩ := h
  simp [World.cell?, h1, h3 k hk]
theorem SetAt.frozen {w : World} {b : Nat} {t : TypeId} {f : Nat → Bool} (h : SetAt w b t f) (k : Nat) : w.frozen? ⟨b, k, none⟩ = false := by
  obtain ⟨cur, h1, h2, h3⟩ := h
  simp [World.frozen?, h1]
theorem SetAt.cel {w w' : World} {b : Nat} {t : TypeId} {f : Nat → Bool} (h : SetAt w b t f) (hc : Cel w w') : SetAt w' b t f := by
  obtain ⟨cur, h1, h2⟩ := h
  exact ⟨cur, hc.same _ _ h1 rfl, h2⟩
theorem SetAt.keep {w w' : World} {b : Nat} {t : TypeId} {f : Nat → Bool} (h : SetAt w b t f) (hk : w'.heap[b]? = w.heap[b]?) : SetAt w' b t f := by
  obtain ⟨cur, h1, h2⟩ := h
  exact ⟨cur, hk.trans h1, h2⟩
theorem SetAt.below {w w' : World} {b : Nat} {t : TypeId} {f : Nat → Bool} (h : SetAt w b t f) (hb : Below w.heap.size w w') : SetAt w' b t f := h.keep (hb.block b h.lt)
theorem SetAt.set {w : World} {b : Nat} {t : TypeId} {f f' : Nat → Bool} (h : SetAt w b t f) {k : Nat} {v : Bool} (hk : k < 8) (hf : ∀ j, j < 8 → f' j = if j = k then v else f j) : SetAt (w.setCell ⟨b, k, none⟩ (.bool v)) b t f' := by
  obtain ⟨cur, h1, h2, h3⟩ := h
  refine ⟨cur.setIfInBounds k (.bool v), heap_setCell_same w b k cur t _ h1, by rw [Array.size_setIfInBounds]; exact h2, fun j hj => ?_⟩
  rw [Array.getElem?_setIfInBounds]
  by_cases he : k = j
  · subst he
    rw [if_pos rfl, if_pos (by omega), hf k hk, if_pos rfl]
  · rw [if_neg he, h3 j hj, hf j hj, if_neg (fun e => he e.symm)]
end Go.Proofs.YtdckoaljcklmhaaGreatDoor


namespace Go.Proofs.YtdckoaljcklmhaaGreatDoor
open Go.RowKit
set_option linter.unusedVariables false

/-- What lay from B on lies as it lay. -/
structure KeptFrom (B : Nat) (w w' : World) : Prop where
  size : w.heap.size ≤ w'.heap.size
  same : ∀ k, B ≤ k → k < w.heap.size → w'.heap[k]? = w.heap[k]?
theorem KeptFrom.of_below {B : Nat} {w w' : World} (h : Below w.heap.size w w') : KeptFrom B w w' := ⟨h.size, fun k _ hk => h.block k hk⟩
theorem KeptFrom.trans {B : Nat} {a b c : World} (h : KeptFrom B a b) (k : KeptFrom B b c) : KeptFrom B a c := ⟨Nat.le_trans h.size k.size, fun i hi hlt => (k.same i hi (by have := h.size; omega)).trans (h.same i hi hlt)⟩
theorem KeptFrom.mono {B B' : Nat} {w w' : World} (h : KeptFrom B w w') (hB : B ≤ B') : KeptFrom B' w w' := ⟨h.size, fun k hk hlt => h.same k (by omega) hlt⟩
theorem KeptFrom.at {B k : Nat} {w w' : World} {o : Obj} (h : KeptFrom B w w') (hk : B ≤ k) (ho : w.heap[k]? = some o) : w'.heap[k]? = some o := (h.same k hk (Array.getElem?_eq_some_iff.1 ho).1).trans ho
theorem cel_of_below {w w' : World} (h : Below w.heap.size w w') : Cel w w' := ⟨h.size, fun b o hb _ => (h.block b (Array.getElem?_eq_some_iff.1 hb).1).trans hb⟩
/-- What speaks of nothing that comes from B on. -/
def Stays {β : Type} (B : Nat) (J : β → World → Prop) : Prop := ∀ s a b, B ≤ a.heap.size → Below B a b → J s a → J s b
theorem Stays.mono {β : Type} {B B' : Nat} {J : β → World → Prop} (h : Stays B J) (hB : B ≤ B') : Stays B' J := fun s a b ha hb hj => h s a b (by omega) (hb.mono hB) hj
theorem below_put {B l : Nat} {W : World} {o o' : Obj} (hB : B ≤ l) : Below B W (W.putObj l o') :=
  ⟨rfl, rfl, rfl, by simp, fun k hk => World.putObj_heap_other (by omega)⟩
theorem below_from {w w' : World} {B : Nat} (hs : w.heap.size ≤ w'.heap.size) (h : ∀ k, k < B → w'.heap[k]? = w.heap[k]?) (ho : w'.os = w.os) (ht : w'.tape = w.tape) (hp : w'.output = w.output) : Below B w w' := ⟨ho, ht, hp, hs, h⟩
theorem wide_free (k : Nat) : Fence.wide.room k := fun _ h => by simp [Fence.wide] at h
theorem yield_wide {m m' : Nat} {P : Program} {l : Nat} {args : Array Value} {W : World} {R : Ending → World → Prop} (h : YieldAt Fence.wide m P l args W R) : YieldAt Fence.wide m' P l args W R := by
  obtain ⟨fn, tmps, assign, body, hy, hR⟩ := h
  exact ⟨fn, tmps, assign, body, hy, hR.1, fun c cs _ => hR.2 c cs (wide_free _)⟩

section
variable {α : Type} {P : Program}
/-- AN ITERATOR: it goes through xs (S), or through some of them (Sp); what it gives is E; it says nothing of what lay ahead of it; where a round goes on, all lies as it lay; where it does not, all that came with the iterator does. -/
def SeqO (P : Program) (gf : Nat) (lb : Array Value) (encs : α → Array Value) (E : α → World → Prop) (S Sp : List α → Prop) (w : World) : Prop :=
  ∀ (l : Nat) (J Jx : List α → World → Prop) (W : World), Below w.heap.size w W → Stays W.heap.size J → OwnFrom W.heap.size Jx →
    (∀ pre x W1, J pre W1 → E x W1 → Below W.heap.size W W1 → YieldAt Fence.wide 3 P l (encs x) W1 fun e W' =>
      (e = .returned (.bool true) ∧ J (pre ++ [x]) W' ∧ Below W1.heap.size W1 W') ∨ (e = .returned (.bool false) ∧ Jx (pre ++ [x]) W' ∧ KeptFrom W.heap.size W1 W')) →
    J [] W →
    Calls P gf (#[.func (.yield l) #[] #[]] ++ lb) W fun e W' => (∃ v, e = .returned v) ∧ ((∃ xs, S xs ∧ J xs W') ∨ (∃ pre, Sp pre ∧ Jx pre W'))

/-- How a round may be left. -/
def roundO (B : Nat) (I : List α → World → Prop) (Ix : Code → List α → World → Prop) (xs : List α) (W : World) : Exit → Act → World → Prop
  | .normal, _, W' => Below W.heap.size W W' ∧ I xs W'
  | .ret, _, W' => KeptFrom B W W' ∧ Ix .ret xs W'
  | .exit id, _, W' => KeptFrom B W W' ∧ Ix (.exit id) xs W'
  | .goto t, _, W' => KeptFrom B W W' ∧ Ix (.goto t) xs W'
  | _, _, _ => False

set_option maxHeartbeats 1000000 in
theorem range_seqO {g : Operand} {ps : Array Tmp} {assign body : Code} {Q : Exit → Act → World → Prop} {a : Act} {w : World} {n : Nat} (h1 : 1 ≤ n)
    {gf : Nat} {lb : Array Value} (hg : a.eval g = .func (.func gf) #[] lb) (eg : ∀ args w, (callFunc gf args).run P w = .ok (.enter gf args) w)
    {encs : α → Array Value} {E : α → World → Prop} {S Sp : List α → Prop} {w0 : World} (hseq : SeqO P gf lb encs E S Sp w0) (hb0 : Below w0.heap.size w0 w) (hps : ∀ x, (encs x).size = ps.size)
    (hE : ∀ x a b, Cel a b → E x a → E x b) (I : List α → World → Prop) (Ix : Code → List α → World → Prop) (hI : Stays w.heap.size I) (hIx : ∀ c, OwnFrom w.heap.size (Ix c)) (h0 : I [] w)
    (Ax : α → Act → World → Prop) (hAx : ∀ x a' a b, Cel a b → Ax x a' a → Ax x a' b)
    (hassign : ∀ (l : Nat) (pre : List α) (x : α) (W : World) (K : Act → World → Prop), I pre W → E x W → Below w.heap.size w W → (∀ a' W', Below W.heap.size W W' → Ax x a' W' → K a' W') →
      assign.wpIn (Fence.wide.inRound l) (n - 1 - 1) P (Exit.then K (fun _ _ _ => False)) { tmps := (ps.zip (encs x)).foldl (fun t (p, v) => t.setIfInBounds p v) a.tmps, defers := [] } W)
    (hbody : ∀ (l : Nat) (pre : List α) (x : α) (a' : Act) (W : World), I pre W → E x W → Ax x a' W → Below w.heap.size w W → body.wpIn (Fence.wide.inRound l) (n - 1 - 1) P (roundO w.heap.size I Ix (pre ++ [x]) W) a' W)
    (hdone : ∀ (D : Nat) (xs : List α) (W : World), w.heap.size ≤ D → S xs → I xs W → W.heap[D]? = some (.deferred (some [])) → Q .normal { a with defers := { target := .collected D, args := #[] } :: a.defers } W)
    (hstop : ∀ (D : Nat) (c : Code) (pre : List α) (W : World), w.heap.size ≤ D → Sp pre → Ix c pre W → W.heap[D]? = some (.deferred (some [])) → c.wpIn Fence.wide n P Q { a with defers := { target := .collected D, args := #[] } :: a.defers } W) :
    (Code.rangeFunc g ps assign body).wpIn Fence.wide n P Q a w := by
  refine wpIn_rangeFunc fun fn hfn => ?_
  obtain ⟨rec, hrec⟩ : ∃ rec : LoopState → Option Code → Loop, rec = fun st pe => { state := st, pending := pe, fn, tmps := a.tmps, params := ps, assign, body, defers := w.heap.size } := ⟨_, rfl⟩
  obtain ⟨W1, hW1⟩ : ∃ W1, (w.alloc (.deferred (some []))).alloc (.loop (rec .ready none)) = W1 := ⟨_, rfl⟩
  obtain ⟨L, hL⟩ : ∃ L, L = w.heap.size + 1 := ⟨_, rfl⟩
  have hs1 : W1.heap.size = L + 1 := by rw [← hW1, hL, World.size_alloc, World.size_alloc]
  have gL : W1.heap[L]? = some (.loop (rec .ready none)) := by
    have h2 := World.alloc_heap_new (w.alloc (.deferred (some []))) (.loop (rec .ready none))
    rw [World.size_alloc] at h2
    rw [← hW1, hL]; exact h2
  have gD : W1.heap[w.heap.size]? = some (.deferred (some [])) := by rw [← hW1]; exact (Below.heap_alloc _ _ _ (by simp)).trans (World.alloc_heap_new w _)
  have hB1 : Below w.heap.size w W1 := by rw [← hW1]; exact ((Below.refl _ w).alloc (Nat.le_refl _) _).alloc (by simp) _
  refine ⟨L, [{ target := .collected w.heap.size, args := #[] }], W1, { target := .fn (.func gf) lb, args := #[.func (.yield L) #[] #[]] }, W1, gf, #[.func (.yield L) #[] #[]] ++ lb, W1, ?_, ?_, ?_, ?_, fun _ => h1, ?_⟩
  · rw [← hW1, hrec, hL]; exact run_enterLoop_outer _ _ _ _ _
  · simp only [resolve, hg]
    simp [go_sem]
  · intro f' _; trivial
  · simp [invoke, go_sem, eg]
  refine callsIn_wide.2 (Calls.mono (hseq L
    (fun pre W => I pre W ∧ W.heap[L]? = some (.loop (rec .ready none)) ∧ W.heap[w.heap.size]? = some (.deferred (some [])) ∧ Below w.heap.size w W)
    (fun pre W => ∃ c, Ix c pre W ∧ W.heap[L]? = some (.loop (rec .done (some c))) ∧ W.heap[w.heap.size]? = some (.deferred (some [])))
    W1 (hb0.trans (hB1.mono hb0.size)) ?stays ?ownx ?round ⟨hI _ _ _ (Nat.le_refl _) hB1 h0, gL, gD, hB1⟩) ?behind)
  case stays =>
    rintro s x y hx hxy ⟨i1, i2, i3, i4⟩
    have hb := hxy.mono (show w.heap.size ≤ W1.heap.size by omega)
    exact ⟨hI s x y (by omega) hb i1, (hxy.block L (by omega)).trans i2, (hxy.block _ (by omega)).trans i3, i4.trans hb⟩
  case ownx =>
    rintro s x y row ⟨c, i1, i2, i3⟩ hg hr
    have hne : ∀ k, k < W1.heap.size → y.heap[k]? = x.heap[k]? ∨ x.heap[k]? = none := fun k hk => by
      rcases Nat.lt_or_ge k x.heap.size with h | h
      · exact .inl (hg.block k h fun e => by have := (hr k e.symm).1; omega)
      · exact .inr (Array.getElem?_eq_none h)
    refine ⟨c, hIx c s x y row i1 hg (fun r e => ⟨by have := (hr r e).1; omega, (hr r e).2⟩), ?_, ?_⟩
    · rcases hne L (by omega) with h | h
      · exact h.trans i2
      · rw [h] at i2; cases i2
    · rcases hne w.heap.size (by omega) with h | h
      · exact h.trans i3
      · rw [h] at i3; cases i3
  case round =>
    rintro pre x W ⟨i1, i2, i3, i4⟩ he hBW
    have hlt : L < W.heap.size := (Array.getElem?_eq_some_iff.1 i2).1
    have hy := run_yield (P := P) (args := encs x) i2 (by rw [hrec]; exact hps x)
    rw [hrec] at hy
    refine yield_wide (m := n - 1 - 1) ⟨fn, _, assign, body, hy, roundIn_of_wpIn hfn (hassign _ pre x W _ i1 he i4 ?_)⟩
    clear hy
    intro a' Wa hba hax
    have hl := (hba.block L hlt).trans i2
    have hk := (hba.block _ (by omega)).trans i3
    have hia := hI _ _ _ i4.size (hba.mono i4.size) i1
    have hea := hE _ _ _ (cel_of_below hba) he
    have h4a := i4.trans (hba.mono i4.size)
    have hlta : L < Wa.heap.size := by have := hba.size; omega
    refine ⟨_, run_beginRound hl (by rw [hrec]), ?_⟩
    obtain ⟨W2, hW2⟩ : ∃ W2, Wa.putObj L (.loop { rec .ready none with state := .busy }) = W2 := ⟨_, rfl⟩
    have hl2 : W2.heap[L]? = some (.loop { rec .ready none with state := .busy }) := by rw [← hW2]; exact World.putObj_heap_same hlta
    have ho2 : ∀ k, k ≠ L → W2.heap[k]? = Wa.heap[k]? := fun k h => by rw [← hW2]; exact World.putObj_heap_other h
    have hs2 : W2.heap.size = Wa.heap.size := by rw [← hW2, World.putObj_size]
    have hc2 : Cel Wa W2 := by rw [← hW2]; exact cel_putObj _ hl rfl
    have hb2 : Below w.heap.size Wa W2 := by rw [← hW2]; exact below_put (o := .loop (rec .ready none)) (by omega)
    have e2 : W2.os = Wa.os ∧ W2.tape = Wa.tape ∧ W2.output = Wa.output := by rw [← hW2]; exact ⟨rfl, rfl, rfl⟩
    rw [hW2]
    refine wpIn_mono (hbody _ pre x a' W2 (hI _ _ _ h4a.size hb2 hia) (hE _ _ _ hc2 hea) (hAx _ _ _ _ hc2 hax) (h4a.trans hb2)) ?_
    have fin : ∀ (jump : Option Code) (W3 : World), KeptFrom w.heap.size W2 W3 →
        (Instr.endRound L jump).run P W3 = .ok (.bool jump.isNone) (W3.putObj L (.loop (rec (if jump.isNone then .ready else .done) jump))) ∧
        W3.heap[L]? = some (.loop { rec .ready none with state := .busy }) ∧
        (W3.putObj L (.loop (rec (if jump.isNone then .ready else .done) jump))).heap[L]? = some (.loop (rec (if jump.isNone then .ready else .done) jump)) ∧
        (W3.putObj L (.loop (rec (if jump.isNone then .ready else .done) jump))).heap[w.heap.size]? = some (.deferred (some [])) := fun jump W3 k3 => by
      have l3 := k3.at (by omega) hl2
      have r3 := run_endRound (P := P) jump l3
      rw [hrec] at r3 l3 ⊢
      exact ⟨r3, l3, World.putObj_heap_same (Array.getElem?_eq_some_iff.1 l3).1, (World.putObj_heap_other (by omega)).trans (k3.at (Nat.le_refl _) ((ho2 _ (by omega)).trans hk))⟩
    have stop : ∀ (c : Code) (W3 : World), KeptFrom w.heap.size W2 W3 → Ix c (pre ++ [x]) W3 → ∃ v W4, (Instr.endRound L (some c)).run P W3 = .ok v W4 ∧
        ((Ending.returned v = .returned (.bool true) ∧ (I (pre ++ [x]) W4 ∧ W4.heap[L]? = some (.loop (rec .ready none)) ∧ W4.heap[w.heap.size]? = some (.deferred (some [])) ∧ Below w.heap.size w W4) ∧ Below W.heap.size W W4) ∨
         (Ending.returned v = .returned (.bool false) ∧ (∃ c, Ix c (pre ++ [x]) W4 ∧ W4.heap[L]? = some (.loop (rec .done (some c))) ∧ W4.heap[w.heap.size]? = some (.deferred (some []))) ∧ KeptFrom W1.heap.size W W4)) := fun c W3 k3 hx => by
      obtain ⟨r3, l3, l4, d4⟩ := fin (some c) W3 k3
      refine ⟨_, _, r3, .inr ⟨rfl, ⟨c, (hIx c).putObj _ hx (by omega) l3 rfl, l4, d4⟩, ?_⟩⟩
      refine ⟨by rw [World.putObj_size]; have := hba.size; have := k3.size; omega, fun k hk1 hk2 => ?_⟩
      rw [World.putObj_heap_other (by omega), k3.same k (by omega) (by have := hba.size; omega), ho2 k (by omega)]
      exact hba.block k hk2
    rintro e a3 W3 hp
    cases e with
    | normal =>
      obtain ⟨hb3, hi3⟩ := hp
      obtain ⟨r3, l3, l4, d4⟩ := fin none W3 (.of_below hb3)
      have hw3 : Below w.heap.size w W3 := (h4a.trans hb2).trans (hb3.mono (h4a.trans hb2).size)
      have hput : Below w.heap.size W3 (W3.putObj L (.loop (rec (if (none : Option Code).isNone then .ready else .done) none))) := below_put (o := .loop (rec .ready none)) (by omega)
      refine ⟨_, _, r3, .inl ⟨rfl, ⟨hI _ _ _ hw3.size hput hi3, l4, d4, hw3.trans hput⟩, ?_⟩⟩
      refine below_from (by rw [World.putObj_size]; have := hba.size; have := hb3.size; omega) (fun k hk => ?_) (hb3.os.trans (e2.1.trans hba.os)) (hb3.tape.trans (e2.2.1.trans hba.tape)) (hb3.output.trans (e2.2.2.trans hba.output))
      by_cases hkl : k = L
      · subst hkl
        rw [l4, i2]; rfl
      · rw [World.putObj_heap_other hkl, hb3.block k (by have := hba.size; omega), ho2 k hkl]
        exact hba.block k hk
    | ret => exact stop _ _ hp.1 hp.2
    | exit id => exact stop _ _ hp.1 hp.2
    | goto t => exact stop _ _ hp.1 hp.2
    | panic ch => exact hp.elim
    | outgrown => exact hp.elim
  case behind =>
    rintro e W2 ⟨⟨v, rfl⟩, (⟨xs, hS, i1, i2, i3, i4⟩ | ⟨pre, hSp, c, i1, i2, i3⟩)⟩
    · have r := run_endLoop (P := P) i2 (by rw [hrec]; simp)
      rw [hrec] at r
      exact ⟨none, _, r, hdone _ xs _ (Nat.le_refl _) hS (hI _ _ _ i4.size (below_put (o := .loop (rec .ready none)) (by omega)) i1) ((World.putObj_heap_other (by omega)).trans i3)⟩
    · have r := run_endLoop (P := P) i2 (by rw [hrec]; simp)
      rw [hrec] at r
      exact ⟨some c, _, r, hstop _ c pre _ (Nat.le_refl _) hSp ((hIx c).putObj _ i1 (by omega) i2 rfl) ((World.putObj_heap_other (by omega)).trans i3)⟩
end
end Go.Proofs.YtdckoaljcklmhaaGreatDoor


namespace Go.Proofs.YtdckoaljcklmhaaGreatDoor
open Go.RowKit
set_option linter.unusedVariables false

/-- What stays so as long as all cells lie as they lay, and nothing ahead of B turns. -/
def Steady {β : Type} (B : Nat) (J : β → World → Prop) : Prop := ∀ s a b, Cel a b → Below B a b → J s a → J s b

section
variable {α : Type} {P : Program}
/-- AN ITERATOR: it goes through xs (S), N of them at most; what it gives is E (from where on: how much there was when the round ahead ended); what it needs is Kp. -/
def SeqE (P : Program) (gf : Nat) (lb : Array Value) (encs : α → Array Value) (E : α → Nat → World → Prop) (Kp : World → Prop) (S : List α → Prop) (N : Nat) (w : World) : Prop :=
  ∀ (l : Nat) (J : List α → World → Prop) (W : World), Below w.heap.size w W → Kp W → Steady W.heap.size J →
    (∀ pre x W0 W1, J pre W0 → Kp W1 → pre.length < N → Cel W0 W1 → Below W.heap.size W0 W1 → E x W0.heap.size W1 → YieldAt Fence.wide 3 P l (encs x) W1 fun e W' =>
      e = .returned (.bool true) ∧ J (pre ++ [x]) W' ∧ Kp W' ∧ W1.heap.size ≤ W'.heap.size) →
    J [] W →
    Calls P gf (#[.func (.yield l) #[] #[]] ++ lb) W fun e W' => (∃ v, e = .returned v) ∧ ∃ xs, S xs ∧ J xs W'

/-- How a round ends. -/
def roundE (I : List α → World → Prop) (Kp : World → Prop) (xs : List α) (W : World) : Exit → Act → World → Prop
  | .normal, _, W' => KeepsOthers W W' ∧ I xs W' ∧ Kp W'
  | _, _, _ => False

set_option maxHeartbeats 1000000 in
theorem range_seqE {g : Operand} {ps : Array Tmp} {assign body : Code} {Q : Exit → Act → World → Prop} {a : Act} {w : World} {n : Nat} (h1 : 1 ≤ n)
    {gf : Nat} {lb : Array Value} (hg : a.eval g = .func (.func gf) #[] lb) (eg : ∀ args w, (callFunc gf args).run P w = .ok (.enter gf args) w)
    {encs : α → Array Value} {E : α → Nat → World → Prop} {Kp : World → Prop} {S : List α → Prop} {N : Nat} {w0 : World} (hseq : SeqE P gf lb encs E Kp S N w0) (hb0 : Below w0.heap.size w0 w) (hps : ∀ x, (encs x).size = ps.size)
    (hE : ∀ x B a b, Cel a b → E x B a → E x B b) (hKp : ∀ a b, Cel a b → Kp a → Kp b) (hk0 : Kp w) (I : List α → World → Prop) (hI : Steady w.heap.size I) (h0 : I [] w)
    (Ax : α → Act → World → Prop) (hAx : ∀ x a' a b, Cel a b → Ax x a' a → Ax x a' b)
    (hassign : ∀ (l : Nat) (pre : List α) (x : α) (B : Nat) (W : World) (K : Act → World → Prop), I pre W → E x B W → w.heap.size ≤ W.heap.size → (∀ a' W', Below W.heap.size W W' → Ax x a' W' → K a' W') →
      assign.wpIn (Fence.wide.inRound l) (n - 1 - 1) P (Exit.then K (fun _ _ _ => False)) { tmps := (ps.zip (encs x)).foldl (fun t (p, v) => t.setIfInBounds p v) a.tmps, defers := [] } W)
    (hbody : ∀ (l : Nat) (pre : List α) (x : α) (a' : Act) (W0 W : World), I pre W0 → pre.length < N → Cel W0 W → Below w.heap.size W0 W → E x W0.heap.size W → Ax x a' W → Kp W → body.wpIn (Fence.wide.inRound l) (n - 1 - 1) P (roundE I Kp (pre ++ [x]) W) a' W)
    (hdone : ∀ (D : Nat) (xs : List α) (W : World), w.heap.size ≤ D → S xs → I xs W → W.heap[D]? = some (.deferred (some [])) → Q .normal { a with defers := { target := .collected D, args := #[] } :: a.defers } W) :
    (Code.rangeFunc g ps assign body).wpIn Fence.wide n P Q a w := by
  refine wpIn_rangeFunc fun fn hfn => ?_
  obtain ⟨rec, hrec⟩ : ∃ rec : LoopState → Option Code → Loop, rec = fun st pe => { state := st, pending := pe, fn, tmps := a.tmps, params := ps, assign, body, defers := w.heap.size } := ⟨_, rfl⟩
  obtain ⟨W1, hW1⟩ : ∃ W1, (w.alloc (.deferred (some []))).alloc (.loop (rec .ready none)) = W1 := ⟨_, rfl⟩
  obtain ⟨L, hL⟩ : ∃ L, L = w.heap.size + 1 := ⟨_, rfl⟩
  have hs1 : W1.heap.size = L + 1 := by rw [← hW1, hL, World.size_alloc, World.size_alloc]
  have gL : W1.heap[L]? = some (.loop (rec .ready none)) := by
    have h2 := World.alloc_heap_new (w.alloc (.deferred (some []))) (.loop (rec .ready none))
    rw [World.size_alloc] at h2
    rw [← hW1, hL]; exact h2
  have gD : W1.heap[w.heap.size]? = some (.deferred (some [])) := by rw [← hW1]; exact (Below.heap_alloc _ _ _ (by simp)).trans (World.alloc_heap_new w _)
  have hB1 : Below w.heap.size w W1 := by rw [← hW1]; exact ((Below.refl _ w).alloc (Nat.le_refl _) _).alloc (by simp) _
  have hc1 : Cel w W1 := cel_of_below hB1
  refine ⟨L, [{ target := .collected w.heap.size, args := #[] }], W1, { target := .fn (.func gf) lb, args := #[.func (.yield L) #[] #[]] }, W1, gf, #[.func (.yield L) #[] #[]] ++ lb, W1, ?_, ?_, ?_, ?_, fun _ => h1, ?_⟩
  · rw [← hW1, hrec, hL]; exact run_enterLoop_outer _ _ _ _ _
  · simp only [resolve, hg]
    simp [go_sem]
  · intro f' _; trivial
  · simp [invoke, go_sem, eg]
  refine callsIn_wide.2 (Calls.mono (hseq L
    (fun pre W => I pre W ∧ W.heap[L]? = some (.loop (rec .ready none)) ∧ W.heap[w.heap.size]? = some (.deferred (some [])))
    W1 (hb0.trans (hB1.mono hb0.size)) (hKp _ _ hc1 hk0) ?stays ?round ⟨hI _ _ _ hc1 hB1 h0, gL, gD⟩) ?behind)
  case stays =>
    rintro s x y hc hxy ⟨i1, i2, i3⟩
    exact ⟨hI s x y hc (hxy.mono (by omega)) i1, (hxy.block L (by omega)).trans i2, (hxy.block _ (by omega)).trans i3⟩
  case round =>
    rintro pre x W0 W ⟨j1, j2, j3⟩ hkw hlen hc hBW he
    have hBW' := hBW.mono (show w.heap.size ≤ W1.heap.size by omega)
    have i1 := hI _ _ _ hc hBW' j1
    have i2 := (hBW.block L (by omega)).trans j2
    have i3 := (hBW.block w.heap.size (by omega)).trans j3
    have hlt : L < W.heap.size := (Array.getElem?_eq_some_iff.1 i2).1
    have hy := run_yield (P := P) (args := encs x) i2 (by rw [hrec]; exact hps x)
    rw [hrec] at hy
    refine yield_wide (m := n - 1 - 1) ⟨fn, _, assign, body, hy, roundIn_of_wpIn hfn (hassign _ pre x _ W _ i1 he (by omega) ?_)⟩
    clear hy
    intro a' Wa hba hax
    have hca := cel_of_below hba
    have hba' := hba.mono (show w.heap.size ≤ W.heap.size by omega)
    have hl := (hba.block L hlt).trans i2
    have hk := (hba.block _ (by omega)).trans i3
    have hea := hE _ _ _ _ hca he
    have hlta : L < Wa.heap.size := by have := hba.size; omega
    refine ⟨_, run_beginRound hl (by rw [hrec]), ?_⟩
    obtain ⟨W2, hW2⟩ : ∃ W2, Wa.putObj L (.loop { rec .ready none with state := .busy }) = W2 := ⟨_, rfl⟩
    have hl2 : W2.heap[L]? = some (.loop { rec .ready none with state := .busy }) := by rw [← hW2]; exact World.putObj_heap_same hlta
    have hk2 : W2.heap[w.heap.size]? = some (.deferred (some [])) := by rw [← hW2]; exact (World.putObj_heap_other (by omega)).trans hk
    have hc2 : Cel Wa W2 := by rw [← hW2]; exact cel_putObj _ hl rfl
    have hb2 : Below w.heap.size Wa W2 := by rw [← hW2]; exact below_put (o := .loop (rec .ready none)) (by omega)
    have hs2 : W2.heap.size = Wa.heap.size := by rw [← hW2, World.putObj_size]
    rw [hW2]
    refine wpIn_mono (hbody _ pre x a' W0 W2 j1 hlen ((hc.trans hca).trans hc2) ((hBW'.trans hba').trans hb2) (hE _ _ _ _ hc2 hea) (hAx _ _ _ _ hc2 hax) (hKp _ _ hc2 (hKp _ _ hca hkw))) ?_
    rintro e a3 W3 hp
    cases e with
    | normal =>
      obtain ⟨hk3, hi3, hq3⟩ := hp
      have l3 := hk3.same L _ hl2 rfl
      have d3 := hk3.same _ _ hk2 rfl
      have r3 := run_endRound (P := P) none l3
      have hput : Below w.heap.size W3 (W3.putObj L (.loop (rec .ready none))) := below_put (o := .loop (rec .ready none)) (by omega)
      have hcp : Cel W3 (W3.putObj L (.loop (rec .ready none))) := cel_putObj _ l3 rfl
      have hnew : (W3.putObj L (.loop (rec .ready none))).heap[L]? = some (.loop (rec .ready none)) := World.putObj_heap_same (Array.getElem?_eq_some_iff.1 l3).1
      have hdef : (W3.putObj L (.loop (rec .ready none))).heap[w.heap.size]? = some (.deferred (some [])) := (World.putObj_heap_other (by omega)).trans d3
      have hi4 := hI _ _ _ hcp hput hi3
      have hq4 := hKp _ _ hcp hq3
      rw [hrec] at r3 hi4 hq4 hnew hdef ⊢
      exact ⟨_, _, r3, rfl, ⟨hi4, hnew, hdef⟩, hq4, by rw [World.putObj_size]; have := hba.size; have := hk3.size; omega⟩
    | ret => exact hp.elim
    | exit id => exact hp.elim
    | goto t => exact hp.elim
    | panic ch => exact hp.elim
    | outgrown => exact hp.elim
  case behind =>
    rintro e W2 ⟨⟨v, rfl⟩, xs, hS, i1, i2, i3⟩
    have hlt : L < W2.heap.size := (Array.getElem?_eq_some_iff.1 i2).1
    have r := run_endLoop (P := P) i2 (by rw [hrec]; simp)
    rw [hrec] at r
    exact ⟨none, _, r, hdone _ xs _ (Nat.le_refl _) hS (hI _ _ _ (cel_putObj _ i2 rfl) (below_put (o := .loop (rec .ready none)) (by omega)) i1) ((World.putObj_heap_other (by omega)).trans i3)⟩
end
end Go.Proofs.YtdckoaljcklmhaaGreatDoor


namespace Go.Proofs.YtdckoaljcklmhaaGreatDoor
open Go.RowKit
set_option linter.unusedVariables false

section
variable {α : Type} {P : Program}
/-- AN ITERATOR: it goes through xs (S), or through some of them (Sp), where a round lets out; what it gives is E (from where on: how much there was when the round ahead ended); what it needs is Kp, and of what it gave last Kx. -/
def SeqR (P : Program) (gf : Nat) (lb : Array Value) (encs : α → Array Value) (E : α → Nat → World → Prop) (Kp : World → Prop) (Kx : α → World → Prop) (S Sp : List α → Prop) (w : World) : Prop :=
  ∀ (l : Nat) (J Jx : List α → World → Prop) (W : World), Below w.heap.size w W → Kp W → Steady W.heap.size J → Steady W.heap.size Jx →
    (∀ pre x W0 W1, J pre W0 → Kp W1 → Cel W0 W1 → Below W.heap.size W0 W1 → E x W0.heap.size W1 → YieldAt Fence.wide 3 P l (encs x) W1 fun e W' =>
      (e = .returned (.bool true) ∧ J (pre ++ [x]) W' ∧ Kp W' ∧ Kx x W' ∧ W1.heap.size ≤ W'.heap.size) ∨ (e = .returned (.bool false) ∧ Jx (pre ++ [x]) W')) →
    J [] W →
    Calls P gf (#[.func (.yield l) #[] #[]] ++ lb) W fun e W' => (∃ v, e = .returned v) ∧ ((∃ xs, S xs ∧ J xs W') ∨ (∃ pre, Sp pre ∧ Jx pre W'))

/-- How a round ends. -/
def roundR (I Ix : List α → World → Prop) (Kp : World → Prop) (Kx : α → World → Prop) (x : α) (xs : List α) (W : World) : Exit → Act → World → Prop
  | .normal, _, W' => KeepsOthers W W' ∧ I xs W' ∧ Kp W' ∧ Kx x W'
  | .ret, _, W' => KeepsOthers W W' ∧ Ix xs W'
  | _, _, _ => False

set_option maxHeartbeats 1000000 in
theorem range_seqR {g : Operand} {ps : Array Tmp} {assign body : Code} {Q : Exit → Act → World → Prop} {a : Act} {w : World} {n : Nat} (h1 : 1 ≤ n)
    {gf : Nat} {lb : Array Value} (hg : a.eval g = .func (.func gf) #[] lb) (eg : ∀ args w, (callFunc gf args).run P w = .ok (.enter gf args) w)
    {encs : α → Array Value} {E : α → Nat → World → Prop} {Kp : World → Prop} {Kx : α → World → Prop} {S Sp : List α → Prop} {w0 : World} (hseq : SeqR P gf lb encs E Kp Kx S Sp w0) (hb0 : Below w0.heap.size w0 w) (hps : ∀ x, (encs x).size = ps.size)
    (hE : ∀ x B a b, Cel a b → E x B a → E x B b) (hKp : ∀ a b, Cel a b → Kp a → Kp b) (hKx : ∀ x a b, Cel a b → Kx x a → Kx x b) (hk0 : Kp w) (I Ix : List α → World → Prop) (hI : Steady w.heap.size I) (hIx : Steady w.heap.size Ix) (h0 : I [] w)
    (Ax : α → Act → World → Prop) (hAx : ∀ x a' a b, Cel a b → Ax x a' a → Ax x a' b)
    (hassign : ∀ (l : Nat) (pre : List α) (x : α) (B : Nat) (W : World) (K : Act → World → Prop), I pre W → E x B W → w.heap.size ≤ W.heap.size → (∀ a' W', Below W.heap.size W W' → Ax x a' W' → K a' W') →
      assign.wpIn (Fence.wide.inRound l) (n - 1 - 1) P (Exit.then K (fun _ _ _ => False)) { tmps := (ps.zip (encs x)).foldl (fun t (p, v) => t.setIfInBounds p v) a.tmps, defers := [] } W)
    (hbody : ∀ (l : Nat) (pre : List α) (x : α) (a' : Act) (W0 W : World), I pre W0 → Cel W0 W → Below w.heap.size W0 W → E x W0.heap.size W → Ax x a' W → Kp W → body.wpIn (Fence.wide.inRound l) (n - 1 - 1) P (roundR I Ix Kp Kx x (pre ++ [x]) W) a' W)
    (hdone : ∀ (D : Nat) (xs : List α) (W : World), w.heap.size ≤ D → S xs → I xs W → W.heap[D]? = some (.deferred (some [])) → Q .normal { a with defers := { target := .collected D, args := #[] } :: a.defers } W)
    (hstop : ∀ (D : Nat) (pre : List α) (W : World), w.heap.size ≤ D → Sp pre → Ix pre W → W.heap[D]? = some (.deferred (some [])) → Code.ret.wpIn Fence.wide n P Q { a with defers := { target := .collected D, args := #[] } :: a.defers } W) :
    (Code.rangeFunc g ps assign body).wpIn Fence.wide n P Q a w := by
  refine wpIn_rangeFunc fun fn hfn => ?_
  obtain ⟨rec, hrec⟩ : ∃ rec : LoopState → Option Code → Loop, rec = fun st pe => { state := st, pending := pe, fn, tmps := a.tmps, params := ps, assign, body, defers := w.heap.size } := ⟨_, rfl⟩
  obtain ⟨W1, hW1⟩ : ∃ W1, (w.alloc (.deferred (some []))).alloc (.loop (rec .ready none)) = W1 := ⟨_, rfl⟩
  obtain ⟨L, hL⟩ : ∃ L, L = w.heap.size + 1 := ⟨_, rfl⟩
  have hs1 : W1.heap.size = L + 1 := by rw [← hW1, hL, World.size_alloc, World.size_alloc]
  have gL : W1.heap[L]? = some (.loop (rec .ready none)) := by
    have h2 := World.alloc_heap_new (w.alloc (.deferred (some []))) (.loop (rec .ready none))
    rw [World.size_alloc] at h2
    rw [← hW1, hL]; exact h2
  have gD : W1.heap[w.heap.size]? = some (.deferred (some [])) := by rw [← hW1]; exact (Below.heap_alloc _ _ _ (by simp)).trans (World.alloc_heap_new w _)
  have hB1 : Below w.heap.size w W1 := by rw [← hW1]; exact ((Below.refl _ w).alloc (Nat.le_refl _) _).alloc (by simp) _
  have hc1 : Cel w W1 := cel_of_below hB1
  refine ⟨L, [{ target := .collected w.heap.size, args := #[] }], W1, { target := .fn (.func gf) lb, args := #[.func (.yield L) #[] #[]] }, W1, gf, #[.func (.yield L) #[] #[]] ++ lb, W1, ?_, ?_, ?_, ?_, fun _ => h1, ?_⟩
  · rw [← hW1, hrec, hL]; exact run_enterLoop_outer _ _ _ _ _
  · simp only [resolve, hg]
    simp [go_sem]
  · intro f' _; trivial
  · simp [invoke, go_sem, eg]
  refine callsIn_wide.2 (Calls.mono (hseq L
    (fun pre W => I pre W ∧ W.heap[L]? = some (.loop (rec .ready none)) ∧ W.heap[w.heap.size]? = some (.deferred (some [])))
    (fun pre W => Ix pre W ∧ W.heap[L]? = some (.loop (rec .done (some .ret))) ∧ W.heap[w.heap.size]? = some (.deferred (some [])))
    W1 (hb0.trans (hB1.mono hb0.size)) (hKp _ _ hc1 hk0) ?stays ?staysx ?round ⟨hI _ _ _ hc1 hB1 h0, gL, gD⟩) ?behind)
  case stays =>
    rintro s x y hc hxy ⟨i1, i2, i3⟩
    exact ⟨hI s x y hc (hxy.mono (by omega)) i1, (hxy.block L (by omega)).trans i2, (hxy.block _ (by omega)).trans i3⟩
  case staysx =>
    rintro s x y hc hxy ⟨i1, i2, i3⟩
    exact ⟨hIx s x y hc (hxy.mono (by omega)) i1, (hxy.block L (by omega)).trans i2, (hxy.block _ (by omega)).trans i3⟩
  case round =>
    rintro pre x W0 W ⟨j1, j2, j3⟩ hkw hc hBW he
    have hBW' := hBW.mono (show w.heap.size ≤ W1.heap.size by omega)
    have i1 := hI _ _ _ hc hBW' j1
    have i2 := (hBW.block L (by omega)).trans j2
    have i3 := (hBW.block w.heap.size (by omega)).trans j3
    have hlt : L < W.heap.size := (Array.getElem?_eq_some_iff.1 i2).1
    have hy := run_yield (P := P) (args := encs x) i2 (by rw [hrec]; exact hps x)
    rw [hrec] at hy
    refine yield_wide (m := n - 1 - 1) ⟨fn, _, assign, body, hy, roundIn_of_wpIn hfn (hassign _ pre x _ W _ i1 he (by omega) ?_)⟩
    clear hy
    intro a' Wa hba hax
    have hca := cel_of_below hba
    have hba' := hba.mono (show w.heap.size ≤ W.heap.size by omega)
    have hl := (hba.block L hlt).trans i2
    have hk := (hba.block _ (by omega)).trans i3
    have hea := hE _ _ _ _ hca he
    have hlta : L < Wa.heap.size := by have := hba.size; omega
    refine ⟨_, run_beginRound hl (by rw [hrec]), ?_⟩
    obtain ⟨W2, hW2⟩ : ∃ W2, Wa.putObj L (.loop { rec .ready none with state := .busy }) = W2 := ⟨_, rfl⟩
    have hl2 : W2.heap[L]? = some (.loop { rec .ready none with state := .busy }) := by rw [← hW2]; exact World.putObj_heap_same hlta
    have hk2 : W2.heap[w.heap.size]? = some (.deferred (some [])) := by rw [← hW2]; exact (World.putObj_heap_other (by omega)).trans hk
    have hc2 : Cel Wa W2 := by rw [← hW2]; exact cel_putObj _ hl rfl
    have hb2 : Below w.heap.size Wa W2 := by rw [← hW2]; exact below_put (o := .loop (rec .ready none)) (by omega)
    have hs2 : W2.heap.size = Wa.heap.size := by rw [← hW2, World.putObj_size]
    rw [hW2]
    refine wpIn_mono (hbody _ pre x a' W0 W2 j1 ((hc.trans hca).trans hc2) ((hBW'.trans hba').trans hb2) (hE _ _ _ _ hc2 hea) (hAx _ _ _ _ hc2 hax) (hKp _ _ hc2 (hKp _ _ hca hkw))) ?_
    rintro e a3 W3 hp
    cases e with
    | normal =>
      obtain ⟨hk3, hi3, hq3, hx3⟩ := hp
      have l3 := hk3.same L _ hl2 rfl
      have d3 := hk3.same _ _ hk2 rfl
      have r3 := run_endRound (P := P) none l3
      have hput : Below w.heap.size W3 (W3.putObj L (.loop (rec .ready none))) := below_put (o := .loop (rec .ready none)) (by omega)
      have hcp : Cel W3 (W3.putObj L (.loop (rec .ready none))) := cel_putObj _ l3 rfl
      have hnew : (W3.putObj L (.loop (rec .ready none))).heap[L]? = some (.loop (rec .ready none)) := World.putObj_heap_same (Array.getElem?_eq_some_iff.1 l3).1
      have hdef : (W3.putObj L (.loop (rec .ready none))).heap[w.heap.size]? = some (.deferred (some [])) := (World.putObj_heap_other (by omega)).trans d3
      have hi4 := hI _ _ _ hcp hput hi3
      have hq4 := hKp _ _ hcp hq3
      have hx4 := hKx _ _ _ hcp hx3
      rw [hrec] at r3 hi4 hq4 hx4 hnew hdef ⊢
      exact ⟨_, _, r3, .inl ⟨rfl, ⟨hi4, hnew, hdef⟩, hq4, hx4, by rw [World.putObj_size]; have := hba.size; have := hk3.size; omega⟩⟩
    | ret =>
      obtain ⟨hk3, hi3⟩ := hp
      have l3 := hk3.same L _ hl2 rfl
      have d3 := hk3.same _ _ hk2 rfl
      have r3 := run_endRound (P := P) (some .ret) l3
      have hput : Below w.heap.size W3 (W3.putObj L (.loop (rec .done (some .ret)))) := below_put (o := .loop (rec .ready none)) (by omega)
      have hcp : Cel W3 (W3.putObj L (.loop (rec .done (some .ret)))) := cel_putObj _ l3 rfl
      have hnew : (W3.putObj L (.loop (rec .done (some .ret)))).heap[L]? = some (.loop (rec .done (some .ret))) := World.putObj_heap_same (Array.getElem?_eq_some_iff.1 l3).1
      have hdef : (W3.putObj L (.loop (rec .done (some .ret)))).heap[w.heap.size]? = some (.deferred (some [])) := (World.putObj_heap_other (by omega)).trans d3
      have hi4 := hIx _ _ _ hcp hput hi3
      rw [hrec] at r3 hi4 hnew hdef ⊢
      exact ⟨_, _, r3, .inr ⟨rfl, hi4, hnew, hdef⟩⟩
    | exit id => exact hp.elim
    | goto t => exact hp.elim
    | panic ch => exact hp.elim
    | outgrown => exact hp.elim
  case behind =>
    rintro e W2 ⟨⟨v, rfl⟩, (⟨xs, hS, i1, i2, i3⟩ | ⟨pre, hSp, i1, i2, i3⟩)⟩
    · have hlt : L < W2.heap.size := (Array.getElem?_eq_some_iff.1 i2).1
      have r := run_endLoop (P := P) i2 (by rw [hrec]; simp)
      rw [hrec] at r
      exact ⟨none, _, r, hdone _ xs _ (Nat.le_refl _) hS (hI _ _ _ (cel_putObj _ i2 rfl) (below_put (o := .loop (rec .ready none)) (by omega)) i1) ((World.putObj_heap_other (by omega)).trans i3)⟩
    · have hlt : L < W2.heap.size := (Array.getElem?_eq_some_iff.1 i2).1
      have r := run_endLoop (P := P) i2 (by rw [hrec]; simp)
      rw [hrec] at r
      exact ⟨some .ret, _, r, hstop _ pre _ (Nat.le_refl _) hSp (hIx _ _ _ (cel_putObj _ i2 rfl) (below_put (o := .loop (rec .ready none)) (by omega)) i1) ((World.putObj_heap_other (by omega)).trans i3)⟩
end
end Go.Proofs.YtdckoaljcklmhaaGreatDoor

