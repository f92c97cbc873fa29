/-
  Cells that lie as they lay (whatever else has turned): what a range over a function leaves to its rounds.
-/
import Derived.RangeFuncNested
import Derived.Test.YtjjaajmjcdihoaaGrO
namespace Go.Proofs.Ytjjaajmjcdihoaa
open Go.RowKit
set_option linter.unusedVariables false

structure Cel (w w' : World) : Prop where
  size : w.heap.size ≤ w'.heap.size
  same : ∀ (b : Nat) (o : Obj), w.heap[b]? = some o → o.isCells = true → w'.heap[b]? = some o
theorem Cel.refl (w : World) : Cel w w := ⟨Nat.le_refl _, fun _ _ h _ => h⟩
theorem Cel.trans {a b c : World} (h : Cel a b) (k : Cel b c) : Cel a c := ⟨Nat.le_trans h.size k.size, fun i o hi ho => k.same i o (h.same i o hi ho) ho⟩
theorem Cel.of_grownBy {w w' : World} {row : Option Nat} (hg : w.grownBy w' row) (hr : ∀ r, row = some r → ∃ o : Obj, w.heap[r]? = some o ∧ o.isCells = false) : Cel w w' :=
  ⟨hg.size, fun b o hb ho => (hg.block b (Array.getElem?_eq_some_iff.1 hb).1 (fun e => by
    obtain ⟨o', ho', hc⟩ := hr b e.symm
    rw [ho'] at hb; cases hb; rw [hc] at ho; cases ho)).trans hb⟩
theorem Cel.cell {w w' : World} (h : Cel w w') {p : Addr} {v : Value} (hc : w.cell? p = some v) : w'.cell? p = some v := by
  rw [← hc]
  cases hb : w.heap[p.block]? with
  | none => simp [World.cell?, hb] at hc
  | some o =>
    by_cases ho : o.isCells = true
    · exact World.cell?_of_block ((h.same _ _ hb ho).trans hb.symm)
    · exfalso
      cases o <;> first | (simp [Obj.isCells] at ho; done) | (simp [World.cell?, hb] at hc)
theorem Cel.frozen {w w' : World} (h : Cel w w') {p : Addr} {v : Value} (hc : w.cell? p = some v) : w'.frozen? p = w.frozen? p := by
  cases hb : w.heap[p.block]? with
  | none => simp [World.cell?, hb] at hc
  | some o =>
    by_cases ho : o.isCells = true
    · have := (h.same _ _ hb ho)
      simp [World.frozen?, hb, this]
    · exfalso
      cases o <;> first | (simp [Obj.isCells] at ho; done) | (simp [World.cell?, hb] at hc)
theorem cel_drew (w : World) : Cel w w.drew := ⟨Nat.le_refl _, fun _ _ h _ => h⟩
theorem cel_alloc (w : World) (o : Obj) : Cel w (w.alloc o) := Cel.of_grownBy (World.grownBy_alloc w o none) (fun r e => by cases e)

theorem Rd.cel {w w' : World} {A : Option Addr} {n : Nat} {xs : List Value} (h : Rd w A n xs) (hc : Cel w w') : Rd w' A n xs := by
  refine ⟨h.1, fun hn => ?_⟩
  obtain ⟨b, o, hA, hj⟩ := h.2 hn
  refine ⟨b, o, hA, fun j hlt => ?_⟩
  have h1 := hj j hlt
  rw [List.getElem?_eq_getElem (by have := h.1; omega)] at h1 ⊢
  exact hc.cell h1
theorem Ls.Ok.cel {w w' : World} {u : Ls} (h : u.Ok w) (hc : Cel w w') : u.Ok w' := ⟨h.rd.cel hc, h.cap, h.top, h.fit⟩
theorem Lss.cel {w w' : World} {A : Option Addr} {n : Nat} {t : List Ls} (h : Lss w A n t) (hc : Cel w w') : Lss w' A n t := by
  refine ⟨⟨h.at_.1, fun hn => ?_⟩, fun u hu => (h.ok u hu).cel hc⟩
  obtain ⟨b, o, hA, hj⟩ := h.at_.2 hn
  refine ⟨b, o, hA, fun j r hr i hi => ?_⟩
  have h1 := hj j r hr i hi
  rw [List.getElem?_map] at hr
  obtain ⟨u, hu, rfl⟩ := Option.map_eq_some_iff.1 hr
  rw [List.getElem?_eq_getElem (by simpa using hi)] at h1 ⊢
  exact hc.cell h1
theorem Gr.Ok.cel {w w' : World} {x : Gr} (h : x.Ok w) (hc : Cel w w') : x.Ok w' := ⟨h.lss.cel hc, h.cap, h.top⟩
theorem Own.cel {w w' : World} {B : Nat} {e : TypeId} {A : Option Addr} {n c : Nat} {xs : List Value} (h : Own w B e A n c xs) (hc : Cel w w') : Own w' B e A n c xs := by
  refine ⟨h.1, ?_⟩
  rcases h.2 with h0 | ⟨g, cur, hA, hg, hh, r⟩
  · exact .inl h0
  · exact .inr ⟨g, cur, hA, hg, hc.same _ _ hh rfl, r⟩
theorem OwnI.cel {w w' : World} {B : Nat} {u : Ls} (h : OwnI w B u) (hc : Cel w w') : OwnI w' B u := ⟨h.own.cel hc, h.fit⟩
theorem Outs.cel {w w' : World} {B : Nat} {A : Option Addr} {n c : Nat} {t : List Ls} (h : Outs w B A n c t) (hc : Cel w w') : Outs w' B A n c t := ⟨h.own.cel hc, fun u hu => (h.each u hu).cel hc, h.apt⟩
theorem boxed_cel {w w' : World} {B : Nat} {t : TypeId} {v : Value} (h : Boxed w B t v) (hc : Cel w w') : Boxed w' B t v := hc.same _ _ h rfl
/-- What speaks of cells alone is the caller's own. -/
theorem own_cel {β : Type} {I : β → World → Prop} (h : ∀ s w w', Cel w w' → I s w → I s w') : Go.Own I := fun s A B row hs hg hr => h s A B (Cel.of_grownBy hg hr) hs
theorem ownFrom_cel {β : Type} {I : β → World → Prop} (B : Nat) (h : ∀ s w w', Cel w w' → I s w → I s w') : OwnFrom B I := Go.Own.from (Go.Proofs.Ytjjaajmjcdihoaa.own_cel h) B
theorem cel_putObj {w : World} {l : Nat} {o : Obj} (o' : Obj) (hl : w.heap[l]? = some o) (ho : o.isCells = false) : Cel w (w.putObj l o') :=
  Cel.of_grownBy (grownBy_putObj' w l o') (fun r e => by cases e; exact ⟨o, hl, ho⟩)
/-- The iterator's word: what it goes through is still there. -/
theorem keepsK_b {p : World → Prop} (hp : ∀ a b, Cel a b → p a → p b) (w : World) (W : World) (l : Nat) (o o' : Obj) (_ : w.heap.size ≤ l) (h : W.heap[l]? = some o) (ho : o.isCells = false) (_ : o.isWalk = false) : (p W → p (W.putObj l o')) := hp _ _ (cel_putObj o' h ho)

theorem boxed_keep {w w' : World} {B : Nat} {t : TypeId} {v : Value} (h : Boxed w B t v) (hk : w'.heap[B]? = w.heap[B]?) : Boxed w' B t v := hk.trans h
theorem boxed_below {w w' : World} {B : Nat} {t : TypeId} {v : Value} (h : Boxed w B t v) (hb : Below w.heap.size w w') : Boxed w' B t v := (hb.block B h.lt).trans h
theorem postM_ret {F : Fence} {n : Nat} {P : Program} {fn : Func} {R : Ending → World → Prop} {a : Act} {w : World} {v : Value} (hr : (results fn a.tmps).run P w = .ok v w) (hd : a.defers = []) (h : R (.returned v) w) : bodyPostM F n P fn R .ret a w := by
  show LeavesInM F n P fn a.tmps R a.defers .returning w
  rw [hd]
  exact ⟨v, hr, h⟩
theorem postM_mark {F : Fence} {n : Nat} {P : Program} {fn : Func} {R : Ending → World → Prop} {a : Act} {w : World} {v : Value} {D : Nat} (hK : w.heap[D]? = some (.deferred (some []))) (hr : (results fn a.tmps).run P (w.putObj D (.deferred none)) = .ok v (w.putObj D (.deferred none))) (hd : a.defers = [{ target := .collected D, args := #[] }]) (h : R (.returned v) (w.putObj D (.deferred none))) : bodyPostM F n P fn R .ret a w := by
  show LeavesInM F n P fn a.tmps R a.defers .returning w
  rw [hd]
  exact ⟨by simp, .inl ⟨_, _, rfl, run_takeDeferred hK, ⟨v, hr, h⟩⟩⟩

/-- A set of things 0 to 7: an array by thing. t: its type. -/
def SetAt (w : World) (b : Nat) (t : TypeId) (f : Nat → Bool) : Prop := ∃ cur : Array Value, w.heap[b]? = some (.cells cur t (0, 0)) ∧ cur.size = 8 ∧ ∀ k, k < 8 → cur[k]? = some (.bool (f k))
theorem SetAt.lt {w : World} {b : Nat} {t : TypeId} {f : Nat → Bool} (h : SetAt w b t f) : b < w.heap.size := by obtain ⟨_, h1, _⟩ := h; exact (Array.getElem?_eq_some_iff.1 h1).1
theorem SetAt.new (w : World) (t : TypeId) : SetAt (w.alloc (.cells #[.bool false, .bool false, .bool false, .bool false, .bool false, .bool false, .bool false, .bool false] t)) w.heap.size t fun _ => false := by
  refine ⟨_, World.alloc_heap_new w _, rfl, fun k hk => ?_⟩
  match k, hk with
  | 0, _ => rfl
  | 1, _ => rfl
  | 2, _ => rfl
  | 3, _ => rfl
  | 4, _ => rfl
  | 5, _ => rfl
  | 6, _ => rfl
  | 7, _ => rfl
  | k + 8, h => omega
theorem SetAt.cell {w : World} {b : Nat} {t : TypeId} {f : Nat → Bool} (h : SetAt w b t f) {k : Nat} (hk : k < 8) : w.cell? ⟨b, k, none⟩ = some (.bool (f k)) := by
  obtain ⟨cur, h1, h2, h3⟩ := h
  simp [World.cell?, h1, h3 k hk]
theorem SetAt.frozen {w : World} {b : Nat} {t : TypeId} {f : Nat → Bool} (h : SetAt w b t f) (k : Nat) : w.frozen? ⟨b, k, none⟩ = false := by
  obtain ⟨cur, h1, h2, h3⟩ := h
  simp [World.frozen?, h1]
theorem SetAt.cel {w w' : World} {b : Nat} {t : TypeId} {f : Nat → Bool} (h : SetAt w b t f) (hc : Cel w w') : SetAt w' b t f := by
  obtain ⟨cur, h1, h2⟩ := h
  exact ⟨cur, hc.same _ _ h1 rfl, h2⟩
theorem SetAt.keep {w w' : World} {b : Nat} {t : TypeId} {f : Nat → Bool} (h : SetAt w b t f) (hk : w'.heap[b]? = w.heap[b]?) : SetAt w' b t f := by
  obtain ⟨cur, h1, h2⟩ := h
  exact ⟨cur, hk.trans h1, h2⟩
theorem SetAt.below {w w' : World} {b : Nat} {t : TypeId} {f : Nat → Bool} (h : SetAt w b t f) (hb : Below w.heap.size w w') : SetAt w' b t f := h.keep (hb.block b h.lt)
theorem SetAt.set {w : World} {b : Nat} {t : TypeId} {f f' : Nat → Bool} (h : SetAt w b t f) {k : Nat} {v : Bool} (hk : k < 8) (hf : ∀ j, j < 8 → f' j = if j = k then v else f j) : SetAt (w.setCell ⟨b, k, none⟩ (.bool v)) b t f' := by
  obtain ⟨cur, h1, h2, h3⟩ := h
  refine ⟨cur.setIfInBounds k (.bool v), heap_setCell_same w b k cur t _ h1, by rw [Array.size_setIfInBounds]; exact h2, fun j hj => ?_⟩
  rw [Array.getElem?_setIfInBounds]
  by_cases he : k = j
  · subst he
    rw [if_pos rfl, if_pos (by omega), hf k hk, if_pos rfl]
  · rw [if_neg he, h3 j hj, hf j hj, if_neg (fun e => he e.symm)]
end Go.Proofs.Ytjjaajmjcdihoaa
