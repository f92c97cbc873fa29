/-
  Lists of lists, and markets, that a call has made itself; what the functions of a market's package answer.
-/
import Derived.Test.YtdckoaljcklmhaaGreatDoorTwinM
namespace Go.Proofs.YtdckoaljcklmhaaGreatDoor
open Go.RowKit
set_option linter.unusedVariables false

/-- What is appended to a list of another type leaves this as it was. -/
theorem Own.other {w w' : World} {B B' : Nat} {e e' : TypeId} {A A2 : Option Addr} {n c n2 c2 : Nat} {xs ys : List Value} (h : Own w B e A n c xs) (ho : Own w B' e' A2 n2 c2 ys) (hne : e' ≠ e) (hf : ∀ k, k < w.heap.size → ((n2 = 0 ∧ c2 = 0) ∨ A2 ≠ some ⟨k, 0, none⟩) → w'.heap[k]? = w.heap[k]?) : Own w' B e A n c xs := by
  obtain ⟨h1, h2⟩ := h
  rcases h2 with h0 | ⟨g, cur, hA, hg, hh, r⟩
  · exact ⟨h1, .inl h0⟩
  · exact ⟨h1, .inr ⟨g, cur, hA, hg, by rw [hf g (Array.getElem?_eq_some_iff.1 hh).1 (own_apart ho hh hne)]; exact hh, r⟩⟩
/-- A list of ints of the call's own. -/
structure OwnI (w : World) (B : Nat) (u : Ls) : Prop where
  own : Own w B 3 u.A u.n u.c (ci64 u.zs)
  fit : ∀ z ∈ u.zs, -9223372036854775808 ≤ z ∧ z ≤ 9223372036854775807
theorem OwnI.below {w w' : World} {B : Nat} {u : Ls} (h : OwnI w B u) (hb : Below w.heap.size w w') : OwnI w' B u := ⟨h.own.below hb, h.fit⟩
theorem OwnI.mono {w : World} {B B' : Nat} {u : Ls} (h : OwnI w B u) (hB : B' ≤ B) : OwnI w B' u := ⟨h.own.mono hB, h.fit⟩
theorem OwnI.ok {w : World} {B : Nat} {u : Ls} (h : OwnI w B u) : u.Ok w := ⟨h.own.rd, h.own.le, h.own.cap, h.fit⟩
theorem OwnI.blk {w : World} {B : Nat} {u : Ls} (h : OwnI w B u) {g : Nat} (hg : Blk u g) : B ≤ g ∧ g < w.heap.size := h.own.blk hg.1 hg.2
theorem OwnI.len {w : World} {B : Nat} {u : Ls} (h : OwnI w B u) : u.zs.length = u.n := h.ok.len
/-- What is appended to a list of lists leaves these as they were. -/
theorem OwnI.app {w w' : World} {B B' : Nat} {u : Ls} {A : Option Addr} {n c : Nat} {xs : List Value} (h : OwnI w B u) (ho : Own w B' 22 A n c xs) (hf : ∀ k, k < w.heap.size → ((n = 0 ∧ c = 0) ∨ A ≠ some ⟨k, 0, none⟩) → w'.heap[k]? = w.heap[k]?) : OwnI w' B u := by
  refine ⟨?_, h.fit⟩
  obtain ⟨h1, h2⟩ := h.own
  rcases h2 with h0 | ⟨g, cur, hA, hg, hh, r⟩
  · exact ⟨h1, .inl h0⟩
  · exact ⟨h1, .inr ⟨g, cur, hA, hg, by rw [hf g (Array.getElem?_eq_some_iff.1 hh).1 (own_apart ho hh (by decide))]; exact hh, r⟩⟩
def Ls.nil : Ls := ⟨none, 0, 0, []⟩
theorem OwnI.nil (w : World) (B : Nat) : OwnI w B Ls.nil := ⟨Own.none_ _ _ _ _, by simp [Ls.nil]⟩

/-- A list of lists of the call's own. -/
structure Outs (w : World) (B : Nat) (A : Option Addr) (n c : Nat) (t : List Ls) : Prop where
  own : Own w B 22 A n c (t.map Ls.v)
  each : ∀ u ∈ t, OwnI w B u
  apt : AptL t
theorem Outs.len {w : World} {B : Nat} {A : Option Addr} {n c : Nat} {t : List Ls} (h : Outs w B A n c t) : t.length = n := by have := h.own.len; rwa [List.length_map] at this
theorem Outs.below {w w' : World} {B : Nat} {A : Option Addr} {n c : Nat} {t : List Ls} (h : Outs w B A n c t) (hb : Below w.heap.size w w') : Outs w' B A n c t := ⟨h.own.below hb, fun u hu => (h.each u hu).below hb, h.apt⟩
theorem Outs.mono {w : World} {B B' : Nat} {A : Option Addr} {n c : Nat} {t : List Ls} (h : Outs w B A n c t) (hB : B' ≤ B) : Outs w B' A n c t := ⟨h.own.mono hB, fun u hu => (h.each u hu).mono hB, h.apt⟩
theorem Outs.none_ (w : World) (B : Nat) : Outs w B none 0 0 [] := ⟨Own.none_ _ _ _ _, by simp, List.Pairwise.nil⟩
theorem outs_at {w : World} {B : Nat} {A : Option Addr} {n c : Nat} {t : List Ls} (own : Own w B 22 A n c (t.map Ls.v)) : RdR w 1 A n (t.map fun u => [u.v]) := by
  have hl := own.len
  rw [List.length_map] at hl
  refine ⟨by rw [List.length_map]; exact hl, fun hn => ?_⟩
  have hc := own.le
  obtain ⟨g, hA, hB, hg⟩ := own.lt (by omega)
  refine ⟨g, 0, hA, fun j r hj i hi => ?_⟩
  obtain rfl : i = 0 := by omega
  rw [List.getElem?_map] at hj
  obtain ⟨u, hu, rfl⟩ := Option.map_eq_some_iff.1 hj
  have hjl := (List.getElem?_eq_some_iff.1 hu).1
  rw [hA] at own
  have h3 := own.cell (j := j) (by omega)
  rw [List.getElem?_map, hu] at h3
  rw [Nat.mul_one, Nat.zero_add, Nat.add_zero, h3]
  rfl
theorem Outs.lss {w : World} {B : Nat} {A : Option Addr} {n c : Nat} {t : List Ls} (h : Outs w B A n c t) : Lss w A n t := ⟨outs_at h.own, fun u hu => (h.each u hu).ok⟩
/-- One more. -/
theorem Outs.snoc {w w' : World} {B : Nat} {A A' : Option Addr} {n c c' s : Nat} {t : List Ls} {u : Ls} (h : Outs w B A n c t) (hu : OwnI w s u) (hs : B ≤ s) (hsep : ∀ x ∈ t, ∀ g, Blk x g → g < s)
    (ho : Own w' B 22 A' (n + 1) c' (t.map Ls.v ++ [u.v])) (hf : ∀ k, k < w.heap.size → ((n = 0 ∧ c = 0) ∨ A ≠ some ⟨k, 0, none⟩) → w'.heap[k]? = w.heap[k]?) : Outs w' B A' (n + 1) c' (t ++ [u]) := by
  refine ⟨by rw [List.map_append]; exact ho, fun x hx => ?_, aptL_snoc h.apt hsep fun g hg => (hu.blk hg).1⟩
  rcases List.mem_append.1 hx with hx | hx
  · exact (h.each x hx).app h.own hf
  · rw [List.mem_singleton.1 hx]
    exact (hu.mono hs).app h.own hf

theorem OwnI.keepB {w w' : World} {B : Nat} {u : Ls} (h : OwnI w B u) (hk : ∀ g, B ≤ g → w'.heap[g]? = w.heap[g]?) : OwnI w' B u := ⟨h.own.keep fun g _ _ hg _ => hk g hg, h.fit⟩
theorem Outs.keepB {w w' : World} {B : Nat} {A : Option Addr} {n c : Nat} {t : List Ls} (h : Outs w B A n c t) (hk : ∀ g, B ≤ g → w'.heap[g]? = w.heap[g]?) : Outs w' B A n c t :=
  ⟨h.own.keep fun g _ _ hg _ => hk g hg, fun u hu => (h.each u hu).keepB hk, h.apt⟩

/-- A store into memory of another type. -/
theorem Own.setO {w : World} {B B' : Nat} {e e' : TypeId} {A : Option Addr} {g n c n2 c2 : Nat} {xs ys : List Value} (h : Own w B e A n c xs) (ho : Own w B' e' (some ⟨g, 0, none⟩) n2 c2 ys) (hc : 0 < c2) (hne : e' ≠ e) (j : Nat) (v : Value) : Own (w.setCell ⟨g, j, none⟩ v) B e A n c xs := by
  obtain ⟨h1, h2⟩ := h
  rcases h2 with h0 | ⟨g', cur, hA, hg, hh, r⟩
  · exact ⟨h1, .inl h0⟩
  · refine ⟨h1, .inr ⟨g', cur, hA, hg, ?_, r⟩⟩
    rw [Below.heap_setCell _ _ _ _ ?_]
    · exact hh
    · intro he
      have he : g' = g := he
      subst he
      rcases own_apart ho hh hne with h0 | h0
      · omega
      · exact h0 rfl
theorem OwnI.setO {w : World} {B B' : Nat} {e' : TypeId} {u : Ls} {g n2 c2 : Nat} {ys : List Value} (h : OwnI w B u) (ho : Own w B' e' (some ⟨g, 0, none⟩) n2 c2 ys) (hc : 0 < c2) (hne : e' ≠ 3) (j : Nat) (v : Value) : OwnI (w.setCell ⟨g, j, none⟩ v) B u := ⟨h.own.setO ho hc hne j v, h.fit⟩
theorem Outs.setO {w : World} {B B' : Nat} {e' : TypeId} {A : Option Addr} {g n c n2 c2 : Nat} {t : List Ls} {ys : List Value} (h : Outs w B A n c t) (ho : Own w B' e' (some ⟨g, 0, none⟩) n2 c2 ys) (hc : 0 < c2) (hne : e' ≠ 3) (hne2 : e' ≠ 22) (j : Nat) (v : Value) : Outs (w.setCell ⟨g, j, none⟩ v) B A n c t :=
  ⟨h.own.setO ho hc hne2 j v, fun u hu => (h.each u hu).setO ho hc hne j v, h.apt⟩

/-- A market of the call's own. -/
structure MkOwn (w : World) (B : Nat) (y : Mk) : Prop where
  r : OwnI w B y.r
  o : OwnI w B y.o
  b : Own w B 22 y.A y.n y.c (y.b.map Ls.v)
  bs : ∀ u ∈ y.b, OwnI w B u
  apt : AptL (y.r :: (y.b ++ [y.o]))
theorem MkOwn.below {w w' : World} {B : Nat} {y : Mk} (h : MkOwn w B y) (hb : Below w.heap.size w w') : MkOwn w' B y := ⟨h.r.below hb, h.o.below hb, h.b.below hb, fun u hu => (h.bs u hu).below hb, h.apt⟩
theorem MkOwn.mono {w : World} {B B' : Nat} {y : Mk} (h : MkOwn w B y) (hB : B' ≤ B) : MkOwn w B' y := ⟨h.r.mono hB, h.o.mono hB, h.b.mono hB, fun u hu => (h.bs u hu).mono hB, h.apt⟩
theorem MkOwn.ok {w : World} {B : Nat} {y : Mk} (h : MkOwn w B y) : y.Ok w := by
  refine ⟨h.r.ok, h.o.ok, outs_at h.b, fun u hu => (h.bs u hu).ok, h.b.le, h.b.cap, fun hn => ?_⟩
  obtain ⟨g, hA, _, hg⟩ := h.b.lt (by have := h.b.le; omega)
  exact ⟨g, 0, hA, hg⟩
def Mk.nil : Mk := ⟨Ls.nil, none, 0, 0, [], Ls.nil⟩
theorem MkOwn.nil (w : World) (B : Nat) : MkOwn w B Mk.nil := by
  refine ⟨OwnI.nil w B, OwnI.nil w B, Own.none_ _ _ _ _, by simp [Mk.nil], ?_⟩
  refine List.pairwise_cons.2 ⟨fun b hb g hg => ?_, List.pairwise_singleton _ _⟩
  exact absurd hg.1 (by simp [Mk.nil, Ls.nil])

/-- The three cells of a market that lies in a box. -/
structure InBox (w : World) (g : Nat) (x : Mk) : Prop where
  c0 : w.cell? ⟨g, 0, none⟩ = some (.slice x.r.A x.r.n x.r.c)
  c1 : w.cell? ⟨g, 1, none⟩ = some (.slice x.A x.n x.c)
  c2 : w.cell? ⟨g, 2, none⟩ = some (.slice x.o.A x.o.n x.o.c)
  lt : g < w.heap.size
theorem InBox.below {w w' : World} {g : Nat} {x : Mk} (h : InBox w g x) (hb : Below w.heap.size w w') : InBox w' g x :=
  ⟨(hb.cell (p := ⟨g, 0, none⟩) h.lt).trans h.c0, (hb.cell (p := ⟨g, 1, none⟩) h.lt).trans h.c1, (hb.cell (p := ⟨g, 2, none⟩) h.lt).trans h.c2, Nat.lt_of_lt_of_le h.lt hb.size⟩
theorem InBox.new (w : World) (x : Mk) : InBox (w.alloc (.cells #[.slice x.r.A x.r.n x.r.c, .slice x.A x.n x.c, .slice x.o.A x.o.n x.o.c] 25)) w.heap.size x := by
  have h := heap_alloc_new w (.cells #[.slice x.r.A x.r.n x.r.c, .slice x.A x.n x.c, .slice x.o.A x.o.n x.o.c] 25)
  exact ⟨by rw [cell_of_row _ _ 0 _ _ _ h]; rfl, by rw [cell_of_row _ _ 1 _ _ _ h]; rfl, by rw [cell_of_row _ _ 2 _ _ _ h]; rfl, by simp⟩

theorem InBox.keepK {w w' : World} {g kb : Nat} {x : Mk} (h : InBox w g x) (hb : Below kb w w') (hg : g < kb) : InBox w' g x :=
  ⟨(World.cell?_of_block (hb.block g hg)).trans h.c0, (World.cell?_of_block (hb.block g hg)).trans h.c1, (World.cell?_of_block (hb.block g hg)).trans h.c2, Nat.lt_of_lt_of_le h.lt hb.size⟩

/-- May it be? -/
def Mk.may (x : Mk) : Bool := mayM x.r.zs (Ls.all x.b) x.o.zs
theorem mk_len {x : Mk} {w : World} (h : x.Ok w) (hm : x.may = true) : x.r.n ≤ 8 ∧ 1 ≤ x.r.n ∧ 1 ≤ x.n ∧ x.n ≤ 8 ∧ x.o.n = x.n ∧ (∀ u ∈ x.b, u.n = 0 ∨ u.n = x.r.n) ∧ (∀ z ∈ x.r.zs, 0 ≤ z ∧ z ≤ 1000000) ∧ ∀ u ∈ x.b, ∀ z ∈ u.zs, 0 ≤ z ∧ z ≤ 1000000 := by
  obtain ⟨h1, ⟨h2, h3, h4⟩, h5, h6⟩ := (mayM_iff _ _ _).1 hm
  have hb := h.bids_len
  have hr := h.r.len
  have ho := h.o.len
  have h2' : 1 ≤ x.n := by rw [← hb]; exact h2
  have h3' : x.n ≤ 8 := by rw [← hb]; exact h3
  obtain ⟨m1, m2, m3, m4⟩ := (mayB_iff _ _).1 h1
  refine ⟨by omega, by omega, h2', h3', by rw [← ho, ← hb]; exact h4, fun u hu => ?_, m4, fun u hu z hz => ?_⟩
  · have hl := (h.bs u hu).len
    rcases bidB_len (h5 u.zs (List.mem_map_of_mem hu)) with h7 | h7
    · left; rw [← hl, h7]; rfl
    · right; omega
  · have h7 := h5 u.zs (List.mem_map_of_mem hu)
    simp only [bidB, Bool.or_eq_true, decide_eq_true_eq] at h7
    rcases h7 with h7 | h7
    · rw [h7] at hz; simp at hz
    · exact ((mayB_iff _ _).1 h7).2.2.2 z hz

def Mk.err (x : Mk) : Int := if x.may = true then 0 else 1
def Mk.gains (x : Mk) : List (List Int) := if x.may = true then Go.Proofs.YtdckoaljcklmhaaGreatDoor.gains x.r.zs (Ls.all x.b) else []
def Mk.bytes (x : Mk) : List UInt8 := if x.may = true then putM x.r.zs (Ls.all x.b) x.o.zs else []
def Mk.parts (x : Mk) : List Int × List (List Int) × List Int := (x.r.zs, Ls.all x.b, x.o.zs)
def Mk.has (x : Mk) (i : Int) : Bool := x.may && decide (0 ≤ i ∧ i < x.n)
def Mk.less (x : Mk) (i : Int) : List Int × List (List Int) × List Int := if x.has i = true then (x.r.zs, Go.Proofs.YtdckoaljcklmhaaGreatDoor.less (Ls.all x.b) i.toNat, x.o.zs) else ([], [], [])
/-- What Check answers. -/
def CheckC (f : Nat) : Prop := ∀ (x : Mk) (w : World), x.Ok w → Calls Tryz.prog f #[x.v] w fun e w' => e = .returned (.bool x.may) ∧ Below w.heap.size w w'
end Go.Proofs.YtdckoaljcklmhaaGreatDoor

