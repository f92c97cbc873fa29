/-
  What the functions of a graphs package answer (contracts); a Graph in its box.
-/
import Derived.Test.YtdckoaljcklmhaaGreatDoorMarkO
import Derived.Test.YtdckoaljcklmhaaGreatDoorGrD
namespace Go.Proofs.YtdckoaljcklmhaaGreatDoor
open Go.RowKit
set_option linter.unusedVariables false

def nearErr (g : List (List Int)) (items : Int) (s : List Int) : Int := if nearOk g items s = true then 0 else 1
def nearE (g : List (List Int)) (items : Int) (s : List Int) : List Int := if nearOk g items s = true then nearG g items.toNat s else []
/-- Lists that lie in memory. -/
structure Gr where
  A : Option Addr
  n : Nat
  c : Nat
  t : List Ls
def Gr.v (x : Gr) : Value := .slice x.A x.n x.c
def Gr.g (x : Gr) : List (List Int) := Ls.all x.t
structure Gr.Ok (w : World) (x : Gr) : Prop where
  lss : Lss w x.A x.n x.t
  cap : x.n ≤ x.c
  top : x.c ≤ maxLen
theorem Lss.below {w w' : World} {A : Option Addr} {n : Nat} {l : List Ls} (h : Lss w A n l) (hb : Below w.heap.size w w') : Lss w' A n l := by
  refine ⟨?_, fun u hu => (h.ok u hu).below hb⟩
  by_cases hn : 0 < n
  · obtain ⟨p, q, u, hA, _, hp, _⟩ := h.get hn
    exact h.at_.keep fun b o e => by rw [hA] at e; cases e; exact hb.block p hp
  · exact ⟨h.at_.1, fun h0 => absurd h0 hn⟩
theorem Gr.Ok.below {w w' : World} {x : Gr} (h : x.Ok w) (hb : Below w.heap.size w w') : x.Ok w' := ⟨h.lss.below hb, h.cap, h.top⟩
theorem Gr.Ok.len {w : World} {x : Gr} (h : x.Ok w) : x.t.length = x.n := h.lss.len
theorem Gr.Ok.glen {w : World} {x : Gr} (h : x.Ok w) : x.g.length = x.n := by rw [Gr.g, Ls.all, List.length_map]; exact h.len
/-- The i-th of them, where it lies. -/
theorem Gr.Ok.get {w : World} {x : Gr} (h : x.Ok w) {j : Nat} (hj : j < x.n) :
    ∃ (p q : Nat) (u : Ls), x.A = some ⟨p, q, none⟩ ∧ x.t[j]? = some u ∧ x.g.getD j [] = u.zs ∧ p < w.heap.size ∧ w.cell? ⟨p, q + j, none⟩ = some u.v ∧ u.Ok w := by
  obtain ⟨p, q, u, hA, hu, hp, hc, hk⟩ := h.lss.get hj
  refine ⟨p, q, u, hA, hu, ?_, hp, hc, hk⟩
  rw [List.getD_eq_getElem?_getD, Gr.g, Ls.all, List.getElem?_map, hu]; rfl
theorem gr_get {w : World} {A : Option Addr} {n c : Nat} {t : List Ls} {g : List (List Int)} (h : Gr.Ok w ⟨A, n, c, t⟩) (hg : Ls.all t = g) {j : Nat} (hj : j < n) :
    ∃ (p q : Nat) (u : Ls), A = some ⟨p, q, none⟩ ∧ g.getD j [] = u.zs ∧ p < w.heap.size ∧ w.cell? ⟨p, q + j, none⟩ = some (.slice u.A u.n u.c) ∧ u.Ok w := by
  obtain ⟨p, q, u, h1, _, h2, h3, h4, h5⟩ := Gr.Ok.get h hj
  subst hg
  exact ⟨p, q, u, h1, h2, h3, h4, h5⟩
theorem ci64_snoc6 (a : List Int) (z : Int) : ci64 (a ++ [z]) = ci64 a ++ [.int .i64 z] := by rw [ci64_app]; rfl
theorem Outs.gr {w : World} {B : Nat} {A : Option Addr} {n c : Nat} {t : List Ls} (h : Outs w B A n c t) : Gr.Ok w ⟨A, n, c, t⟩ := ⟨h.lss, h.own.le, h.own.cap⟩
def CheckGC (f : Nat) : Prop := ∀ (x : Gr) (m : Int) (w : World), x.Ok w → -9223372036854775808 ≤ m → m ≤ 9223372036854775807 →
  Calls Tryz.prog f #[x.v, .int .i64 m] w fun e w' => e = .returned (.bool (checkG x.g m)) ∧ Below w.heap.size w w'
def FitsC (f : Nat) : Prop := ∀ (x : Gr) (m : Int) (u : Ls) (w : World), x.Ok w → u.Ok w → -9223372036854775808 ≤ m → m ≤ 9223372036854775807 →
  Calls Tryz.prog f #[x.v, .int .i64 m, u.v] w fun e w' => e = .returned (.bool (fitsG x.g m u.zs)) ∧ Below w.heap.size w w'
def ManyC (f : Nat) : Prop := ∀ (u : Ls) (w : World), u.Ok w → Calls Tryz.prog f #[u.v] w fun e w' => e = .returned (.int .i64 (manyG u.zs : Nat)) ∧ Below w.heap.size w w'
def NearC (f : Nat) : Prop := ∀ (x : Gr) (m : Int) (u : Ls) (w : World), x.Ok w → u.Ok w → -9223372036854775808 ≤ m → m ≤ 9223372036854775807 →
  Calls Tryz.prog f #[x.v, .int .i64 m, u.v] w fun e w' => ∃ A' n' c', e = .returned (.tuple #[.slice A' n' c', .int .i64 (nearErr x.g m u.zs)]) ∧ OwnI w' w.heap.size ⟨A', n', c', nearE x.g m u.zs⟩ ∧ Below w.heap.size w w'
end Go.Proofs.YtdckoaljcklmhaaGreatDoor

