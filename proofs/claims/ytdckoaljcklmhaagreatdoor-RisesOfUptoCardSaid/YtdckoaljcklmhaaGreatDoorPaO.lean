/-
  What the functions of a paths package answer (contracts).
-/
import Derived.Test.YtdckoaljcklmhaaGreatDoorGrO
import Derived.Test.YtdckoaljcklmhaaGreatDoorPaF
namespace Go.Proofs.YtdckoaljcklmhaaGreatDoor
open Go.RowKit
set_option linter.unusedVariables false

def pathErr (g : List (List Int)) (m : Int) (has : List Int) (z : Int) : Int := if mayP g m has z = true then 0 else 1
def moreB (g : List (List Int)) (m : Int) (has : List Int) (z : Int) : Bool := mayP g m has z && foundP g m.toNat has z
def moreL (g : List (List Int)) (m : Int) (has : List Int) (z : Int) : List Int := if mayP g m has z = true then moreP g m.toNat has z else []
def whoL (g : List (List Int)) (m : Int) (has : List Int) (z : Int) : List Int := if mayP g m has z = true then whoP g m.toNat has z else []
def whatL (g : List (List Int)) (m : Int) (has : List Int) (z : Int) : List Int := if mayP g m has z = true then whatP g m.toNat has z else []
def MoreC (f : Nat) : Prop := ∀ (x : Gr) (m : Int) (u : Ls) (z : Int) (w : World), x.Ok w → u.Ok w → -9223372036854775808 ≤ m → m ≤ 9223372036854775807 → -9223372036854775808 ≤ z → z ≤ 9223372036854775807 →
  Calls Tryz.prog f #[x.v, .int .i64 m, u.v, .int .i64 z] w fun e w' => ∃ A' n' c', e = .returned (.tuple #[.slice A' n' c', .bool (moreB x.g m u.zs z), .int .i64 (pathErr x.g m u.zs z)]) ∧ OwnI w' w.heap.size ⟨A', n', c', moreL x.g m u.zs z⟩ ∧ Below w.heap.size w w'
theorem may_nat {g : List (List Int)} {m : Int} {has : List Int} {z : Int} (h : mayP g m has z = true) : ∃ M : Nat, m = M ∧ M ≤ 8 ∧ g.length ≤ 8 ∧ has.length = g.length ∧ ∃ i : Nat, z = i ∧ i < g.length := by
  simp only [mayP, Bool.and_eq_true, decide_eq_true_eq] at h
  obtain ⟨h1, h2, h3⟩ := h
  obtain ⟨h4, h5, _⟩ := fitsG_iff.1 h1
  obtain ⟨q1, q2, q3, _⟩ := checkG_iff.1 h4
  exact ⟨m.toNat, by omega, by omega, q3, h5, z.toNat, by omega, by omega⟩
theorem path_ok {g : List (List Int)} {m : Nat} {has : List Int} {z : Int} (h : mayP g m has z = true) : pathErr g m has z = 0 ∧ moreB g m has z = foundP g m has z ∧ moreL g m has z = moreP g m has z ∧ whoL g m has z = whoP g m has z ∧ whatL g m has z = whatP g m has z := by
  simp [pathErr, moreB, moreL, whoL, whatL, h]
theorem path_bad {g : List (List Int)} {m : Int} {has : List Int} {z : Int} (h : mayP g m has z = false) : pathErr g m has z = 1 ∧ moreB g m has z = false ∧ moreL g m has z = [] ∧ whoL g m has z = [] ∧ whatL g m has z = [] := by
  simp [pathErr, moreB, moreL, whoL, whatL, h]
end Go.Proofs.YtdckoaljcklmhaaGreatDoor

