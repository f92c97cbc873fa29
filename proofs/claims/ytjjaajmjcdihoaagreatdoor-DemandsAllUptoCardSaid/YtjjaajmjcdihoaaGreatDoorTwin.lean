/-
  Walks of TwinBytes and LeftBytes: a copy of bytes in memory of its own with a mark in the room behind it, and whether it is still that.
-/
import Derived.Test.YtjjaajmjcdihoaaGreatDoorProg
import Derived.Test.YtjjaajmjcdihoaaGreatDoorKit
import Derived.Test.YtjjaajmjcdihoaaGreatDoorNumsD
import Derived.BigQuiet
import Derived.Deep.QuietTactic
import Derived.Deep.DeepMust
namespace Go.Proofs.YtjjaajmjcdihoaaGreatDoor
open Go.RowKit
set_option linter.unusedVariables false

theorem twin_info_u8 : (Tryz.prog.info? 5).map (fun i => (i.zero, i.size, i.bytes)) = some (some (.int .u8 0), 1, 1) := by kernel_rfl

/-- make([]E, 0, n). -/
theorem wpList_mk0 {P : Program} (w : World) {ops : Array Oper} {rest : List Oper} {o : Oper} {a : Act} {Q : Exit → Act → World → Prop} (hg : o.guard = none) (l c : Operand) (t : TypeId) (hop : o.op = Op.makeSlice t l c)
    (B : Nat) (e : TypeId) (i : TypeInfo) (z : Value) (h1 : P.underlying t = some (.slice e)) (h2 : P.info? e = some i) (h3 : i.zero = some z) (h4 : i.size = 1)
    (kl kc : IntKind) (C : Int) (n : Nat) (hl : a.eval l = .int kl 0) (hc : a.eval c = .int kc C) (hC : C = (n : Int)) (b2 : i.bytes * n ≤ 281474976710656) (b3 : n ≤ maxLen) (b4 : B ≤ w.heap.size)
    (hK : ∀ w', Own w' B e (some ⟨w.heap.size, 0, none⟩) 0 n [] → Below w.heap.size w w' → wpList P ops Q rest (a.put o.dst (.slice (some ⟨w.heap.size, 0, none⟩) 0 n)) w') :
    wpList P ops Q (o :: rest) a w := by
  refine wpList_make_own (P := P) w hg l c t hop B e i z 1 h1 h2 h3 h4 kl kc C n hl hc hC b2 b3 b4 fun w' ho hgr => hK w' ?_ ?_
  · obtain ⟨A2, c2, hv, h⟩ := Own.of_row ho
    cases hv
    exact h
  · exact (Below.refl _ w).grown hgr (Nat.le_refl _) (by intro k hk; cases hk)

end Go.Proofs.YtjjaajmjcdihoaaGreatDoor
