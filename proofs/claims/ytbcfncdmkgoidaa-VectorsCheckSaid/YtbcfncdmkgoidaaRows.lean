/-
  No cell of these rows narrows 'for every input' (looked for: loops, veiled, ifaces, maps, wideKeys, modest, calm, conditions, laid).
  DERIVED. THE GIVEN ROWS OF THIS SEAT. 5 by the template 'for every input the law returns true; each argument reads behind the call as it read before'; 0 by the template 'total and deterministic' (their statements: YtbcfncdmkgoidaaTotals.lean).
  GIVEN WITH THE SEED: the statements are not yours to turn. If you find one false, say at which input.
  Laid BY PROGRAM, IN A SANDBOX (cutbox-rows.mjs): the forced cells as the released guide's own fill.sh prints them over the translation ef945377d7e207f0… (all of the seat's roots in one cut). By AI agents, Wed Nov 11 2026. No macro, syntax, notation, axiom, sorry.
-/
import Derived.Test.YtbcfncdmkgoidaaChecked
import GoSem.Claim
import GoSem.ClaimJoined
import GoSem.ClaimMapViews
import Derived.JoinedTies
import Derived.KernelRfl
namespace Go.Proofs.Ytbcfncdmkgoidaa
/- THE CELL 'sum', in the pinned program and in every row, IS THE sha256 OF THE DUMP (.gsa) THAT YtbcfncdmkgoidaaProg.lean LOADS. Nothing in Lean hashes anything: it is a label: what it is worth is what the hold of that sum in a sandbox is worth. -/
noncomputable def Try.pinned : Pinned := { name := "ytbcfncdmkgoidaa", sum := "ef945377d7e207f07aa1effdb4ae85840fb618c3a2b61dea21b11a7f66925995", checked := Try.checked }
namespace Rows
def none {H : Type} : Left H := { results := [], args := [] }

/-- 'salesroomlaw04.VectorsWorth': WHATEVER THE INPUT: true; the input reads as it did. -/
def vectorsWorthSpec : ChangeSpec := { name := "vectorsWorth", fn := fun _ => fun
  | [d1, d2, d3] => { results := [.lit (.bool true)], args := [d1, d2, d3] }
  | _ => none }
def vectorsWorthRow : OpenClaim := { program := "ytbcfncdmkgoidaa", sum := "ef945377d7e207f07aa1effdb4ae85840fb618c3a2b61dea21b11a7f66925995", func := "salesroom/salesroomlaw04.VectorsWorth", spec := "vectorsWorth", apart := false }
def VectorsWorthSaid : Prop := vectorsWorthRow.holds Try.pinned (OpenSpec.ofChange vectorsWorthSpec)

/-- ITS FALSE NEIGHBOUR: 'it returns false'. Refute it at one input. -/
def vectorsWorthWrong : ChangeSpec := { name := "vectorsWorth", fn := fun _ => fun
  | [d1, d2, d3] => { results := [.lit (.bool false)], args := [d1, d2, d3] }
  | _ => none }
def VectorsWorthWrongFalsely : Prop := vectorsWorthRow.holds Try.pinned (OpenSpec.ofChange vectorsWorthWrong)

/-- 'salesroomlaw04.VectorsBack': WHATEVER THE INPUT: true; the input reads as it did. -/
def vectorsBackSpec : ChangeSpec := { name := "vectorsBack", fn := fun _ => fun
  | [d1, d2, d3] => { results := [.lit (.bool true)], args := [d1, d2, d3] }
  | _ => none }
def vectorsBackRow : OpenClaim := { program := "ytbcfncdmkgoidaa", sum := "ef945377d7e207f07aa1effdb4ae85840fb618c3a2b61dea21b11a7f66925995", func := "salesroom/salesroomlaw04.VectorsBack", spec := "vectorsBack", apart := false }
def VectorsBackSaid : Prop := vectorsBackRow.holds Try.pinned (OpenSpec.ofChange vectorsBackSpec)

/-- ITS FALSE NEIGHBOUR: 'it returns false'. Refute it at one input. -/
def vectorsBackWrong : ChangeSpec := { name := "vectorsBack", fn := fun _ => fun
  | [d1, d2, d3] => { results := [.lit (.bool false)], args := [d1, d2, d3] }
  | _ => none }
def VectorsBackWrongFalsely : Prop := vectorsBackRow.holds Try.pinned (OpenSpec.ofChange vectorsBackWrong)

/-- 'salesroomlaw04.VectorsCheck': WHATEVER THE INPUT: true; the input reads as it did. -/
def vectorsCheckSpec : ChangeSpec := { name := "vectorsCheck", fn := fun _ => fun
  | [d1, d2] => { results := [.lit (.bool true)], args := [d1, d2] }
  | _ => none }
def vectorsCheckRow : OpenClaim := { program := "ytbcfncdmkgoidaa", sum := "ef945377d7e207f07aa1effdb4ae85840fb618c3a2b61dea21b11a7f66925995", func := "salesroom/salesroomlaw04.VectorsCheck", spec := "vectorsCheck", apart := false }
def VectorsCheckSaid : Prop := vectorsCheckRow.holds Try.pinned (OpenSpec.ofChange vectorsCheckSpec)

/-- ITS FALSE NEIGHBOUR: 'it returns false'. Refute it at one input. -/
def vectorsCheckWrong : ChangeSpec := { name := "vectorsCheck", fn := fun _ => fun
  | [d1, d2] => { results := [.lit (.bool false)], args := [d1, d2] }
  | _ => none }
def VectorsCheckWrongFalsely : Prop := vectorsCheckRow.holds Try.pinned (OpenSpec.ofChange vectorsCheckWrong)

/-- 'salesroomlaw04.VectorsGet': WHATEVER THE INPUT: true; the input reads as it did. -/
def vectorsGetSpec : ChangeSpec := { name := "vectorsGet", fn := fun _ => fun
  | [d1, d2] => { results := [.lit (.bool true)], args := [d1, d2] }
  | _ => none }
def vectorsGetRow : OpenClaim := { program := "ytbcfncdmkgoidaa", sum := "ef945377d7e207f07aa1effdb4ae85840fb618c3a2b61dea21b11a7f66925995", func := "salesroom/salesroomlaw04.VectorsGet", spec := "vectorsGet", apart := false }
def VectorsGetSaid : Prop := vectorsGetRow.holds Try.pinned (OpenSpec.ofChange vectorsGetSpec)

/-- ITS FALSE NEIGHBOUR: 'it returns false'. Refute it at one input. -/
def vectorsGetWrong : ChangeSpec := { name := "vectorsGet", fn := fun _ => fun
  | [d1, d2] => { results := [.lit (.bool false)], args := [d1, d2] }
  | _ => none }
def VectorsGetWrongFalsely : Prop := vectorsGetRow.holds Try.pinned (OpenSpec.ofChange vectorsGetWrong)

/-- 'salesroomlaw04.VectorsMoved': WHATEVER THE INPUT: true; the input reads as it did. -/
def vectorsMovedSpec : ChangeSpec := { name := "vectorsMoved", fn := fun _ => fun
  | [d1, d2, d3] => { results := [.lit (.bool true)], args := [d1, d2, d3] }
  | _ => none }
def vectorsMovedRow : OpenClaim := { program := "ytbcfncdmkgoidaa", sum := "ef945377d7e207f07aa1effdb4ae85840fb618c3a2b61dea21b11a7f66925995", func := "salesroom/salesroomlaw04.VectorsMoved", spec := "vectorsMoved", apart := false }
def VectorsMovedSaid : Prop := vectorsMovedRow.holds Try.pinned (OpenSpec.ofChange vectorsMovedSpec)

/-- ITS FALSE NEIGHBOUR: 'it returns false'. Refute it at one input. -/
def vectorsMovedWrong : ChangeSpec := { name := "vectorsMoved", fn := fun _ => fun
  | [d1, d2, d3] => { results := [.lit (.bool false)], args := [d1, d2, d3] }
  | _ => none }
def VectorsMovedWrongFalsely : Prop := vectorsMovedRow.holds Try.pinned (OpenSpec.ofChange vectorsMovedWrong)

/- THE SECOND FORM. 'bulk': how many values and letters a reading holds, each counted each time it is reached (what is shared counts as often as it is met; a slice's spare places count too). A statement '..UptoSaid' is the law's where the arguments, and the package variables that the reading takes, are together of bulk at most 1048576: NARROWER than '..Said'. Prove '..Said' where nothing that the law and all that it calls make is longer than what came in: it says more and counts as full. Else prove '..UptoSaid'. A law counts once. -/
mutual
def uptoBulk {H : Type} : DataW H → Nat
  | .lit (.string bytes) => bytes.length + 1
  | .lit _ => 1
  | .nil => 1
  | .ptr d => uptoBulk d + 1
  | .slice elems spare => uptoBulkAll elems + uptoBulkAll spare + 1
  | .agg parts => uptoBulkAll parts + 1
  | .iface _ d => uptoBulk d + 1
  | .map entries => uptoBulkEntries entries + 1
  | .held _ => 1
def uptoBulkAll {H : Type} : List (DataW H) → Nat
  | [] => 0
  | d :: r => uptoBulk d + uptoBulkAll r
def uptoBulkEntries {H : Type} : List (Lit × DataW H) → Nat
  | [] => 0
  | x :: r => uptoBulkEntry x + uptoBulkEntries r
def uptoBulkEntry {H : Type} : Lit × DataW H → Nat
  | (.string bytes, d) => bytes.length + uptoBulk d + 1
  | (_, d) => uptoBulk d + 1
 end
def uptoSmall : (H : Type) → List (DataW H) → Bool := fun _ ds => decide (uptoBulkAll ds ≤ 1048576)
def OpenSpec.upto (s : _root_.Go.ChangeSpec) : _root_.Go.OpenSpec := { _root_.Go.OpenSpec.ofChange s with cond := some uptoSmall }

/-- 'salesroomlaw04.VectorsWorth', WHERE WHAT IT READS IS OF BULK AT MOST 1048576: true; the input reads as it did. -/
def vectorsWorthUptoRow : OpenClaim := { program := "ytbcfncdmkgoidaa", sum := "ef945377d7e207f07aa1effdb4ae85840fb618c3a2b61dea21b11a7f66925995", func := "salesroom/salesroomlaw04.VectorsWorth", spec := "vectorsWorth", apart := false, narrowed := true }
def VectorsWorthUptoSaid : Prop := vectorsWorthUptoRow.holds Try.pinned (OpenSpec.upto vectorsWorthSpec)

/-- 'salesroomlaw04.VectorsBack', WHERE WHAT IT READS IS OF BULK AT MOST 1048576: true; the input reads as it did. -/
def vectorsBackUptoRow : OpenClaim := { program := "ytbcfncdmkgoidaa", sum := "ef945377d7e207f07aa1effdb4ae85840fb618c3a2b61dea21b11a7f66925995", func := "salesroom/salesroomlaw04.VectorsBack", spec := "vectorsBack", apart := false, narrowed := true }
def VectorsBackUptoSaid : Prop := vectorsBackUptoRow.holds Try.pinned (OpenSpec.upto vectorsBackSpec)

/-- 'salesroomlaw04.VectorsCheck', WHERE WHAT IT READS IS OF BULK AT MOST 1048576: true; the input reads as it did. -/
def vectorsCheckUptoRow : OpenClaim := { program := "ytbcfncdmkgoidaa", sum := "ef945377d7e207f07aa1effdb4ae85840fb618c3a2b61dea21b11a7f66925995", func := "salesroom/salesroomlaw04.VectorsCheck", spec := "vectorsCheck", apart := false, narrowed := true }
def VectorsCheckUptoSaid : Prop := vectorsCheckUptoRow.holds Try.pinned (OpenSpec.upto vectorsCheckSpec)

/-- 'salesroomlaw04.VectorsGet', WHERE WHAT IT READS IS OF BULK AT MOST 1048576: true; the input reads as it did. -/
def vectorsGetUptoRow : OpenClaim := { program := "ytbcfncdmkgoidaa", sum := "ef945377d7e207f07aa1effdb4ae85840fb618c3a2b61dea21b11a7f66925995", func := "salesroom/salesroomlaw04.VectorsGet", spec := "vectorsGet", apart := false, narrowed := true }
def VectorsGetUptoSaid : Prop := vectorsGetUptoRow.holds Try.pinned (OpenSpec.upto vectorsGetSpec)

/-- 'salesroomlaw04.VectorsMoved', WHERE WHAT IT READS IS OF BULK AT MOST 1048576: true; the input reads as it did. -/
def vectorsMovedUptoRow : OpenClaim := { program := "ytbcfncdmkgoidaa", sum := "ef945377d7e207f07aa1effdb4ae85840fb618c3a2b61dea21b11a7f66925995", func := "salesroom/salesroomlaw04.VectorsMoved", spec := "vectorsMoved", apart := false, narrowed := true }
def VectorsMovedUptoSaid : Prop := vectorsMovedUptoRow.holds Try.pinned (OpenSpec.upto vectorsMovedSpec)

end Rows
end Go.Proofs.Ytbcfncdmkgoidaa
