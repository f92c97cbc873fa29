/-
  No cell of these rows narrows 'for every input' (looked for: loops, veiled, ifaces, maps, wideKeys, modest, calm, conditions, laid).
  DERIVED. THE GIVEN ROWS OF THIS SEAT. 4 by the template 'for every input the law returns true; each argument reads behind the call as it read before'; 0 by the template 'total and deterministic' (their statements: YtillimpfnpjbhaaTotals.lean).
  GIVEN WITH THE SEED: the statements are not yours to turn. If you find one false, say at which input.
  Laid BY PROGRAM, IN A SANDBOX (cutbox-rows.mjs): the forced cells as the released guide's own fill.sh prints them over the translation 25a2959dc276dd85… (all of the seat's roots in one cut). By AI agents, Wed Nov 11 2026. No macro, syntax, notation, axiom, sorry.
-/
import Derived.Test.YtillimpfnpjbhaaChecked
import GoSem.Claim
import GoSem.ClaimJoined
import GoSem.ClaimMapViews
import Derived.JoinedTies
import Derived.KernelRfl
namespace Go.Proofs.Ytillimpfnpjbhaa
/- THE CELL 'sum', in the pinned program and in every row, IS THE sha256 OF THE DUMP (.gsa) THAT YtillimpfnpjbhaaProg.lean LOADS. Nothing in Lean hashes anything: it is a label: what it is worth is what the hold of that sum in a sandbox is worth. -/
noncomputable def Try.pinned : Pinned := { name := "ytillimpfnpjbhaa", sum := "25a2959dc276dd852c44511939219a5a05e88982bc770f98e9121ecd631c9e66", checked := Try.checked }
namespace Rows
def none {H : Type} : Left H := { results := [], args := [] }

/-- 'salesroomlaw01.NumsBack': WHATEVER THE INPUT: true; the input reads as it did. -/
def numsBackSpec : ChangeSpec := { name := "numsBack", fn := fun _ => fun
  | [d1, d2, d3] => { results := [.lit (.bool true)], args := [d1, d2, d3] }
  | _ => none }
def numsBackRow : OpenClaim := { program := "ytillimpfnpjbhaa", sum := "25a2959dc276dd852c44511939219a5a05e88982bc770f98e9121ecd631c9e66", func := "salesroom/salesroomlaw01.NumsBack", spec := "numsBack", apart := false }
def NumsBackSaid : Prop := numsBackRow.holds Try.pinned (OpenSpec.ofChange numsBackSpec)

/-- ITS FALSE NEIGHBOUR: 'it returns false'. Refute it at one input. -/
def numsBackWrong : ChangeSpec := { name := "numsBack", fn := fun _ => fun
  | [d1, d2, d3] => { results := [.lit (.bool false)], args := [d1, d2, d3] }
  | _ => none }
def NumsBackWrongFalsely : Prop := numsBackRow.holds Try.pinned (OpenSpec.ofChange numsBackWrong)

/-- 'salesroomlaw01.NumsJoin': WHATEVER THE INPUT: true; the input reads as it did. -/
def numsJoinSpec : ChangeSpec := { name := "numsJoin", fn := fun _ => fun
  | [d1, d2] => { results := [.lit (.bool true)], args := [d1, d2] }
  | _ => none }
def numsJoinRow : OpenClaim := { program := "ytillimpfnpjbhaa", sum := "25a2959dc276dd852c44511939219a5a05e88982bc770f98e9121ecd631c9e66", func := "salesroom/salesroomlaw01.NumsJoin", spec := "numsJoin", apart := false }
def NumsJoinSaid : Prop := numsJoinRow.holds Try.pinned (OpenSpec.ofChange numsJoinSpec)

/-- ITS FALSE NEIGHBOUR: 'it returns false'. Refute it at one input. -/
def numsJoinWrong : ChangeSpec := { name := "numsJoin", fn := fun _ => fun
  | [d1, d2] => { results := [.lit (.bool false)], args := [d1, d2] }
  | _ => none }
def NumsJoinWrongFalsely : Prop := numsJoinRow.holds Try.pinned (OpenSpec.ofChange numsJoinWrong)

/-- 'salesroomlaw01.NumsBytes': WHATEVER THE INPUT: true; the input reads as it did. -/
def numsBytesSpec : ChangeSpec := { name := "numsBytes", fn := fun _ => fun
  | [d1, d2] => { results := [.lit (.bool true)], args := [d1, d2] }
  | _ => none }
def numsBytesRow : OpenClaim := { program := "ytillimpfnpjbhaa", sum := "25a2959dc276dd852c44511939219a5a05e88982bc770f98e9121ecd631c9e66", func := "salesroom/salesroomlaw01.NumsBytes", spec := "numsBytes", apart := false }
def NumsBytesSaid : Prop := numsBytesRow.holds Try.pinned (OpenSpec.ofChange numsBytesSpec)

/-- ITS FALSE NEIGHBOUR: 'it returns false'. Refute it at one input. -/
def numsBytesWrong : ChangeSpec := { name := "numsBytes", fn := fun _ => fun
  | [d1, d2] => { results := [.lit (.bool false)], args := [d1, d2] }
  | _ => none }
def NumsBytesWrongFalsely : Prop := numsBytesRow.holds Try.pinned (OpenSpec.ofChange numsBytesWrong)

/-- 'salesroomlaw01.NumsAgain': WHATEVER THE INPUT: true; the input reads as it did. -/
def numsAgainSpec : ChangeSpec := { name := "numsAgain", fn := fun _ => fun
  | [d1, d2] => { results := [.lit (.bool true)], args := [d1, d2] }
  | _ => none }
def numsAgainRow : OpenClaim := { program := "ytillimpfnpjbhaa", sum := "25a2959dc276dd852c44511939219a5a05e88982bc770f98e9121ecd631c9e66", func := "salesroom/salesroomlaw01.NumsAgain", spec := "numsAgain", apart := false }
def NumsAgainSaid : Prop := numsAgainRow.holds Try.pinned (OpenSpec.ofChange numsAgainSpec)

/-- ITS FALSE NEIGHBOUR: 'it returns false'. Refute it at one input. -/
def numsAgainWrong : ChangeSpec := { name := "numsAgain", fn := fun _ => fun
  | [d1, d2] => { results := [.lit (.bool false)], args := [d1, d2] }
  | _ => none }
def NumsAgainWrongFalsely : Prop := numsAgainRow.holds Try.pinned (OpenSpec.ofChange numsAgainWrong)

/- THE SECOND FORM. 'bulk': how many values and letters a reading holds, each counted each time it is reached (what is shared counts as often as it is met; a slice's spare places count too). A statement '..UptoSaid' is the law's where the arguments, and the package variables that the reading takes, are together of bulk at most 1048576: NARROWER than '..Said'. Prove '..Said' where nothing that the law and all that it calls make is longer than what came in: it says more and counts as full. Else prove '..UptoSaid'. A law counts once. -/
mutual
def uptoBulk {H : Type} : DataW H → Nat
  | .lit (.string bytes) => bytes.length + 1
  | .lit _ => 1
  | .nil => 1
  | .ptr d => uptoBulk d + 1
  | .slice elems spare => uptoBulkAll elems + uptoBulkAll spare + 1
  | .agg parts => uptoBulkAll parts + 1
  | .iface _ d => uptoBulk d + 1
  | .map entries => uptoBulkEntries entries + 1
  | .held _ => 1
def uptoBulkAll {H : Type} : List (DataW H) → Nat
  | [] => 0
  | d :: r => uptoBulk d + uptoBulkAll r
def uptoBulkEntries {H : Type} : List (Lit × DataW H) → Nat
  | [] => 0
  | x :: r => uptoBulkEntry x + uptoBulkEntries r
def uptoBulkEntry {H : Type} : Lit × DataW H → Nat
  | (.string bytes, d) => bytes.length + uptoBulk d + 1
  | (_, d) => uptoBulk d + 1
 end
def uptoSmall : (H : Type) → List (DataW H) → Bool := fun _ ds => decide (uptoBulkAll ds ≤ 1048576)
def OpenSpec.upto (s : _root_.Go.ChangeSpec) : _root_.Go.OpenSpec := { _root_.Go.OpenSpec.ofChange s with cond := some uptoSmall }

/-- 'salesroomlaw01.NumsBack', WHERE WHAT IT READS IS OF BULK AT MOST 1048576: true; the input reads as it did. -/
def numsBackUptoRow : OpenClaim := { program := "ytillimpfnpjbhaa", sum := "25a2959dc276dd852c44511939219a5a05e88982bc770f98e9121ecd631c9e66", func := "salesroom/salesroomlaw01.NumsBack", spec := "numsBack", apart := false, narrowed := true }
def NumsBackUptoSaid : Prop := numsBackUptoRow.holds Try.pinned (OpenSpec.upto numsBackSpec)

/-- 'salesroomlaw01.NumsJoin', WHERE WHAT IT READS IS OF BULK AT MOST 1048576: true; the input reads as it did. -/
def numsJoinUptoRow : OpenClaim := { program := "ytillimpfnpjbhaa", sum := "25a2959dc276dd852c44511939219a5a05e88982bc770f98e9121ecd631c9e66", func := "salesroom/salesroomlaw01.NumsJoin", spec := "numsJoin", apart := false, narrowed := true }
def NumsJoinUptoSaid : Prop := numsJoinUptoRow.holds Try.pinned (OpenSpec.upto numsJoinSpec)

/-- 'salesroomlaw01.NumsBytes', WHERE WHAT IT READS IS OF BULK AT MOST 1048576: true; the input reads as it did. -/
def numsBytesUptoRow : OpenClaim := { program := "ytillimpfnpjbhaa", sum := "25a2959dc276dd852c44511939219a5a05e88982bc770f98e9121ecd631c9e66", func := "salesroom/salesroomlaw01.NumsBytes", spec := "numsBytes", apart := false, narrowed := true }
def NumsBytesUptoSaid : Prop := numsBytesUptoRow.holds Try.pinned (OpenSpec.upto numsBytesSpec)

/-- 'salesroomlaw01.NumsAgain', WHERE WHAT IT READS IS OF BULK AT MOST 1048576: true; the input reads as it did. -/
def numsAgainUptoRow : OpenClaim := { program := "ytillimpfnpjbhaa", sum := "25a2959dc276dd852c44511939219a5a05e88982bc770f98e9121ecd631c9e66", func := "salesroom/salesroomlaw01.NumsAgain", spec := "numsAgain", apart := false, narrowed := true }
def NumsAgainUptoSaid : Prop := numsAgainUptoRow.holds Try.pinned (OpenSpec.upto numsAgainSpec)

end Rows
end Go.Proofs.Ytillimpfnpjbhaa
