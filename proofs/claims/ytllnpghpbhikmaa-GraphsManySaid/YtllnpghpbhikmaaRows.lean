/-
  No cell of these rows narrows 'for every input' (looked for: loops, veiled, ifaces, maps, wideKeys, modest, calm, conditions, laid).
  DERIVED. THE GIVEN ROWS OF THIS SEAT. 5 by the template 'for every input the law returns true; each argument reads behind the call as it read before'; 0 by the template 'total and deterministic' (their statements: YtllnpghpbhikmaaTotals.lean).
  GIVEN WITH THE SEED: the statements are not yours to turn. If you find one false, say at which input.
  Laid BY PROGRAM, IN A SANDBOX (cutbox-rows.mjs): the forced cells as the released guide's own fill.sh prints them over the translation 57cfa33202e098ee… (all of the seat's roots in one cut). By AI agents, Wed Nov 11 2026. No macro, syntax, notation, axiom, sorry.
-/
import Derived.Test.YtllnpghpbhikmaaChecked
import GoSem.Claim
import GoSem.ClaimJoined
import GoSem.ClaimMapViews
import Derived.JoinedTies
import Derived.KernelRfl
namespace Go.Proofs.Ytllnpghpbhikmaa
/- THE CELL 'sum', in the pinned program and in every row, IS THE sha256 OF THE DUMP (.gsa) THAT YtllnpghpbhikmaaProg.lean LOADS. Nothing in Lean hashes anything: it is a label: what it is worth is what the hold of that sum in a sandbox is worth. -/
noncomputable def Try.pinned : Pinned := { name := "ytllnpghpbhikmaa", sum := "57cfa33202e098ee14dd17f74e81494ee418633d4cdeb2db0e1bb1745ef9f842", checked := Try.checked }
namespace Rows
def none {H : Type} : Left H := { results := [], args := [] }

/-- 'salesroomlaw06.GraphsTurned': WHATEVER THE INPUT: true; the input reads as it did. -/
def graphsTurnedSpec : ChangeSpec := { name := "graphsTurned", fn := fun _ => fun
  | [d] => { results := [.lit (.bool true)], args := [d] }
  | _ => none }
def graphsTurnedRow : OpenClaim := { program := "ytllnpghpbhikmaa", sum := "57cfa33202e098ee14dd17f74e81494ee418633d4cdeb2db0e1bb1745ef9f842", func := "salesroom/salesroomlaw06.GraphsTurned", spec := "graphsTurned", unfollowed := true, recurses := true, apart := false }
def GraphsTurnedSaid : Prop := graphsTurnedRow.holds Try.pinned (OpenSpec.ofChange graphsTurnedSpec)

/-- ITS FALSE NEIGHBOUR: 'it returns false'. Refute it at one input. -/
def graphsTurnedWrong : ChangeSpec := { name := "graphsTurned", fn := fun _ => fun
  | [d] => { results := [.lit (.bool false)], args := [d] }
  | _ => none }
def GraphsTurnedWrongFalsely : Prop := graphsTurnedRow.holds Try.pinned (OpenSpec.ofChange graphsTurnedWrong)

/-- 'salesroomlaw06.GraphsFits': WHATEVER THE INPUT: true; the input reads as it did. -/
def graphsFitsSpec : ChangeSpec := { name := "graphsFits", fn := fun _ => fun
  | [d1, d2, d3] => { results := [.lit (.bool true)], args := [d1, d2, d3] }
  | _ => none }
def graphsFitsRow : OpenClaim := { program := "ytllnpghpbhikmaa", sum := "57cfa33202e098ee14dd17f74e81494ee418633d4cdeb2db0e1bb1745ef9f842", func := "salesroom/salesroomlaw06.GraphsFits", spec := "graphsFits", unfollowed := true, recurses := true, apart := false }
def GraphsFitsSaid : Prop := graphsFitsRow.holds Try.pinned (OpenSpec.ofChange graphsFitsSpec)

/-- ITS FALSE NEIGHBOUR: 'it returns false'. Refute it at one input. -/
def graphsFitsWrong : ChangeSpec := { name := "graphsFits", fn := fun _ => fun
  | [d1, d2, d3] => { results := [.lit (.bool false)], args := [d1, d2, d3] }
  | _ => none }
def GraphsFitsWrongFalsely : Prop := graphsFitsRow.holds Try.pinned (OpenSpec.ofChange graphsFitsWrong)

/-- 'salesroomlaw06.GraphsNear': WHATEVER THE INPUT: true; the input reads as it did. -/
def graphsNearSpec : ChangeSpec := { name := "graphsNear", fn := fun _ => fun
  | [d1, d2, d3] => { results := [.lit (.bool true)], args := [d1, d2, d3] }
  | _ => none }
def graphsNearRow : OpenClaim := { program := "ytllnpghpbhikmaa", sum := "57cfa33202e098ee14dd17f74e81494ee418633d4cdeb2db0e1bb1745ef9f842", func := "salesroom/salesroomlaw06.GraphsNear", spec := "graphsNear", unfollowed := true, recurses := true, apart := false }
def GraphsNearSaid : Prop := graphsNearRow.holds Try.pinned (OpenSpec.ofChange graphsNearSpec)

/-- ITS FALSE NEIGHBOUR: 'it returns false'. Refute it at one input. -/
def graphsNearWrong : ChangeSpec := { name := "graphsNear", fn := fun _ => fun
  | [d1, d2, d3] => { results := [.lit (.bool false)], args := [d1, d2, d3] }
  | _ => none }
def GraphsNearWrongFalsely : Prop := graphsNearRow.holds Try.pinned (OpenSpec.ofChange graphsNearWrong)

/-- 'salesroomlaw06.GraphsMany': WHATEVER THE INPUT: true; the input reads as it did. -/
def graphsManySpec : ChangeSpec := { name := "graphsMany", fn := fun _ => fun
  | [d] => { results := [.lit (.bool true)], args := [d] }
  | _ => none }
def graphsManyRow : OpenClaim := { program := "ytllnpghpbhikmaa", sum := "57cfa33202e098ee14dd17f74e81494ee418633d4cdeb2db0e1bb1745ef9f842", func := "salesroom/salesroomlaw06.GraphsMany", spec := "graphsMany", unfollowed := true, recurses := true, apart := false }
def GraphsManySaid : Prop := graphsManyRow.holds Try.pinned (OpenSpec.ofChange graphsManySpec)

/-- ITS FALSE NEIGHBOUR: 'it returns false'. Refute it at one input. -/
def graphsManyWrong : ChangeSpec := { name := "graphsMany", fn := fun _ => fun
  | [d] => { results := [.lit (.bool false)], args := [d] }
  | _ => none }
def GraphsManyWrongFalsely : Prop := graphsManyRow.holds Try.pinned (OpenSpec.ofChange graphsManyWrong)

/-- 'salesroomlaw06.GraphsOne': WHATEVER THE INPUT: true; the input reads as it did. -/
def graphsOneSpec : ChangeSpec := { name := "graphsOne", fn := fun _ => fun
  | [d1, d2] => { results := [.lit (.bool true)], args := [d1, d2] }
  | _ => none }
def graphsOneRow : OpenClaim := { program := "ytllnpghpbhikmaa", sum := "57cfa33202e098ee14dd17f74e81494ee418633d4cdeb2db0e1bb1745ef9f842", func := "salesroom/salesroomlaw06.GraphsOne", spec := "graphsOne", unfollowed := true, recurses := true, apart := false }
def GraphsOneSaid : Prop := graphsOneRow.holds Try.pinned (OpenSpec.ofChange graphsOneSpec)

/-- ITS FALSE NEIGHBOUR: 'it returns false'. Refute it at one input. -/
def graphsOneWrong : ChangeSpec := { name := "graphsOne", fn := fun _ => fun
  | [d1, d2] => { results := [.lit (.bool false)], args := [d1, d2] }
  | _ => none }
def GraphsOneWrongFalsely : Prop := graphsOneRow.holds Try.pinned (OpenSpec.ofChange graphsOneWrong)

/- THE SECOND FORM. 'bulk': how many values and letters a reading holds, each counted each time it is reached (what is shared counts as often as it is met; a slice's spare places count too). A statement '..UptoSaid' is the law's where the arguments, and the package variables that the reading takes, are together of bulk at most 1048576: NARROWER than '..Said'. Prove '..Said' where nothing that the law and all that it calls make is longer than what came in: it says more and counts as full. Else prove '..UptoSaid'. A law counts once. -/
mutual
def uptoBulk {H : Type} : DataW H → Nat
  | .lit (.string bytes) => bytes.length + 1
  | .lit _ => 1
  | .nil => 1
  | .ptr d => uptoBulk d + 1
  | .slice elems spare => uptoBulkAll elems + uptoBulkAll spare + 1
  | .agg parts => uptoBulkAll parts + 1
  | .iface _ d => uptoBulk d + 1
  | .map entries => uptoBulkEntries entries + 1
  | .held _ => 1
def uptoBulkAll {H : Type} : List (DataW H) → Nat
  | [] => 0
  | d :: r => uptoBulk d + uptoBulkAll r
def uptoBulkEntries {H : Type} : List (Lit × DataW H) → Nat
  | [] => 0
  | x :: r => uptoBulkEntry x + uptoBulkEntries r
def uptoBulkEntry {H : Type} : Lit × DataW H → Nat
  | (.string bytes, d) => bytes.length + uptoBulk d + 1
  | (_, d) => uptoBulk d + 1
 end
def uptoSmall : (H : Type) → List (DataW H) → Bool := fun _ ds => decide (uptoBulkAll ds ≤ 1048576)
def OpenSpec.upto (s : _root_.Go.ChangeSpec) : _root_.Go.OpenSpec := { _root_.Go.OpenSpec.ofChange s with cond := some uptoSmall }

/-- 'salesroomlaw06.GraphsTurned', WHERE WHAT IT READS IS OF BULK AT MOST 1048576: true; the input reads as it did. -/
def graphsTurnedUptoRow : OpenClaim := { program := "ytllnpghpbhikmaa", sum := "57cfa33202e098ee14dd17f74e81494ee418633d4cdeb2db0e1bb1745ef9f842", func := "salesroom/salesroomlaw06.GraphsTurned", spec := "graphsTurned", unfollowed := true, recurses := true, apart := false, narrowed := true }
def GraphsTurnedUptoSaid : Prop := graphsTurnedUptoRow.holds Try.pinned (OpenSpec.upto graphsTurnedSpec)

/-- 'salesroomlaw06.GraphsFits', WHERE WHAT IT READS IS OF BULK AT MOST 1048576: true; the input reads as it did. -/
def graphsFitsUptoRow : OpenClaim := { program := "ytllnpghpbhikmaa", sum := "57cfa33202e098ee14dd17f74e81494ee418633d4cdeb2db0e1bb1745ef9f842", func := "salesroom/salesroomlaw06.GraphsFits", spec := "graphsFits", unfollowed := true, recurses := true, apart := false, narrowed := true }
def GraphsFitsUptoSaid : Prop := graphsFitsUptoRow.holds Try.pinned (OpenSpec.upto graphsFitsSpec)

/-- 'salesroomlaw06.GraphsNear', WHERE WHAT IT READS IS OF BULK AT MOST 1048576: true; the input reads as it did. -/
def graphsNearUptoRow : OpenClaim := { program := "ytllnpghpbhikmaa", sum := "57cfa33202e098ee14dd17f74e81494ee418633d4cdeb2db0e1bb1745ef9f842", func := "salesroom/salesroomlaw06.GraphsNear", spec := "graphsNear", unfollowed := true, recurses := true, apart := false, narrowed := true }
def GraphsNearUptoSaid : Prop := graphsNearUptoRow.holds Try.pinned (OpenSpec.upto graphsNearSpec)

/-- 'salesroomlaw06.GraphsMany', WHERE WHAT IT READS IS OF BULK AT MOST 1048576: true; the input reads as it did. -/
def graphsManyUptoRow : OpenClaim := { program := "ytllnpghpbhikmaa", sum := "57cfa33202e098ee14dd17f74e81494ee418633d4cdeb2db0e1bb1745ef9f842", func := "salesroom/salesroomlaw06.GraphsMany", spec := "graphsMany", unfollowed := true, recurses := true, apart := false, narrowed := true }
def GraphsManyUptoSaid : Prop := graphsManyUptoRow.holds Try.pinned (OpenSpec.upto graphsManySpec)

/-- 'salesroomlaw06.GraphsOne', WHERE WHAT IT READS IS OF BULK AT MOST 1048576: true; the input reads as it did. -/
def graphsOneUptoRow : OpenClaim := { program := "ytllnpghpbhikmaa", sum := "57cfa33202e098ee14dd17f74e81494ee418633d4cdeb2db0e1bb1745ef9f842", func := "salesroom/salesroomlaw06.GraphsOne", spec := "graphsOne", unfollowed := true, recurses := true, apart := false, narrowed := true }
def GraphsOneUptoSaid : Prop := graphsOneUptoRow.holds Try.pinned (OpenSpec.upto graphsOneSpec)

end Rows
end Go.Proofs.Ytllnpghpbhikmaa
