/-
  No cell of these rows narrows 'for every input' (looked for: loops, veiled, ifaces, maps, wideKeys, modest, calm, conditions, laid).
  DERIVED. THE GIVEN ROWS OF THIS SEAT. 6 by the template 'for every input the law returns true; each argument reads behind the call as it read before'; 0 by the template 'total and deterministic' (their statements: YtjjaajmjcdihoaaTotals.lean).
  GIVEN WITH THE SEED: the statements are not yours to turn. If you find one false, say at which input.
  Laid BY PROGRAM, IN A SANDBOX (cutbox-rows.mjs): the forced cells as the released guide's own fill.sh prints them over the translation 15fde182d368f77d… (all of the seat's roots in one cut). By AI agents, Wed Nov 11 2026. No macro, syntax, notation, axiom, sorry.
-/
import Derived.Test.YtjjaajmjcdihoaaChecked
import GoSem.Claim
import GoSem.ClaimJoined
import GoSem.ClaimMapViews
import Derived.JoinedTies
import Derived.KernelRfl
namespace Go.Proofs.Ytjjaajmjcdihoaa
/- THE CELL 'sum', in the pinned program and in every row, IS THE sha256 OF THE DUMP (.gsa) THAT YtjjaajmjcdihoaaProg.lean LOADS. Nothing in Lean hashes anything: it is a label: what it is worth is what the hold of that sum in a sandbox is worth. -/
noncomputable def Try.pinned : Pinned := { name := "ytjjaajmjcdihoaa", sum := "15fde182d368f77da3e3d8421da6b72d9555acef79cacdbe45cdc088e7919e78", checked := Try.checked }
namespace Rows
def none {H : Type} : Left H := { results := [], args := [] }

/-- 'salesroomlaw12.DemandsMost': WHATEVER THE INPUT: true; the input reads as it did. -/
def demandsMostSpec : ChangeSpec := { name := "demandsMost", fn := fun _ => fun
  | [d1, d2] => { results := [.lit (.bool true)], args := [d1, d2] }
  | _ => none }
def demandsMostRow : OpenClaim := { program := "ytjjaajmjcdihoaa", sum := "15fde182d368f77da3e3d8421da6b72d9555acef79cacdbe45cdc088e7919e78", func := "salesroom/salesroomlaw12.DemandsMost", spec := "demandsMost", unfollowed := true, recurses := true, apart := false }
def DemandsMostSaid : Prop := demandsMostRow.holds Try.pinned (OpenSpec.ofChange demandsMostSpec)

/-- ITS FALSE NEIGHBOUR: 'it returns false'. Refute it at one input. -/
def demandsMostWrong : ChangeSpec := { name := "demandsMost", fn := fun _ => fun
  | [d1, d2] => { results := [.lit (.bool false)], args := [d1, d2] }
  | _ => none }
def DemandsMostWrongFalsely : Prop := demandsMostRow.holds Try.pinned (OpenSpec.ofChange demandsMostWrong)

/-- 'salesroomlaw12.DemandsMoved': WHATEVER THE INPUT: true; the input reads as it did. -/
def demandsMovedSpec : ChangeSpec := { name := "demandsMoved", fn := fun _ => fun
  | [d1, d2, d3] => { results := [.lit (.bool true)], args := [d1, d2, d3] }
  | _ => none }
def demandsMovedRow : OpenClaim := { program := "ytjjaajmjcdihoaa", sum := "15fde182d368f77da3e3d8421da6b72d9555acef79cacdbe45cdc088e7919e78", func := "salesroom/salesroomlaw12.DemandsMoved", spec := "demandsMoved", unfollowed := true, recurses := true, apart := false }
def DemandsMovedSaid : Prop := demandsMovedRow.holds Try.pinned (OpenSpec.ofChange demandsMovedSpec)

/-- ITS FALSE NEIGHBOUR: 'it returns false'. Refute it at one input. -/
def demandsMovedWrong : ChangeSpec := { name := "demandsMoved", fn := fun _ => fun
  | [d1, d2, d3] => { results := [.lit (.bool false)], args := [d1, d2, d3] }
  | _ => none }
def DemandsMovedWrongFalsely : Prop := demandsMovedRow.holds Try.pinned (OpenSpec.ofChange demandsMovedWrong)

/-- 'salesroomlaw12.DemandsRaised': WHATEVER THE INPUT: true; the input reads as it did. -/
def demandsRaisedSpec : ChangeSpec := { name := "demandsRaised", fn := fun _ => fun
  | [d1, d2, d3] => { results := [.lit (.bool true)], args := [d1, d2, d3] }
  | _ => none }
def demandsRaisedRow : OpenClaim := { program := "ytjjaajmjcdihoaa", sum := "15fde182d368f77da3e3d8421da6b72d9555acef79cacdbe45cdc088e7919e78", func := "salesroom/salesroomlaw12.DemandsRaised", spec := "demandsRaised", unfollowed := true, recurses := true, apart := false }
def DemandsRaisedSaid : Prop := demandsRaisedRow.holds Try.pinned (OpenSpec.ofChange demandsRaisedSpec)

/-- ITS FALSE NEIGHBOUR: 'it returns false'. Refute it at one input. -/
def demandsRaisedWrong : ChangeSpec := { name := "demandsRaised", fn := fun _ => fun
  | [d1, d2, d3] => { results := [.lit (.bool false)], args := [d1, d2, d3] }
  | _ => none }
def DemandsRaisedWrongFalsely : Prop := demandsRaisedRow.holds Try.pinned (OpenSpec.ofChange demandsRaisedWrong)

/-- 'salesroomlaw12.DemandsEach': WHATEVER THE INPUT: true; the input reads as it did. -/
def demandsEachSpec : ChangeSpec := { name := "demandsEach", fn := fun _ => fun
  | [d1, d2, d3] => { results := [.lit (.bool true)], args := [d1, d2, d3] }
  | _ => none }
def demandsEachRow : OpenClaim := { program := "ytjjaajmjcdihoaa", sum := "15fde182d368f77da3e3d8421da6b72d9555acef79cacdbe45cdc088e7919e78", func := "salesroom/salesroomlaw12.DemandsEach", spec := "demandsEach", unfollowed := true, recurses := true, apart := false }
def DemandsEachSaid : Prop := demandsEachRow.holds Try.pinned (OpenSpec.ofChange demandsEachSpec)

/-- ITS FALSE NEIGHBOUR: 'it returns false'. Refute it at one input. -/
def demandsEachWrong : ChangeSpec := { name := "demandsEach", fn := fun _ => fun
  | [d1, d2, d3] => { results := [.lit (.bool false)], args := [d1, d2, d3] }
  | _ => none }
def DemandsEachWrongFalsely : Prop := demandsEachRow.holds Try.pinned (OpenSpec.ofChange demandsEachWrong)

/-- 'salesroomlaw12.DemandsLower': WHATEVER THE INPUT: true; the input reads as it did. -/
def demandsLowerSpec : ChangeSpec := { name := "demandsLower", fn := fun _ => fun
  | [d1, d2, d3] => { results := [.lit (.bool true)], args := [d1, d2, d3] }
  | _ => none }
def demandsLowerRow : OpenClaim := { program := "ytjjaajmjcdihoaa", sum := "15fde182d368f77da3e3d8421da6b72d9555acef79cacdbe45cdc088e7919e78", func := "salesroom/salesroomlaw12.DemandsLower", spec := "demandsLower", unfollowed := true, recurses := true, apart := false }
def DemandsLowerSaid : Prop := demandsLowerRow.holds Try.pinned (OpenSpec.ofChange demandsLowerSpec)

/-- ITS FALSE NEIGHBOUR: 'it returns false'. Refute it at one input. -/
def demandsLowerWrong : ChangeSpec := { name := "demandsLower", fn := fun _ => fun
  | [d1, d2, d3] => { results := [.lit (.bool false)], args := [d1, d2, d3] }
  | _ => none }
def DemandsLowerWrongFalsely : Prop := demandsLowerRow.holds Try.pinned (OpenSpec.ofChange demandsLowerWrong)

/-- 'salesroomlaw12.DemandsTimes': WHATEVER THE INPUT: true; the input reads as it did. -/
def demandsTimesSpec : ChangeSpec := { name := "demandsTimes", fn := fun _ => fun
  | [d1, d2, d3] => { results := [.lit (.bool true)], args := [d1, d2, d3] }
  | _ => none }
def demandsTimesRow : OpenClaim := { program := "ytjjaajmjcdihoaa", sum := "15fde182d368f77da3e3d8421da6b72d9555acef79cacdbe45cdc088e7919e78", func := "salesroom/salesroomlaw12.DemandsTimes", spec := "demandsTimes", unfollowed := true, recurses := true, apart := false }
def DemandsTimesSaid : Prop := demandsTimesRow.holds Try.pinned (OpenSpec.ofChange demandsTimesSpec)

/-- ITS FALSE NEIGHBOUR: 'it returns false'. Refute it at one input. -/
def demandsTimesWrong : ChangeSpec := { name := "demandsTimes", fn := fun _ => fun
  | [d1, d2, d3] => { results := [.lit (.bool false)], args := [d1, d2, d3] }
  | _ => none }
def DemandsTimesWrongFalsely : Prop := demandsTimesRow.holds Try.pinned (OpenSpec.ofChange demandsTimesWrong)

/- THE SECOND FORM. 'bulk': how many values and letters a reading holds, each counted each time it is reached (what is shared counts as often as it is met; a slice's spare places count too). A statement '..UptoSaid' is the law's where the arguments, and the package variables that the reading takes, are together of bulk at most 1048576: NARROWER than '..Said'. Prove '..Said' where nothing that the law and all that it calls make is longer than what came in: it says more and counts as full. Else prove '..UptoSaid'. A law counts once. -/
mutual
def uptoBulk {H : Type} : DataW H → Nat
  | .lit (.string bytes) => bytes.length + 1
  | .lit _ => 1
  | .nil => 1
  | .ptr d => uptoBulk d + 1
  | .slice elems spare => uptoBulkAll elems + uptoBulkAll spare + 1
  | .agg parts => uptoBulkAll parts + 1
  | .iface _ d => uptoBulk d + 1
  | .map entries => uptoBulkEntries entries + 1
  | .held _ => 1
def uptoBulkAll {H : Type} : List (DataW H) → Nat
  | [] => 0
  | d :: r => uptoBulk d + uptoBulkAll r
def uptoBulkEntries {H : Type} : List (Lit × DataW H) → Nat
  | [] => 0
  | x :: r => uptoBulkEntry x + uptoBulkEntries r
def uptoBulkEntry {H : Type} : Lit × DataW H → Nat
  | (.string bytes, d) => bytes.length + uptoBulk d + 1
  | (_, d) => uptoBulk d + 1
 end
def uptoSmall : (H : Type) → List (DataW H) → Bool := fun _ ds => decide (uptoBulkAll ds ≤ 1048576)
def OpenSpec.upto (s : _root_.Go.ChangeSpec) : _root_.Go.OpenSpec := { _root_.Go.OpenSpec.ofChange s with cond := some uptoSmall }

/-- 'salesroomlaw12.DemandsMost', WHERE WHAT IT READS IS OF BULK AT MOST 1048576: true; the input reads as it did. -/
def demandsMostUptoRow : OpenClaim := { program := "ytjjaajmjcdihoaa", sum := "15fde182d368f77da3e3d8421da6b72d9555acef79cacdbe45cdc088e7919e78", func := "salesroom/salesroomlaw12.DemandsMost", spec := "demandsMost", unfollowed := true, recurses := true, apart := false, narrowed := true }
def DemandsMostUptoSaid : Prop := demandsMostUptoRow.holds Try.pinned (OpenSpec.upto demandsMostSpec)

/-- 'salesroomlaw12.DemandsMoved', WHERE WHAT IT READS IS OF BULK AT MOST 1048576: true; the input reads as it did. -/
def demandsMovedUptoRow : OpenClaim := { program := "ytjjaajmjcdihoaa", sum := "15fde182d368f77da3e3d8421da6b72d9555acef79cacdbe45cdc088e7919e78", func := "salesroom/salesroomlaw12.DemandsMoved", spec := "demandsMoved", unfollowed := true, recurses := true, apart := false, narrowed := true }
def DemandsMovedUptoSaid : Prop := demandsMovedUptoRow.holds Try.pinned (OpenSpec.upto demandsMovedSpec)

/-- 'salesroomlaw12.DemandsRaised', WHERE WHAT IT READS IS OF BULK AT MOST 1048576: true; the input reads as it did. -/
def demandsRaisedUptoRow : OpenClaim := { program := "ytjjaajmjcdihoaa", sum := "15fde182d368f77da3e3d8421da6b72d9555acef79cacdbe45cdc088e7919e78", func := "salesroom/salesroomlaw12.DemandsRaised", spec := "demandsRaised", unfollowed := true, recurses := true, apart := false, narrowed := true }
def DemandsRaisedUptoSaid : Prop := demandsRaisedUptoRow.holds Try.pinned (OpenSpec.upto demandsRaisedSpec)

/-- 'salesroomlaw12.DemandsEach', WHERE WHAT IT READS IS OF BULK AT MOST 1048576: true; the input reads as it did. -/
def demandsEachUptoRow : OpenClaim := { program := "ytjjaajmjcdihoaa", sum := "15fde182d368f77da3e3d8421da6b72d9555acef79cacdbe45cdc088e7919e78", func := "salesroom/salesroomlaw12.DemandsEach", spec := "demandsEach", unfollowed := true, recurses := true, apart := false, narrowed := true }
def DemandsEachUptoSaid : Prop := demandsEachUptoRow.holds Try.pinned (OpenSpec.upto demandsEachSpec)

/-- 'salesroomlaw12.DemandsLower', WHERE WHAT IT READS IS OF BULK AT MOST 1048576: true; the input reads as it did. -/
def demandsLowerUptoRow : OpenClaim := { program := "ytjjaajmjcdihoaa", sum := "15fde182d368f77da3e3d8421da6b72d9555acef79cacdbe45cdc088e7919e78", func := "salesroom/salesroomlaw12.DemandsLower", spec := "demandsLower", unfollowed := true, recurses := true, apart := false, narrowed := true }
def DemandsLowerUptoSaid : Prop := demandsLowerUptoRow.holds Try.pinned (OpenSpec.upto demandsLowerSpec)

/-- 'salesroomlaw12.DemandsTimes', WHERE WHAT IT READS IS OF BULK AT MOST 1048576: true; the input reads as it did. -/
def demandsTimesUptoRow : OpenClaim := { program := "ytjjaajmjcdihoaa", sum := "15fde182d368f77da3e3d8421da6b72d9555acef79cacdbe45cdc088e7919e78", func := "salesroom/salesroomlaw12.DemandsTimes", spec := "demandsTimes", unfollowed := true, recurses := true, apart := false, narrowed := true }
def DemandsTimesUptoSaid : Prop := demandsTimesUptoRow.holds Try.pinned (OpenSpec.upto demandsTimesSpec)

end Rows
end Go.Proofs.Ytjjaajmjcdihoaa
