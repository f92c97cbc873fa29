/-
  No cell of these rows narrows 'for every input' (looked for: loops, veiled, ifaces, maps, wideKeys, modest, calm, conditions, laid).
  DERIVED. THE GIVEN ROWS OF THIS SEAT. 7 by the template 'for every input the law returns true; each argument reads behind the call as it read before'; 0 by the template 'total and deterministic' (their statements: YtecgakfblhiiaaaTotals.lean).
  GIVEN WITH THE SEED: the statements are not yours to turn. If you find one false, say at which input.
  Laid BY PROGRAM, IN A SANDBOX (cutbox-rows.mjs): the forced cells as the released guide's own fill.sh prints them over the translation 716bf8af43db6227… (all of the seat's roots in one cut). By AI agents, Wed Nov 11 2026. No macro, syntax, notation, axiom, sorry.
-/
import Derived.Test.YtecgakfblhiiaaaChecked
import GoSem.Claim
import GoSem.ClaimJoined
import GoSem.ClaimMapViews
import Derived.JoinedTies
import Derived.KernelRfl
namespace Go.Proofs.Ytecgakfblhiiaaa
/- THE CELL 'sum', in the pinned program and in every row, IS THE sha256 OF THE DUMP (.gsa) THAT YtecgakfblhiiaaaProg.lean LOADS. Nothing in Lean hashes anything: it is a label: what it is worth is what the hold of that sum in a sandbox is worth. -/
noncomputable def Try.pinned : Pinned := { name := "ytecgakfblhiiaaa", sum := "716bf8af43db6227b2342e1c83b4ded3c66a761b7f5aa35f5d45dc5f24a4a76c", checked := Try.checked }
namespace Rows
def none {H : Type} : Left H := { results := [], args := [] }

/-- 'salesroomlaw11.FirstsBest': WHATEVER THE INPUT: true; the input reads as it did. -/
def firstsBestSpec : ChangeSpec := { name := "firstsBest", fn := fun _ => fun
  | [d1, d2] => { results := [.lit (.bool true)], args := [d1, d2] }
  | _ => none }
def firstsBestRow : OpenClaim := { program := "ytecgakfblhiiaaa", sum := "716bf8af43db6227b2342e1c83b4ded3c66a761b7f5aa35f5d45dc5f24a4a76c", func := "salesroom/salesroomlaw11.FirstsBest", spec := "firstsBest", unfollowed := true, recurses := true, apart := false }
def FirstsBestSaid : Prop := firstsBestRow.holds Try.pinned (OpenSpec.ofChange firstsBestSpec)

/-- ITS FALSE NEIGHBOUR: 'it returns false'. Refute it at one input. -/
def firstsBestWrong : ChangeSpec := { name := "firstsBest", fn := fun _ => fun
  | [d1, d2] => { results := [.lit (.bool false)], args := [d1, d2] }
  | _ => none }
def FirstsBestWrongFalsely : Prop := firstsBestRow.holds Try.pinned (OpenSpec.ofChange firstsBestWrong)

/-- 'salesroomlaw11.FirstsFirst': WHATEVER THE INPUT: true; the input reads as it did. -/
def firstsFirstSpec : ChangeSpec := { name := "firstsFirst", fn := fun _ => fun
  | [d1, d2, d3] => { results := [.lit (.bool true)], args := [d1, d2, d3] }
  | _ => none }
def firstsFirstRow : OpenClaim := { program := "ytecgakfblhiiaaa", sum := "716bf8af43db6227b2342e1c83b4ded3c66a761b7f5aa35f5d45dc5f24a4a76c", func := "salesroom/salesroomlaw11.FirstsFirst", spec := "firstsFirst", unfollowed := true, recurses := true, apart := false }
def FirstsFirstSaid : Prop := firstsFirstRow.holds Try.pinned (OpenSpec.ofChange firstsFirstSpec)

/-- ITS FALSE NEIGHBOUR: 'it returns false'. Refute it at one input. -/
def firstsFirstWrong : ChangeSpec := { name := "firstsFirst", fn := fun _ => fun
  | [d1, d2, d3] => { results := [.lit (.bool false)], args := [d1, d2, d3] }
  | _ => none }
def FirstsFirstWrongFalsely : Prop := firstsFirstRow.holds Try.pinned (OpenSpec.ofChange firstsFirstWrong)

/-- 'salesroomlaw11.FirstsTaken': WHATEVER THE INPUT: true; the input reads as it did. -/
def firstsTakenSpec : ChangeSpec := { name := "firstsTaken", fn := fun _ => fun
  | [d1, d2] => { results := [.lit (.bool true)], args := [d1, d2] }
  | _ => none }
def firstsTakenRow : OpenClaim := { program := "ytecgakfblhiiaaa", sum := "716bf8af43db6227b2342e1c83b4ded3c66a761b7f5aa35f5d45dc5f24a4a76c", func := "salesroom/salesroomlaw11.FirstsTaken", spec := "firstsTaken", unfollowed := true, recurses := true, apart := false }
def FirstsTakenSaid : Prop := firstsTakenRow.holds Try.pinned (OpenSpec.ofChange firstsTakenSpec)

/-- ITS FALSE NEIGHBOUR: 'it returns false'. Refute it at one input. -/
def firstsTakenWrong : ChangeSpec := { name := "firstsTaken", fn := fun _ => fun
  | [d1, d2] => { results := [.lit (.bool false)], args := [d1, d2] }
  | _ => none }
def FirstsTakenWrongFalsely : Prop := firstsTakenRow.holds Try.pinned (OpenSpec.ofChange firstsTakenWrong)

/-- 'salesroomlaw11.FirstsNamed': WHATEVER THE INPUT: true; the input reads as it did. -/
def firstsNamedSpec : ChangeSpec := { name := "firstsNamed", fn := fun _ => fun
  | [d1, d2, d3] => { results := [.lit (.bool true)], args := [d1, d2, d3] }
  | _ => none }
def firstsNamedRow : OpenClaim := { program := "ytecgakfblhiiaaa", sum := "716bf8af43db6227b2342e1c83b4ded3c66a761b7f5aa35f5d45dc5f24a4a76c", func := "salesroom/salesroomlaw11.FirstsNamed", spec := "firstsNamed", unfollowed := true, recurses := true, apart := false }
def FirstsNamedSaid : Prop := firstsNamedRow.holds Try.pinned (OpenSpec.ofChange firstsNamedSpec)

/-- ITS FALSE NEIGHBOUR: 'it returns false'. Refute it at one input. -/
def firstsNamedWrong : ChangeSpec := { name := "firstsNamed", fn := fun _ => fun
  | [d1, d2, d3] => { results := [.lit (.bool false)], args := [d1, d2, d3] }
  | _ => none }
def FirstsNamedWrongFalsely : Prop := firstsNamedRow.holds Try.pinned (OpenSpec.ofChange firstsNamedWrong)

/-- 'salesroomlaw11.FirstsAhead': WHATEVER THE INPUT: true; the input reads as it did. -/
def firstsAheadSpec : ChangeSpec := { name := "firstsAhead", fn := fun _ => fun
  | [d1, d2] => { results := [.lit (.bool true)], args := [d1, d2] }
  | _ => none }
def firstsAheadRow : OpenClaim := { program := "ytecgakfblhiiaaa", sum := "716bf8af43db6227b2342e1c83b4ded3c66a761b7f5aa35f5d45dc5f24a4a76c", func := "salesroom/salesroomlaw11.FirstsAhead", spec := "firstsAhead", unfollowed := true, recurses := true, apart := false }
def FirstsAheadSaid : Prop := firstsAheadRow.holds Try.pinned (OpenSpec.ofChange firstsAheadSpec)

/-- ITS FALSE NEIGHBOUR: 'it returns false'. Refute it at one input. -/
def firstsAheadWrong : ChangeSpec := { name := "firstsAhead", fn := fun _ => fun
  | [d1, d2] => { results := [.lit (.bool false)], args := [d1, d2] }
  | _ => none }
def FirstsAheadWrongFalsely : Prop := firstsAheadRow.holds Try.pinned (OpenSpec.ofChange firstsAheadWrong)

/-- 'salesroomlaw11.FirstsTimes': WHATEVER THE INPUT: true; the input reads as it did. -/
def firstsTimesSpec : ChangeSpec := { name := "firstsTimes", fn := fun _ => fun
  | [d1, d2, d3] => { results := [.lit (.bool true)], args := [d1, d2, d3] }
  | _ => none }
def firstsTimesRow : OpenClaim := { program := "ytecgakfblhiiaaa", sum := "716bf8af43db6227b2342e1c83b4ded3c66a761b7f5aa35f5d45dc5f24a4a76c", func := "salesroom/salesroomlaw11.FirstsTimes", spec := "firstsTimes", unfollowed := true, recurses := true, apart := false }
def FirstsTimesSaid : Prop := firstsTimesRow.holds Try.pinned (OpenSpec.ofChange firstsTimesSpec)

/-- ITS FALSE NEIGHBOUR: 'it returns false'. Refute it at one input. -/
def firstsTimesWrong : ChangeSpec := { name := "firstsTimes", fn := fun _ => fun
  | [d1, d2, d3] => { results := [.lit (.bool false)], args := [d1, d2, d3] }
  | _ => none }
def FirstsTimesWrongFalsely : Prop := firstsTimesRow.holds Try.pinned (OpenSpec.ofChange firstsTimesWrong)

/-- 'salesroomlaw11.FirstsIdle': WHATEVER THE INPUT: true; the input reads as it did. -/
def firstsIdleSpec : ChangeSpec := { name := "firstsIdle", fn := fun _ => fun
  | [d1, d2, d3] => { results := [.lit (.bool true)], args := [d1, d2, d3] }
  | _ => none }
def firstsIdleRow : OpenClaim := { program := "ytecgakfblhiiaaa", sum := "716bf8af43db6227b2342e1c83b4ded3c66a761b7f5aa35f5d45dc5f24a4a76c", func := "salesroom/salesroomlaw11.FirstsIdle", spec := "firstsIdle", unfollowed := true, recurses := true, apart := false }
def FirstsIdleSaid : Prop := firstsIdleRow.holds Try.pinned (OpenSpec.ofChange firstsIdleSpec)

/-- ITS FALSE NEIGHBOUR: 'it returns false'. Refute it at one input. -/
def firstsIdleWrong : ChangeSpec := { name := "firstsIdle", fn := fun _ => fun
  | [d1, d2, d3] => { results := [.lit (.bool false)], args := [d1, d2, d3] }
  | _ => none }
def FirstsIdleWrongFalsely : Prop := firstsIdleRow.holds Try.pinned (OpenSpec.ofChange firstsIdleWrong)

/- THE SECOND FORM. 'bulk': how many values and letters a reading holds, each counted each time it is reached (what is shared counts as often as it is met; a slice's spare places count too). A statement '..UptoSaid' is the law's where the arguments, and the package variables that the reading takes, are together of bulk at most 1048576: NARROWER than '..Said'. Prove '..Said' where nothing that the law and all that it calls make is longer than what came in: it says more and counts as full. Else prove '..UptoSaid'. A law counts once. -/
mutual
def uptoBulk {H : Type} : DataW H → Nat
  | .lit (.string bytes) => bytes.length + 1
  | .lit _ => 1
  | .nil => 1
  | .ptr d => uptoBulk d + 1
  | .slice elems spare => uptoBulkAll elems + uptoBulkAll spare + 1
  | .agg parts => uptoBulkAll parts + 1
  | .iface _ d => uptoBulk d + 1
  | .map entries => uptoBulkEntries entries + 1
  | .held _ => 1
def uptoBulkAll {H : Type} : List (DataW H) → Nat
  | [] => 0
  | d :: r => uptoBulk d + uptoBulkAll r
def uptoBulkEntries {H : Type} : List (Lit × DataW H) → Nat
  | [] => 0
  | x :: r => uptoBulkEntry x + uptoBulkEntries r
def uptoBulkEntry {H : Type} : Lit × DataW H → Nat
  | (.string bytes, d) => bytes.length + uptoBulk d + 1
  | (_, d) => uptoBulk d + 1
 end
def uptoSmall : (H : Type) → List (DataW H) → Bool := fun _ ds => decide (uptoBulkAll ds ≤ 1048576)
def OpenSpec.upto (s : _root_.Go.ChangeSpec) : _root_.Go.OpenSpec := { _root_.Go.OpenSpec.ofChange s with cond := some uptoSmall }

/-- 'salesroomlaw11.FirstsBest', WHERE WHAT IT READS IS OF BULK AT MOST 1048576: true; the input reads as it did. -/
def firstsBestUptoRow : OpenClaim := { program := "ytecgakfblhiiaaa", sum := "716bf8af43db6227b2342e1c83b4ded3c66a761b7f5aa35f5d45dc5f24a4a76c", func := "salesroom/salesroomlaw11.FirstsBest", spec := "firstsBest", unfollowed := true, recurses := true, apart := false, narrowed := true }
def FirstsBestUptoSaid : Prop := firstsBestUptoRow.holds Try.pinned (OpenSpec.upto firstsBestSpec)

/-- 'salesroomlaw11.FirstsFirst', WHERE WHAT IT READS IS OF BULK AT MOST 1048576: true; the input reads as it did. -/
def firstsFirstUptoRow : OpenClaim := { program := "ytecgakfblhiiaaa", sum := "716bf8af43db6227b2342e1c83b4ded3c66a761b7f5aa35f5d45dc5f24a4a76c", func := "salesroom/salesroomlaw11.FirstsFirst", spec := "firstsFirst", unfollowed := true, recurses := true, apart := false, narrowed := true }
def FirstsFirstUptoSaid : Prop := firstsFirstUptoRow.holds Try.pinned (OpenSpec.upto firstsFirstSpec)

/-- 'salesroomlaw11.FirstsTaken', WHERE WHAT IT READS IS OF BULK AT MOST 1048576: true; the input reads as it did. -/
def firstsTakenUptoRow : OpenClaim := { program := "ytecgakfblhiiaaa", sum := "716bf8af43db6227b2342e1c83b4ded3c66a761b7f5aa35f5d45dc5f24a4a76c", func := "salesroom/salesroomlaw11.FirstsTaken", spec := "firstsTaken", unfollowed := true, recurses := true, apart := false, narrowed := true }
def FirstsTakenUptoSaid : Prop := firstsTakenUptoRow.holds Try.pinned (OpenSpec.upto firstsTakenSpec)

/-- 'salesroomlaw11.FirstsNamed', WHERE WHAT IT READS IS OF BULK AT MOST 1048576: true; the input reads as it did. -/
def firstsNamedUptoRow : OpenClaim := { program := "ytecgakfblhiiaaa", sum := "716bf8af43db6227b2342e1c83b4ded3c66a761b7f5aa35f5d45dc5f24a4a76c", func := "salesroom/salesroomlaw11.FirstsNamed", spec := "firstsNamed", unfollowed := true, recurses := true, apart := false, narrowed := true }
def FirstsNamedUptoSaid : Prop := firstsNamedUptoRow.holds Try.pinned (OpenSpec.upto firstsNamedSpec)

/-- 'salesroomlaw11.FirstsAhead', WHERE WHAT IT READS IS OF BULK AT MOST 1048576: true; the input reads as it did. -/
def firstsAheadUptoRow : OpenClaim := { program := "ytecgakfblhiiaaa", sum := "716bf8af43db6227b2342e1c83b4ded3c66a761b7f5aa35f5d45dc5f24a4a76c", func := "salesroom/salesroomlaw11.FirstsAhead", spec := "firstsAhead", unfollowed := true, recurses := true, apart := false, narrowed := true }
def FirstsAheadUptoSaid : Prop := firstsAheadUptoRow.holds Try.pinned (OpenSpec.upto firstsAheadSpec)

/-- 'salesroomlaw11.FirstsTimes', WHERE WHAT IT READS IS OF BULK AT MOST 1048576: true; the input reads as it did. -/
def firstsTimesUptoRow : OpenClaim := { program := "ytecgakfblhiiaaa", sum := "716bf8af43db6227b2342e1c83b4ded3c66a761b7f5aa35f5d45dc5f24a4a76c", func := "salesroom/salesroomlaw11.FirstsTimes", spec := "firstsTimes", unfollowed := true, recurses := true, apart := false, narrowed := true }
def FirstsTimesUptoSaid : Prop := firstsTimesUptoRow.holds Try.pinned (OpenSpec.upto firstsTimesSpec)

/-- 'salesroomlaw11.FirstsIdle', WHERE WHAT IT READS IS OF BULK AT MOST 1048576: true; the input reads as it did. -/
def firstsIdleUptoRow : OpenClaim := { program := "ytecgakfblhiiaaa", sum := "716bf8af43db6227b2342e1c83b4ded3c66a761b7f5aa35f5d45dc5f24a4a76c", func := "salesroom/salesroomlaw11.FirstsIdle", spec := "firstsIdle", unfollowed := true, recurses := true, apart := false, narrowed := true }
def FirstsIdleUptoSaid : Prop := firstsIdleUptoRow.holds Try.pinned (OpenSpec.upto firstsIdleSpec)

end Rows
end Go.Proofs.Ytecgakfblhiiaaa
