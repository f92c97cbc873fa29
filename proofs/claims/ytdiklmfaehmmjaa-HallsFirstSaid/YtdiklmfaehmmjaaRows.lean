/-
  No cell of these rows narrows 'for every input' (looked for: loops, veiled, ifaces, maps, wideKeys, modest, calm, conditions, laid).
  DERIVED. THE GIVEN ROWS OF THIS SEAT. 6 by the template 'for every input the law returns true; each argument reads behind the call as it read before'; 0 by the template 'total and deterministic' (their statements: YtdiklmfaehmmjaaTotals.lean).
  GIVEN WITH THE SEED: the statements are not yours to turn. If you find one false, say at which input.
  Laid BY PROGRAM, IN A SANDBOX (cutbox-rows.mjs): the forced cells as the released guide's own fill.sh prints them over the translation 9d9c64e4b5ba0bc9… (all of the seat's roots in one cut). By AI agents, Wed Nov 11 2026. No macro, syntax, notation, axiom, sorry.
-/
import Derived.Test.YtdiklmfaehmmjaaChecked
import GoSem.Claim
import GoSem.ClaimJoined
import GoSem.ClaimMapViews
import Derived.JoinedTies
import Derived.KernelRfl
namespace Go.Proofs.Ytdiklmfaehmmjaa
/- THE CELL 'sum', in the pinned program and in every row, IS THE sha256 OF THE DUMP (.gsa) THAT YtdiklmfaehmmjaaProg.lean LOADS. Nothing in Lean hashes anything: it is a label: what it is worth is what the hold of that sum in a sandbox is worth. -/
noncomputable def Try.pinned : Pinned := { name := "ytdiklmfaehmmjaa", sum := "9d9c64e4b5ba0bc959aad34e0315e625db2b7c6bcf19b7332a60be48203b4b5e", checked := Try.checked }
namespace Rows
def none {H : Type} : Left H := { results := [], args := [] }

/-- 'salesroomlaw09.HallsAll': WHATEVER THE INPUT: true; the input reads as it did. -/
def hallsAllSpec : ChangeSpec := { name := "hallsAll", fn := fun _ => fun
  | [d1, d2] => { results := [.lit (.bool true)], args := [d1, d2] }
  | _ => none }
def hallsAllRow : OpenClaim := { program := "ytdiklmfaehmmjaa", sum := "9d9c64e4b5ba0bc959aad34e0315e625db2b7c6bcf19b7332a60be48203b4b5e", func := "salesroom/salesroomlaw09.HallsAll", spec := "hallsAll", unfollowed := true, recurses := true, apart := false }
def HallsAllSaid : Prop := hallsAllRow.holds Try.pinned (OpenSpec.ofChange hallsAllSpec)

/-- ITS FALSE NEIGHBOUR: 'it returns false'. Refute it at one input. -/
def hallsAllWrong : ChangeSpec := { name := "hallsAll", fn := fun _ => fun
  | [d1, d2] => { results := [.lit (.bool false)], args := [d1, d2] }
  | _ => none }
def HallsAllWrongFalsely : Prop := hallsAllRow.holds Try.pinned (OpenSpec.ofChange hallsAllWrong)

/-- 'salesroomlaw09.HallsPart': WHATEVER THE INPUT: true; the input reads as it did. -/
def hallsPartSpec : ChangeSpec := { name := "hallsPart", fn := fun _ => fun
  | [d1, d2, d3] => { results := [.lit (.bool true)], args := [d1, d2, d3] }
  | _ => none }
def hallsPartRow : OpenClaim := { program := "ytdiklmfaehmmjaa", sum := "9d9c64e4b5ba0bc959aad34e0315e625db2b7c6bcf19b7332a60be48203b4b5e", func := "salesroom/salesroomlaw09.HallsPart", spec := "hallsPart", unfollowed := true, recurses := true, apart := false }
def HallsPartSaid : Prop := hallsPartRow.holds Try.pinned (OpenSpec.ofChange hallsPartSpec)

/-- ITS FALSE NEIGHBOUR: 'it returns false'. Refute it at one input. -/
def hallsPartWrong : ChangeSpec := { name := "hallsPart", fn := fun _ => fun
  | [d1, d2, d3] => { results := [.lit (.bool false)], args := [d1, d2, d3] }
  | _ => none }
def HallsPartWrongFalsely : Prop := hallsPartRow.holds Try.pinned (OpenSpec.ofChange hallsPartWrong)

/-- 'salesroomlaw09.HallsFirst': WHATEVER THE INPUT: true; the input reads as it did. -/
def hallsFirstSpec : ChangeSpec := { name := "hallsFirst", fn := fun _ => fun
  | [d1, d2, d3] => { results := [.lit (.bool true)], args := [d1, d2, d3] }
  | _ => none }
def hallsFirstRow : OpenClaim := { program := "ytdiklmfaehmmjaa", sum := "9d9c64e4b5ba0bc959aad34e0315e625db2b7c6bcf19b7332a60be48203b4b5e", func := "salesroom/salesroomlaw09.HallsFirst", spec := "hallsFirst", unfollowed := true, recurses := true, apart := false }
def HallsFirstSaid : Prop := hallsFirstRow.holds Try.pinned (OpenSpec.ofChange hallsFirstSpec)

/-- ITS FALSE NEIGHBOUR: 'it returns false'. Refute it at one input. -/
def hallsFirstWrong : ChangeSpec := { name := "hallsFirst", fn := fun _ => fun
  | [d1, d2, d3] => { results := [.lit (.bool false)], args := [d1, d2, d3] }
  | _ => none }
def HallsFirstWrongFalsely : Prop := hallsFirstRow.holds Try.pinned (OpenSpec.ofChange hallsFirstWrong)

/-- 'salesroomlaw09.HallsMore': WHATEVER THE INPUT: true; the input reads as it did. -/
def hallsMoreSpec : ChangeSpec := { name := "hallsMore", fn := fun _ => fun
  | [d1, d2, d3] => { results := [.lit (.bool true)], args := [d1, d2, d3] }
  | _ => none }
def hallsMoreRow : OpenClaim := { program := "ytdiklmfaehmmjaa", sum := "9d9c64e4b5ba0bc959aad34e0315e625db2b7c6bcf19b7332a60be48203b4b5e", func := "salesroom/salesroomlaw09.HallsMore", spec := "hallsMore", unfollowed := true, recurses := true, apart := false }
def HallsMoreSaid : Prop := hallsMoreRow.holds Try.pinned (OpenSpec.ofChange hallsMoreSpec)

/-- ITS FALSE NEIGHBOUR: 'it returns false'. Refute it at one input. -/
def hallsMoreWrong : ChangeSpec := { name := "hallsMore", fn := fun _ => fun
  | [d1, d2, d3] => { results := [.lit (.bool false)], args := [d1, d2, d3] }
  | _ => none }
def HallsMoreWrongFalsely : Prop := hallsMoreRow.holds Try.pinned (OpenSpec.ofChange hallsMoreWrong)

/-- 'salesroomlaw09.HallsNamed': WHATEVER THE INPUT: true; the input reads as it did. -/
def hallsNamedSpec : ChangeSpec := { name := "hallsNamed", fn := fun _ => fun
  | [d1, d2] => { results := [.lit (.bool true)], args := [d1, d2] }
  | _ => none }
def hallsNamedRow : OpenClaim := { program := "ytdiklmfaehmmjaa", sum := "9d9c64e4b5ba0bc959aad34e0315e625db2b7c6bcf19b7332a60be48203b4b5e", func := "salesroom/salesroomlaw09.HallsNamed", spec := "hallsNamed", unfollowed := true, recurses := true, apart := false }
def HallsNamedSaid : Prop := hallsNamedRow.holds Try.pinned (OpenSpec.ofChange hallsNamedSpec)

/-- ITS FALSE NEIGHBOUR: 'it returns false'. Refute it at one input. -/
def hallsNamedWrong : ChangeSpec := { name := "hallsNamed", fn := fun _ => fun
  | [d1, d2] => { results := [.lit (.bool false)], args := [d1, d2] }
  | _ => none }
def HallsNamedWrongFalsely : Prop := hallsNamedRow.holds Try.pinned (OpenSpec.ofChange hallsNamedWrong)

/-- 'salesroomlaw09.HallsSame': WHATEVER THE INPUT: true; the input reads as it did. -/
def hallsSameSpec : ChangeSpec := { name := "hallsSame", fn := fun _ => fun
  | [d1, d2] => { results := [.lit (.bool true)], args := [d1, d2] }
  | _ => none }
def hallsSameRow : OpenClaim := { program := "ytdiklmfaehmmjaa", sum := "9d9c64e4b5ba0bc959aad34e0315e625db2b7c6bcf19b7332a60be48203b4b5e", func := "salesroom/salesroomlaw09.HallsSame", spec := "hallsSame", unfollowed := true, recurses := true, apart := false }
def HallsSameSaid : Prop := hallsSameRow.holds Try.pinned (OpenSpec.ofChange hallsSameSpec)

/-- ITS FALSE NEIGHBOUR: 'it returns false'. Refute it at one input. -/
def hallsSameWrong : ChangeSpec := { name := "hallsSame", fn := fun _ => fun
  | [d1, d2] => { results := [.lit (.bool false)], args := [d1, d2] }
  | _ => none }
def HallsSameWrongFalsely : Prop := hallsSameRow.holds Try.pinned (OpenSpec.ofChange hallsSameWrong)

/- THE SECOND FORM. 'bulk': how many values and letters a reading holds, each counted each time it is reached (what is shared counts as often as it is met; a slice's spare places count too). A statement '..UptoSaid' is the law's where the arguments, and the package variables that the reading takes, are together of bulk at most 1048576: NARROWER than '..Said'. Prove '..Said' where nothing that the law and all that it calls make is longer than what came in: it says more and counts as full. Else prove '..UptoSaid'. A law counts once. -/
mutual
def uptoBulk {H : Type} : DataW H → Nat
  | .lit (.string bytes) => bytes.length + 1
  | .lit _ => 1
  | .nil => 1
  | .ptr d => uptoBulk d + 1
  | .slice elems spare => uptoBulkAll elems + uptoBulkAll spare + 1
  | .agg parts => uptoBulkAll parts + 1
  | .iface _ d => uptoBulk d + 1
  | .map entries => uptoBulkEntries entries + 1
  | .held _ => 1
def uptoBulkAll {H : Type} : List (DataW H) → Nat
  | [] => 0
  | d :: r => uptoBulk d + uptoBulkAll r
def uptoBulkEntries {H : Type} : List (Lit × DataW H) → Nat
  | [] => 0
  | x :: r => uptoBulkEntry x + uptoBulkEntries r
def uptoBulkEntry {H : Type} : Lit × DataW H → Nat
  | (.string bytes, d) => bytes.length + uptoBulk d + 1
  | (_, d) => uptoBulk d + 1
 end
def uptoSmall : (H : Type) → List (DataW H) → Bool := fun _ ds => decide (uptoBulkAll ds ≤ 1048576)
def OpenSpec.upto (s : _root_.Go.ChangeSpec) : _root_.Go.OpenSpec := { _root_.Go.OpenSpec.ofChange s with cond := some uptoSmall }

/-- 'salesroomlaw09.HallsAll', WHERE WHAT IT READS IS OF BULK AT MOST 1048576: true; the input reads as it did. -/
def hallsAllUptoRow : OpenClaim := { program := "ytdiklmfaehmmjaa", sum := "9d9c64e4b5ba0bc959aad34e0315e625db2b7c6bcf19b7332a60be48203b4b5e", func := "salesroom/salesroomlaw09.HallsAll", spec := "hallsAll", unfollowed := true, recurses := true, apart := false, narrowed := true }
def HallsAllUptoSaid : Prop := hallsAllUptoRow.holds Try.pinned (OpenSpec.upto hallsAllSpec)

/-- 'salesroomlaw09.HallsPart', WHERE WHAT IT READS IS OF BULK AT MOST 1048576: true; the input reads as it did. -/
def hallsPartUptoRow : OpenClaim := { program := "ytdiklmfaehmmjaa", sum := "9d9c64e4b5ba0bc959aad34e0315e625db2b7c6bcf19b7332a60be48203b4b5e", func := "salesroom/salesroomlaw09.HallsPart", spec := "hallsPart", unfollowed := true, recurses := true, apart := false, narrowed := true }
def HallsPartUptoSaid : Prop := hallsPartUptoRow.holds Try.pinned (OpenSpec.upto hallsPartSpec)

/-- 'salesroomlaw09.HallsFirst', WHERE WHAT IT READS IS OF BULK AT MOST 1048576: true; the input reads as it did. -/
def hallsFirstUptoRow : OpenClaim := { program := "ytdiklmfaehmmjaa", sum := "9d9c64e4b5ba0bc959aad34e0315e625db2b7c6bcf19b7332a60be48203b4b5e", func := "salesroom/salesroomlaw09.HallsFirst", spec := "hallsFirst", unfollowed := true, recurses := true, apart := false, narrowed := true }
def HallsFirstUptoSaid : Prop := hallsFirstUptoRow.holds Try.pinned (OpenSpec.upto hallsFirstSpec)

/-- 'salesroomlaw09.HallsMore', WHERE WHAT IT READS IS OF BULK AT MOST 1048576: true; the input reads as it did. -/
def hallsMoreUptoRow : OpenClaim := { program := "ytdiklmfaehmmjaa", sum := "9d9c64e4b5ba0bc959aad34e0315e625db2b7c6bcf19b7332a60be48203b4b5e", func := "salesroom/salesroomlaw09.HallsMore", spec := "hallsMore", unfollowed := true, recurses := true, apart := false, narrowed := true }
def HallsMoreUptoSaid : Prop := hallsMoreUptoRow.holds Try.pinned (OpenSpec.upto hallsMoreSpec)

/-- 'salesroomlaw09.HallsNamed', WHERE WHAT IT READS IS OF BULK AT MOST 1048576: true; the input reads as it did. -/
def hallsNamedUptoRow : OpenClaim := { program := "ytdiklmfaehmmjaa", sum := "9d9c64e4b5ba0bc959aad34e0315e625db2b7c6bcf19b7332a60be48203b4b5e", func := "salesroom/salesroomlaw09.HallsNamed", spec := "hallsNamed", unfollowed := true, recurses := true, apart := false, narrowed := true }
def HallsNamedUptoSaid : Prop := hallsNamedUptoRow.holds Try.pinned (OpenSpec.upto hallsNamedSpec)

/-- 'salesroomlaw09.HallsSame', WHERE WHAT IT READS IS OF BULK AT MOST 1048576: true; the input reads as it did. -/
def hallsSameUptoRow : OpenClaim := { program := "ytdiklmfaehmmjaa", sum := "9d9c64e4b5ba0bc959aad34e0315e625db2b7c6bcf19b7332a60be48203b4b5e", func := "salesroom/salesroomlaw09.HallsSame", spec := "hallsSame", unfollowed := true, recurses := true, apart := false, narrowed := true }
def HallsSameUptoSaid : Prop := hallsSameUptoRow.holds Try.pinned (OpenSpec.upto hallsSameSpec)

end Rows
end Go.Proofs.Ytdiklmfaehmmjaa
