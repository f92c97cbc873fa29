/-
  No cell of these rows narrows 'for every input' (looked for: loops, veiled, ifaces, maps, wideKeys, modest, calm, conditions, laid).
  DERIVED. THE GIVEN ROWS OF THIS SEAT. 6 by the template 'for every input the law returns true; each argument reads behind the call as it read before'; 0 by the template 'total and deterministic' (their statements: YtcjfgkihmhdhlaaTotals.lean).
  GIVEN WITH THE SEED: the statements are not yours to turn. If you find one false, say at which input.
  Laid BY PROGRAM, IN A SANDBOX (cutbox-rows.mjs): the forced cells as the released guide's own fill.sh prints them over the translation 3d564dcf9ca74b02… (all of the seat's roots in one cut). By AI agents, Wed Nov 11 2026. No macro, syntax, notation, axiom, sorry.
-/
import Derived.Test.YtcjfgkihmhdhlaaChecked
import GoSem.Claim
import GoSem.ClaimJoined
import GoSem.ClaimMapViews
import Derived.JoinedTies
import Derived.KernelRfl
namespace Go.Proofs.Ytcjfgkihmhdhlaa
/- THE CELL 'sum', in the pinned program and in every row, IS THE sha256 OF THE DUMP (.gsa) THAT YtcjfgkihmhdhlaaProg.lean LOADS. Nothing in Lean hashes anything: it is a label: what it is worth is what the hold of that sum in a sandbox is worth. -/
noncomputable def Try.pinned : Pinned := { name := "ytcjfgkihmhdhlaa", sum := "3d564dcf9ca74b0220d061bc42240b95464970b37420501de9a6ab6a35c51143", checked := Try.checked }
namespace Rows
def none {H : Type} : Left H := { results := [], args := [] }

/-- 'salesroomlaw08.MatchingsMost': WHATEVER THE INPUT: true; the input reads as it did. -/
def matchingsMostSpec : ChangeSpec := { name := "matchingsMost", fn := fun _ => fun
  | [d] => { results := [.lit (.bool true)], args := [d] }
  | _ => none }
def matchingsMostRow : OpenClaim := { program := "ytcjfgkihmhdhlaa", sum := "3d564dcf9ca74b0220d061bc42240b95464970b37420501de9a6ab6a35c51143", func := "salesroom/salesroomlaw08.MatchingsMost", spec := "matchingsMost", unfollowed := true, recurses := true, apart := false }
def MatchingsMostSaid : Prop := matchingsMostRow.holds Try.pinned (OpenSpec.ofChange matchingsMostSpec)

/-- ITS FALSE NEIGHBOUR: 'it returns false'. Refute it at one input. -/
def matchingsMostWrong : ChangeSpec := { name := "matchingsMost", fn := fun _ => fun
  | [d] => { results := [.lit (.bool false)], args := [d] }
  | _ => none }
def MatchingsMostWrongFalsely : Prop := matchingsMostRow.holds Try.pinned (OpenSpec.ofChange matchingsMostWrong)

/-- 'salesroomlaw08.MatchingsAll': WHATEVER THE INPUT: true; the input reads as it did. -/
def matchingsAllSpec : ChangeSpec := { name := "matchingsAll", fn := fun _ => fun
  | [d1, d2, d3] => { results := [.lit (.bool true)], args := [d1, d2, d3] }
  | _ => none }
def matchingsAllRow : OpenClaim := { program := "ytcjfgkihmhdhlaa", sum := "3d564dcf9ca74b0220d061bc42240b95464970b37420501de9a6ab6a35c51143", func := "salesroom/salesroomlaw08.MatchingsAll", spec := "matchingsAll", unfollowed := true, recurses := true, apart := false }
def MatchingsAllSaid : Prop := matchingsAllRow.holds Try.pinned (OpenSpec.ofChange matchingsAllSpec)

/-- ITS FALSE NEIGHBOUR: 'it returns false'. Refute it at one input. -/
def matchingsAllWrong : ChangeSpec := { name := "matchingsAll", fn := fun _ => fun
  | [d1, d2, d3] => { results := [.lit (.bool false)], args := [d1, d2, d3] }
  | _ => none }
def MatchingsAllWrongFalsely : Prop := matchingsAllRow.holds Try.pinned (OpenSpec.ofChange matchingsAllWrong)

/-- 'salesroomlaw08.MatchingsTurned': WHATEVER THE INPUT: true; the input reads as it did. -/
def matchingsTurnedSpec : ChangeSpec := { name := "matchingsTurned", fn := fun _ => fun
  | [d1, d2, d3] => { results := [.lit (.bool true)], args := [d1, d2, d3] }
  | _ => none }
def matchingsTurnedRow : OpenClaim := { program := "ytcjfgkihmhdhlaa", sum := "3d564dcf9ca74b0220d061bc42240b95464970b37420501de9a6ab6a35c51143", func := "salesroom/salesroomlaw08.MatchingsTurned", spec := "matchingsTurned", unfollowed := true, recurses := true, apart := false }
def MatchingsTurnedSaid : Prop := matchingsTurnedRow.holds Try.pinned (OpenSpec.ofChange matchingsTurnedSpec)

/-- ITS FALSE NEIGHBOUR: 'it returns false'. Refute it at one input. -/
def matchingsTurnedWrong : ChangeSpec := { name := "matchingsTurned", fn := fun _ => fun
  | [d1, d2, d3] => { results := [.lit (.bool false)], args := [d1, d2, d3] }
  | _ => none }
def MatchingsTurnedWrongFalsely : Prop := matchingsTurnedRow.holds Try.pinned (OpenSpec.ofChange matchingsTurnedWrong)

/-- 'salesroomlaw08.MatchingsAhead': WHATEVER THE INPUT: true; the input reads as it did. -/
def matchingsAheadSpec : ChangeSpec := { name := "matchingsAhead", fn := fun _ => fun
  | [d1, d2] => { results := [.lit (.bool true)], args := [d1, d2] }
  | _ => none }
def matchingsAheadRow : OpenClaim := { program := "ytcjfgkihmhdhlaa", sum := "3d564dcf9ca74b0220d061bc42240b95464970b37420501de9a6ab6a35c51143", func := "salesroom/salesroomlaw08.MatchingsAhead", spec := "matchingsAhead", unfollowed := true, recurses := true, apart := false }
def MatchingsAheadSaid : Prop := matchingsAheadRow.holds Try.pinned (OpenSpec.ofChange matchingsAheadSpec)

/-- ITS FALSE NEIGHBOUR: 'it returns false'. Refute it at one input. -/
def matchingsAheadWrong : ChangeSpec := { name := "matchingsAhead", fn := fun _ => fun
  | [d1, d2] => { results := [.lit (.bool false)], args := [d1, d2] }
  | _ => none }
def MatchingsAheadWrongFalsely : Prop := matchingsAheadRow.holds Try.pinned (OpenSpec.ofChange matchingsAheadWrong)

/-- 'salesroomlaw08.MatchingsLess': WHATEVER THE INPUT: true; the input reads as it did. -/
def matchingsLessSpec : ChangeSpec := { name := "matchingsLess", fn := fun _ => fun
  | [d1, d2, d3] => { results := [.lit (.bool true)], args := [d1, d2, d3] }
  | _ => none }
def matchingsLessRow : OpenClaim := { program := "ytcjfgkihmhdhlaa", sum := "3d564dcf9ca74b0220d061bc42240b95464970b37420501de9a6ab6a35c51143", func := "salesroom/salesroomlaw08.MatchingsLess", spec := "matchingsLess", unfollowed := true, recurses := true, apart := false }
def MatchingsLessSaid : Prop := matchingsLessRow.holds Try.pinned (OpenSpec.ofChange matchingsLessSpec)

/-- ITS FALSE NEIGHBOUR: 'it returns false'. Refute it at one input. -/
def matchingsLessWrong : ChangeSpec := { name := "matchingsLess", fn := fun _ => fun
  | [d1, d2, d3] => { results := [.lit (.bool false)], args := [d1, d2, d3] }
  | _ => none }
def MatchingsLessWrongFalsely : Prop := matchingsLessRow.holds Try.pinned (OpenSpec.ofChange matchingsLessWrong)

/-- 'salesroomlaw08.MatchingsApart': WHATEVER THE INPUT: true; the input reads as it did. -/
def matchingsApartSpec : ChangeSpec := { name := "matchingsApart", fn := fun _ => fun
  | [d1, d2, d3] => { results := [.lit (.bool true)], args := [d1, d2, d3] }
  | _ => none }
def matchingsApartRow : OpenClaim := { program := "ytcjfgkihmhdhlaa", sum := "3d564dcf9ca74b0220d061bc42240b95464970b37420501de9a6ab6a35c51143", func := "salesroom/salesroomlaw08.MatchingsApart", spec := "matchingsApart", unfollowed := true, recurses := true, apart := false }
def MatchingsApartSaid : Prop := matchingsApartRow.holds Try.pinned (OpenSpec.ofChange matchingsApartSpec)

/-- ITS FALSE NEIGHBOUR: 'it returns false'. Refute it at one input. -/
def matchingsApartWrong : ChangeSpec := { name := "matchingsApart", fn := fun _ => fun
  | [d1, d2, d3] => { results := [.lit (.bool false)], args := [d1, d2, d3] }
  | _ => none }
def MatchingsApartWrongFalsely : Prop := matchingsApartRow.holds Try.pinned (OpenSpec.ofChange matchingsApartWrong)

/- THE SECOND FORM. 'bulk': how many values and letters a reading holds, each counted each time it is reached (what is shared counts as often as it is met; a slice's spare places count too). A statement '..UptoSaid' is the law's where the arguments, and the package variables that the reading takes, are together of bulk at most 1048576: NARROWER than '..Said'. Prove '..Said' where nothing that the law and all that it calls make is longer than what came in: it says more and counts as full. Else prove '..UptoSaid'. A law counts once. -/
mutual
def uptoBulk {H : Type} : DataW H → Nat
  | .lit (.string bytes) => bytes.length + 1
  | .lit _ => 1
  | .nil => 1
  | .ptr d => uptoBulk d + 1
  | .slice elems spare => uptoBulkAll elems + uptoBulkAll spare + 1
  | .agg parts => uptoBulkAll parts + 1
  | .iface _ d => uptoBulk d + 1
  | .map entries => uptoBulkEntries entries + 1
  | .held _ => 1
def uptoBulkAll {H : Type} : List (DataW H) → Nat
  | [] => 0
  | d :: r => uptoBulk d + uptoBulkAll r
def uptoBulkEntries {H : Type} : List (Lit × DataW H) → Nat
  | [] => 0
  | x :: r => uptoBulkEntry x + uptoBulkEntries r
def uptoBulkEntry {H : Type} : Lit × DataW H → Nat
  | (.string bytes, d) => bytes.length + uptoBulk d + 1
  | (_, d) => uptoBulk d + 1
 end
def uptoSmall : (H : Type) → List (DataW H) → Bool := fun _ ds => decide (uptoBulkAll ds ≤ 1048576)
def OpenSpec.upto (s : _root_.Go.ChangeSpec) : _root_.Go.OpenSpec := { _root_.Go.OpenSpec.ofChange s with cond := some uptoSmall }

/-- 'salesroomlaw08.MatchingsMost', WHERE WHAT IT READS IS OF BULK AT MOST 1048576: true; the input reads as it did. -/
def matchingsMostUptoRow : OpenClaim := { program := "ytcjfgkihmhdhlaa", sum := "3d564dcf9ca74b0220d061bc42240b95464970b37420501de9a6ab6a35c51143", func := "salesroom/salesroomlaw08.MatchingsMost", spec := "matchingsMost", unfollowed := true, recurses := true, apart := false, narrowed := true }
def MatchingsMostUptoSaid : Prop := matchingsMostUptoRow.holds Try.pinned (OpenSpec.upto matchingsMostSpec)

/-- 'salesroomlaw08.MatchingsAll', WHERE WHAT IT READS IS OF BULK AT MOST 1048576: true; the input reads as it did. -/
def matchingsAllUptoRow : OpenClaim := { program := "ytcjfgkihmhdhlaa", sum := "3d564dcf9ca74b0220d061bc42240b95464970b37420501de9a6ab6a35c51143", func := "salesroom/salesroomlaw08.MatchingsAll", spec := "matchingsAll", unfollowed := true, recurses := true, apart := false, narrowed := true }
def MatchingsAllUptoSaid : Prop := matchingsAllUptoRow.holds Try.pinned (OpenSpec.upto matchingsAllSpec)

/-- 'salesroomlaw08.MatchingsTurned', WHERE WHAT IT READS IS OF BULK AT MOST 1048576: true; the input reads as it did. -/
def matchingsTurnedUptoRow : OpenClaim := { program := "ytcjfgkihmhdhlaa", sum := "3d564dcf9ca74b0220d061bc42240b95464970b37420501de9a6ab6a35c51143", func := "salesroom/salesroomlaw08.MatchingsTurned", spec := "matchingsTurned", unfollowed := true, recurses := true, apart := false, narrowed := true }
def MatchingsTurnedUptoSaid : Prop := matchingsTurnedUptoRow.holds Try.pinned (OpenSpec.upto matchingsTurnedSpec)

/-- 'salesroomlaw08.MatchingsAhead', WHERE WHAT IT READS IS OF BULK AT MOST 1048576: true; the input reads as it did. -/
def matchingsAheadUptoRow : OpenClaim := { program := "ytcjfgkihmhdhlaa", sum := "3d564dcf9ca74b0220d061bc42240b95464970b37420501de9a6ab6a35c51143", func := "salesroom/salesroomlaw08.MatchingsAhead", spec := "matchingsAhead", unfollowed := true, recurses := true, apart := false, narrowed := true }
def MatchingsAheadUptoSaid : Prop := matchingsAheadUptoRow.holds Try.pinned (OpenSpec.upto matchingsAheadSpec)

/-- 'salesroomlaw08.MatchingsLess', WHERE WHAT IT READS IS OF BULK AT MOST 1048576: true; the input reads as it did. -/
def matchingsLessUptoRow : OpenClaim := { program := "ytcjfgkihmhdhlaa", sum := "3d564dcf9ca74b0220d061bc42240b95464970b37420501de9a6ab6a35c51143", func := "salesroom/salesroomlaw08.MatchingsLess", spec := "matchingsLess", unfollowed := true, recurses := true, apart := false, narrowed := true }
def MatchingsLessUptoSaid : Prop := matchingsLessUptoRow.holds Try.pinned (OpenSpec.upto matchingsLessSpec)

/-- 'salesroomlaw08.MatchingsApart', WHERE WHAT IT READS IS OF BULK AT MOST 1048576: true; the input reads as it did. -/
def matchingsApartUptoRow : OpenClaim := { program := "ytcjfgkihmhdhlaa", sum := "3d564dcf9ca74b0220d061bc42240b95464970b37420501de9a6ab6a35c51143", func := "salesroom/salesroomlaw08.MatchingsApart", spec := "matchingsApart", unfollowed := true, recurses := true, apart := false, narrowed := true }
def MatchingsApartUptoSaid : Prop := matchingsApartUptoRow.holds Try.pinned (OpenSpec.upto matchingsApartSpec)

end Rows
end Go.Proofs.Ytcjfgkihmhdhlaa
