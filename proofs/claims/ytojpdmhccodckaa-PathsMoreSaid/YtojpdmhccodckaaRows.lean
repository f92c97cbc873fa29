/-
  No cell of these rows narrows 'for every input' (looked for: loops, veiled, ifaces, maps, wideKeys, modest, calm, conditions, laid).
  DERIVED. THE GIVEN ROWS OF THIS SEAT. 6 by the template 'for every input the law returns true; each argument reads behind the call as it read before'; 0 by the template 'total and deterministic' (their statements: YtojpdmhccodckaaTotals.lean).
  GIVEN WITH THE SEED: the statements are not yours to turn. If you find one false, say at which input.
  Laid BY PROGRAM, IN A SANDBOX (cutbox-rows.mjs): the forced cells as the released guide's own fill.sh prints them over the translation 7c22afcc727619c7… (all of the seat's roots in one cut). By AI agents, Wed Nov 11 2026. No macro, syntax, notation, axiom, sorry.
-/
import Derived.Test.YtojpdmhccodckaaChecked
import GoSem.Claim
import GoSem.ClaimJoined
import GoSem.ClaimMapViews
import Derived.JoinedTies
import Derived.KernelRfl
namespace Go.Proofs.Ytojpdmhccodckaa
/- THE CELL 'sum', in the pinned program and in every row, IS THE sha256 OF THE DUMP (.gsa) THAT YtojpdmhccodckaaProg.lean LOADS. Nothing in Lean hashes anything: it is a label: what it is worth is what the hold of that sum in a sandbox is worth. -/
noncomputable def Try.pinned : Pinned := { name := "ytojpdmhccodckaa", sum := "7c22afcc727619c741677f6cbb7a84d7f7bdea011d2f96e5216bee0b32d7b2d8", checked := Try.checked }
namespace Rows
def none {H : Type} : Left H := { results := [], args := [] }

/-- 'salesroomlaw07.PathsMore': WHATEVER THE INPUT: true; the input reads as it did. -/
def pathsMoreSpec : ChangeSpec := { name := "pathsMore", fn := fun _ => fun
  | [d1, d2, d3] => { results := [.lit (.bool true)], args := [d1, d2, d3] }
  | _ => none }
def pathsMoreRow : OpenClaim := { program := "ytojpdmhccodckaa", sum := "7c22afcc727619c741677f6cbb7a84d7f7bdea011d2f96e5216bee0b32d7b2d8", func := "salesroom/salesroomlaw07.PathsMore", spec := "pathsMore", unfollowed := true, recurses := true, apart := false }
def PathsMoreSaid : Prop := pathsMoreRow.holds Try.pinned (OpenSpec.ofChange pathsMoreSpec)

/-- ITS FALSE NEIGHBOUR: 'it returns false'. Refute it at one input. -/
def pathsMoreWrong : ChangeSpec := { name := "pathsMore", fn := fun _ => fun
  | [d1, d2, d3] => { results := [.lit (.bool false)], args := [d1, d2, d3] }
  | _ => none }
def PathsMoreWrongFalsely : Prop := pathsMoreRow.holds Try.pinned (OpenSpec.ofChange pathsMoreWrong)

/-- 'salesroomlaw07.PathsNone': WHATEVER THE INPUT: true; the input reads as it did. -/
def pathsNoneSpec : ChangeSpec := { name := "pathsNone", fn := fun _ => fun
  | [d1, d2, d3] => { results := [.lit (.bool true)], args := [d1, d2, d3] }
  | _ => none }
def pathsNoneRow : OpenClaim := { program := "ytojpdmhccodckaa", sum := "7c22afcc727619c741677f6cbb7a84d7f7bdea011d2f96e5216bee0b32d7b2d8", func := "salesroom/salesroomlaw07.PathsNone", spec := "pathsNone", unfollowed := true, recurses := true, apart := false }
def PathsNoneSaid : Prop := pathsNoneRow.holds Try.pinned (OpenSpec.ofChange pathsNoneSpec)

/-- ITS FALSE NEIGHBOUR: 'it returns false'. Refute it at one input. -/
def pathsNoneWrong : ChangeSpec := { name := "pathsNone", fn := fun _ => fun
  | [d1, d2, d3] => { results := [.lit (.bool false)], args := [d1, d2, d3] }
  | _ => none }
def PathsNoneWrongFalsely : Prop := pathsNoneRow.holds Try.pinned (OpenSpec.ofChange pathsNoneWrong)

/-- 'salesroomlaw07.PathsReach': WHATEVER THE INPUT: true; the input reads as it did. -/
def pathsReachSpec : ChangeSpec := { name := "pathsReach", fn := fun _ => fun
  | [d1, d2, d3] => { results := [.lit (.bool true)], args := [d1, d2, d3] }
  | _ => none }
def pathsReachRow : OpenClaim := { program := "ytojpdmhccodckaa", sum := "7c22afcc727619c741677f6cbb7a84d7f7bdea011d2f96e5216bee0b32d7b2d8", func := "salesroom/salesroomlaw07.PathsReach", spec := "pathsReach", unfollowed := true, recurses := true, apart := false }
def PathsReachSaid : Prop := pathsReachRow.holds Try.pinned (OpenSpec.ofChange pathsReachSpec)

/-- ITS FALSE NEIGHBOUR: 'it returns false'. Refute it at one input. -/
def pathsReachWrong : ChangeSpec := { name := "pathsReach", fn := fun _ => fun
  | [d1, d2, d3] => { results := [.lit (.bool false)], args := [d1, d2, d3] }
  | _ => none }
def PathsReachWrongFalsely : Prop := pathsReachRow.holds Try.pinned (OpenSpec.ofChange pathsReachWrong)

/-- 'salesroomlaw07.PathsOthers': WHATEVER THE INPUT: true; the input reads as it did. -/
def pathsOthersSpec : ChangeSpec := { name := "pathsOthers", fn := fun _ => fun
  | [d1, d2, d3] => { results := [.lit (.bool true)], args := [d1, d2, d3] }
  | _ => none }
def pathsOthersRow : OpenClaim := { program := "ytojpdmhccodckaa", sum := "7c22afcc727619c741677f6cbb7a84d7f7bdea011d2f96e5216bee0b32d7b2d8", func := "salesroom/salesroomlaw07.PathsOthers", spec := "pathsOthers", unfollowed := true, recurses := true, apart := false }
def PathsOthersSaid : Prop := pathsOthersRow.holds Try.pinned (OpenSpec.ofChange pathsOthersSpec)

/-- ITS FALSE NEIGHBOUR: 'it returns false'. Refute it at one input. -/
def pathsOthersWrong : ChangeSpec := { name := "pathsOthers", fn := fun _ => fun
  | [d1, d2, d3] => { results := [.lit (.bool false)], args := [d1, d2, d3] }
  | _ => none }
def PathsOthersWrongFalsely : Prop := pathsOthersRow.holds Try.pinned (OpenSpec.ofChange pathsOthersWrong)

/-- 'salesroomlaw07.PathsNear': WHATEVER THE INPUT: true; the input reads as it did. -/
def pathsNearSpec : ChangeSpec := { name := "pathsNear", fn := fun _ => fun
  | [d1, d2, d3] => { results := [.lit (.bool true)], args := [d1, d2, d3] }
  | _ => none }
def pathsNearRow : OpenClaim := { program := "ytojpdmhccodckaa", sum := "7c22afcc727619c741677f6cbb7a84d7f7bdea011d2f96e5216bee0b32d7b2d8", func := "salesroom/salesroomlaw07.PathsNear", spec := "pathsNear", unfollowed := true, recurses := true, apart := false }
def PathsNearSaid : Prop := pathsNearRow.holds Try.pinned (OpenSpec.ofChange pathsNearSpec)

/-- ITS FALSE NEIGHBOUR: 'it returns false'. Refute it at one input. -/
def pathsNearWrong : ChangeSpec := { name := "pathsNear", fn := fun _ => fun
  | [d1, d2, d3] => { results := [.lit (.bool false)], args := [d1, d2, d3] }
  | _ => none }
def PathsNearWrongFalsely : Prop := pathsNearRow.holds Try.pinned (OpenSpec.ofChange pathsNearWrong)

/-- 'salesroomlaw07.PathsAgain': WHATEVER THE INPUT: true; the input reads as it did. -/
def pathsAgainSpec : ChangeSpec := { name := "pathsAgain", fn := fun _ => fun
  | [d1, d2, d3] => { results := [.lit (.bool true)], args := [d1, d2, d3] }
  | _ => none }
def pathsAgainRow : OpenClaim := { program := "ytojpdmhccodckaa", sum := "7c22afcc727619c741677f6cbb7a84d7f7bdea011d2f96e5216bee0b32d7b2d8", func := "salesroom/salesroomlaw07.PathsAgain", spec := "pathsAgain", unfollowed := true, recurses := true, apart := false }
def PathsAgainSaid : Prop := pathsAgainRow.holds Try.pinned (OpenSpec.ofChange pathsAgainSpec)

/-- ITS FALSE NEIGHBOUR: 'it returns false'. Refute it at one input. -/
def pathsAgainWrong : ChangeSpec := { name := "pathsAgain", fn := fun _ => fun
  | [d1, d2, d3] => { results := [.lit (.bool false)], args := [d1, d2, d3] }
  | _ => none }
def PathsAgainWrongFalsely : Prop := pathsAgainRow.holds Try.pinned (OpenSpec.ofChange pathsAgainWrong)

/- THE SECOND FORM. 'bulk': how many values and letters a reading holds, each counted each time it is reached (what is shared counts as often as it is met; a slice's spare places count too). A statement '..UptoSaid' is the law's where the arguments, and the package variables that the reading takes, are together of bulk at most 1048576: NARROWER than '..Said'. Prove '..Said' where nothing that the law and all that it calls make is longer than what came in: it says more and counts as full. Else prove '..UptoSaid'. A law counts once. -/
mutual
def uptoBulk {H : Type} : DataW H → Nat
  | .lit (.string bytes) => bytes.length + 1
  | .lit _ => 1
  | .nil => 1
  | .ptr d => uptoBulk d + 1
  | .slice elems spare => uptoBulkAll elems + uptoBulkAll spare + 1
  | .agg parts => uptoBulkAll parts + 1
  | .iface _ d => uptoBulk d + 1
  | .map entries => uptoBulkEntries entries + 1
  | .held _ => 1
def uptoBulkAll {H : Type} : List (DataW H) → Nat
  | [] => 0
  | d :: r => uptoBulk d + uptoBulkAll r
def uptoBulkEntries {H : Type} : List (Lit × DataW H) → Nat
  | [] => 0
  | x :: r => uptoBulkEntry x + uptoBulkEntries r
def uptoBulkEntry {H : Type} : Lit × DataW H → Nat
  | (.string bytes, d) => bytes.length + uptoBulk d + 1
  | (_, d) => uptoBulk d + 1
 end
def uptoSmall : (H : Type) → List (DataW H) → Bool := fun _ ds => decide (uptoBulkAll ds ≤ 1048576)
def OpenSpec.upto (s : _root_.Go.ChangeSpec) : _root_.Go.OpenSpec := { _root_.Go.OpenSpec.ofChange s with cond := some uptoSmall }

/-- 'salesroomlaw07.PathsMore', WHERE WHAT IT READS IS OF BULK AT MOST 1048576: true; the input reads as it did. -/
def pathsMoreUptoRow : OpenClaim := { program := "ytojpdmhccodckaa", sum := "7c22afcc727619c741677f6cbb7a84d7f7bdea011d2f96e5216bee0b32d7b2d8", func := "salesroom/salesroomlaw07.PathsMore", spec := "pathsMore", unfollowed := true, recurses := true, apart := false, narrowed := true }
def PathsMoreUptoSaid : Prop := pathsMoreUptoRow.holds Try.pinned (OpenSpec.upto pathsMoreSpec)

/-- 'salesroomlaw07.PathsNone', WHERE WHAT IT READS IS OF BULK AT MOST 1048576: true; the input reads as it did. -/
def pathsNoneUptoRow : OpenClaim := { program := "ytojpdmhccodckaa", sum := "7c22afcc727619c741677f6cbb7a84d7f7bdea011d2f96e5216bee0b32d7b2d8", func := "salesroom/salesroomlaw07.PathsNone", spec := "pathsNone", unfollowed := true, recurses := true, apart := false, narrowed := true }
def PathsNoneUptoSaid : Prop := pathsNoneUptoRow.holds Try.pinned (OpenSpec.upto pathsNoneSpec)

/-- 'salesroomlaw07.PathsReach', WHERE WHAT IT READS IS OF BULK AT MOST 1048576: true; the input reads as it did. -/
def pathsReachUptoRow : OpenClaim := { program := "ytojpdmhccodckaa", sum := "7c22afcc727619c741677f6cbb7a84d7f7bdea011d2f96e5216bee0b32d7b2d8", func := "salesroom/salesroomlaw07.PathsReach", spec := "pathsReach", unfollowed := true, recurses := true, apart := false, narrowed := true }
def PathsReachUptoSaid : Prop := pathsReachUptoRow.holds Try.pinned (OpenSpec.upto pathsReachSpec)

/-- 'salesroomlaw07.PathsOthers', WHERE WHAT IT READS IS OF BULK AT MOST 1048576: true; the input reads as it did. -/
def pathsOthersUptoRow : OpenClaim := { program := "ytojpdmhccodckaa", sum := "7c22afcc727619c741677f6cbb7a84d7f7bdea011d2f96e5216bee0b32d7b2d8", func := "salesroom/salesroomlaw07.PathsOthers", spec := "pathsOthers", unfollowed := true, recurses := true, apart := false, narrowed := true }
def PathsOthersUptoSaid : Prop := pathsOthersUptoRow.holds Try.pinned (OpenSpec.upto pathsOthersSpec)

/-- 'salesroomlaw07.PathsNear', WHERE WHAT IT READS IS OF BULK AT MOST 1048576: true; the input reads as it did. -/
def pathsNearUptoRow : OpenClaim := { program := "ytojpdmhccodckaa", sum := "7c22afcc727619c741677f6cbb7a84d7f7bdea011d2f96e5216bee0b32d7b2d8", func := "salesroom/salesroomlaw07.PathsNear", spec := "pathsNear", unfollowed := true, recurses := true, apart := false, narrowed := true }
def PathsNearUptoSaid : Prop := pathsNearUptoRow.holds Try.pinned (OpenSpec.upto pathsNearSpec)

/-- 'salesroomlaw07.PathsAgain', WHERE WHAT IT READS IS OF BULK AT MOST 1048576: true; the input reads as it did. -/
def pathsAgainUptoRow : OpenClaim := { program := "ytojpdmhccodckaa", sum := "7c22afcc727619c741677f6cbb7a84d7f7bdea011d2f96e5216bee0b32d7b2d8", func := "salesroom/salesroomlaw07.PathsAgain", spec := "pathsAgain", unfollowed := true, recurses := true, apart := false, narrowed := true }
def PathsAgainUptoSaid : Prop := pathsAgainUptoRow.holds Try.pinned (OpenSpec.upto pathsAgainSpec)

end Rows
end Go.Proofs.Ytojpdmhccodckaa
