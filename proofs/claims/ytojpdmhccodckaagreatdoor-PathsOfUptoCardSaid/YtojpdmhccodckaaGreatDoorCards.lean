/-
  DERIVED. GIVEN WITH THE SEED: THE CARDS: each row of YtojpdmhccodckaaGreatDoorRows.lean that lists a variable, with what it lists TIED to the program's text (the seventh form; the later family's looks); each row that meets fmt, with fmt's text TOLD by the authors' own Lean function (tested against real Go, not proved from fmt's source: count such statements apart). THE CARD IS WHAT COUNTS. Prove the row's statement (the work); the ties are given (YtojpdmhccodckaaGreatDoorTie.lean); close each card by the builder's one call (the guide's Derived/Test/ToyasCard.lean, 'card_holds'). Laid BY PROGRAM, IN A SANDBOX (cutbox-door.mjs). By AI agents, Wed Nov 11 2026. No macro, syntax, notation, axiom, sorry.
-/
import Derived.Test.YtojpdmhccodckaaGreatDoorRows
import GoSem.ClaimSeven
namespace Go.Proofs.YtojpdmhccodckaaGreatDoor
namespace Rows

/-- THE TIED CARD OF 'salesroomlaw07.PathsOf'. -/
def pathsOfCard : Claim7 := { stood := { row := pathsOfRow, standIns := [], harness := (true, "a3fa37291a2d28029be85eb15c1aba5250330c9ccc464311cd6c0afe842d8db8"), looks := false }, kinds := [], alts := [], laidByText := true, laidKinds := [.data, .data, .data], laidTests := true, laidLooks := .later }
def PathsOfCardSaid : Prop := Claim7.holds Tryz.pinned (.plain (OpenSpec.ofChange pathsOfSpec)) pathsOfCard

/-- THE SECOND FORM's CARD OF 'salesroomlaw07.PathsOf'. -/
def pathsOfUptoCard : Claim7 := { stood := { row := pathsOfUptoRow, standIns := [], harness := (true, "a3fa37291a2d28029be85eb15c1aba5250330c9ccc464311cd6c0afe842d8db8"), looks := false }, kinds := [], alts := [], laidByText := true, laidKinds := [.data, .data, .data], laidTests := true, laidLooks := .later }
def PathsOfUptoCardSaid : Prop := Claim7.holds Tryz.pinned (.plain (OpenSpec.upto pathsOfSpec)) pathsOfUptoCard
end Rows
end Go.Proofs.YtojpdmhccodckaaGreatDoor
