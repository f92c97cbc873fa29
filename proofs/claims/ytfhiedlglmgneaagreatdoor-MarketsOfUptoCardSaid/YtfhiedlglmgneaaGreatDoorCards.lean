/-
  DERIVED. GIVEN WITH THE SEED: THE CARDS: each row of YtfhiedlglmgneaaGreatDoorRows.lean that lists a variable, with what it lists TIED to the program's text (the seventh form; the later family's looks); each row that meets fmt, with fmt's text TOLD by the authors' own Lean function (tested against real Go, not proved from fmt's source: count such statements apart). THE CARD IS WHAT COUNTS. Prove the row's statement (the work); the ties are given (YtfhiedlglmgneaaGreatDoorTie.lean); close each card by the builder's one call (the guide's Derived/Test/ToyasCard.lean, 'card_holds'). Laid BY PROGRAM, IN A SANDBOX (cutbox-door.mjs). By AI agents, Wed Nov 11 2026. No macro, syntax, notation, axiom, sorry.
-/
import Derived.Test.YtfhiedlglmgneaaGreatDoorRows
import GoSem.ClaimSeven
namespace Go.Proofs.YtfhiedlglmgneaaGreatDoor
namespace Rows

/-- THE TIED CARD OF 'salesroomlaw05.MarketsOf'. -/
def marketsOfCard : Claim7 := { stood := { row := marketsOfRow, standIns := [], harness := (true, "3d21b2475f48c5ff164e4c13f16e4ccf4197f1308d9dd8d85cbcf3e63cec78d2"), looks := false }, kinds := [], alts := [], laidByText := true, laidKinds := [.data, .data, .data], laidTests := true, laidLooks := .later }
def MarketsOfCardSaid : Prop := Claim7.holds Tryz.pinned (.plain (OpenSpec.ofChange marketsOfSpec)) marketsOfCard

/-- THE SECOND FORM's CARD OF 'salesroomlaw05.MarketsOf'. -/
def marketsOfUptoCard : Claim7 := { stood := { row := marketsOfUptoRow, standIns := [], harness := (true, "3d21b2475f48c5ff164e4c13f16e4ccf4197f1308d9dd8d85cbcf3e63cec78d2"), looks := false }, kinds := [], alts := [], laidByText := true, laidKinds := [.data, .data, .data], laidTests := true, laidLooks := .later }
def MarketsOfUptoCardSaid : Prop := Claim7.holds Tryz.pinned (.plain (OpenSpec.upto marketsOfSpec)) marketsOfUptoCard
end Rows
end Go.Proofs.YtfhiedlglmgneaaGreatDoor
