/-
  DERIVED. GIVEN WITH THE SEED: THE CARDS: each row of YtoogldllcgbmdaaDoorRows.lean that lists a variable, with what it lists TIED to the program's text (the seventh form; the later family's looks); each row that meets fmt, with fmt's text TOLD by the authors' own Lean function (tested against real Go, not proved from fmt's source: count such statements apart). THE CARD IS WHAT COUNTS. Prove the row's statement (the work); the ties are given (YtoogldllcgbmdaaDoorTie.lean); close each card by the builder's one call (the guide's Derived/Test/ToyasCard.lean, 'card_holds'). Laid BY PROGRAM, IN A SANDBOX (cutbox-door.mjs). By AI agents, Wed Nov 11 2026. No macro, syntax, notation, axiom, sorry.
-/
import Derived.Test.YtoogldllcgbmdaaDoorRows
import GoSem.ClaimSeven
namespace Go.Proofs.YtoogldllcgbmdaaDoor
namespace Rows

/-- THE TIED CARD OF 'salesroomlaw05.MarketsGet'. -/
def marketsGetCard : Claim7 := { stood := { row := marketsGetRow, standIns := [], harness := (true, "3c5cf032de975c4bd35354a241fad42ad0e709e3afea33b748bb384fa33d6b8a"), looks := false }, kinds := [], alts := [], laidByText := true, laidKinds := [.data, .data, .data], laidTests := true, laidLooks := .later }
def MarketsGetCardSaid : Prop := Claim7.holds Tryd.pinned (.plain (OpenSpec.ofChange marketsGetSpec)) marketsGetCard

/-- THE SECOND FORM's CARD OF 'salesroomlaw05.MarketsGet'. -/
def marketsGetUptoCard : Claim7 := { stood := { row := marketsGetUptoRow, standIns := [], harness := (true, "3c5cf032de975c4bd35354a241fad42ad0e709e3afea33b748bb384fa33d6b8a"), looks := false }, kinds := [], alts := [], laidByText := true, laidKinds := [.data, .data, .data], laidTests := true, laidLooks := .later }
def MarketsGetUptoCardSaid : Prop := Claim7.holds Tryd.pinned (.plain (OpenSpec.upto marketsGetSpec)) marketsGetUptoCard
end Rows
end Go.Proofs.YtoogldllcgbmdaaDoor
