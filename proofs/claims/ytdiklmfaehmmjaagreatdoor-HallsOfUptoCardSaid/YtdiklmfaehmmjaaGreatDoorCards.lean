/-
  DERIVED. GIVEN WITH THE SEED: THE CARDS: each row of YtdiklmfaehmmjaaGreatDoorRows.lean that lists a variable, with what it lists TIED to the program's text (the seventh form; the later family's looks); each row that meets fmt, with fmt's text TOLD by the authors' own Lean function (tested against real Go, not proved from fmt's source: count such statements apart). THE CARD IS WHAT COUNTS. Prove the row's statement (the work); the ties are given (YtdiklmfaehmmjaaGreatDoorTie.lean); close each card by the builder's one call (the guide's Derived/Test/ToyasCard.lean, 'card_holds'). Laid BY PROGRAM, IN A SANDBOX (cutbox-door.mjs). By AI agents, Wed Nov 11 2026. No macro, syntax, notation, axiom, sorry.
-/
import Derived.Test.YtdiklmfaehmmjaaGreatDoorRows
import GoSem.ClaimSeven
namespace Go.Proofs.YtdiklmfaehmmjaaGreatDoor
namespace Rows

/-- THE TIED CARD OF 'salesroomlaw09.HallsOf'. -/
def hallsOfCard : Claim7 := { stood := { row := hallsOfRow, standIns := [], harness := (true, "5ef87f3789338d7cfd260e8becf4cd168112651c00de0f334288a8381f88827e"), looks := false }, kinds := [], alts := [], laidByText := true, laidKinds := [.data, .data, .data], laidTests := true, laidLooks := .later }
def HallsOfCardSaid : Prop := Claim7.holds Tryz.pinned (.plain (OpenSpec.ofChange hallsOfSpec)) hallsOfCard

/-- THE SECOND FORM's CARD OF 'salesroomlaw09.HallsOf'. -/
def hallsOfUptoCard : Claim7 := { stood := { row := hallsOfUptoRow, standIns := [], harness := (true, "5ef87f3789338d7cfd260e8becf4cd168112651c00de0f334288a8381f88827e"), looks := false }, kinds := [], alts := [], laidByText := true, laidKinds := [.data, .data, .data], laidTests := true, laidLooks := .later }
def HallsOfUptoCardSaid : Prop := Claim7.holds Tryz.pinned (.plain (OpenSpec.upto hallsOfSpec)) hallsOfUptoCard
end Rows
end Go.Proofs.YtdiklmfaehmmjaaGreatDoor
