/-
  DERIVED. GIVEN WITH THE SEED: THE CARDS: each row of YtdckoaljcklmhaaGreatDoorRows.lean that lists a variable, with what it lists TIED to the program's text (the seventh form; the later family's looks); each row that meets fmt, with fmt's text TOLD by the authors' own Lean function (tested against real Go, not proved from fmt's source: count such statements apart). THE CARD IS WHAT COUNTS. Prove the row's statement (the work); the ties are given (YtdckoaljcklmhaaGreatDoorTie.lean); close each card by the builder's one call (the guide's Derived/Test/ToyasCard.lean, 'card_holds'). Laid BY PROGRAM, IN A SANDBOX (cutbox-door.mjs). By AI agents, Wed Nov 11 2026. No macro, syntax, notation, axiom, sorry.
-/
import Derived.Test.YtdckoaljcklmhaaGreatDoorRows
import GoSem.ClaimSeven
namespace Go.Proofs.YtdckoaljcklmhaaGreatDoor
namespace Rows

/-- THE TIED CARD OF 'salesroomlaw13.RisesOf'. -/
def risesOfCard : Claim7 := { stood := { row := risesOfRow, standIns := [], harness := (true, "f1f72557b10d15fb67ad177193c9bdd096cf68fe99e1d1c7b1fad9dd794e1ae9"), looks := false }, kinds := [], alts := [], laidByText := true, laidKinds := [.data, .data, .data], laidTests := true, laidLooks := .later }
def RisesOfCardSaid : Prop := Claim7.holds Tryz.pinned (.plain (OpenSpec.ofChange risesOfSpec)) risesOfCard

/-- THE SECOND FORM's CARD OF 'salesroomlaw13.RisesOf'. -/
def risesOfUptoCard : Claim7 := { stood := { row := risesOfUptoRow, standIns := [], harness := (true, "f1f72557b10d15fb67ad177193c9bdd096cf68fe99e1d1c7b1fad9dd794e1ae9"), looks := false }, kinds := [], alts := [], laidByText := true, laidKinds := [.data, .data, .data], laidTests := true, laidLooks := .later }
def RisesOfUptoCardSaid : Prop := Claim7.holds Tryz.pinned (.plain (OpenSpec.upto risesOfSpec)) risesOfUptoCard
end Rows
end Go.Proofs.YtdckoaljcklmhaaGreatDoor
