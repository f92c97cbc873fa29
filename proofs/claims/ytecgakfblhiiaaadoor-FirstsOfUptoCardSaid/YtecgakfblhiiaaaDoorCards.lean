/-
  DERIVED. GIVEN WITH THE SEED: THE CARDS: each row of YtecgakfblhiiaaaDoorRows.lean that lists a variable, with what it lists TIED to the program's text (the seventh form; the later family's looks); each row that meets fmt, with fmt's text TOLD by the authors' own Lean function (tested against real Go, not proved from fmt's source: count such statements apart). THE CARD IS WHAT COUNTS. Prove the row's statement (the work); the ties are given (YtecgakfblhiiaaaDoorTie.lean); close each card by the builder's one call (the guide's Derived/Test/ToyasCard.lean, 'card_holds'). Laid BY PROGRAM, IN A SANDBOX (cutbox-door.mjs). By AI agents, Wed Nov 11 2026. No macro, syntax, notation, axiom, sorry.
-/
import Derived.Test.YtecgakfblhiiaaaDoorRows
import GoSem.ClaimSeven
namespace Go.Proofs.YtecgakfblhiiaaaDoor
namespace Rows

/-- THE TIED CARD OF 'salesroomlaw11.FirstsOf'. -/
def firstsOfCard : Claim7 := { stood := { row := firstsOfRow, standIns := [], harness := (true, "b0ced46685e0655fe48192372a0e99f04008b8776b40ab5f0b219992e802fa8d"), looks := false }, kinds := [], alts := [], laidByText := true, laidKinds := [.data, .data, .data], laidTests := true, laidLooks := .later }
def FirstsOfCardSaid : Prop := Claim7.holds Tryd.pinned (.plain (OpenSpec.ofChange firstsOfSpec)) firstsOfCard

/-- THE SECOND FORM's CARD OF 'salesroomlaw11.FirstsOf'. -/
def firstsOfUptoCard : Claim7 := { stood := { row := firstsOfUptoRow, standIns := [], harness := (true, "b0ced46685e0655fe48192372a0e99f04008b8776b40ab5f0b219992e802fa8d"), looks := false }, kinds := [], alts := [], laidByText := true, laidKinds := [.data, .data, .data], laidTests := true, laidLooks := .later }
def FirstsOfUptoCardSaid : Prop := Claim7.holds Tryd.pinned (.plain (OpenSpec.upto firstsOfSpec)) firstsOfUptoCard
end Rows
end Go.Proofs.YtecgakfblhiiaaaDoor
