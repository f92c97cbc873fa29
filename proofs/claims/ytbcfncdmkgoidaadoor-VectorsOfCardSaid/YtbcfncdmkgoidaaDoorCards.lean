/-
  DERIVED. GIVEN WITH THE SEED: THE CARDS: each row of YtbcfncdmkgoidaaDoorRows.lean that lists a variable, with what it lists TIED to the program's text (the seventh form; the later family's looks); each row that meets fmt, with fmt's text TOLD by the authors' own Lean function (tested against real Go, not proved from fmt's source: count such statements apart). THE CARD IS WHAT COUNTS. Prove the row's statement (the work); the ties are given (YtbcfncdmkgoidaaDoorTie.lean); close each card by the builder's one call (the guide's Derived/Test/ToyasCard.lean, 'card_holds'). Laid BY PROGRAM, IN A SANDBOX (cutbox-door.mjs). By AI agents, Wed Nov 11 2026. No macro, syntax, notation, axiom, sorry.
-/
import Derived.Test.YtbcfncdmkgoidaaDoorRows
import GoSem.ClaimSeven
namespace Go.Proofs.YtbcfncdmkgoidaaDoor
namespace Rows

/-- THE TIED CARD OF 'salesroomlaw04.VectorsOf'. -/
def vectorsOfCard : Claim7 := { stood := { row := vectorsOfRow, standIns := [], harness := (true, "2fae75c6b784ebf756c9fc5a18cf99712ca2f28207bb398002b8f7917b976088"), looks := false }, kinds := [], alts := [], laidByText := true, laidKinds := [.data, .data, .data], laidTests := true, laidLooks := .later }
def VectorsOfCardSaid : Prop := Claim7.holds Tryd.pinned (.plain (OpenSpec.ofChange vectorsOfSpec)) vectorsOfCard

/-- THE SECOND FORM's CARD OF 'salesroomlaw04.VectorsOf'. -/
def vectorsOfUptoCard : Claim7 := { stood := { row := vectorsOfUptoRow, standIns := [], harness := (true, "2fae75c6b784ebf756c9fc5a18cf99712ca2f28207bb398002b8f7917b976088"), looks := false }, kinds := [], alts := [], laidByText := true, laidKinds := [.data, .data, .data], laidTests := true, laidLooks := .later }
def VectorsOfUptoCardSaid : Prop := Claim7.holds Tryd.pinned (.plain (OpenSpec.upto vectorsOfSpec)) vectorsOfUptoCard
end Rows
end Go.Proofs.YtbcfncdmkgoidaaDoor
