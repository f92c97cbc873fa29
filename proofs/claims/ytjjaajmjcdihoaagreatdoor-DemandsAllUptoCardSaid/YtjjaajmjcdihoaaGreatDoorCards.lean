/-
  DERIVED. GIVEN WITH THE SEED: THE CARDS: each row of YtjjaajmjcdihoaaGreatDoorRows.lean that lists a variable, with what it lists TIED to the program's text (the seventh form; the later family's looks); each row that meets fmt, with fmt's text TOLD by the authors' own Lean function (tested against real Go, not proved from fmt's source: count such statements apart). THE CARD IS WHAT COUNTS. Prove the row's statement (the work); the ties are given (YtjjaajmjcdihoaaGreatDoorTie.lean); close each card by the builder's one call (the guide's Derived/Test/ToyasCard.lean, 'card_holds'). Laid BY PROGRAM, IN A SANDBOX (cutbox-door.mjs). By AI agents, Wed Nov 11 2026. No macro, syntax, notation, axiom, sorry.
-/
import Derived.Test.YtjjaajmjcdihoaaGreatDoorRows
import GoSem.ClaimSeven
namespace Go.Proofs.YtjjaajmjcdihoaaGreatDoor
namespace Rows

/-- THE TIED CARD OF 'salesroomlaw12.DemandsAll'. -/
def demandsAllCard : Claim7 := { stood := { row := demandsAllRow, standIns := [], harness := (true, "85dcc297742bdaf5c25f61565e013afd8f355782c3b2c3559b808368326f70c1"), looks := false }, kinds := [], alts := [], laidByText := true, laidKinds := [.data, .data, .data], laidTests := true, laidLooks := .later }
def DemandsAllCardSaid : Prop := Claim7.holds Tryz.pinned (.plain (OpenSpec.ofChange demandsAllSpec)) demandsAllCard

/-- THE SECOND FORM's CARD OF 'salesroomlaw12.DemandsAll'. -/
def demandsAllUptoCard : Claim7 := { stood := { row := demandsAllUptoRow, standIns := [], harness := (true, "85dcc297742bdaf5c25f61565e013afd8f355782c3b2c3559b808368326f70c1"), looks := false }, kinds := [], alts := [], laidByText := true, laidKinds := [.data, .data, .data], laidTests := true, laidLooks := .later }
def DemandsAllUptoCardSaid : Prop := Claim7.holds Tryz.pinned (.plain (OpenSpec.upto demandsAllSpec)) demandsAllUptoCard
end Rows
end Go.Proofs.YtjjaajmjcdihoaaGreatDoor
