/-
  DERIVED. GIVEN WITH THE SEED: THE CARDS: each row of YtjjaajmjcdihoaaDoorRows.lean that lists a variable, with what it lists TIED to the program's text (the seventh form; the later family's looks); each row that meets fmt, with fmt's text TOLD by the authors' own Lean function (tested against real Go, not proved from fmt's source: count such statements apart). THE CARD IS WHAT COUNTS. Prove the row's statement (the work); the ties are given (YtjjaajmjcdihoaaDoorTie.lean); close each card by the builder's one call (the guide's Derived/Test/ToyasCard.lean, 'card_holds'). Laid BY PROGRAM, IN A SANDBOX (cutbox-door.mjs). By AI agents, Wed Nov 11 2026. No macro, syntax, notation, axiom, sorry.
-/
import Derived.Test.YtjjaajmjcdihoaaDoorRows
import GoSem.ClaimSeven
namespace Go.Proofs.YtjjaajmjcdihoaaDoor
namespace Rows

/-- THE TIED CARD OF 'salesroomlaw12.DemandsOf'. -/
def demandsOfCard : Claim7 := { stood := { row := demandsOfRow, standIns := [], harness := (true, "1016109294db5969c2afd6a3fcd6a0b72ac8ab08f61f4c8adf79b568b3a161f7"), looks := false }, kinds := [], alts := [], laidByText := true, laidKinds := [.data, .data, .data], laidTests := true, laidLooks := .later }
def DemandsOfCardSaid : Prop := Claim7.holds Tryd.pinned (.plain (OpenSpec.ofChange demandsOfSpec)) demandsOfCard

/-- THE SECOND FORM's CARD OF 'salesroomlaw12.DemandsOf'. -/
def demandsOfUptoCard : Claim7 := { stood := { row := demandsOfUptoRow, standIns := [], harness := (true, "1016109294db5969c2afd6a3fcd6a0b72ac8ab08f61f4c8adf79b568b3a161f7"), looks := false }, kinds := [], alts := [], laidByText := true, laidKinds := [.data, .data, .data], laidTests := true, laidLooks := .later }
def DemandsOfUptoCardSaid : Prop := Claim7.holds Tryd.pinned (.plain (OpenSpec.upto demandsOfSpec)) demandsOfUptoCard
end Rows
end Go.Proofs.YtjjaajmjcdihoaaDoor
