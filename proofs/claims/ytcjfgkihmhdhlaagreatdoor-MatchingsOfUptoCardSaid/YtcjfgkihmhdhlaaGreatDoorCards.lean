/-
  DERIVED. GIVEN WITH THE SEED: THE CARDS: each row of YtcjfgkihmhdhlaaGreatDoorRows.lean that lists a variable, with what it lists TIED to the program's text (the seventh form; the later family's looks); each row that meets fmt, with fmt's text TOLD by the authors' own Lean function (tested against real Go, not proved from fmt's source: count such statements apart). THE CARD IS WHAT COUNTS. Prove the row's statement (the work); the ties are given (YtcjfgkihmhdhlaaGreatDoorTie.lean); close each card by the builder's one call (the guide's Derived/Test/ToyasCard.lean, 'card_holds'). Laid BY PROGRAM, IN A SANDBOX (cutbox-door.mjs). By AI agents, Wed Nov 11 2026. No macro, syntax, notation, axiom, sorry.
-/
import Derived.Test.YtcjfgkihmhdhlaaGreatDoorRows
import GoSem.ClaimSeven
namespace Go.Proofs.YtcjfgkihmhdhlaaGreatDoor
namespace Rows

/-- THE TIED CARD OF 'salesroomlaw08.MatchingsOf'. -/
def matchingsOfCard : Claim7 := { stood := { row := matchingsOfRow, standIns := [], harness := (true, "d6c3fbf6cb24e0e59b0c670674153810a518743aa7b5d8ccfc6776a70b8172d7"), looks := false }, kinds := [], alts := [], laidByText := true, laidKinds := [.data, .data, .data], laidTests := true, laidLooks := .later }
def MatchingsOfCardSaid : Prop := Claim7.holds Tryz.pinned (.plain (OpenSpec.ofChange matchingsOfSpec)) matchingsOfCard

/-- THE SECOND FORM's CARD OF 'salesroomlaw08.MatchingsOf'. -/
def matchingsOfUptoCard : Claim7 := { stood := { row := matchingsOfUptoRow, standIns := [], harness := (true, "d6c3fbf6cb24e0e59b0c670674153810a518743aa7b5d8ccfc6776a70b8172d7"), looks := false }, kinds := [], alts := [], laidByText := true, laidKinds := [.data, .data, .data], laidTests := true, laidLooks := .later }
def MatchingsOfUptoCardSaid : Prop := Claim7.holds Tryz.pinned (.plain (OpenSpec.upto matchingsOfSpec)) matchingsOfUptoCard
end Rows
end Go.Proofs.YtcjfgkihmhdhlaaGreatDoor
