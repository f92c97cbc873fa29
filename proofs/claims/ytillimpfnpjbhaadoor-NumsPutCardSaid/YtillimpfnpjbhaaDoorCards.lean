/-
  DERIVED. GIVEN WITH THE SEED: THE CARDS: each row of YtillimpfnpjbhaaDoorRows.lean that lists a variable, with what it lists TIED to the program's text (the seventh form; the later family's looks); each row that meets fmt, with fmt's text TOLD by the authors' own Lean function (tested against real Go, not proved from fmt's source: count such statements apart). THE CARD IS WHAT COUNTS. Prove the row's statement (the work); the ties are given (YtillimpfnpjbhaaDoorTie.lean); close each card by the builder's one call (the guide's Derived/Test/ToyasCard.lean, 'card_holds'). Laid BY PROGRAM, IN A SANDBOX (cutbox-door.mjs). By AI agents, Wed Nov 11 2026. No macro, syntax, notation, axiom, sorry.
-/
import Derived.Test.YtillimpfnpjbhaaDoorRows
import GoSem.ClaimSeven
namespace Go.Proofs.YtillimpfnpjbhaaDoor
namespace Rows

/-- THE TIED CARD OF 'salesroomlaw01.NumsPut'. -/
def numsPutCard : Claim7 := { stood := { row := numsPutRow, standIns := [], harness := (true, "1c1157fb768c88f7704845ffe1f1a9cbe8af1d2a3b403eb247b50eeab91b7771"), looks := false }, kinds := [], alts := [], laidByText := true, laidKinds := [.data, .data, .data], laidTests := true, laidLooks := .later }
def NumsPutCardSaid : Prop := Claim7.holds Tryd.pinned (.plain (OpenSpec.ofChange numsPutSpec)) numsPutCard

/-- THE TIED CARD OF 'salesroomlaw01.NumsGet'. -/
def numsGetCard : Claim7 := { stood := { row := numsGetRow, standIns := [], harness := (true, "1c1157fb768c88f7704845ffe1f1a9cbe8af1d2a3b403eb247b50eeab91b7771"), looks := false }, kinds := [], alts := [], laidByText := true, laidKinds := [.data, .data, .data], laidTests := true, laidLooks := .later }
def NumsGetCardSaid : Prop := Claim7.holds Tryd.pinned (.plain (OpenSpec.ofChange numsGetSpec)) numsGetCard

/-- THE SECOND FORM's CARD OF 'salesroomlaw01.NumsPut'. -/
def numsPutUptoCard : Claim7 := { stood := { row := numsPutUptoRow, standIns := [], harness := (true, "1c1157fb768c88f7704845ffe1f1a9cbe8af1d2a3b403eb247b50eeab91b7771"), looks := false }, kinds := [], alts := [], laidByText := true, laidKinds := [.data, .data, .data], laidTests := true, laidLooks := .later }
def NumsPutUptoCardSaid : Prop := Claim7.holds Tryd.pinned (.plain (OpenSpec.upto numsPutSpec)) numsPutUptoCard

/-- THE SECOND FORM's CARD OF 'salesroomlaw01.NumsGet'. -/
def numsGetUptoCard : Claim7 := { stood := { row := numsGetUptoRow, standIns := [], harness := (true, "1c1157fb768c88f7704845ffe1f1a9cbe8af1d2a3b403eb247b50eeab91b7771"), looks := false }, kinds := [], alts := [], laidByText := true, laidKinds := [.data, .data, .data], laidTests := true, laidLooks := .later }
def NumsGetUptoCardSaid : Prop := Claim7.holds Tryd.pinned (.plain (OpenSpec.upto numsGetSpec)) numsGetUptoCard
end Rows
end Go.Proofs.YtillimpfnpjbhaaDoor
