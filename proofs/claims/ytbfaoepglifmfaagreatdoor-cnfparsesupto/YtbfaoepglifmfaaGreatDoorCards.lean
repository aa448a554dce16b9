/-
  DERIVED. GIVEN WITH THE SEED: THE CARDS: each row of YtbfaoepglifmfaaGreatDoorRows.lean that lists a variable, with what it lists TIED to the program's text (the seventh form; the later family's looks); each row that meets fmt, with fmt's text TOLD by the authors' own Lean function (tested against real Go, not proved from fmt's source: count such statements apart). THE CARD IS WHAT COUNTS. Prove the row's statement (the work); the ties are given (YtbfaoepglifmfaaGreatDoorTie.lean); close each card by the builder's one call (the guide's Derived/Test/ToyasCard.lean, 'card_holds'). Laid BY PROGRAM, IN A SANDBOX (cutbox-door.mjs). By AI agents, Wed Nov 11 2026. No macro, syntax, notation, axiom, sorry.
-/
import Derived.Test.YtbfaoepglifmfaaGreatDoorRows
import GoSem.ClaimSeven
namespace Go.Proofs.YtbfaoepglifmfaaGreatDoor
namespace Rows

/-- THE TIED CARD OF 'cadencelaw02.CnfParses'. -/
def cnfParsesCard : Claim7 := { stood := { row := cnfParsesRow, standIns := [], harness := (true, "dd0d00dad668a4be138cb486d7a8cc1de00a542272a40a7d5ca15fad1fe6ffe2"), looks := true }, kinds := [], alts := [], laidByText := true, laidKinds := [.data, .data, .data, .sentinel, .sentinel, .data], laidTests := true, laidLooks := .later }
def CnfParsesCardSaid : Prop := Claim7.holds Tryz.pinned (.plain (OpenSpec.ofChange cnfParsesSpec)) cnfParsesCard

/-- THE SECOND FORM's CARD OF 'cadencelaw02.CnfParses'. -/
def cnfParsesUptoCard : Claim7 := { stood := { row := cnfParsesUptoRow, standIns := [], harness := (true, "dd0d00dad668a4be138cb486d7a8cc1de00a542272a40a7d5ca15fad1fe6ffe2"), looks := true }, kinds := [], alts := [], laidByText := true, laidKinds := [.data, .data, .data, .sentinel, .sentinel, .data], laidTests := true, laidLooks := .later }
def CnfParsesUptoCardSaid : Prop := Claim7.holds Tryz.pinned (.plain (OpenSpec.upto cnfParsesSpec)) cnfParsesUptoCard
end Rows
end Go.Proofs.YtbfaoepglifmfaaGreatDoor
