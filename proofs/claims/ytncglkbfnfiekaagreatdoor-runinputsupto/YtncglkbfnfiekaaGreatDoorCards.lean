/-
  DERIVED. GIVEN WITH THE SEED: THE CARDS: each row of YtncglkbfnfiekaaGreatDoorRows.lean that lists a variable, with what it lists TIED to the program's text (the seventh form; the later family's looks); each row that meets fmt, with fmt's text TOLD by the authors' own Lean function (tested against real Go, not proved from fmt's source: count such statements apart). THE CARD IS WHAT COUNTS. Prove the row's statement (the work); the ties are given (YtncglkbfnfiekaaGreatDoorTie.lean); close each card by the builder's one call (the guide's Derived/Test/ToyasCard.lean, 'card_holds'). Laid BY PROGRAM, IN A SANDBOX (cutbox-door.mjs). By AI agents, Wed Nov 11 2026. No macro, syntax, notation, axiom, sorry.
-/
import Derived.Test.YtncglkbfnfiekaaGreatDoorRows
import GoSem.ClaimSeven
namespace Go.Proofs.YtncglkbfnfiekaaGreatDoor
namespace Rows

/-- THE TIED CARD OF 'cadencelaw17.RunInputs'. -/
def runInputsCard : Claim7 := { stood := { row := runInputsRow, standIns := [], harness := (true, "e6c76b13200ce32d8565a8ab5018bd1e6ae19d8c3084c1ab056e3e058a2b04a0"), looks := true }, kinds := [], alts := [], laidByText := true, laidKinds := [.data, .data], laidTests := true, laidLooks := .later }
def RunInputsCardSaid : Prop := Claim7.holds Tryz.pinned (.plain (OpenSpec.ofChange runInputsSpec)) runInputsCard

/-- THE TIED CARD OF 'cadencelaw17.RunOutputs'. -/
def runOutputsCard : Claim7 := { stood := { row := runOutputsRow, standIns := [], harness := (true, "e6c76b13200ce32d8565a8ab5018bd1e6ae19d8c3084c1ab056e3e058a2b04a0"), looks := true }, kinds := [], alts := [], laidByText := true, laidKinds := [.data, .data], laidTests := true, laidLooks := .later }
def RunOutputsCardSaid : Prop := Claim7.holds Tryz.pinned (.plain (OpenSpec.ofChange runOutputsSpec)) runOutputsCard

/-- THE SECOND FORM's CARD OF 'cadencelaw17.RunInputs'. -/
def runInputsUptoCard : Claim7 := { stood := { row := runInputsUptoRow, standIns := [], harness := (true, "e6c76b13200ce32d8565a8ab5018bd1e6ae19d8c3084c1ab056e3e058a2b04a0"), looks := true }, kinds := [], alts := [], laidByText := true, laidKinds := [.data, .data], laidTests := true, laidLooks := .later }
def RunInputsUptoCardSaid : Prop := Claim7.holds Tryz.pinned (.plain (OpenSpec.upto runInputsSpec)) runInputsUptoCard

/-- THE SECOND FORM's CARD OF 'cadencelaw17.RunOutputs'. -/
def runOutputsUptoCard : Claim7 := { stood := { row := runOutputsUptoRow, standIns := [], harness := (true, "e6c76b13200ce32d8565a8ab5018bd1e6ae19d8c3084c1ab056e3e058a2b04a0"), looks := true }, kinds := [], alts := [], laidByText := true, laidKinds := [.data, .data], laidTests := true, laidLooks := .later }
def RunOutputsUptoCardSaid : Prop := Claim7.holds Tryz.pinned (.plain (OpenSpec.upto runOutputsSpec)) runOutputsUptoCard
end Rows
end Go.Proofs.YtncglkbfnfiekaaGreatDoor
