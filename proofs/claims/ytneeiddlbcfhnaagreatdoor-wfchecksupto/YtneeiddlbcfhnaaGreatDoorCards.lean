/-
  DERIVED. GIVEN WITH THE SEED: THE CARDS: each row of YtneeiddlbcfhnaaGreatDoorRows.lean that lists a variable, with what it lists TIED to the program's text (the seventh form; the later family's looks); each row that meets fmt, with fmt's text TOLD by the authors' own Lean function (tested against real Go, not proved from fmt's source: count such statements apart). THE CARD IS WHAT COUNTS. Prove the row's statement (the work); the ties are given (YtneeiddlbcfhnaaGreatDoorTie.lean); close each card by the builder's one call (the guide's Derived/Test/ToyasCard.lean, 'card_holds'). Laid BY PROGRAM, IN A SANDBOX (cutbox-door.mjs). By AI agents, Wed Nov 11 2026. No macro, syntax, notation, axiom, sorry.
-/
import Derived.Test.YtneeiddlbcfhnaaGreatDoorRows
import GoSem.ClaimSeven
namespace Go.Proofs.YtneeiddlbcfhnaaGreatDoor
namespace Rows

/-- THE TIED CARD OF 'cadencelaw16.WfChecks'. -/
def wfChecksCard : Claim7 := { stood := { row := wfChecksRow, standIns := [], harness := (true, "1e1b29121f761d65565d9371ab6ac1b45e868e307b68db587a4ff424919f2b36"), looks := true }, kinds := [], alts := [], laidByText := true, laidKinds := [.data, .data], laidTests := true, laidLooks := .later }
def WfChecksCardSaid : Prop := Claim7.holds Tryz.pinned (.plain (OpenSpec.ofChange wfChecksSpec)) wfChecksCard

/-- THE SECOND FORM's CARD OF 'cadencelaw16.WfChecks'. -/
def wfChecksUptoCard : Claim7 := { stood := { row := wfChecksUptoRow, standIns := [], harness := (true, "1e1b29121f761d65565d9371ab6ac1b45e868e307b68db587a4ff424919f2b36"), looks := true }, kinds := [], alts := [], laidByText := true, laidKinds := [.data, .data], laidTests := true, laidLooks := .later }
def WfChecksUptoCardSaid : Prop := Claim7.holds Tryz.pinned (.plain (OpenSpec.upto wfChecksSpec)) wfChecksUptoCard
end Rows
end Go.Proofs.YtneeiddlbcfhnaaGreatDoor
