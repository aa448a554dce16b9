/-
  DERIVED. GIVEN WITH THE SEED: THE CARDS: each row of YtfagfippponekaaGreatDoorRows.lean that lists a variable, with what it lists TIED to the program's text (the seventh form; the later family's looks); each row that meets fmt, with fmt's text TOLD by the authors' own Lean function (tested against real Go, not proved from fmt's source: count such statements apart). THE CARD IS WHAT COUNTS. Prove the row's statement (the work); the ties are given (YtfagfippponekaaGreatDoorTie.lean); close each card by the builder's one call (the guide's Derived/Test/ToyasCard.lean, 'card_holds'). Laid BY PROGRAM, IN A SANDBOX (cutbox-door.mjs). By AI agents, Wed Nov 11 2026. No macro, syntax, notation, axiom, sorry.
-/
import Derived.Test.YtfagfippponekaaGreatDoorRows
import GoSem.ClaimSeven
namespace Go.Proofs.YtfagfippponekaaGreatDoor
namespace Rows

/-- THE TIED CARD OF 'cadencelaw16.WfKinds'. -/
def wfKindsCard : Claim7 := { stood := { row := wfKindsRow, standIns := [], harness := (true, "cd30e0f808b3af5ea57635b5702ef5a1f58c851c289b45ccd1cf323f720067c2"), looks := true }, kinds := [], alts := [], laidByText := true, laidKinds := [.data, .data], laidTests := true, laidLooks := .later }
def WfKindsCardSaid : Prop := Claim7.holds Tryz.pinned (.plain (OpenSpec.ofChange wfKindsSpec)) wfKindsCard

/-- THE SECOND FORM's CARD OF 'cadencelaw16.WfKinds'. -/
def wfKindsUptoCard : Claim7 := { stood := { row := wfKindsUptoRow, standIns := [], harness := (true, "cd30e0f808b3af5ea57635b5702ef5a1f58c851c289b45ccd1cf323f720067c2"), looks := true }, kinds := [], alts := [], laidByText := true, laidKinds := [.data, .data], laidTests := true, laidLooks := .later }
def WfKindsUptoCardSaid : Prop := Claim7.holds Tryz.pinned (.plain (OpenSpec.upto wfKindsSpec)) wfKindsUptoCard
end Rows
end Go.Proofs.YtfagfippponekaaGreatDoor
