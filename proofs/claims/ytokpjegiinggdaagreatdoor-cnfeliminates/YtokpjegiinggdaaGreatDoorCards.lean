/-
  DERIVED. GIVEN WITH THE SEED: THE CARDS: each row of YtokpjegiinggdaaGreatDoorRows.lean that lists a variable, with what it lists TIED to the program's text (the seventh form; the later family's looks); each row that meets fmt, with fmt's text TOLD by the authors' own Lean function (tested against real Go, not proved from fmt's source: count such statements apart). THE CARD IS WHAT COUNTS. Prove the row's statement (the work); the ties are given (YtokpjegiinggdaaGreatDoorTie.lean); close each card by the builder's one call (the guide's Derived/Test/ToyasCard.lean, 'card_holds'). Laid BY PROGRAM, IN A SANDBOX (cutbox-door.mjs). By AI agents, Wed Nov 11 2026. No macro, syntax, notation, axiom, sorry.
-/
import Derived.Test.YtokpjegiinggdaaGreatDoorRows
import GoSem.ClaimSeven
namespace Go.Proofs.YtokpjegiinggdaaGreatDoor
namespace Rows

/-- THE TIED CARD OF 'cadencelaw02.CnfEliminates'. -/
def cnfEliminatesCard : Claim7 := { stood := { row := cnfEliminatesRow, standIns := [], harness := (true, "2ad00de4ef2dd257350b28989aa8ee50705f73910f44d17b9f8f400453388eb4"), looks := false }, kinds := [], alts := [], laidByText := true, laidKinds := [.data, .data, .data, .data], laidTests := true, laidLooks := .later }
def CnfEliminatesCardSaid : Prop := Claim7.holds Tryz.pinned (.plain (OpenSpec.ofChange cnfEliminatesSpec)) cnfEliminatesCard

/-- THE SECOND FORM's CARD OF 'cadencelaw02.CnfEliminates'. -/
def cnfEliminatesUptoCard : Claim7 := { stood := { row := cnfEliminatesUptoRow, standIns := [], harness := (true, "2ad00de4ef2dd257350b28989aa8ee50705f73910f44d17b9f8f400453388eb4"), looks := false }, kinds := [], alts := [], laidByText := true, laidKinds := [.data, .data, .data, .data], laidTests := true, laidLooks := .later }
def CnfEliminatesUptoCardSaid : Prop := Claim7.holds Tryz.pinned (.plain (OpenSpec.upto cnfEliminatesSpec)) cnfEliminatesUptoCard
end Rows
end Go.Proofs.YtokpjegiinggdaaGreatDoor
