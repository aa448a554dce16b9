/-
  DERIVED. GIVEN WITH THE SEED: THE CARDS: each row of YtklkeajakmhkgaaDoorRows.lean that lists a variable, with what it lists TIED to the program's text (the seventh form; the later family's looks); each row that meets fmt, with fmt's text TOLD by the authors' own Lean function (tested against real Go, not proved from fmt's source: count such statements apart). THE CARD IS WHAT COUNTS. Prove the row's statement (the work); the ties are given (YtklkeajakmhkgaaDoorTie.lean); close each card by the builder's one call (the guide's Derived/Test/ToyasCard.lean, 'card_holds'). Laid BY PROGRAM, IN A SANDBOX (cutbox-door.mjs). By AI agents, Wed Nov 11 2026. No macro, syntax, notation, axiom, sorry.
-/
import Derived.Test.YtklkeajakmhkgaaDoorRows
import GoSem.ClaimSeven
namespace Go.Proofs.YtklkeajakmhkgaaDoor
namespace Rows

/-- THE TIED CARD OF 'cadencelaw05.RupReads'. -/
def rupReadsCard : Claim7 := { stood := { row := rupReadsRow, standIns := [], harness := (true, "0b1ccab2348c802306d97de0e1a29b9739dd3c79ae941c802f035d639314e28e"), looks := true }, kinds := [], alts := [], laidByText := true, laidKinds := [.data, .data, .data, .sentinel, .sentinel], laidTests := true, laidLooks := .later }
def RupReadsCardSaid : Prop := Claim7.holds Tryd.pinned (.plain (OpenSpec.ofChange rupReadsSpec)) rupReadsCard

/-- THE SECOND FORM's CARD OF 'cadencelaw05.RupReads'. -/
def rupReadsUptoCard : Claim7 := { stood := { row := rupReadsUptoRow, standIns := [], harness := (true, "0b1ccab2348c802306d97de0e1a29b9739dd3c79ae941c802f035d639314e28e"), looks := true }, kinds := [], alts := [], laidByText := true, laidKinds := [.data, .data, .data, .sentinel, .sentinel], laidTests := true, laidLooks := .later }
def RupReadsUptoCardSaid : Prop := Claim7.holds Tryd.pinned (.plain (OpenSpec.upto rupReadsSpec)) rupReadsUptoCard
end Rows
end Go.Proofs.YtklkeajakmhkgaaDoor
