/-
  DERIVED. GIVEN WITH THE SEED: THE CARDS: each row of YtkbfoahfehfjnaaGreatDoorRows.lean that lists a variable, with what it lists TIED to the program's text (the seventh form; the later family's looks); each row that meets fmt, with fmt's text TOLD by the authors' own Lean function (tested against real Go, not proved from fmt's source: count such statements apart). THE CARD IS WHAT COUNTS. Prove the row's statement (the work); the ties are given (YtkbfoahfehfjnaaGreatDoorTie.lean); close each card by the builder's one call (the guide's Derived/Test/ToyasCard.lean, 'card_holds'). Laid BY PROGRAM, IN A SANDBOX (cutbox-door.mjs). By AI agents, Wed Nov 11 2026. No macro, syntax, notation, axiom, sorry.
-/
import Derived.Test.YtkbfoahfehfjnaaGreatDoorRows
import GoSem.ClaimSeven
namespace Go.Proofs.YtkbfoahfehfjnaaGreatDoor
namespace Rows

/-- THE TIED CARD OF 'cadencelaw07.TermLoads'. -/
def termLoadsCard : Claim7 := { stood := { row := termLoadsRow, standIns := [], harness := (true, "289aab0d05e4de987ac1c055b37099fa3c6563726c26d2475b1bd7519873c9da"), looks := true }, kinds := [], alts := [], laidByText := true, laidKinds := [.data, .data, .data, .data, .sentinel, .sentinel, .data, .pinned], laidTests := true, laidLooks := .later }
def TermLoadsCardSaid : Prop := Claim7.holds Tryz.pinned (.plain (OpenSpec.ofChange termLoadsSpec)) termLoadsCard

/-- THE SECOND FORM's CARD OF 'cadencelaw07.TermLoads'. -/
def termLoadsUptoCard : Claim7 := { stood := { row := termLoadsUptoRow, standIns := [], harness := (true, "289aab0d05e4de987ac1c055b37099fa3c6563726c26d2475b1bd7519873c9da"), looks := true }, kinds := [], alts := [], laidByText := true, laidKinds := [.data, .data, .data, .data, .sentinel, .sentinel, .data, .pinned], laidTests := true, laidLooks := .later }
def TermLoadsUptoCardSaid : Prop := Claim7.holds Tryz.pinned (.plain (OpenSpec.upto termLoadsSpec)) termLoadsUptoCard
end Rows
end Go.Proofs.YtkbfoahfehfjnaaGreatDoor
