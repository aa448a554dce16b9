/-
  DERIVED. GIVEN WITH THE SEED: THE CARDS: each row of YtopdbhkkmolllaaGreatDoorRows.lean that lists a variable, with what it lists TIED to the program's text (the seventh form; the later family's looks); each row that meets fmt, with fmt's text TOLD by the authors' own Lean function (tested against real Go, not proved from fmt's source: count such statements apart). THE CARD IS WHAT COUNTS. Prove the row's statement (the work); the ties are given (YtopdbhkkmolllaaGreatDoorTie.lean); close each card by the builder's one call (the guide's Derived/Test/ToyasCard.lean, 'card_holds'). Laid BY PROGRAM, IN A SANDBOX (cutbox-door.mjs). By AI agents, Wed Nov 11 2026. No macro, syntax, notation, axiom, sorry.
-/
import Derived.Test.YtopdbhkkmolllaaGreatDoorRows
import GoSem.ClaimSeven
namespace Go.Proofs.YtopdbhkkmolllaaGreatDoor
namespace Rows

/-- THE TIED CARD OF 'cadencelaw14.KnownLattice'. -/
def knownLatticeCard : Claim7 := { stood := { row := knownLatticeRow, standIns := [], harness := (true, "5866610e85ebe773f35b3d936e9ae88c09c4d3838af20b22e627011dab943b22"), looks := false }, kinds := [], alts := [], laidByText := true, laidKinds := [.data], laidTests := true, laidLooks := .later }
def KnownLatticeCardSaid : Prop := Claim7.holds Tryz.pinned (.plain (OpenSpec.ofChange knownLatticeSpec)) knownLatticeCard

/-- THE SECOND FORM's CARD OF 'cadencelaw14.KnownLattice'. -/
def knownLatticeUptoCard : Claim7 := { stood := { row := knownLatticeUptoRow, standIns := [], harness := (true, "5866610e85ebe773f35b3d936e9ae88c09c4d3838af20b22e627011dab943b22"), looks := false }, kinds := [], alts := [], laidByText := true, laidKinds := [.data], laidTests := true, laidLooks := .later }
def KnownLatticeUptoCardSaid : Prop := Claim7.holds Tryz.pinned (.plain (OpenSpec.upto knownLatticeSpec)) knownLatticeUptoCard
end Rows
end Go.Proofs.YtopdbhkkmolllaaGreatDoor
