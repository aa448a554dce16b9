/-
  DERIVED. GIVEN WITH THE SEED: THE CARDS: each row of YtfljcdccepnidaaGreatDoorRows.lean that lists a variable, with what it lists TIED to the program's text (the seventh form; the later family's looks); each row that meets fmt, with fmt's text TOLD by the authors' own Lean function (tested against real Go, not proved from fmt's source: count such statements apart). THE CARD IS WHAT COUNTS. Prove the row's statement (the work); the ties are given (YtfljcdccepnidaaGreatDoorTie.lean); close each card by the builder's one call (the guide's Derived/Test/ToyasCard.lean, 'card_holds'). Laid BY PROGRAM, IN A SANDBOX (cutbox-door.mjs). By AI agents, Wed Nov 11 2026. No macro, syntax, notation, axiom, sorry.
-/
import Derived.Test.YtfljcdccepnidaaGreatDoorRows
import GoSem.ClaimSeven
namespace Go.Proofs.YtfljcdccepnidaaGreatDoor
namespace Rows

/-- THE TIED CARD OF 'cadencelaw16.WfCalled'. -/
def wfCalledCard : Claim7 := { stood := { row := wfCalledRow, standIns := [], harness := (true, "f6fbae1e6f29681f4baef0913bd390d375925c04f03a9eb13b39b7b04802541f"), looks := true }, kinds := [], alts := [], laidByText := true, laidKinds := [.data, .data], laidTests := true, laidLooks := .later }
def WfCalledCardSaid : Prop := Claim7.holds Tryz.pinned (.plain (OpenSpec.ofChange wfCalledSpec)) wfCalledCard

/-- THE SECOND FORM's CARD OF 'cadencelaw16.WfCalled'. -/
def wfCalledUptoCard : Claim7 := { stood := { row := wfCalledUptoRow, standIns := [], harness := (true, "f6fbae1e6f29681f4baef0913bd390d375925c04f03a9eb13b39b7b04802541f"), looks := true }, kinds := [], alts := [], laidByText := true, laidKinds := [.data, .data], laidTests := true, laidLooks := .later }
def WfCalledUptoCardSaid : Prop := Claim7.holds Tryz.pinned (.plain (OpenSpec.upto wfCalledSpec)) wfCalledUptoCard
end Rows
end Go.Proofs.YtfljcdccepnidaaGreatDoor
