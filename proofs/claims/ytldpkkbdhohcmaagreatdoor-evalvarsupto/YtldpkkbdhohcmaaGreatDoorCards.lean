/-
  DERIVED. GIVEN WITH THE SEED: THE CARDS: each row of YtldpkkbdhohcmaaGreatDoorRows.lean that lists a variable, with what it lists TIED to the program's text (the seventh form; the later family's looks); each row that meets fmt, with fmt's text TOLD by the authors' own Lean function (tested against real Go, not proved from fmt's source: count such statements apart). THE CARD IS WHAT COUNTS. Prove the row's statement (the work); the ties are given (YtldpkkbdhohcmaaGreatDoorTie.lean); close each card by the builder's one call (the guide's Derived/Test/ToyasCard.lean, 'card_holds'). Laid BY PROGRAM, IN A SANDBOX (cutbox-door.mjs). By AI agents, Wed Nov 11 2026. No macro, syntax, notation, axiom, sorry.
-/
import Derived.Test.YtldpkkbdhohcmaaGreatDoorRows
import GoSem.ClaimSeven
namespace Go.Proofs.YtldpkkbdhohcmaaGreatDoor
namespace Rows

/-- THE TIED CARD OF 'cadencelaw08.EvalVars'. -/
def evalVarsCard : Claim7 := { stood := { row := evalVarsRow, standIns := [], harness := (true, "eccff8af04ad7d35e48be254000eb49b7cc9c5b50108ae9fd3af42f61d02a84e"), looks := true }, kinds := [], alts := [], laidByText := true, laidKinds := [.data, .data, .data, .data, .sentinel, .sentinel, .data, .pinned], laidTests := true, laidLooks := .later }
def EvalVarsCardSaid : Prop := Claim7.holds Tryz.pinned (.plain (OpenSpec.ofChange evalVarsSpec)) evalVarsCard

/-- THE SECOND FORM's CARD OF 'cadencelaw08.EvalVars'. -/
def evalVarsUptoCard : Claim7 := { stood := { row := evalVarsUptoRow, standIns := [], harness := (true, "eccff8af04ad7d35e48be254000eb49b7cc9c5b50108ae9fd3af42f61d02a84e"), looks := true }, kinds := [], alts := [], laidByText := true, laidKinds := [.data, .data, .data, .data, .sentinel, .sentinel, .data, .pinned], laidTests := true, laidLooks := .later }
def EvalVarsUptoCardSaid : Prop := Claim7.holds Tryz.pinned (.plain (OpenSpec.upto evalVarsSpec)) evalVarsUptoCard
end Rows
end Go.Proofs.YtldpkkbdhohcmaaGreatDoor
