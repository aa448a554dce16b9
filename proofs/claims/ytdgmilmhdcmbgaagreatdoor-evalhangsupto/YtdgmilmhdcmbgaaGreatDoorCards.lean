/-
  DERIVED. GIVEN WITH THE SEED: THE CARDS: each row of YtdgmilmhdcmbgaaGreatDoorRows.lean that lists a variable, with what it lists TIED to the program's text (the seventh form; the later family's looks); each row that meets fmt, with fmt's text TOLD by the authors' own Lean function (tested against real Go, not proved from fmt's source: count such statements apart). THE CARD IS WHAT COUNTS. Prove the row's statement (the work); the ties are given (YtdgmilmhdcmbgaaGreatDoorTie.lean); close each card by the builder's one call (the guide's Derived/Test/ToyasCard.lean, 'card_holds'). Laid BY PROGRAM, IN A SANDBOX (cutbox-door.mjs). By AI agents, Wed Nov 11 2026. No macro, syntax, notation, axiom, sorry.
-/
import Derived.Test.YtdgmilmhdcmbgaaGreatDoorRows
import GoSem.ClaimSeven
namespace Go.Proofs.YtdgmilmhdcmbgaaGreatDoor
namespace Rows

/-- THE TIED CARD OF 'cadencelaw08.EvalSizes'. -/
def evalSizesCard : Claim7 := { stood := { row := evalSizesRow, standIns := [], harness := (true, "974dd47b3c4d99094a07f7f9e5c786847dffbbc89904092bfd114d8b743c06ee"), looks := true }, kinds := [], alts := [], laidByText := true, laidKinds := [.data, .data, .data, .data, .sentinel, .sentinel, .data, .pinned], laidTests := true, laidLooks := .later }
def EvalSizesCardSaid : Prop := Claim7.holds Tryz.pinned (.plain (OpenSpec.ofChange evalSizesSpec)) evalSizesCard

/-- THE TIED CARD OF 'cadencelaw08.EvalHangs'. -/
def evalHangsCard : Claim7 := { stood := { row := evalHangsRow, standIns := [], harness := (true, "974dd47b3c4d99094a07f7f9e5c786847dffbbc89904092bfd114d8b743c06ee"), looks := true }, kinds := [], alts := [], laidByText := true, laidKinds := [.data, .data, .data, .data, .sentinel, .sentinel, .data, .pinned], laidTests := true, laidLooks := .later }
def EvalHangsCardSaid : Prop := Claim7.holds Tryz.pinned (.plain (OpenSpec.ofChange evalHangsSpec)) evalHangsCard

/-- THE SECOND FORM's CARD OF 'cadencelaw08.EvalSizes'. -/
def evalSizesUptoCard : Claim7 := { stood := { row := evalSizesUptoRow, standIns := [], harness := (true, "974dd47b3c4d99094a07f7f9e5c786847dffbbc89904092bfd114d8b743c06ee"), looks := true }, kinds := [], alts := [], laidByText := true, laidKinds := [.data, .data, .data, .data, .sentinel, .sentinel, .data, .pinned], laidTests := true, laidLooks := .later }
def EvalSizesUptoCardSaid : Prop := Claim7.holds Tryz.pinned (.plain (OpenSpec.upto evalSizesSpec)) evalSizesUptoCard

/-- THE SECOND FORM's CARD OF 'cadencelaw08.EvalHangs'. -/
def evalHangsUptoCard : Claim7 := { stood := { row := evalHangsUptoRow, standIns := [], harness := (true, "974dd47b3c4d99094a07f7f9e5c786847dffbbc89904092bfd114d8b743c06ee"), looks := true }, kinds := [], alts := [], laidByText := true, laidKinds := [.data, .data, .data, .data, .sentinel, .sentinel, .data, .pinned], laidTests := true, laidLooks := .later }
def EvalHangsUptoCardSaid : Prop := Claim7.holds Tryz.pinned (.plain (OpenSpec.upto evalHangsSpec)) evalHangsUptoCard
end Rows
end Go.Proofs.YtdgmilmhdcmbgaaGreatDoor
