/-
  DERIVED. GIVEN WITH THE SEED: THE CARDS: each row of YtcmknjocmpdicaaDoorRows.lean that lists a variable, with what it lists TIED to the program's text (the seventh form; the later family's looks); each row that meets fmt, with fmt's text TOLD by the authors' own Lean function (tested against real Go, not proved from fmt's source: count such statements apart). THE CARD IS WHAT COUNTS. Prove the row's statement (the work); the ties are given (YtcmknjocmpdicaaDoorTie.lean); close each card by the builder's one call (the guide's Derived/Test/ToyasCard.lean, 'card_holds'). Laid BY PROGRAM, IN A SANDBOX (cutbox-door.mjs). By AI agents, Wed Nov 11 2026. No macro, syntax, notation, axiom, sorry.
-/
import Derived.Test.YtcmknjocmpdicaaDoorRows
import GoSem.ClaimSeven
namespace Go.Proofs.YtcmknjocmpdicaaDoor
namespace Rows

/-- THE TIED CARD OF 'cadencelaw15.LangForms'. -/
def langFormsCard : Claim7 := { stood := { row := langFormsRow, standIns := [], harness := (true, "05bc8a5d244f966a4cdb99a83ab72fb3cbaf0d8663af931126158df9e652223b"), looks := false }, kinds := [], alts := [], laidByText := true, laidKinds := [.data, .data], laidTests := true, laidLooks := .later }
def LangFormsCardSaid : Prop := Claim7.holds Tryd.pinned (.plain (OpenSpec.ofChange langFormsSpec)) langFormsCard

/-- THE SECOND FORM's CARD OF 'cadencelaw15.LangForms'. -/
def langFormsUptoCard : Claim7 := { stood := { row := langFormsUptoRow, standIns := [], harness := (true, "05bc8a5d244f966a4cdb99a83ab72fb3cbaf0d8663af931126158df9e652223b"), looks := false }, kinds := [], alts := [], laidByText := true, laidKinds := [.data, .data], laidTests := true, laidLooks := .later }
def LangFormsUptoCardSaid : Prop := Claim7.holds Tryd.pinned (.plain (OpenSpec.upto langFormsSpec)) langFormsUptoCard
end Rows
end Go.Proofs.YtcmknjocmpdicaaDoor
