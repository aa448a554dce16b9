/-
  DERIVED. GIVEN WITH THE SEED: THE CARDS: each row of YtknhlpfclihpmaaDoorRows.lean that lists a variable, with what it lists TIED to the program's text (the seventh form; the later family's looks); each row that meets fmt, with fmt's text TOLD by the authors' own Lean function (tested against real Go, not proved from fmt's source: count such statements apart). THE CARD IS WHAT COUNTS. Prove the row's statement (the work); the ties are given (YtknhlpfclihpmaaDoorTie.lean); close each card by the builder's one call (the guide's Derived/Test/ToyasCard.lean, 'card_holds'). Laid BY PROGRAM, IN A SANDBOX (cutbox-door.mjs). By AI agents, Wed Nov 11 2026. No macro, syntax, notation, axiom, sorry.
-/
import Derived.Test.YtknhlpfclihpmaaDoorRows
import GoSem.ClaimSeven
namespace Go.Proofs.YtknhlpfclihpmaaDoor
namespace Rows

/-- THE TIED CARD OF 'cadencelaw10.AigNils'. -/
def aigNilsCard : Claim7 := { stood := { row := aigNilsRow, standIns := [], harness := (true, "3bbbf70c195265aae26723cd12e77d208a412b5a651b2cf48c489600b158083e"), looks := false }, kinds := [], alts := [], laidByText := true, laidKinds := [.data, .data, .data], laidTests := true, laidLooks := .later }
def AigNilsCardSaid : Prop := Claim7.holds Tryd.pinned (.plain (OpenSpec.ofChange aigNilsSpec)) aigNilsCard

/-- THE SECOND FORM's CARD OF 'cadencelaw10.AigNils'. -/
def aigNilsUptoCard : Claim7 := { stood := { row := aigNilsUptoRow, standIns := [], harness := (true, "3bbbf70c195265aae26723cd12e77d208a412b5a651b2cf48c489600b158083e"), looks := false }, kinds := [], alts := [], laidByText := true, laidKinds := [.data, .data, .data], laidTests := true, laidLooks := .later }
def AigNilsUptoCardSaid : Prop := Claim7.holds Tryd.pinned (.plain (OpenSpec.upto aigNilsSpec)) aigNilsUptoCard
end Rows
end Go.Proofs.YtknhlpfclihpmaaDoor
