/-
  DERIVED. GIVEN WITH THE SEED: THE CARDS: each row of YteejfmkcdiejlaaDoorRows.lean that lists a variable, with what it lists TIED to the program's text (the seventh form; the later family's looks); each row that meets fmt, with fmt's text TOLD by the authors' own Lean function (tested against real Go, not proved from fmt's source: count such statements apart). THE CARD IS WHAT COUNTS. Prove the row's statement (the work); the ties are given (YteejfmkcdiejlaaDoorTie.lean); close each card by the builder's one call (the guide's Derived/Test/ToyasCard.lean, 'card_holds'). Laid BY PROGRAM, IN A SANDBOX (cutbox-door.mjs). By AI agents, Wed Nov 11 2026. No macro, syntax, notation, axiom, sorry.
-/
import Derived.Test.YteejfmkcdiejlaaDoorRows
import GoSem.ClaimSeven
namespace Go.Proofs.YteejfmkcdiejlaaDoor
namespace Rows

/-- THE TIED CARD OF 'cadencelaw02.CnfPrints'. -/
def cnfPrintsCard : Claim7 := { stood := { row := cnfPrintsRow, standIns := [], harness := (true, "164ffe2cc09f7f8758bd37cf7c742f68884f383168d4ab4db1d7a95ddabc99d9"), looks := false }, kinds := [], alts := [], laidByText := true, laidKinds := [.data, .data, .data, .data], laidTests := true, laidLooks := .later }
def CnfPrintsCardSaid : Prop := Claim7.holds Tryd.pinned (.plain (OpenSpec.ofChange cnfPrintsSpec)) cnfPrintsCard

/-- THE SECOND FORM's CARD OF 'cadencelaw02.CnfPrints'. -/
def cnfPrintsUptoCard : Claim7 := { stood := { row := cnfPrintsUptoRow, standIns := [], harness := (true, "164ffe2cc09f7f8758bd37cf7c742f68884f383168d4ab4db1d7a95ddabc99d9"), looks := false }, kinds := [], alts := [], laidByText := true, laidKinds := [.data, .data, .data, .data], laidTests := true, laidLooks := .later }
def CnfPrintsUptoCardSaid : Prop := Claim7.holds Tryd.pinned (.plain (OpenSpec.upto cnfPrintsSpec)) cnfPrintsUptoCard
end Rows
end Go.Proofs.YteejfmkcdiejlaaDoor
