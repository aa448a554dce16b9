/-
  DERIVED. GIVEN WITH THE SEED: THE CARDS: each row of YtokpjegiinggdaaDoorRows.lean that lists a variable, with what it lists TIED to the program's text (the seventh form; the later family's looks); each row that meets fmt, with fmt's text TOLD by the authors' own Lean function (tested against real Go, not proved from fmt's source: count such statements apart). THE CARD IS WHAT COUNTS. Prove the row's statement (the work); the ties are given (YtokpjegiinggdaaDoorTie.lean); close each card by the builder's one call (the guide's Derived/Test/ToyasCard.lean, 'card_holds'). Laid BY PROGRAM, IN A SANDBOX (cutbox-door.mjs). By AI agents, Wed Nov 11 2026. No macro, syntax, notation, axiom, sorry.
-/
import Derived.Test.YtokpjegiinggdaaDoorRows
import GoSem.ClaimSeven
namespace Go.Proofs.YtokpjegiinggdaaDoor
namespace Rows

/-- THE TIED CARD OF 'cadencelaw02.CnfPrints'. -/
def cnfPrintsCard : Claim7 := { stood := { row := cnfPrintsRow, standIns := [], harness := (true, "04539ed5edbe407211201c2fa91f57999a47c8f5d78d850a424687b4d8c7f449"), looks := false }, kinds := [], alts := [], laidByText := true, laidKinds := [.data, .data, .data, .data], laidTests := true, laidLooks := .later }
def CnfPrintsCardSaid : Prop := Claim7.holds Tryd.pinned (.plain (OpenSpec.ofChange cnfPrintsSpec)) cnfPrintsCard

/-- THE TIED CARD OF 'cadencelaw02.CnfProjects'. -/
def cnfProjectsCard : Claim7 := { stood := { row := cnfProjectsRow, standIns := [], harness := (true, "04539ed5edbe407211201c2fa91f57999a47c8f5d78d850a424687b4d8c7f449"), looks := false }, kinds := [], alts := [], laidByText := true, laidKinds := [.data, .data, .data, .data], laidTests := true, laidLooks := .later }
def CnfProjectsCardSaid : Prop := Claim7.holds Tryd.pinned (.plain (OpenSpec.ofChange cnfProjectsSpec)) cnfProjectsCard

/-- THE TIED CARD OF 'cadencelaw02.CnfFresh'. -/
def cnfFreshCard : Claim7 := { stood := { row := cnfFreshRow, standIns := [], harness := (true, "04539ed5edbe407211201c2fa91f57999a47c8f5d78d850a424687b4d8c7f449"), looks := false }, kinds := [], alts := [], laidByText := true, laidKinds := [.data, .data, .data, .data], laidTests := true, laidLooks := .later }
def CnfFreshCardSaid : Prop := Claim7.holds Tryd.pinned (.plain (OpenSpec.ofChange cnfFreshSpec)) cnfFreshCard

/-- THE SECOND FORM's CARD OF 'cadencelaw02.CnfPrints'. -/
def cnfPrintsUptoCard : Claim7 := { stood := { row := cnfPrintsUptoRow, standIns := [], harness := (true, "04539ed5edbe407211201c2fa91f57999a47c8f5d78d850a424687b4d8c7f449"), looks := false }, kinds := [], alts := [], laidByText := true, laidKinds := [.data, .data, .data, .data], laidTests := true, laidLooks := .later }
def CnfPrintsUptoCardSaid : Prop := Claim7.holds Tryd.pinned (.plain (OpenSpec.upto cnfPrintsSpec)) cnfPrintsUptoCard

/-- THE SECOND FORM's CARD OF 'cadencelaw02.CnfProjects'. -/
def cnfProjectsUptoCard : Claim7 := { stood := { row := cnfProjectsUptoRow, standIns := [], harness := (true, "04539ed5edbe407211201c2fa91f57999a47c8f5d78d850a424687b4d8c7f449"), looks := false }, kinds := [], alts := [], laidByText := true, laidKinds := [.data, .data, .data, .data], laidTests := true, laidLooks := .later }
def CnfProjectsUptoCardSaid : Prop := Claim7.holds Tryd.pinned (.plain (OpenSpec.upto cnfProjectsSpec)) cnfProjectsUptoCard

/-- THE SECOND FORM's CARD OF 'cadencelaw02.CnfFresh'. -/
def cnfFreshUptoCard : Claim7 := { stood := { row := cnfFreshUptoRow, standIns := [], harness := (true, "04539ed5edbe407211201c2fa91f57999a47c8f5d78d850a424687b4d8c7f449"), looks := false }, kinds := [], alts := [], laidByText := true, laidKinds := [.data, .data, .data, .data], laidTests := true, laidLooks := .later }
def CnfFreshUptoCardSaid : Prop := Claim7.holds Tryd.pinned (.plain (OpenSpec.upto cnfFreshSpec)) cnfFreshUptoCard
end Rows
end Go.Proofs.YtokpjegiinggdaaDoor
