/-
  DERIVED. GIVEN WITH THE SEED: THE CARDS: each row of YtlkafgdddlgpcaaDoorRows.lean that lists a variable, with what it lists TIED to the program's text (the seventh form; the later family's looks); each row that meets fmt, with fmt's text TOLD by the authors' own Lean function (tested against real Go, not proved from fmt's source: count such statements apart). THE CARD IS WHAT COUNTS. Prove the row's statement (the work); the ties are given (YtlkafgdddlgpcaaDoorTie.lean); close each card by the builder's one call (the guide's Derived/Test/ToyasCard.lean, 'card_holds'). Laid BY PROGRAM, IN A SANDBOX (cutbox-door.mjs). By AI agents, Wed Nov 11 2026. No macro, syntax, notation, axiom, sorry.
-/
import Derived.Test.YtlkafgdddlgpcaaDoorRows
import GoSem.ClaimSeven
namespace Go.Proofs.YtlkafgdddlgpcaaDoor
namespace Rows

/-- THE TIED CARD OF 'cadencelaw02.CnfPrints'. -/
def cnfPrintsCard : Claim7 := { stood := { row := cnfPrintsRow, standIns := [], harness := (true, "207e07d7128dccbaeab33734d2cb602197e5b14e7616f7310e6fa9eccaab09bc"), looks := false }, kinds := [], alts := [], laidByText := true, laidKinds := [.data, .data, .data, .data], laidTests := true, laidLooks := .later }
def CnfPrintsCardSaid : Prop := Claim7.holds Tryd.pinned (.plain (OpenSpec.ofChange cnfPrintsSpec)) cnfPrintsCard

/-- THE TIED CARD OF 'cadencelaw02.CnfSame'. -/
def cnfSameCard : Claim7 := { stood := { row := cnfSameRow, standIns := [], harness := (true, "207e07d7128dccbaeab33734d2cb602197e5b14e7616f7310e6fa9eccaab09bc"), looks := false }, kinds := [], alts := [], laidByText := true, laidKinds := [.data, .data, .data, .data], laidTests := true, laidLooks := .later }
def CnfSameCardSaid : Prop := Claim7.holds Tryd.pinned (.plain (OpenSpec.ofChange cnfSameSpec)) cnfSameCard

/-- THE TIED CARD OF 'cadencelaw02.CnfFresh'. -/
def cnfFreshCard : Claim7 := { stood := { row := cnfFreshRow, standIns := [], harness := (true, "207e07d7128dccbaeab33734d2cb602197e5b14e7616f7310e6fa9eccaab09bc"), looks := false }, kinds := [], alts := [], laidByText := true, laidKinds := [.data, .data, .data, .data], laidTests := true, laidLooks := .later }
def CnfFreshCardSaid : Prop := Claim7.holds Tryd.pinned (.plain (OpenSpec.ofChange cnfFreshSpec)) cnfFreshCard

/-- THE TIED CARD OF 'cadencelaw02.CnfCounts'. -/
def cnfCountsCard : Claim7 := { stood := { row := cnfCountsRow, standIns := [], harness := (true, "207e07d7128dccbaeab33734d2cb602197e5b14e7616f7310e6fa9eccaab09bc"), looks := false }, kinds := [], alts := [], laidByText := true, laidKinds := [.data, .data, .data, .data], laidTests := true, laidLooks := .later }
def CnfCountsCardSaid : Prop := Claim7.holds Tryd.pinned (.plain (OpenSpec.ofChange cnfCountsSpec)) cnfCountsCard

/-- THE TIED CARD OF 'cadencelaw02.CnfSplits'. -/
def cnfSplitsCard : Claim7 := { stood := { row := cnfSplitsRow, standIns := [], harness := (true, "207e07d7128dccbaeab33734d2cb602197e5b14e7616f7310e6fa9eccaab09bc"), looks := false }, kinds := [], alts := [], laidByText := true, laidKinds := [.data, .data, .data, .data], laidTests := true, laidLooks := .later }
def CnfSplitsCardSaid : Prop := Claim7.holds Tryd.pinned (.plain (OpenSpec.ofChange cnfSplitsSpec)) cnfSplitsCard

/-- THE SECOND FORM's CARD OF 'cadencelaw02.CnfPrints'. -/
def cnfPrintsUptoCard : Claim7 := { stood := { row := cnfPrintsUptoRow, standIns := [], harness := (true, "207e07d7128dccbaeab33734d2cb602197e5b14e7616f7310e6fa9eccaab09bc"), looks := false }, kinds := [], alts := [], laidByText := true, laidKinds := [.data, .data, .data, .data], laidTests := true, laidLooks := .later }
def CnfPrintsUptoCardSaid : Prop := Claim7.holds Tryd.pinned (.plain (OpenSpec.upto cnfPrintsSpec)) cnfPrintsUptoCard

/-- THE SECOND FORM's CARD OF 'cadencelaw02.CnfSame'. -/
def cnfSameUptoCard : Claim7 := { stood := { row := cnfSameUptoRow, standIns := [], harness := (true, "207e07d7128dccbaeab33734d2cb602197e5b14e7616f7310e6fa9eccaab09bc"), looks := false }, kinds := [], alts := [], laidByText := true, laidKinds := [.data, .data, .data, .data], laidTests := true, laidLooks := .later }
def CnfSameUptoCardSaid : Prop := Claim7.holds Tryd.pinned (.plain (OpenSpec.upto cnfSameSpec)) cnfSameUptoCard

/-- THE SECOND FORM's CARD OF 'cadencelaw02.CnfFresh'. -/
def cnfFreshUptoCard : Claim7 := { stood := { row := cnfFreshUptoRow, standIns := [], harness := (true, "207e07d7128dccbaeab33734d2cb602197e5b14e7616f7310e6fa9eccaab09bc"), looks := false }, kinds := [], alts := [], laidByText := true, laidKinds := [.data, .data, .data, .data], laidTests := true, laidLooks := .later }
def CnfFreshUptoCardSaid : Prop := Claim7.holds Tryd.pinned (.plain (OpenSpec.upto cnfFreshSpec)) cnfFreshUptoCard

/-- THE SECOND FORM's CARD OF 'cadencelaw02.CnfCounts'. -/
def cnfCountsUptoCard : Claim7 := { stood := { row := cnfCountsUptoRow, standIns := [], harness := (true, "207e07d7128dccbaeab33734d2cb602197e5b14e7616f7310e6fa9eccaab09bc"), looks := false }, kinds := [], alts := [], laidByText := true, laidKinds := [.data, .data, .data, .data], laidTests := true, laidLooks := .later }
def CnfCountsUptoCardSaid : Prop := Claim7.holds Tryd.pinned (.plain (OpenSpec.upto cnfCountsSpec)) cnfCountsUptoCard

/-- THE SECOND FORM's CARD OF 'cadencelaw02.CnfSplits'. -/
def cnfSplitsUptoCard : Claim7 := { stood := { row := cnfSplitsUptoRow, standIns := [], harness := (true, "207e07d7128dccbaeab33734d2cb602197e5b14e7616f7310e6fa9eccaab09bc"), looks := false }, kinds := [], alts := [], laidByText := true, laidKinds := [.data, .data, .data, .data], laidTests := true, laidLooks := .later }
def CnfSplitsUptoCardSaid : Prop := Claim7.holds Tryd.pinned (.plain (OpenSpec.upto cnfSplitsSpec)) cnfSplitsUptoCard
end Rows
end Go.Proofs.YtlkafgdddlgpcaaDoor
