/-
  DERIVED. GIVEN WITH THE SEED: THE CARDS: each row of YtkiihbkcccikiaaDoorRows.lean that lists a variable, with what it lists TIED to the program's text (the seventh form; the later family's looks); each row that meets fmt, with fmt's text TOLD by the authors' own Lean function (tested against real Go, not proved from fmt's source: count such statements apart). THE CARD IS WHAT COUNTS. Prove the row's statement (the work); the ties are given (YtkiihbkcccikiaaDoorTie.lean); close each card by the builder's one call (the guide's Derived/Test/ToyasCard.lean, 'card_holds'). Laid BY PROGRAM, IN A SANDBOX (cutbox-door.mjs). By AI agents, Wed Nov 11 2026. No macro, syntax, notation, axiom, sorry.
-/
import Derived.Test.YtkiihbkcccikiaaDoorRows
import GoSem.ClaimSeven
namespace Go.Proofs.YtkiihbkcccikiaaDoor
namespace Rows

/-- THE TIED CARD OF 'cadencelaw02.CnfNorms'. -/
def cnfNormsCard : Claim7 := { stood := { row := cnfNormsRow, standIns := [], harness := (true, "d7a52b9da03550a0bdbe0e4e6f2c8717334720fd1d24904a26aa144d8e4e716b"), looks := false }, kinds := [], alts := [], laidByText := true, laidKinds := [.data, .data, .data, .data], laidTests := true, laidLooks := .later }
def CnfNormsCardSaid : Prop := Claim7.holds Tryd.pinned (.plain (OpenSpec.ofChange cnfNormsSpec)) cnfNormsCard

/-- THE TIED CARD OF 'cadencelaw02.CnfChecks'. -/
def cnfChecksCard : Claim7 := { stood := { row := cnfChecksRow, standIns := [], harness := (true, "d7a52b9da03550a0bdbe0e4e6f2c8717334720fd1d24904a26aa144d8e4e716b"), looks := false }, kinds := [], alts := [], laidByText := true, laidKinds := [.data, .data, .data, .data], laidTests := true, laidLooks := .later }
def CnfChecksCardSaid : Prop := Claim7.holds Tryd.pinned (.plain (OpenSpec.ofChange cnfChecksSpec)) cnfChecksCard

/-- THE TIED CARD OF 'cadencelaw02.CnfValues'. -/
def cnfValuesCard : Claim7 := { stood := { row := cnfValuesRow, standIns := [], harness := (true, "d7a52b9da03550a0bdbe0e4e6f2c8717334720fd1d24904a26aa144d8e4e716b"), looks := false }, kinds := [], alts := [], laidByText := true, laidKinds := [.data, .data, .data, .data], laidTests := true, laidLooks := .later }
def CnfValuesCardSaid : Prop := Claim7.holds Tryd.pinned (.plain (OpenSpec.ofChange cnfValuesSpec)) cnfValuesCard

/-- THE TIED CARD OF 'cadencelaw02.CnfResolves'. -/
def cnfResolvesCard : Claim7 := { stood := { row := cnfResolvesRow, standIns := [], harness := (true, "d7a52b9da03550a0bdbe0e4e6f2c8717334720fd1d24904a26aa144d8e4e716b"), looks := false }, kinds := [], alts := [], laidByText := true, laidKinds := [.data, .data, .data, .data], laidTests := true, laidLooks := .later }
def CnfResolvesCardSaid : Prop := Claim7.holds Tryd.pinned (.plain (OpenSpec.ofChange cnfResolvesSpec)) cnfResolvesCard

/-- THE TIED CARD OF 'cadencelaw02.CnfAssigns'. -/
def cnfAssignsCard : Claim7 := { stood := { row := cnfAssignsRow, standIns := [], harness := (true, "d7a52b9da03550a0bdbe0e4e6f2c8717334720fd1d24904a26aa144d8e4e716b"), looks := false }, kinds := [], alts := [], laidByText := true, laidKinds := [.data, .data, .data, .data], laidTests := true, laidLooks := .later }
def CnfAssignsCardSaid : Prop := Claim7.holds Tryd.pinned (.plain (OpenSpec.ofChange cnfAssignsSpec)) cnfAssignsCard

/-- THE TIED CARD OF 'cadencelaw02.CnfTidies'. -/
def cnfTidiesCard : Claim7 := { stood := { row := cnfTidiesRow, standIns := [], harness := (true, "d7a52b9da03550a0bdbe0e4e6f2c8717334720fd1d24904a26aa144d8e4e716b"), looks := false }, kinds := [], alts := [], laidByText := true, laidKinds := [.data, .data, .data, .data], laidTests := true, laidLooks := .later }
def CnfTidiesCardSaid : Prop := Claim7.holds Tryd.pinned (.plain (OpenSpec.ofChange cnfTidiesSpec)) cnfTidiesCard

/-- THE SECOND FORM's CARD OF 'cadencelaw02.CnfNorms'. -/
def cnfNormsUptoCard : Claim7 := { stood := { row := cnfNormsUptoRow, standIns := [], harness := (true, "d7a52b9da03550a0bdbe0e4e6f2c8717334720fd1d24904a26aa144d8e4e716b"), looks := false }, kinds := [], alts := [], laidByText := true, laidKinds := [.data, .data, .data, .data], laidTests := true, laidLooks := .later }
def CnfNormsUptoCardSaid : Prop := Claim7.holds Tryd.pinned (.plain (OpenSpec.upto cnfNormsSpec)) cnfNormsUptoCard

/-- THE SECOND FORM's CARD OF 'cadencelaw02.CnfChecks'. -/
def cnfChecksUptoCard : Claim7 := { stood := { row := cnfChecksUptoRow, standIns := [], harness := (true, "d7a52b9da03550a0bdbe0e4e6f2c8717334720fd1d24904a26aa144d8e4e716b"), looks := false }, kinds := [], alts := [], laidByText := true, laidKinds := [.data, .data, .data, .data], laidTests := true, laidLooks := .later }
def CnfChecksUptoCardSaid : Prop := Claim7.holds Tryd.pinned (.plain (OpenSpec.upto cnfChecksSpec)) cnfChecksUptoCard

/-- THE SECOND FORM's CARD OF 'cadencelaw02.CnfValues'. -/
def cnfValuesUptoCard : Claim7 := { stood := { row := cnfValuesUptoRow, standIns := [], harness := (true, "d7a52b9da03550a0bdbe0e4e6f2c8717334720fd1d24904a26aa144d8e4e716b"), looks := false }, kinds := [], alts := [], laidByText := true, laidKinds := [.data, .data, .data, .data], laidTests := true, laidLooks := .later }
def CnfValuesUptoCardSaid : Prop := Claim7.holds Tryd.pinned (.plain (OpenSpec.upto cnfValuesSpec)) cnfValuesUptoCard

/-- THE SECOND FORM's CARD OF 'cadencelaw02.CnfResolves'. -/
def cnfResolvesUptoCard : Claim7 := { stood := { row := cnfResolvesUptoRow, standIns := [], harness := (true, "d7a52b9da03550a0bdbe0e4e6f2c8717334720fd1d24904a26aa144d8e4e716b"), looks := false }, kinds := [], alts := [], laidByText := true, laidKinds := [.data, .data, .data, .data], laidTests := true, laidLooks := .later }
def CnfResolvesUptoCardSaid : Prop := Claim7.holds Tryd.pinned (.plain (OpenSpec.upto cnfResolvesSpec)) cnfResolvesUptoCard

/-- THE SECOND FORM's CARD OF 'cadencelaw02.CnfAssigns'. -/
def cnfAssignsUptoCard : Claim7 := { stood := { row := cnfAssignsUptoRow, standIns := [], harness := (true, "d7a52b9da03550a0bdbe0e4e6f2c8717334720fd1d24904a26aa144d8e4e716b"), looks := false }, kinds := [], alts := [], laidByText := true, laidKinds := [.data, .data, .data, .data], laidTests := true, laidLooks := .later }
def CnfAssignsUptoCardSaid : Prop := Claim7.holds Tryd.pinned (.plain (OpenSpec.upto cnfAssignsSpec)) cnfAssignsUptoCard

/-- THE SECOND FORM's CARD OF 'cadencelaw02.CnfTidies'. -/
def cnfTidiesUptoCard : Claim7 := { stood := { row := cnfTidiesUptoRow, standIns := [], harness := (true, "d7a52b9da03550a0bdbe0e4e6f2c8717334720fd1d24904a26aa144d8e4e716b"), looks := false }, kinds := [], alts := [], laidByText := true, laidKinds := [.data, .data, .data, .data], laidTests := true, laidLooks := .later }
def CnfTidiesUptoCardSaid : Prop := Claim7.holds Tryd.pinned (.plain (OpenSpec.upto cnfTidiesSpec)) cnfTidiesUptoCard
end Rows
end Go.Proofs.YtkiihbkcccikiaaDoor
