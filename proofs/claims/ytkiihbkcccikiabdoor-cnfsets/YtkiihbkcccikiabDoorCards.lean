/-
  DERIVED. GIVEN WITH THE SEED: THE CARDS: each row of YtkiihbkcccikiabDoorRows.lean that lists a variable, with what it lists TIED to the program's text (the seventh form; the later family's looks); each row that meets fmt, with fmt's text TOLD by the authors' own Lean function (tested against real Go, not proved from fmt's source: count such statements apart). THE CARD IS WHAT COUNTS. Prove the row's statement (the work); the ties are given (YtkiihbkcccikiabDoorTie.lean); close each card by the builder's one call (the guide's Derived/Test/ToyasCard.lean, 'card_holds'). Laid BY PROGRAM, IN A SANDBOX (cutbox-door.mjs). By AI agents, Wed Nov 11 2026. No macro, syntax, notation, axiom, sorry.
-/
import Derived.Test.YtkiihbkcccikiabDoorRows
import GoSem.ClaimSeven
namespace Go.Proofs.YtkiihbkcccikiabDoor
namespace Rows

/-- THE TIED CARD OF 'cadencelaw02.CnfCounts'. -/
def cnfCountsCard : Claim7 := { stood := { row := cnfCountsRow, standIns := [], harness := (true, "d932c28768bb14b82b3a642a2e465b5857fcf9cf53d74a06727a04cdc570f345"), looks := false }, kinds := [], alts := [], laidByText := true, laidKinds := [.data, .data, .data, .data], laidTests := true, laidLooks := .later }
def CnfCountsCardSaid : Prop := Claim7.holds Tryd.pinned (.plain (OpenSpec.ofChange cnfCountsSpec)) cnfCountsCard

/-- THE TIED CARD OF 'cadencelaw02.CnfPrints'. -/
def cnfPrintsCard : Claim7 := { stood := { row := cnfPrintsRow, standIns := [], harness := (true, "d932c28768bb14b82b3a642a2e465b5857fcf9cf53d74a06727a04cdc570f345"), looks := false }, kinds := [], alts := [], laidByText := true, laidKinds := [.data, .data, .data, .data], laidTests := true, laidLooks := .later }
def CnfPrintsCardSaid : Prop := Claim7.holds Tryd.pinned (.plain (OpenSpec.ofChange cnfPrintsSpec)) cnfPrintsCard

/-- THE TIED CARD OF 'cadencelaw02.CnfSets'. -/
def cnfSetsCard : Claim7 := { stood := { row := cnfSetsRow, standIns := [], harness := (true, "d932c28768bb14b82b3a642a2e465b5857fcf9cf53d74a06727a04cdc570f345"), looks := false }, kinds := [], alts := [], laidByText := true, laidKinds := [.data, .data, .data, .data], laidTests := true, laidLooks := .later }
def CnfSetsCardSaid : Prop := Claim7.holds Tryd.pinned (.plain (OpenSpec.ofChange cnfSetsSpec)) cnfSetsCard

/-- THE TIED CARD OF 'cadencelaw02.CnfSound'. -/
def cnfSoundCard : Claim7 := { stood := { row := cnfSoundRow, standIns := [], harness := (true, "d932c28768bb14b82b3a642a2e465b5857fcf9cf53d74a06727a04cdc570f345"), looks := false }, kinds := [], alts := [], laidByText := true, laidKinds := [.data, .data, .data, .data], laidTests := true, laidLooks := .later }
def CnfSoundCardSaid : Prop := Claim7.holds Tryd.pinned (.plain (OpenSpec.ofChange cnfSoundSpec)) cnfSoundCard

/-- THE SECOND FORM's CARD OF 'cadencelaw02.CnfCounts'. -/
def cnfCountsUptoCard : Claim7 := { stood := { row := cnfCountsUptoRow, standIns := [], harness := (true, "d932c28768bb14b82b3a642a2e465b5857fcf9cf53d74a06727a04cdc570f345"), looks := false }, kinds := [], alts := [], laidByText := true, laidKinds := [.data, .data, .data, .data], laidTests := true, laidLooks := .later }
def CnfCountsUptoCardSaid : Prop := Claim7.holds Tryd.pinned (.plain (OpenSpec.upto cnfCountsSpec)) cnfCountsUptoCard

/-- THE SECOND FORM's CARD OF 'cadencelaw02.CnfPrints'. -/
def cnfPrintsUptoCard : Claim7 := { stood := { row := cnfPrintsUptoRow, standIns := [], harness := (true, "d932c28768bb14b82b3a642a2e465b5857fcf9cf53d74a06727a04cdc570f345"), looks := false }, kinds := [], alts := [], laidByText := true, laidKinds := [.data, .data, .data, .data], laidTests := true, laidLooks := .later }
def CnfPrintsUptoCardSaid : Prop := Claim7.holds Tryd.pinned (.plain (OpenSpec.upto cnfPrintsSpec)) cnfPrintsUptoCard

/-- THE SECOND FORM's CARD OF 'cadencelaw02.CnfSets'. -/
def cnfSetsUptoCard : Claim7 := { stood := { row := cnfSetsUptoRow, standIns := [], harness := (true, "d932c28768bb14b82b3a642a2e465b5857fcf9cf53d74a06727a04cdc570f345"), looks := false }, kinds := [], alts := [], laidByText := true, laidKinds := [.data, .data, .data, .data], laidTests := true, laidLooks := .later }
def CnfSetsUptoCardSaid : Prop := Claim7.holds Tryd.pinned (.plain (OpenSpec.upto cnfSetsSpec)) cnfSetsUptoCard

/-- THE SECOND FORM's CARD OF 'cadencelaw02.CnfSound'. -/
def cnfSoundUptoCard : Claim7 := { stood := { row := cnfSoundUptoRow, standIns := [], harness := (true, "d932c28768bb14b82b3a642a2e465b5857fcf9cf53d74a06727a04cdc570f345"), looks := false }, kinds := [], alts := [], laidByText := true, laidKinds := [.data, .data, .data, .data], laidTests := true, laidLooks := .later }
def CnfSoundUptoCardSaid : Prop := Claim7.holds Tryd.pinned (.plain (OpenSpec.upto cnfSoundSpec)) cnfSoundUptoCard
end Rows
end Go.Proofs.YtkiihbkcccikiabDoor
