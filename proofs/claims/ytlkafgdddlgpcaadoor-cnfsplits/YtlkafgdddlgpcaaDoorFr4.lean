import Derived.Test.YtlkafgdddlgpcaaDoorFr
import Derived.Test.YtlkafgdddlgpcaaDoorOnes
namespace Go.Proofs.YtlkafgdddlgpcaaDoor
open Go.ChangeShapes Go.WideShapes Go.ChangeAt Go.RowKit Go.Cn

theorem lowZ_get : ∀ j : Fin 6, lowZ.getD j.val 0 = ((lowT j.val : Nat) : Int) := by decide +kernel
theorem of_laid6 {W : World} (h : laidMetH Tryd.prog Rows.cnfCountsRow.laid W) : LT W := by
  rw [MakeChecks.laidMetH_plain _ _ _ (by kernel_rfl)] at h
  have h2 := h.tail.tail
  have hl : Lib.TabIs Tryd.prog W "cadence/cnf.lowTrue" .u64 lowZ := Lib.tabIs_of_head gLow tLow Tryd.underlying105 Tryd.underlying35 cellsU cellsLow h2.tail
  intro j hj
  have := hl.cell gLow j (by exact hj)
  rw [this]
  have e := lowZ_get ⟨j, hj⟩
  simp only at e
  rw [← e]
end Go.Proofs.YtlkafgdddlgpcaaDoor
