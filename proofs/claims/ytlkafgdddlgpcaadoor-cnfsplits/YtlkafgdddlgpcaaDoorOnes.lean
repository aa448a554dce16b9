import Derived.Test.YtlkafgdddlgpcaaDoorLive
import Derived.Test.YtlkafgdddlgpcaaDoorMathU
namespace Go.Proofs.YtlkafgdddlgpcaaDoor
open Go.ChangeShapes Go.WideShapes Go.ChangeAt Go.RowKit Go.Cn

set_option maxRecDepth 100000 in
theorem ones_any (x : Nat) (hx : x < 18446744073709551616) (w : World) : Calls Tryd.prog 50 #[.int .u64 (x : Int)] w fun e w' => e = .returned (.int .i64 (pc 64 x : Nat)) ∧ w' = w := by
  obtain ⟨u, hu, hlt, hm⟩ := ones_eq x hx
  have ha := and127 u hlt
  have H1 : Hid (o6 (o5 (o4 (o3 (o2 (o1 x))))) = (u : Int)) := hu
  have H2 : Hid (bits BinOp.and IntKind.i64 (u : Int) 127 = ((u % 128 : Nat) : Int)) := ha
  have H3 : Hid (u % 128 = pc 64 x) := hm
  clear hu ha hm
  have h0 : (0 : Int) ≤ (x : Int) := by omega
  have h1 : (x : Int) ≤ 18446744073709551615 := by omega
  go_enter Tryd.func50, Tryd.ntmps50
  go_wp2
  go_ret
  refine ⟨?_, rfl⟩
  refine ret_int ?_
  show bits BinOp.and IntKind.i64 (wrap64 (o6 (o5 (o4 (o3 (o2 (o1 x))))))) 127 = _
  rw [H1.out, show wrap64 (u : Int) = (u : Int) by unfold wrap64; omega, H2.out, H3.out]
/-- the table of the low variables -/
def LT (w : World) : Prop := ∀ j, j < 6 → w.cell? ⟨0, j, none⟩ = some (.int .u64 (lowT j : Nat))
theorem LT.below {w w' : World} (h : LT w) (hb : Below w.heap.size w w') : LT w' := fun j hj => by
  have g0 : 0 < w.heap.size := block_lt_of_cell (h 0 (by omega))
  exact (hb.cell (p := ⟨0, j, none⟩) g0).trans (h j hj)
end Go.Proofs.YtlkafgdddlgpcaaDoor
