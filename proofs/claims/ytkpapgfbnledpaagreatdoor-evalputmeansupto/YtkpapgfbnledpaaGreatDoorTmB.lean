import Derived.Test.YtkpapgfbnledpaaGreatDoorTlA
import Derived.Test.YtkpapgfbnledpaaGreatDoorNames
import Derived.WalkKit
import Derived.ProofKit
import Derived.OpenShut
import Derived.WalkSpells
import Derived.LoopTactic
import Derived.Below
import Derived.Deep.Draws
import Derived.Deep.QuietTactic
import Derived.Lib.Hide
set_option maxHeartbeats 8000000
set_option maxRecDepth 100000
namespace Go.Proofs.YtkpapgfbnledpaaGreatDoor
open Go.ChangeShapes Go.WideShapes Go.ChangeAt Go.RowKit Go.Lib Go.Tm Go.Bw Go.Bn

theorem parts_any (op : Int) (w : World) :
    Calls Tryz.prog 117 #[.int .i64 op] w fun e w' => e = .returned (.int .i64 (pt op)) /\ w' = w := by
  by_cases h : 1 <= op /\ op <= 33
  · rcases op_cases h.1 h.2 with rfl | rfl | rfl | rfl | rfl | rfl | rfl | rfl | rfl | rfl | rfl | rfl | rfl | rfl | rfl | rfl | rfl | rfl | rfl | rfl | rfl | rfl | rfl | rfl | rfl | rfl | rfl | rfl | rfl | rfl | rfl | rfl | rfl <;>
    (clear h
     go_enter Tryz.func117,Tryz.ntmps117
     go_wp2
     go_ret
     exact ⟨rfl,rfl⟩)
  have e : Hid (pt op = 2) := by
    show _ = _
    unfold pt; rw [if_neg (by omega),if_neg (by omega),if_neg (by omega)]
  have q1 : (op == 1) = false := beq_eq_false_iff_ne.2 (by omega); have q2 : (op == 2) = false := beq_eq_false_iff_ne.2 (by omega); have q3 : (op == 3) = false := beq_eq_false_iff_ne.2 (by omega); have q4 : (op == 4) = false := beq_eq_false_iff_ne.2 (by omega); have q5 : (op == 5) = false := beq_eq_false_iff_ne.2 (by omega); have q6 : (op == 15) = false := beq_eq_false_iff_ne.2 (by omega); have q7 : (op == 16) = false := beq_eq_false_iff_ne.2 (by omega); have q8 : (op == 31) = false := beq_eq_false_iff_ne.2 (by omega); have q9 : (op == 32) = false := beq_eq_false_iff_ne.2 (by omega); have q10 : (op == 33) = false := beq_eq_false_iff_ne.2 (by omega); have q11 : (op == 14) = false := beq_eq_false_iff_ne.2 (by omega); clear h
  go_enter Tryz.func117,Tryz.ntmps117
  go_wp2
  go_ret
  exact ⟨by rw [e.out]; rfl,rfl⟩
theorem bel1 (w : World) (o : Obj) : Below w.heap.size w (w.alloc o) := (Below.refl _ _).alloc (Nat.le_refl _) o
theorem bel2 (w : World) (o o2 : Obj) : Below w.heap.size w ((w.alloc o).alloc o2) := (bel1 w o).alloc (bel1 w o).size o2
theorem sorts_any (op x y z : Int) (w : World) (h1 : 1 <= op) (h2 : op <= 33) :
    Calls Tryz.prog 91 #[.int .i64 op,.agg #[.int .i64 x,.int .i64 y,.int .i64 z]] w fun e w' => e = .returned (.bool (sf op x y z)) /\ Below w.heap.size w w' := by
  rcases op_cases h1 h2 with rfl | rfl | rfl | rfl | rfl | rfl | rfl | rfl | rfl | rfl | rfl | rfl | rfl | rfl | rfl | rfl | rfl | rfl | rfl | rfl | rfl | rfl | rfl | rfl | rfl | rfl | rfl | rfl | rfl | rfl | rfl | rfl | rfl <;>
    (clear h1 h2
     go_enter Tryz.func91,Tryz.ntmps91
     go_wp2
     all_goals go_ret
     all_goals exact ⟨ret_bool (by rw [Bool.eq_iff_iff]; simp [sf] <;> omega),bel1 _ _⟩)
theorem meantw_eq (op x y z : Int) (w : World) (hx : 0 <= x /\ x <= 64) (hy : 0 <= y /\ y <= 64) :
    Calls Tryz.prog 118 #[.int .i64 op,.agg #[.int .i64 x,.int .i64 y,.int .i64 z]] w fun e w' => e = .returned (.int .i64 (mw op x y)) /\ w' = w.alloc (Obj.cells #[.int .i64 x,.int .i64 y,.int .i64 z] 180) := by
  go_enter Tryz.func118,Tryz.ntmps118
  go_wp2
  all_goals go_ret
  all_goals refine ⟨ret_int ?_,rfl⟩
  all_goals simp only [beq_iff_eq,beq_eq_false_iff_ne] at *
  all_goals unfold mw
  all_goals repeat' split
  all_goals omega
end Go.Proofs.YtkpapgfbnledpaaGreatDoor
