import Derived.Test.YtnknbijbhidpnaaGreatDoorProg
import Derived.WalkKit
import Derived.ProofKit
import Derived.OpenShut
import Derived.WalkSpells
import Derived.LoopTactic
import Derived.Deep.LoopGhost
import Derived.Test.YtnknbijbhidpnaaGreatDoorMathF
namespace Go.Proofs.YtnknbijbhidpnaaGreatDoor
open Go.ChangeShapes Go.WideShapes Go.ChangeAt Go.RowKit Go.Cn

theorem ret_bool {a b : Bool} (h : a = b) : Ending.returned (.bool a) = .returned (.bool b) := by rw [h]
theorem ret_int {k : IntKind} {a b : Int} (h : a = b) : Ending.returned (.int k a) = .returned (.int k b) := by rw [h]

theorem lit_any (l : Int) (w : World) :
    Calls Tryz.prog 22 #[.int .i64 l] w fun e w' => e = .returned (.bool (litB l)) ∧ w' = w := by
  go_enter Tryz.func22, Tryz.ntmps22
  go_wp2
  all_goals go_ret
  all_goals exact ⟨ret_bool (by unfold litB; rw [Bool.eq_iff_iff]; simp; try omega), rfl⟩
theorem rlit_any (l : Int) (w : World) :
    Calls Tryz.prog 35 #[.int .i64 l] w fun e w' => e = .returned (.bool (litB l)) ∧ w' = w := by
  go_enter Tryz.func35, Tryz.ntmps35
  go_wp2
  all_goals go_ret
  all_goals exact ⟨ret_bool (by unfold litB; rw [Bool.eq_iff_iff]; simp; try omega), rfl⟩
theorem var_any (l : Int) (w : World) (h : litB l = true) :
    Calls Tryz.prog 51 #[.int .i64 l] w fun e w' => e = .returned (.int .i64 (vr l)) ∧ w' = w := by
  have hb := litB_iff.1 h
  have e : Hid (vr l = if l < 0 then -l else l) := rfl
  clear h
  by_cases h : l < 0
  · go_enter Tryz.func51, Tryz.ntmps51
    go_wp2
    go_ret
    exact ⟨ret_int (by rw [e.out, if_pos h]), rfl⟩
  · go_enter Tryz.func51, Tryz.ntmps51
    go_wp2
    go_ret
    exact ⟨ret_int (by rw [e.out, if_neg (by omega)]), rfl⟩
theorem rvar_any (l : Int) (w : World) (h : litB l = true) :
    Calls Tryz.prog 36 #[.int .i64 l] w fun e w' => e = .returned (.int .i64 (vr l)) ∧ w' = w := by
  have hb := litB_iff.1 h
  have e : Hid (vr l = if l < 0 then -l else l) := rfl
  clear h
  by_cases h : l < 0
  · go_enter Tryz.func36, Tryz.ntmps36
    go_wp2
    go_ret
    exact ⟨ret_int (by rw [e.out, if_pos h]), rfl⟩
  · go_enter Tryz.func36, Tryz.ntmps36
    go_wp2
    go_ret
    exact ⟨ret_int (by rw [e.out, if_neg (by omega)]), rfl⟩
theorem rank_any (l : Int) (w : World) (h : litB l = true) :
    Calls Tryz.prog 44 #[.int .i64 l] w fun e w' => e = .returned (.int .i64 (rk l)) ∧ w' = w := by
  have hb := litB_iff.1 h
  have e : Hid (rk l = if l < 0 then 2 * (-l) + 1 else 2 * l) := rfl
  have H : Hid (litB l = true) := h
  clear h
  by_cases h : l < 0
  · have e2 : vr l = -l := by unfold vr; rw [if_pos h]
    have H2 : Hid (Calls Tryz.prog 51 #[.int .i64 l] w fun e w' => e = .returned (.int .i64 (-l)) ∧ w' = w) := by have h2 := var_any l w H.out; rw [e2] at h2; exact h2
    clear e2
    go_enter Tryz.func44, Tryz.ntmps44
    go_wp2_with (go_at_call 51; refine H2.out.mono ?_; rintro e w' ⟨rfl, rfl⟩)
    go_ret
    exact ⟨ret_int (by rw [e.out, if_pos h]), rfl⟩
  · go_enter Tryz.func44, Tryz.ntmps44
    go_wp2
    go_ret
    exact ⟨ret_int (by rw [e.out, if_neg (by omega)]), rfl⟩
theorem nan_any (x : Int) (w : World) :
    Calls Tryz.prog 59 #[.int .i64 x] w fun e w' => e = .returned (.bool false) ∧ w' = w := by
  go_enter Tryz.func59, Tryz.ntmps59
  go_wp2
  go_ret
  exact ⟨rfl, rfl⟩
end Go.Proofs.YtnknbijbhidpnaaGreatDoor
