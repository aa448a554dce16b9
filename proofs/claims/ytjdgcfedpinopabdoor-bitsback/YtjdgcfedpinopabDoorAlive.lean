import Derived.Test.YtjdgcfedpinopabDoorWalks
import Derived.Test.YtjdgcfedpinopabDoorOps
import Derived.Test.YtjdgcfedpinopabDoorBin
import Derived.Test.YtjdgcfedpinopabDoorMath5
namespace Go.Proofs.YtjdgcfedpinopabDoor
open Go.ChangeShapes Go.WideShapes Go.ChangeAt Go.RowKit Go.Bw

theorem alive_bin (w : World) : Calls Tryd.prog 8 #[.int .i64 24, .int .i64 8, .int .u64 7, .int .u64 0] w fun e w' => e = .returned (.tuple #[.int .u64 7, .int .i64 0]) ∧ w' = w := by
  have h := bin_24z 8 7 0 (by omega) (by omega) (U_num _ (by omega)) (U_num _ (by omega)) alive3 w
  rw [alive1] at h; exact h
theorem alive_un (w : World) : Calls Tryd.prog 9 #[.int .i64 16, .int .i64 8, .int .u64 1] w fun e w' => e = .returned (.tuple #[.int .u64 255, .int .i64 0]) ∧ w' = w := by
  have h := un_16 8 1 (by omega) (by omega) w
  rw [alive2] at h; exact h
theorem alive_any (w : World) : Calls Tryd.prog 4 #[] w fun e w' => e = .returned (.bool true) ∧ w' = w := by
  go_enter Tryd.func4, Tryd.ntmps4
  go_wp2_with (first | (go_at_call 8; refine (alive_bin _).mono ?_; rintro e w' ⟨rfl, rfl⟩) | (go_at_call 9; refine (alive_un _).mono ?_; rintro e w' ⟨rfl, rfl⟩) | (go_at_call 10; refine (right_yes _ _ ?_ ?_).mono ?_; omega; omega; rintro e w' ⟨rfl, rfl⟩) | (go_at_call 10; refine (right_no _ _ ?_).mono ?_; omega; rintro e w' ⟨rfl, rfl⟩))
  go_ret
  exact ⟨rfl, rfl⟩
end Go.Proofs.YtjdgcfedpinopabDoor
