import Derived.Test.YtjdgcfedpinopabDoorWalks
namespace Go.Proofs.YtjdgcfedpinopabDoor
open Go.ChangeShapes Go.WideShapes Go.ChangeAt Go.RowKit Go.Bw

theorem un_op (op a x : Int) (h15 : ¬ op = 15) (h16 : ¬ op = 16) (w : World) :
    Calls Tryd.prog 9 #[.int .i64 op, .int .i64 a, .int .u64 x] w fun e w' => e = .returned (.tuple #[.int .u64 0, .int .i64 73]) ∧ w' = w := by
  have k15 : (op != 15) = true := by simpa using h15
  have k16 : (op != 16) = true := by simpa using h16
  go_enter Tryd.func9, Tryd.ntmps9
  go_wp2
  go_ret2
  exact ⟨rfl, rfl⟩

theorem un_width15 (a x : Int) (hn : a < 1 ∨ 64 < a) (w : World) :
    Calls Tryd.prog 9 #[.int .i64 15, .int .i64 a, .int .u64 x] w fun e w' => e = .returned (.tuple #[.int .u64 0, .int .i64 5]) ∧ w' = w := by
  go_enter Tryd.func9, Tryd.ntmps9
  go_wp2_with (first | (go_at_call 10; refine (right_no _ _ hn).mono ?_; rintro e w' ⟨rfl, rfl⟩))
  go_ret2
  exact ⟨rfl, rfl⟩

theorem un_15 (a x : Int) (h1 : 1 ≤ a) (h2 : a ≤ 64) (w : World) :
    Calls Tryd.prog 9 #[.int .i64 15, .int .i64 a, .int .u64 x] w fun e w' => e = .returned (.tuple #[.int .u64 (trimI a (bits .xor .u64 18446744073709551615 x)), .int .i64 0]) ∧ w' = w := by
  go_enter Tryd.func9, Tryd.ntmps9
  go_wp2_with (first | (go_at_call 10; refine (right_yes _ _ h1 h2).mono ?_; rintro e w' ⟨rfl, rfl⟩) | (go_at_call 18; refine (trim_any _ _ _ (by first | exact hx | exact hy | exact U_bits _ _ _ | exact U_wrap _)).mono ?_; rintro e w' ⟨rfl, rfl⟩))
  go_ret2
  exact ⟨rfl, rfl⟩

theorem un_width16 (a x : Int) (hn : a < 1 ∨ 64 < a) (w : World) :
    Calls Tryd.prog 9 #[.int .i64 16, .int .i64 a, .int .u64 x] w fun e w' => e = .returned (.tuple #[.int .u64 0, .int .i64 5]) ∧ w' = w := by
  go_enter Tryd.func9, Tryd.ntmps9
  go_wp2_with (first | (go_at_call 10; refine (right_no _ _ hn).mono ?_; rintro e w' ⟨rfl, rfl⟩))
  go_ret2
  exact ⟨rfl, rfl⟩

theorem un_16 (a x : Int) (h1 : 1 ≤ a) (h2 : a ≤ 64) (w : World) :
    Calls Tryd.prog 9 #[.int .i64 16, .int .i64 a, .int .u64 x] w fun e w' => e = .returned (.tuple #[.int .u64 (trimI a (IntKind.u64.wrap (-x))), .int .i64 0]) ∧ w' = w := by
  go_enter Tryd.func9, Tryd.ntmps9
  go_wp2_with (first | (go_at_call 10; refine (right_yes _ _ h1 h2).mono ?_; rintro e w' ⟨rfl, rfl⟩) | (go_at_call 18; refine (trim_any _ _ _ (by first | exact hx | exact hy | exact U_bits _ _ _ | exact U_wrap _)).mono ?_; rintro e w' ⟨rfl, rfl⟩))
  go_ret2
  exact ⟨rfl, rfl⟩

end Go.Proofs.YtjdgcfedpinopabDoor
