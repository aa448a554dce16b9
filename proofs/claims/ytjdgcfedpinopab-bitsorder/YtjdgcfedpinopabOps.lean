import Derived.Test.YtjdgcfedpinopabWalks
namespace Go.Proofs.Ytjdgcfedpinopab
open Go.ChangeShapes Go.WideShapes Go.ChangeAt Go.RowKit Go.Bw

theorem un_op (op a x : Int) (h15 : ¬ op = 15) (h16 : ¬ op = 16) (w : World) :
    Calls Try.prog 14 #[.int .i64 op, .int .i64 a, .int .u64 x] w fun e w' => e = .returned (.tuple #[.int .u64 0, .int .i64 73]) ∧ w' = w := by
  have k15 : (op != 15) = true := by simpa using h15
  have k16 : (op != 16) = true := by simpa using h16
  go_enter Try.func14, Try.ntmps14
  go_wp2
  go_ret2
  exact ⟨rfl, rfl⟩

theorem un_width15 (a x : Int) (hn : a < 1 ∨ 64 < a) (w : World) :
    Calls Try.prog 14 #[.int .i64 15, .int .i64 a, .int .u64 x] w fun e w' => e = .returned (.tuple #[.int .u64 0, .int .i64 5]) ∧ w' = w := by
  go_enter Try.func14, Try.ntmps14
  go_wp2_with (first | (go_at_call 11; refine (right_no _ _ hn).mono ?_; rintro e w' ⟨rfl, rfl⟩))
  go_ret2
  exact ⟨rfl, rfl⟩

theorem un_15 (a x : Int) (h1 : 1 ≤ a) (h2 : a ≤ 64) (w : World) :
    Calls Try.prog 14 #[.int .i64 15, .int .i64 a, .int .u64 x] w fun e w' => e = .returned (.tuple #[.int .u64 (trimI a (bits .xor .u64 18446744073709551615 x)), .int .i64 0]) ∧ w' = w := by
  go_enter Try.func14, Try.ntmps14
  go_wp2_with (first | (go_at_call 11; refine (right_yes _ _ h1 h2).mono ?_; rintro e w' ⟨rfl, rfl⟩) | (go_at_call 13; refine (trim_any _ _ _ (by first | exact hx | exact hy | exact U_bits _ _ _ | exact U_wrap _)).mono ?_; rintro e w' ⟨rfl, rfl⟩))
  go_ret2
  exact ⟨rfl, rfl⟩

theorem un_width16 (a x : Int) (hn : a < 1 ∨ 64 < a) (w : World) :
    Calls Try.prog 14 #[.int .i64 16, .int .i64 a, .int .u64 x] w fun e w' => e = .returned (.tuple #[.int .u64 0, .int .i64 5]) ∧ w' = w := by
  go_enter Try.func14, Try.ntmps14
  go_wp2_with (first | (go_at_call 11; refine (right_no _ _ hn).mono ?_; rintro e w' ⟨rfl, rfl⟩))
  go_ret2
  exact ⟨rfl, rfl⟩

theorem un_16 (a x : Int) (h1 : 1 ≤ a) (h2 : a ≤ 64) (w : World) :
    Calls Try.prog 14 #[.int .i64 16, .int .i64 a, .int .u64 x] w fun e w' => e = .returned (.tuple #[.int .u64 (trimI a (IntKind.u64.wrap (-x))), .int .i64 0]) ∧ w' = w := by
  go_enter Try.func14, Try.ntmps14
  go_wp2_with (first | (go_at_call 11; refine (right_yes _ _ h1 h2).mono ?_; rintro e w' ⟨rfl, rfl⟩) | (go_at_call 13; refine (trim_any _ _ _ (by first | exact hx | exact hy | exact U_bits _ _ _ | exact U_wrap _)).mono ?_; rintro e w' ⟨rfl, rfl⟩))
  go_ret2
  exact ⟨rfl, rfl⟩

theorem cmp_lo (op a x y : Int) (h : op < 9) (w : World) :
    Calls Try.prog 20 #[.int .i64 op, .int .i64 a, .int .u64 x, .int .u64 y] w fun e w' => e = .returned (.tuple #[.bool false, .int .i64 73]) ∧ w' = w := by
  go_enter Try.func20, Try.ntmps20
  go_wp2
  go_ret2
  exact ⟨rfl, rfl⟩

theorem cmp_hi (op a x y : Int) (h0 : 9 ≤ op) (h : 13 < op) (w : World) :
    Calls Try.prog 20 #[.int .i64 op, .int .i64 a, .int .u64 x, .int .u64 y] w fun e w' => e = .returned (.tuple #[.bool false, .int .i64 73]) ∧ w' = w := by
  go_enter Try.func20, Try.ntmps20
  go_wp2
  go_ret2
  exact ⟨rfl, rfl⟩

theorem cmp_width (op a x y : Int) (h0 : 9 ≤ op) (h3 : op ≤ 13) (hn : a < 1 ∨ 64 < a) (w : World) :
    Calls Try.prog 20 #[.int .i64 op, .int .i64 a, .int .u64 x, .int .u64 y] w fun e w' => e = .returned (.tuple #[.bool false, .int .i64 5]) ∧ w' = w := by
  go_enter Try.func20, Try.ntmps20
  go_wp2_with (first | (go_at_call 11; refine (right_no _ _ hn).mono ?_; rintro e w' ⟨rfl, rfl⟩))
  go_ret2
  exact ⟨rfl, rfl⟩

theorem cmp_9 (a x y : Int) (h1 : 1 ≤ a) (h2 : a ≤ 64) (hx : U x) (hy : U y) (w : World) :
    Calls Try.prog 20 #[.int .i64 9, .int .i64 a, .int .u64 x, .int .u64 y] w fun e w' => e = .returned (.tuple #[.bool (trimI a x == trimI a y), .int .i64 0]) ∧ w' = w := by
  go_enter Try.func20, Try.ntmps20
  go_wp2_with (first | (go_at_call 11; refine (right_yes _ _ h1 h2).mono ?_; rintro e w' ⟨rfl, rfl⟩) | (go_at_call 13; refine (trim_any _ _ _ (by first | exact hx | exact hy | exact U_bits _ _ _ | exact U_wrap _)).mono ?_; rintro e w' ⟨rfl, rfl⟩) | (go_at_call 19; refine (signed_any _ _ _ h1 h2 (by first | exact U_trim _ _ hx | exact U_trim _ _ hy)).mono ?_; rintro e w' ⟨rfl, rfl⟩))
  go_ret2
  exact ⟨rfl, rfl⟩

theorem cmp_10 (a x y : Int) (h1 : 1 ≤ a) (h2 : a ≤ 64) (hx : U x) (hy : U y) (w : World) :
    Calls Try.prog 20 #[.int .i64 10, .int .i64 a, .int .u64 x, .int .u64 y] w fun e w' => e = .returned (.tuple #[.bool (decide (trimI a x < trimI a y)), .int .i64 0]) ∧ w' = w := by
  go_enter Try.func20, Try.ntmps20
  go_wp2_with (first | (go_at_call 11; refine (right_yes _ _ h1 h2).mono ?_; rintro e w' ⟨rfl, rfl⟩) | (go_at_call 13; refine (trim_any _ _ _ (by first | exact hx | exact hy | exact U_bits _ _ _ | exact U_wrap _)).mono ?_; rintro e w' ⟨rfl, rfl⟩) | (go_at_call 19; refine (signed_any _ _ _ h1 h2 (by first | exact U_trim _ _ hx | exact U_trim _ _ hy)).mono ?_; rintro e w' ⟨rfl, rfl⟩))
  go_ret2
  exact ⟨rfl, rfl⟩

theorem cmp_11 (a x y : Int) (h1 : 1 ≤ a) (h2 : a ≤ 64) (hx : U x) (hy : U y) (w : World) :
    Calls Try.prog 20 #[.int .i64 11, .int .i64 a, .int .u64 x, .int .u64 y] w fun e w' => e = .returned (.tuple #[.bool (decide (trimI a x ≤ trimI a y)), .int .i64 0]) ∧ w' = w := by
  go_enter Try.func20, Try.ntmps20
  go_wp2_with (first | (go_at_call 11; refine (right_yes _ _ h1 h2).mono ?_; rintro e w' ⟨rfl, rfl⟩) | (go_at_call 13; refine (trim_any _ _ _ (by first | exact hx | exact hy | exact U_bits _ _ _ | exact U_wrap _)).mono ?_; rintro e w' ⟨rfl, rfl⟩) | (go_at_call 19; refine (signed_any _ _ _ h1 h2 (by first | exact U_trim _ _ hx | exact U_trim _ _ hy)).mono ?_; rintro e w' ⟨rfl, rfl⟩))
  go_ret2
  exact ⟨rfl, rfl⟩

theorem cmp_12 (a x y : Int) (h1 : 1 ≤ a) (h2 : a ≤ 64) (hx : U x) (hy : U y) (w : World) :
    Calls Try.prog 20 #[.int .i64 12, .int .i64 a, .int .u64 x, .int .u64 y] w fun e w' => e = .returned (.tuple #[.bool (decide (sgnI a (trimI a x) < sgnI a (trimI a y))), .int .i64 0]) ∧ w' = w := by
  go_enter Try.func20, Try.ntmps20
  go_wp2_with (first | (go_at_call 11; refine (right_yes _ _ h1 h2).mono ?_; rintro e w' ⟨rfl, rfl⟩) | (go_at_call 13; refine (trim_any _ _ _ (by first | exact hx | exact hy | exact U_bits _ _ _ | exact U_wrap _)).mono ?_; rintro e w' ⟨rfl, rfl⟩) | (go_at_call 19; refine (signed_any _ _ _ h1 h2 (by first | exact U_trim _ _ hx | exact U_trim _ _ hy)).mono ?_; rintro e w' ⟨rfl, rfl⟩))
  go_ret2
  exact ⟨rfl, rfl⟩

theorem cmp_13 (a x y : Int) (h1 : 1 ≤ a) (h2 : a ≤ 64) (hx : U x) (hy : U y) (w : World) :
    Calls Try.prog 20 #[.int .i64 13, .int .i64 a, .int .u64 x, .int .u64 y] w fun e w' => e = .returned (.tuple #[.bool (decide (sgnI a (trimI a x) ≤ sgnI a (trimI a y))), .int .i64 0]) ∧ w' = w := by
  go_enter Try.func20, Try.ntmps20
  go_wp2_with (first | (go_at_call 11; refine (right_yes _ _ h1 h2).mono ?_; rintro e w' ⟨rfl, rfl⟩) | (go_at_call 13; refine (trim_any _ _ _ (by first | exact hx | exact hy | exact U_bits _ _ _ | exact U_wrap _)).mono ?_; rintro e w' ⟨rfl, rfl⟩) | (go_at_call 19; refine (signed_any _ _ _ h1 h2 (by first | exact U_trim _ _ hx | exact U_trim _ _ hy)).mono ?_; rintro e w' ⟨rfl, rfl⟩))
  go_ret2
  exact ⟨rfl, rfl⟩

end Go.Proofs.Ytjdgcfedpinopab
