import Derived.Test.YtjdgcfedpinopabDoorWalks
import Derived.Test.YtjdgcfedpinopabDoorMath4
import Derived.Deep.QuietTactic
import Derived.BigQuiet
namespace Go.Proofs.YtjdgcfedpinopabDoor
open Go.ChangeShapes Go.WideShapes Go.ChangeAt Go.RowKit Go.Bw

theorem shw_any (a : Int) (w : World) (h1 : 1 ≤ a) (h2 : a ≤ 64) :
    Calls Tryd.prog 17 #[.int .i64 a] w fun e w' => e = .returned (.bool (shB a)) ∧ w' = w := by
  have hm : Hid ((bits .and .i64 a (a - 1) == 0) = shB a) := sh_width a h1 h2
  go_enter Tryd.func17, Tryd.ntmps17
  go_wp2
  go_ret
  exact ⟨by rw [← hm.out]; rfl, rfl⟩
theorem ish_yes (op : Int) (w : World) (h1 : 25 ≤ op) (h2 : op ≤ 29) :
    Calls Tryd.prog 16 #[.int .i64 op] w fun e w' => e = .returned (.bool true) ∧ w' = w := by
  go_enter Tryd.func16, Tryd.ntmps16
  go_wp2
  go_ret
  exact ⟨rfl, rfl⟩
theorem ish_no (op : Int) (w : World) (h1 : op < 25) :
    Calls Tryd.prog 16 #[.int .i64 op] w fun e w' => e = .returned (.bool false) ∧ w' = w := by
  go_enter Tryd.func16, Tryd.ntmps16
  go_wp2
  go_ret
  exact ⟨rfl, rfl⟩
theorem shifted_25 (A N X : Nat) (y : Int) (w : World) (h0 : 1 ≤ A) (h1 : A ≤ 64) (hN : N < A) (hy : 0 ≤ y) (hn : y % A = N) :
    Calls Tryd.prog 19 #[.int .i64 25, .int .i64 A, .int .u64 X, .int .u64 y] w fun e w' => e = .returned (.int .u64 (IntKind.u64.wrap ((X : Int) * 2 ^ N))) ∧ ∃ n, w' = w.drewN n := by
  go_enter Tryd.func19, Tryd.ntmps19
  go_wp2
  go_ret
  exact ⟨rfl, 0, rfl⟩
theorem shifted_26 (A N X : Nat) (y : Int) (w : World) (h0 : 1 ≤ A) (h1 : A ≤ 64) (hN : N < A) (hy : 0 ≤ y) (hn : y % A = N) :
    Calls Tryd.prog 19 #[.int .i64 26, .int .i64 A, .int .u64 X, .int .u64 y] w fun e w' => e = .returned (.int .u64 ((X : Int) / 2 ^ N)) ∧ ∃ n, w' = w.drewN n := by
  go_enter Tryd.func19, Tryd.ntmps19
  go_wp2
  go_ret
  exact ⟨rfl, 0, rfl⟩
theorem shifted_27 (A N X : Nat) (y : Int) (w : World) (h0 : 1 ≤ A) (h1 : A ≤ 64) (hN : N < A) (hy : 0 ≤ y) (hn : y % A = N) (hX : U X) :
    Calls Tryd.prog 19 #[.int .i64 27, .int .i64 A, .int .u64 X, .int .u64 y] w fun e w' => e = .returned (.int .u64 (IntKind.u64.wrap (sgnI A X / 2 ^ N))) ∧ ∃ n, w' = w.drewN n := by
  go_enter Tryd.func19, Tryd.ntmps19
  go_wp2_with (go_at_call 25; refine (signed_any _ _ _ ?_ ?_ hX).mono ?_; omega; omega; rintro e w' ⟨rfl, rfl⟩)
  go_ret
  exact ⟨rfl, 0, rfl⟩
theorem shifted_28 (A N X : Nat) (y : Int) (w : World) (h0 : 1 ≤ A) (h1 : A ≤ 64) (hN : N < A) (hy : 0 ≤ y) (hn : y % A = N) :
    Calls Tryd.prog 19 #[.int .i64 28, .int .i64 A, .int .u64 X, .int .u64 y] w fun e w' => e = .returned (.int .u64 (bits .or .u64 (IntKind.u64.wrap ((X : Int) * 2 ^ N)) ((X : Int) / 2 ^ (A - N)))) ∧ ∃ n, w' = w.drewN n := by
  go_enter Tryd.func19, Tryd.ntmps19
  go_wp2
  go_quiet (fail)
  go_wp2
  go_ret
  exact ⟨rfl, _, rfl⟩
theorem shifted_29 (A N X : Nat) (y : Int) (w : World) (h0 : 1 ≤ A) (h1 : A ≤ 64) (hN : N < A) (hy : 0 ≤ y) (hn : y % A = N) :
    Calls Tryd.prog 19 #[.int .i64 29, .int .i64 A, .int .u64 X, .int .u64 y] w fun e w' => e = .returned (.int .u64 (bits .or .u64 ((X : Int) / 2 ^ N) (IntKind.u64.wrap ((X : Int) * 2 ^ (A - N))))) ∧ ∃ n, w' = w.drewN n := by
  go_enter Tryd.func19, Tryd.ntmps19
  go_wp2
  go_quiet (fail)
  go_wp2
  go_ret
  exact ⟨rfl, _, rfl⟩

theorem shw_yes (a : Int) (w : World) (h1 : 1 ≤ a) (h2 : a ≤ 64) (hs : shB a = true) :
    Calls Tryd.prog 17 #[.int .i64 a] w fun e w' => e = .returned (.bool true) ∧ w' = w := by rw [← hs]; exact shw_any a w h1 h2
theorem shw_no (a : Int) (w : World) (h1 : 1 ≤ a) (h2 : a ≤ 64) (hs : shB a = false) :
    Calls Tryd.prog 17 #[.int .i64 a] w fun e w' => e = .returned (.bool false) ∧ w' = w := by rw [← hs]; exact shw_any a w h1 h2
theorem ret2i {k j : IntKind} {a b c : Int} (h : a = b) : Ending.returned (.tuple #[.int k a, .int j c]) = .returned (.tuple #[.int k b, .int j c]) := by rw [h]

theorem joined_17 (s t : Int) (w : World) :
    Calls Tryd.prog 20 #[.int .i64 17, .int .u64 s, .int .u64 t] w fun e w' => e = .returned (.int .u64 (bits .and .u64 s t)) ∧ w' = w := by
  go_enter Tryd.func20, Tryd.ntmps20
  go_wp2
  go_ret
  exact ⟨rfl, rfl⟩

theorem joined_18 (s t : Int) (w : World) :
    Calls Tryd.prog 20 #[.int .i64 18, .int .u64 s, .int .u64 t] w fun e w' => e = .returned (.int .u64 (bits .or .u64 s t)) ∧ w' = w := by
  go_enter Tryd.func20, Tryd.ntmps20
  go_wp2
  go_ret
  exact ⟨rfl, rfl⟩

theorem joined_19 (s t : Int) (w : World) :
    Calls Tryd.prog 20 #[.int .i64 19, .int .u64 s, .int .u64 t] w fun e w' => e = .returned (.int .u64 (bits .xor .u64 s t)) ∧ w' = w := by
  go_enter Tryd.func20, Tryd.ntmps20
  go_wp2
  go_ret
  exact ⟨rfl, rfl⟩

theorem joined_20 (s t : Int) (w : World) :
    Calls Tryd.prog 20 #[.int .i64 20, .int .u64 s, .int .u64 t] w fun e w' => e = .returned (.int .u64 (IntKind.u64.wrap (s + t))) ∧ w' = w := by
  go_enter Tryd.func20, Tryd.ntmps20
  go_wp2
  go_ret
  exact ⟨rfl, rfl⟩

theorem joined_21 (s t : Int) (w : World) :
    Calls Tryd.prog 20 #[.int .i64 21, .int .u64 s, .int .u64 t] w fun e w' => e = .returned (.int .u64 (IntKind.u64.wrap (s - t))) ∧ w' = w := by
  go_enter Tryd.func20, Tryd.ntmps20
  go_wp2
  go_ret
  exact ⟨rfl, rfl⟩

theorem joined_22 (s t : Int) (w : World) :
    Calls Tryd.prog 20 #[.int .i64 22, .int .u64 s, .int .u64 t] w fun e w' => e = .returned (.int .u64 (IntKind.u64.wrap (s * t))) ∧ w' = w := by
  go_enter Tryd.func20, Tryd.ntmps20
  go_wp2
  go_ret
  exact ⟨rfl, rfl⟩

theorem joined_23z (s : Int) (w : World) :
    Calls Tryd.prog 20 #[.int .i64 23, .int .u64 s, .int .u64 0] w fun e w' => e = .returned (.int .u64 (18446744073709551615)) ∧ w' = w := by
  have hm := not_zero
  go_enter Tryd.func20, Tryd.ntmps20
  go_wp2
  go_ret
  exact ⟨rfl, rfl⟩
theorem joined_23 (s t : Int) (w : World) (us : U s) (ht : 0 < t) :
    Calls Tryd.prog 20 #[.int .i64 23, .int .u64 s, .int .u64 t] w fun e w' => e = .returned (.int .u64 (s / t)) ∧ w' = w := by
  have hs : 0 ≤ s := us.1
  have hq : Hid (IntKind.u64.wrap (s.tdiv t) = s / t) := quo_u s t us ht
  go_enter Tryd.func20, Tryd.ntmps20
  go_wp2
  go_ret
  exact ⟨by first | rfl | exact ret_int hq.out, rfl⟩

theorem joined_24z (s : Int) (w : World) :
    Calls Tryd.prog 20 #[.int .i64 24, .int .u64 s, .int .u64 0] w fun e w' => e = .returned (.int .u64 (s)) ∧ w' = w := by
  have hm := not_zero
  go_enter Tryd.func20, Tryd.ntmps20
  go_wp2
  go_ret
  exact ⟨rfl, rfl⟩
theorem joined_24 (s t : Int) (w : World) (us : U s) (ht : 0 < t) :
    Calls Tryd.prog 20 #[.int .i64 24, .int .u64 s, .int .u64 t] w fun e w' => e = .returned (.int .u64 (s % t)) ∧ w' = w := by
  have hs : 0 ≤ s := us.1
  have hq : Hid (IntKind.u64.wrap (s.tdiv t) = s / t) := quo_u s t us ht
  go_enter Tryd.func20, Tryd.ntmps20
  go_wp2
  go_ret
  exact ⟨by first | rfl | exact ret_int hq.out, rfl⟩

theorem bin_lo (op a x y : Int) (h : op < 17) (w : World) :
    Calls Tryd.prog 8 #[.int .i64 op, .int .i64 a, .int .u64 x, .int .u64 y] w fun e w' => e = .returned (.tuple #[.int .u64 0, .int .i64 73]) ∧ w' = w := by
  go_enter Tryd.func8, Tryd.ntmps8
  go_wp2_with (fail)
  go_ret2
  exact ⟨rfl, rfl⟩

theorem bin_hi (op a x y : Int) (h0 : 17 ≤ op) (h : 29 < op) (w : World) :
    Calls Tryd.prog 8 #[.int .i64 op, .int .i64 a, .int .u64 x, .int .u64 y] w fun e w' => e = .returned (.tuple #[.int .u64 0, .int .i64 73]) ∧ w' = w := by
  go_enter Tryd.func8, Tryd.ntmps8
  go_wp2_with (fail)
  go_ret2
  exact ⟨rfl, rfl⟩

theorem bin_width (op a x y : Int) (h0 : 17 ≤ op) (h3 : op ≤ 29) (hn : a < 1 ∨ 64 < a) (w : World) :
    Calls Tryd.prog 8 #[.int .i64 op, .int .i64 a, .int .u64 x, .int .u64 y] w fun e w' => e = .returned (.tuple #[.int .u64 0, .int .i64 5]) ∧ w' = w := by
  go_enter Tryd.func8, Tryd.ntmps8
  go_wp2_with (first | (go_at_call 10; refine (right_no _ _ ?_).mono ?_; omega; rintro e w' ⟨rfl, rfl⟩))
  go_ret2
  exact ⟨rfl, rfl⟩

theorem bin_shw (op a x y : Int) (h0 : 25 ≤ op) (h3 : op ≤ 29) (h1 : 1 ≤ a) (h2 : a ≤ 64) (hs : shB a = false) (w : World) :
    Calls Tryd.prog 8 #[.int .i64 op, .int .i64 a, .int .u64 x, .int .u64 y] w fun e w' => e = .returned (.tuple #[.int .u64 0, .int .i64 5]) ∧ w' = w := by
  go_enter Tryd.func8, Tryd.ntmps8
  go_wp2_with (first | (go_at_call 10; refine (right_yes _ _ ?_ ?_).mono ?_; omega; omega; rintro e w' ⟨rfl, rfl⟩) | (go_at_call 16; refine (ish_yes _ _ ?_ ?_).mono ?_; omega; omega; rintro e w' ⟨rfl, rfl⟩) | (go_at_call 17; refine (shw_no _ _ ?_ ?_ hs).mono ?_; omega; omega; rintro e w' ⟨rfl, rfl⟩))
  go_ret2
  exact ⟨rfl, rfl⟩

theorem bin_17 (a x y : Int) (h1 : 1 ≤ a) (h2 : a ≤ 64) (hx : U x) (hy : U y) (w : World) :
    Calls Tryd.prog 8 #[.int .i64 17, .int .i64 a, .int .u64 x, .int .u64 y] w fun e w' => e = .returned (.tuple #[.int .u64 (trimI a (bits .and .u64 (trimI a x) (trimI a y))), .int .i64 0]) ∧ w' = w := by
  go_enter Tryd.func8, Tryd.ntmps8
  go_wp2_with (first | (go_at_call 10; refine (right_yes _ _ ?_ ?_).mono ?_; omega; omega; rintro e w' ⟨rfl, rfl⟩) | (go_at_call 16; refine (ish_no _ _ ?_).mono ?_; omega; rintro e w' ⟨rfl, rfl⟩) | (go_at_call 20; refine (joined_17 _ _ _).mono ?_; rintro e w' ⟨rfl, rfl⟩) | (go_at_call 18; refine (trim_any _ _ _ ?_).mono ?_; (first | exact hx | exact hy | exact U_bits _ _ _ | exact U_wrap _ | exact U_max | exact U_trim _ _ hx | exact U_shr _ _ UX | exact hu); rintro e w' ⟨rfl, rfl⟩))
  go_ret2
  exact ⟨rfl, rfl⟩

theorem bin_18 (a x y : Int) (h1 : 1 ≤ a) (h2 : a ≤ 64) (hx : U x) (hy : U y) (w : World) :
    Calls Tryd.prog 8 #[.int .i64 18, .int .i64 a, .int .u64 x, .int .u64 y] w fun e w' => e = .returned (.tuple #[.int .u64 (trimI a (bits .or .u64 (trimI a x) (trimI a y))), .int .i64 0]) ∧ w' = w := by
  go_enter Tryd.func8, Tryd.ntmps8
  go_wp2_with (first | (go_at_call 10; refine (right_yes _ _ ?_ ?_).mono ?_; omega; omega; rintro e w' ⟨rfl, rfl⟩) | (go_at_call 16; refine (ish_no _ _ ?_).mono ?_; omega; rintro e w' ⟨rfl, rfl⟩) | (go_at_call 20; refine (joined_18 _ _ _).mono ?_; rintro e w' ⟨rfl, rfl⟩) | (go_at_call 18; refine (trim_any _ _ _ ?_).mono ?_; (first | exact hx | exact hy | exact U_bits _ _ _ | exact U_wrap _ | exact U_max | exact U_trim _ _ hx | exact U_shr _ _ UX | exact hu); rintro e w' ⟨rfl, rfl⟩))
  go_ret2
  exact ⟨rfl, rfl⟩

theorem bin_19 (a x y : Int) (h1 : 1 ≤ a) (h2 : a ≤ 64) (hx : U x) (hy : U y) (w : World) :
    Calls Tryd.prog 8 #[.int .i64 19, .int .i64 a, .int .u64 x, .int .u64 y] w fun e w' => e = .returned (.tuple #[.int .u64 (trimI a (bits .xor .u64 (trimI a x) (trimI a y))), .int .i64 0]) ∧ w' = w := by
  go_enter Tryd.func8, Tryd.ntmps8
  go_wp2_with (first | (go_at_call 10; refine (right_yes _ _ ?_ ?_).mono ?_; omega; omega; rintro e w' ⟨rfl, rfl⟩) | (go_at_call 16; refine (ish_no _ _ ?_).mono ?_; omega; rintro e w' ⟨rfl, rfl⟩) | (go_at_call 20; refine (joined_19 _ _ _).mono ?_; rintro e w' ⟨rfl, rfl⟩) | (go_at_call 18; refine (trim_any _ _ _ ?_).mono ?_; (first | exact hx | exact hy | exact U_bits _ _ _ | exact U_wrap _ | exact U_max | exact U_trim _ _ hx | exact U_shr _ _ UX | exact hu); rintro e w' ⟨rfl, rfl⟩))
  go_ret2
  exact ⟨rfl, rfl⟩

theorem bin_20 (a x y : Int) (h1 : 1 ≤ a) (h2 : a ≤ 64) (hx : U x) (hy : U y) (w : World) :
    Calls Tryd.prog 8 #[.int .i64 20, .int .i64 a, .int .u64 x, .int .u64 y] w fun e w' => e = .returned (.tuple #[.int .u64 (trimI a (IntKind.u64.wrap ((trimI a x) + (trimI a y)))), .int .i64 0]) ∧ w' = w := by
  go_enter Tryd.func8, Tryd.ntmps8
  go_wp2_with (first | (go_at_call 10; refine (right_yes _ _ ?_ ?_).mono ?_; omega; omega; rintro e w' ⟨rfl, rfl⟩) | (go_at_call 16; refine (ish_no _ _ ?_).mono ?_; omega; rintro e w' ⟨rfl, rfl⟩) | (go_at_call 20; refine (joined_20 _ _ _).mono ?_; rintro e w' ⟨rfl, rfl⟩) | (go_at_call 18; refine (trim_any _ _ _ ?_).mono ?_; (first | exact hx | exact hy | exact U_bits _ _ _ | exact U_wrap _ | exact U_max | exact U_trim _ _ hx | exact U_shr _ _ UX | exact hu); rintro e w' ⟨rfl, rfl⟩))
  go_ret2
  exact ⟨rfl, rfl⟩

theorem bin_21 (a x y : Int) (h1 : 1 ≤ a) (h2 : a ≤ 64) (hx : U x) (hy : U y) (w : World) :
    Calls Tryd.prog 8 #[.int .i64 21, .int .i64 a, .int .u64 x, .int .u64 y] w fun e w' => e = .returned (.tuple #[.int .u64 (trimI a (IntKind.u64.wrap ((trimI a x) - (trimI a y)))), .int .i64 0]) ∧ w' = w := by
  go_enter Tryd.func8, Tryd.ntmps8
  go_wp2_with (first | (go_at_call 10; refine (right_yes _ _ ?_ ?_).mono ?_; omega; omega; rintro e w' ⟨rfl, rfl⟩) | (go_at_call 16; refine (ish_no _ _ ?_).mono ?_; omega; rintro e w' ⟨rfl, rfl⟩) | (go_at_call 20; refine (joined_21 _ _ _).mono ?_; rintro e w' ⟨rfl, rfl⟩) | (go_at_call 18; refine (trim_any _ _ _ ?_).mono ?_; (first | exact hx | exact hy | exact U_bits _ _ _ | exact U_wrap _ | exact U_max | exact U_trim _ _ hx | exact U_shr _ _ UX | exact hu); rintro e w' ⟨rfl, rfl⟩))
  go_ret2
  exact ⟨rfl, rfl⟩

theorem bin_22 (a x y : Int) (h1 : 1 ≤ a) (h2 : a ≤ 64) (hx : U x) (hy : U y) (w : World) :
    Calls Tryd.prog 8 #[.int .i64 22, .int .i64 a, .int .u64 x, .int .u64 y] w fun e w' => e = .returned (.tuple #[.int .u64 (trimI a (IntKind.u64.wrap ((trimI a x) * (trimI a y)))), .int .i64 0]) ∧ w' = w := by
  go_enter Tryd.func8, Tryd.ntmps8
  go_wp2_with (first | (go_at_call 10; refine (right_yes _ _ ?_ ?_).mono ?_; omega; omega; rintro e w' ⟨rfl, rfl⟩) | (go_at_call 16; refine (ish_no _ _ ?_).mono ?_; omega; rintro e w' ⟨rfl, rfl⟩) | (go_at_call 20; refine (joined_22 _ _ _).mono ?_; rintro e w' ⟨rfl, rfl⟩) | (go_at_call 18; refine (trim_any _ _ _ ?_).mono ?_; (first | exact hx | exact hy | exact U_bits _ _ _ | exact U_wrap _ | exact U_max | exact U_trim _ _ hx | exact U_shr _ _ UX | exact hu); rintro e w' ⟨rfl, rfl⟩))
  go_ret2
  exact ⟨rfl, rfl⟩

theorem bin_23z (a x y : Int) (h1 : 1 ≤ a) (h2 : a ≤ 64) (hx : U x) (hy : U y) (hz : trimI a y = 0) (w : World) :
    Calls Tryd.prog 8 #[.int .i64 23, .int .i64 a, .int .u64 x, .int .u64 y] w fun e w' => e = .returned (.tuple #[.int .u64 (trimI a (18446744073709551615)), .int .i64 0]) ∧ w' = w := by
  go_enter Tryd.func8, Tryd.ntmps8
  go_wp2_with (first | (go_at_call 10; refine (right_yes _ _ ?_ ?_).mono ?_; omega; omega; rintro e w' ⟨rfl, rfl⟩) | (go_at_call 16; refine (ish_no _ _ ?_).mono ?_; omega; rintro e w' ⟨rfl, rfl⟩) | (go_at_call 20; refine (joined_23z _ _).mono ?_; rintro e w' ⟨rfl, rfl⟩) | (go_at_call 18; refine (trim_any _ _ _ ?_).mono ?_; (first | exact hx | exact hy | exact U_bits _ _ _ | exact U_wrap _ | exact U_max | exact U_trim _ _ hx | exact U_shr _ _ UX | exact hu); rintro e w' ⟨rfl, rfl⟩))
  go_ret2
  exact ⟨rfl, rfl⟩

theorem bin_23 (a x y : Int) (h1 : 1 ≤ a) (h2 : a ≤ 64) (hx : U x) (hy : U y) (ht : 0 < trimI a y) (w : World) :
    Calls Tryd.prog 8 #[.int .i64 23, .int .i64 a, .int .u64 x, .int .u64 y] w fun e w' => e = .returned (.tuple #[.int .u64 (trimI a (trimI a x / trimI a y)), .int .i64 0]) ∧ w' = w := by
  have hu := U_div a x y hx hy ht
  go_enter Tryd.func8, Tryd.ntmps8
  go_wp2_with (first | (go_at_call 10; refine (right_yes _ _ ?_ ?_).mono ?_; omega; omega; rintro e w' ⟨rfl, rfl⟩) | (go_at_call 16; refine (ish_no _ _ ?_).mono ?_; omega; rintro e w' ⟨rfl, rfl⟩) | (go_at_call 20; refine (joined_23 _ _ _ (U_trim _ _ hx) ht).mono ?_; rintro e w' ⟨rfl, rfl⟩) | (go_at_call 18; refine (trim_any _ _ _ ?_).mono ?_; (first | exact hx | exact hy | exact U_bits _ _ _ | exact U_wrap _ | exact U_max | exact U_trim _ _ hx | exact U_shr _ _ UX | exact hu); rintro e w' ⟨rfl, rfl⟩))
  go_ret2
  exact ⟨rfl, rfl⟩

theorem bin_24z (a x y : Int) (h1 : 1 ≤ a) (h2 : a ≤ 64) (hx : U x) (hy : U y) (hz : trimI a y = 0) (w : World) :
    Calls Tryd.prog 8 #[.int .i64 24, .int .i64 a, .int .u64 x, .int .u64 y] w fun e w' => e = .returned (.tuple #[.int .u64 (trimI a (trimI a x)), .int .i64 0]) ∧ w' = w := by
  go_enter Tryd.func8, Tryd.ntmps8
  go_wp2_with (first | (go_at_call 10; refine (right_yes _ _ ?_ ?_).mono ?_; omega; omega; rintro e w' ⟨rfl, rfl⟩) | (go_at_call 16; refine (ish_no _ _ ?_).mono ?_; omega; rintro e w' ⟨rfl, rfl⟩) | (go_at_call 20; refine (joined_24z _ _).mono ?_; rintro e w' ⟨rfl, rfl⟩) | (go_at_call 18; refine (trim_any _ _ _ ?_).mono ?_; (first | exact hx | exact hy | exact U_bits _ _ _ | exact U_wrap _ | exact U_max | exact U_trim _ _ hx | exact U_shr _ _ UX | exact hu); rintro e w' ⟨rfl, rfl⟩))
  go_ret2
  exact ⟨rfl, rfl⟩

theorem bin_24 (a x y : Int) (h1 : 1 ≤ a) (h2 : a ≤ 64) (hx : U x) (hy : U y) (ht : 0 < trimI a y) (w : World) :
    Calls Tryd.prog 8 #[.int .i64 24, .int .i64 a, .int .u64 x, .int .u64 y] w fun e w' => e = .returned (.tuple #[.int .u64 (trimI a (trimI a x % trimI a y)), .int .i64 0]) ∧ w' = w := by
  have hu := U_rem a x y hx hy ht
  go_enter Tryd.func8, Tryd.ntmps8
  go_wp2_with (first | (go_at_call 10; refine (right_yes _ _ ?_ ?_).mono ?_; omega; omega; rintro e w' ⟨rfl, rfl⟩) | (go_at_call 16; refine (ish_no _ _ ?_).mono ?_; omega; rintro e w' ⟨rfl, rfl⟩) | (go_at_call 20; refine (joined_24 _ _ _ (U_trim _ _ hx) ht).mono ?_; rintro e w' ⟨rfl, rfl⟩) | (go_at_call 18; refine (trim_any _ _ _ ?_).mono ?_; (first | exact hx | exact hy | exact U_bits _ _ _ | exact U_wrap _ | exact U_max | exact U_trim _ _ hx | exact U_shr _ _ UX | exact hu); rintro e w' ⟨rfl, rfl⟩))
  go_ret2
  exact ⟨rfl, rfl⟩

theorem bin_25 (A N X : Nat) (x y : Int) (h0 : 1 ≤ A) (h1 : A ≤ 64) (hN : N < A) (hx : U x) (hy : U y) (hs : shB A = true) (ex : trimI A x = X) (en : trimI A y % A = N) (w : World) :
    Calls Tryd.prog 8 #[.int .i64 25, .int .i64 A, .int .u64 x, .int .u64 y] w fun e w' => e = .returned (.tuple #[.int .u64 (shlN A N X : Nat), .int .i64 0]) ∧ ∃ n, w' = w.drewN n := by
  have hyl := trim_lo A y hy.1
  have UX : U (X : Int) := by rw [← ex]; exact U_trim _ _ hx
  have hX : X < 2 ^ A := by have := trim_hi A x (by omega) hx.2; rw [ex, Int.toNat_natCast] at this; exact_mod_cast this
  have hm : Hid (trimI A (IntKind.u64.wrap ((X : Int) * 2 ^ N)) = (shlN A N X : Nat)) := b25 A N X h0 h1
  clear hX
  go_enter Tryd.func8, Tryd.ntmps8
  go_wp2_with (first | (go_at_call 10; refine (right_yes _ _ ?_ ?_).mono ?_; omega; omega; rintro e w' ⟨rfl, rfl⟩) | (go_at_call 16; refine (ish_yes _ _ ?_ ?_).mono ?_; omega; omega; rintro e w' ⟨rfl, rfl⟩) | (go_at_call 17; refine (shw_yes _ _ ?_ ?_ hs).mono ?_; omega; omega; rintro e w' ⟨rfl, rfl⟩) | (go_at_call 19; refine (shifted_25 A N X _ _ h0 h1 hN hyl en).mono ?_; rintro e w' ⟨rfl, nd, rfl⟩) | (go_at_call 18; refine (trim_any _ _ _ ?_).mono ?_; (first | exact hx | exact hy | exact U_bits _ _ _ | exact U_wrap _ | exact U_max | exact U_trim _ _ hx | exact U_shr _ _ UX | exact hu); rintro e w' ⟨rfl, rfl⟩))
  go_ret2
  exact ⟨ret2i hm.out, _, rfl⟩

theorem bin_26 (A N X : Nat) (x y : Int) (h0 : 1 ≤ A) (h1 : A ≤ 64) (hN : N < A) (hx : U x) (hy : U y) (hs : shB A = true) (ex : trimI A x = X) (en : trimI A y % A = N) (w : World) :
    Calls Tryd.prog 8 #[.int .i64 26, .int .i64 A, .int .u64 x, .int .u64 y] w fun e w' => e = .returned (.tuple #[.int .u64 (shrN N X : Nat), .int .i64 0]) ∧ ∃ n, w' = w.drewN n := by
  have hyl := trim_lo A y hy.1
  have UX : U (X : Int) := by rw [← ex]; exact U_trim _ _ hx
  have hX : X < 2 ^ A := by have := trim_hi A x (by omega) hx.2; rw [ex, Int.toNat_natCast] at this; exact_mod_cast this
  have hm : Hid (trimI A ((X : Int) / 2 ^ N) = (shrN N X : Nat)) := b26 A N X h0 h1 hX
  clear hX
  go_enter Tryd.func8, Tryd.ntmps8
  go_wp2_with (first | (go_at_call 10; refine (right_yes _ _ ?_ ?_).mono ?_; omega; omega; rintro e w' ⟨rfl, rfl⟩) | (go_at_call 16; refine (ish_yes _ _ ?_ ?_).mono ?_; omega; omega; rintro e w' ⟨rfl, rfl⟩) | (go_at_call 17; refine (shw_yes _ _ ?_ ?_ hs).mono ?_; omega; omega; rintro e w' ⟨rfl, rfl⟩) | (go_at_call 19; refine (shifted_26 A N X _ _ h0 h1 hN hyl en).mono ?_; rintro e w' ⟨rfl, nd, rfl⟩) | (go_at_call 18; refine (trim_any _ _ _ ?_).mono ?_; (first | exact hx | exact hy | exact U_bits _ _ _ | exact U_wrap _ | exact U_max | exact U_trim _ _ hx | exact U_shr _ _ UX | exact hu); rintro e w' ⟨rfl, rfl⟩))
  go_ret2
  exact ⟨ret2i hm.out, _, rfl⟩

theorem bin_27 (A N X : Nat) (x y : Int) (h0 : 1 ≤ A) (h1 : A ≤ 64) (hN : N < A) (hx : U x) (hy : U y) (hs : shB A = true) (ex : trimI A x = X) (en : trimI A y % A = N) (w : World) :
    Calls Tryd.prog 8 #[.int .i64 27, .int .i64 A, .int .u64 x, .int .u64 y] w fun e w' => e = .returned (.tuple #[.int .u64 (sarN A N X : Nat), .int .i64 0]) ∧ ∃ n, w' = w.drewN n := by
  have hyl := trim_lo A y hy.1
  have UX : U (X : Int) := by rw [← ex]; exact U_trim _ _ hx
  have hX : X < 2 ^ A := by have := trim_hi A x (by omega) hx.2; rw [ex, Int.toNat_natCast] at this; exact_mod_cast this
  have hm : Hid (trimI A (IntKind.u64.wrap (sgnI A X / 2 ^ N)) = (sarN A N X : Nat)) := b27 A N X h0 h1 hX
  clear hX
  go_enter Tryd.func8, Tryd.ntmps8
  go_wp2_with (first | (go_at_call 10; refine (right_yes _ _ ?_ ?_).mono ?_; omega; omega; rintro e w' ⟨rfl, rfl⟩) | (go_at_call 16; refine (ish_yes _ _ ?_ ?_).mono ?_; omega; omega; rintro e w' ⟨rfl, rfl⟩) | (go_at_call 17; refine (shw_yes _ _ ?_ ?_ hs).mono ?_; omega; omega; rintro e w' ⟨rfl, rfl⟩) | (go_at_call 19; refine (shifted_27 A N X _ _ h0 h1 hN hyl en UX).mono ?_; rintro e w' ⟨rfl, nd, rfl⟩) | (go_at_call 18; refine (trim_any _ _ _ ?_).mono ?_; (first | exact hx | exact hy | exact U_bits _ _ _ | exact U_wrap _ | exact U_max | exact U_trim _ _ hx | exact U_shr _ _ UX | exact hu); rintro e w' ⟨rfl, rfl⟩))
  go_ret2
  exact ⟨ret2i hm.out, _, rfl⟩

theorem bin_28 (A N X : Nat) (x y : Int) (h0 : 1 ≤ A) (h1 : A ≤ 64) (hN : N < A) (hx : U x) (hy : U y) (hs : shB A = true) (ex : trimI A x = X) (en : trimI A y % A = N) (w : World) :
    Calls Tryd.prog 8 #[.int .i64 28, .int .i64 A, .int .u64 x, .int .u64 y] w fun e w' => e = .returned (.tuple #[.int .u64 (rolN A N X : Nat), .int .i64 0]) ∧ ∃ n, w' = w.drewN n := by
  have hyl := trim_lo A y hy.1
  have UX : U (X : Int) := by rw [← ex]; exact U_trim _ _ hx
  have hX : X < 2 ^ A := by have := trim_hi A x (by omega) hx.2; rw [ex, Int.toNat_natCast] at this; exact_mod_cast this
  have hm : Hid (trimI A (bits .or .u64 (IntKind.u64.wrap ((X : Int) * 2 ^ N)) ((X : Int) / 2 ^ (A - N))) = (rolN A N X : Nat)) := b28 A N X _ h0 h1 hX rfl
  clear hX
  go_enter Tryd.func8, Tryd.ntmps8
  go_wp2_with (first | (go_at_call 10; refine (right_yes _ _ ?_ ?_).mono ?_; omega; omega; rintro e w' ⟨rfl, rfl⟩) | (go_at_call 16; refine (ish_yes _ _ ?_ ?_).mono ?_; omega; omega; rintro e w' ⟨rfl, rfl⟩) | (go_at_call 17; refine (shw_yes _ _ ?_ ?_ hs).mono ?_; omega; omega; rintro e w' ⟨rfl, rfl⟩) | (go_at_call 19; refine (shifted_28 A N X _ _ h0 h1 hN hyl en).mono ?_; rintro e w' ⟨rfl, nd, rfl⟩) | (go_at_call 18; refine (trim_any _ _ _ ?_).mono ?_; (first | exact hx | exact hy | exact U_bits _ _ _ | exact U_wrap _ | exact U_max | exact U_trim _ _ hx | exact U_shr _ _ UX | exact hu); rintro e w' ⟨rfl, rfl⟩))
  go_ret2
  exact ⟨ret2i hm.out, _, rfl⟩

theorem bin_29 (A N X : Nat) (x y : Int) (h0 : 1 ≤ A) (h1 : A ≤ 64) (hN : N < A) (hx : U x) (hy : U y) (hs : shB A = true) (ex : trimI A x = X) (en : trimI A y % A = N) (w : World) :
    Calls Tryd.prog 8 #[.int .i64 29, .int .i64 A, .int .u64 x, .int .u64 y] w fun e w' => e = .returned (.tuple #[.int .u64 (rorN A N X : Nat), .int .i64 0]) ∧ ∃ n, w' = w.drewN n := by
  have hyl := trim_lo A y hy.1
  have UX : U (X : Int) := by rw [← ex]; exact U_trim _ _ hx
  have hX : X < 2 ^ A := by have := trim_hi A x (by omega) hx.2; rw [ex, Int.toNat_natCast] at this; exact_mod_cast this
  have hm : Hid (trimI A (bits .or .u64 ((X : Int) / 2 ^ N) (IntKind.u64.wrap ((X : Int) * 2 ^ (A - N)))) = (rorN A N X : Nat)) := b29 A N X _ h0 h1 hX rfl
  clear hX
  go_enter Tryd.func8, Tryd.ntmps8
  go_wp2_with (first | (go_at_call 10; refine (right_yes _ _ ?_ ?_).mono ?_; omega; omega; rintro e w' ⟨rfl, rfl⟩) | (go_at_call 16; refine (ish_yes _ _ ?_ ?_).mono ?_; omega; omega; rintro e w' ⟨rfl, rfl⟩) | (go_at_call 17; refine (shw_yes _ _ ?_ ?_ hs).mono ?_; omega; omega; rintro e w' ⟨rfl, rfl⟩) | (go_at_call 19; refine (shifted_29 A N X _ _ h0 h1 hN hyl en).mono ?_; rintro e w' ⟨rfl, nd, rfl⟩) | (go_at_call 18; refine (trim_any _ _ _ ?_).mono ?_; (first | exact hx | exact hy | exact U_bits _ _ _ | exact U_wrap _ | exact U_max | exact U_trim _ _ hx | exact U_shr _ _ UX | exact hu); rintro e w' ⟨rfl, rfl⟩))
  go_ret2
  exact ⟨ret2i hm.out, _, rfl⟩

end Go.Proofs.YtjdgcfedpinopabDoor
