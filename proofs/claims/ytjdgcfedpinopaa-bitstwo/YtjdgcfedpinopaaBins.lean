import Derived.Test.YtjdgcfedpinopaaBin
import Derived.Test.YtjdgcfedpinopaaMoved
namespace Go.Proofs.Ytjdgcfedpinopaa
open Go.ChangeShapes Go.WideShapes Go.ChangeAt Go.RowKit Go.Bw

set_option maxHeartbeats 400000 in
theorem rsh_any (a : Int) (w : World) :
    Calls Try.prog 31 #[.int .i64 a] w fun e w' => e = .returned (.bool (shB a)) ∧ w' = w := by
  go_enter Try.func31, Try.ntmps31
  go_wp2
  go_loop [3] (fun k => ∃ (j : Nat) (p : Int), j ≤ 7 ∧ 1 ≤ p ∧ p ≤ 128 ∧ k = .int .i64 p ∧ Hid (p = 2 ^ j ∧ ∀ i : Nat, i < j → ¬ a = 2 ^ i)) (fun k => (128 - intOf k).toNat)
  case atStart => exact ⟨0, 1, by omega, by omega, by omega, rfl, rfl, fun i hi => absurd hi (by omega)⟩
  case round =>
    obtain ⟨j, p, hj, hp, hp2, rfl, HP⟩ := hrel
    by_cases h64 : p ≤ 64
    · by_cases he : a = p
      · have hv : Hid (shB a = true) := sh_yes a j (pow6 j hj (by rw [← HP.out.1]; exact h64)) (by rw [he]; exact HP.out.1)
        have he' : (a == p) = true := by simpa using he
        clear he
        go_wp2
        go_ret
        exact ⟨by rw [hv.out]; rfl, rfl⟩
      · have he' : (a == p) = false := by simpa using he
        have hs : Hid (2 * p = 2 ^ (j + 1) ∧ ∀ i : Nat, i < j + 1 → ¬ a = 2 ^ i) := sh_step a p j HP.out he
        have hj6 := pow6 j hj (by rw [← HP.out.1]; exact h64)
        clear he
        go_wp2
        go_round
        case rel => exact ⟨j + 1, _, by omega, by omega, by omega, rfl, hs⟩
        case measure => simp [intOf]; omega
    · have hv : Hid (shB a = false) := sh_end a p j HP.out h64 hj
      go_wp2
      go_ret
      exact ⟨by rw [hv.out]; rfl, rfl⟩
theorem rsh_yes (a : Int) (w : World) (hs : shB a = true) :
    Calls Try.prog 31 #[.int .i64 a] w fun e w' => e = .returned (.bool true) ∧ w' = w := by rw [← hs]; exact rsh_any a w
theorem rsh_no (a : Int) (w : World) (hs : shB a = false) :
    Calls Try.prog 31 #[.int .i64 a] w fun e w' => e = .returned (.bool false) ∧ w' = w := by rw [← hs]; exact rsh_any a w

theorem rbin_lo (op a x y : Int) (h : op < 17) (w : World) :
    Calls Try.prog 17 #[.int .i64 op, .int .i64 a, .int .u64 x, .int .u64 y] w fun e w' => e = .returned (.tuple #[.int .u64 0, .int .i64 73]) ∧ w' = w := by
  go_enter Try.func17, Try.ntmps17
  go_wp2_with (fail)
  go_ret2
  exact ⟨rfl, rfl⟩

theorem rbin_hi (op a x y : Int) (h0 : 17 ≤ op) (h : 29 < op) (w : World) :
    Calls Try.prog 17 #[.int .i64 op, .int .i64 a, .int .u64 x, .int .u64 y] w fun e w' => e = .returned (.tuple #[.int .u64 0, .int .i64 73]) ∧ w' = w := by
  go_enter Try.func17, Try.ntmps17
  go_wp2_with (fail)
  go_ret2
  exact ⟨rfl, rfl⟩

theorem rbin_width (op a x y : Int) (h0 : 17 ≤ op) (h3 : op ≤ 29) (hn : a < 1 ∨ 64 < a) (w : World) :
    Calls Try.prog 17 #[.int .i64 op, .int .i64 a, .int .u64 x, .int .u64 y] w fun e w' => e = .returned (.tuple #[.int .u64 0, .int .i64 5]) ∧ w' = w := by
  go_enter Try.func17, Try.ntmps17
  go_wp2_with (first | (go_at_call 9; refine (rright_no _ _ ?_).mono ?_; omega; rintro e w' ⟨rfl, rfl⟩))
  go_ret2
  exact ⟨rfl, rfl⟩

theorem rbin_shw (op a x y : Int) (h0 : 25 ≤ op) (h3 : op ≤ 29) (h1 : 1 ≤ a) (h2 : a ≤ 64) (hs : shB a = false) (w : World) :
    Calls Try.prog 17 #[.int .i64 op, .int .i64 a, .int .u64 x, .int .u64 y] w fun e w' => e = .returned (.tuple #[.int .u64 0, .int .i64 5]) ∧ w' = w := by
  go_enter Try.func17, Try.ntmps17
  go_wp2_with (first | (go_at_call 9; refine (rright_yes _ _ ?_ ?_).mono ?_; omega; omega; rintro e w' ⟨rfl, rfl⟩) | (go_at_call 31; refine (rsh_no _ _ hs).mono ?_; rintro e w' ⟨rfl, rfl⟩))
  go_ret2
  exact ⟨rfl, rfl⟩

theorem rbin_17 (a x y : Int) (h1 : 1 ≤ a) (h2 : a ≤ 64) (hx : U x) (hy : U y) (w : World) :
    Calls Try.prog 17 #[.int .i64 17, .int .i64 a, .int .u64 x, .int .u64 y] w fun e w' => e = .returned (.tuple #[.int .u64 (trimI a (bits .and .u64 (trimI a x) (trimI a y))), .int .i64 0]) ∧ w' = w := by
  have hm : Hid (trimI a (bits .and .u64 (trimI a x) (trimI a y)) = bits .and .u64 (trimI a x) (trimI a y)) := trim_and a _ _ h1 h2 (trim_lo a x hx.1) (trim_hi a x h2 hx.2) (trim_lo a y hy.1) (trim_hi a y h2 hy.2)
  go_enter Try.func17, Try.ntmps17
  go_wp2_with (first | (go_at_call 9; refine (rright_yes _ _ ?_ ?_).mono ?_; omega; omega; rintro e w' ⟨rfl, rfl⟩) | (go_at_call 11; refine (rtrim_any _ _ _ ?_).mono ?_; (first | exact hx | exact hy | exact U_bits _ _ _ | exact U_wrap _ | exact U_max); rintro e w' ⟨rfl, rfl⟩))
  go_ret2
  exact ⟨ret2i hm.out.symm, rfl⟩

theorem rbin_18 (a x y : Int) (h1 : 1 ≤ a) (h2 : a ≤ 64) (hx : U x) (hy : U y) (w : World) :
    Calls Try.prog 17 #[.int .i64 18, .int .i64 a, .int .u64 x, .int .u64 y] w fun e w' => e = .returned (.tuple #[.int .u64 (trimI a (bits .or .u64 (trimI a x) (trimI a y))), .int .i64 0]) ∧ w' = w := by
  have hm : Hid (trimI a (bits .or .u64 (trimI a x) (trimI a y)) = bits .or .u64 (trimI a x) (trimI a y)) := trim_or a _ _ h1 h2 (trim_lo a x hx.1) (trim_hi a x h2 hx.2) (trim_lo a y hy.1) (trim_hi a y h2 hy.2)
  go_enter Try.func17, Try.ntmps17
  go_wp2_with (first | (go_at_call 9; refine (rright_yes _ _ ?_ ?_).mono ?_; omega; omega; rintro e w' ⟨rfl, rfl⟩) | (go_at_call 11; refine (rtrim_any _ _ _ ?_).mono ?_; (first | exact hx | exact hy | exact U_bits _ _ _ | exact U_wrap _ | exact U_max); rintro e w' ⟨rfl, rfl⟩))
  go_ret2
  exact ⟨ret2i hm.out.symm, rfl⟩

theorem rbin_19 (a x y : Int) (h1 : 1 ≤ a) (h2 : a ≤ 64) (hx : U x) (hy : U y) (w : World) :
    Calls Try.prog 17 #[.int .i64 19, .int .i64 a, .int .u64 x, .int .u64 y] w fun e w' => e = .returned (.tuple #[.int .u64 (trimI a (bits .xor .u64 (trimI a x) (trimI a y))), .int .i64 0]) ∧ w' = w := by
  have hm : Hid (trimI a (bits .xor .u64 (trimI a x) (trimI a y)) = bits .xor .u64 (trimI a x) (trimI a y)) := trim_xor a _ _ h1 h2 (trim_lo a x hx.1) (trim_hi a x h2 hx.2) (trim_lo a y hy.1) (trim_hi a y h2 hy.2)
  go_enter Try.func17, Try.ntmps17
  go_wp2_with (first | (go_at_call 9; refine (rright_yes _ _ ?_ ?_).mono ?_; omega; omega; rintro e w' ⟨rfl, rfl⟩) | (go_at_call 11; refine (rtrim_any _ _ _ ?_).mono ?_; (first | exact hx | exact hy | exact U_bits _ _ _ | exact U_wrap _ | exact U_max); rintro e w' ⟨rfl, rfl⟩))
  go_ret2
  exact ⟨ret2i hm.out.symm, rfl⟩

theorem rbin_20 (a x y : Int) (h1 : 1 ≤ a) (h2 : a ≤ 64) (hx : U x) (hy : U y) (w : World) :
    Calls Try.prog 17 #[.int .i64 20, .int .i64 a, .int .u64 x, .int .u64 y] w fun e w' => e = .returned (.tuple #[.int .u64 (trimI a (IntKind.u64.wrap ((trimI a x) + (trimI a y)))), .int .i64 0]) ∧ w' = w := by
  go_enter Try.func17, Try.ntmps17
  go_wp2_with (first | (go_at_call 9; refine (rright_yes _ _ ?_ ?_).mono ?_; omega; omega; rintro e w' ⟨rfl, rfl⟩) | (go_at_call 11; refine (rtrim_any _ _ _ ?_).mono ?_; (first | exact hx | exact hy | exact U_bits _ _ _ | exact U_wrap _ | exact U_max); rintro e w' ⟨rfl, rfl⟩))
  go_ret2
  exact ⟨rfl, rfl⟩

theorem rbin_21 (a x y : Int) (h1 : 1 ≤ a) (h2 : a ≤ 64) (hx : U x) (hy : U y) (w : World) :
    Calls Try.prog 17 #[.int .i64 21, .int .i64 a, .int .u64 x, .int .u64 y] w fun e w' => e = .returned (.tuple #[.int .u64 (trimI a (IntKind.u64.wrap ((trimI a x) - (trimI a y)))), .int .i64 0]) ∧ w' = w := by
  go_enter Try.func17, Try.ntmps17
  go_wp2_with (first | (go_at_call 9; refine (rright_yes _ _ ?_ ?_).mono ?_; omega; omega; rintro e w' ⟨rfl, rfl⟩) | (go_at_call 11; refine (rtrim_any _ _ _ ?_).mono ?_; (first | exact hx | exact hy | exact U_bits _ _ _ | exact U_wrap _ | exact U_max); rintro e w' ⟨rfl, rfl⟩))
  go_ret2
  exact ⟨rfl, rfl⟩

theorem rbin_22 (a x y : Int) (h1 : 1 ≤ a) (h2 : a ≤ 64) (hx : U x) (hy : U y) (w : World) :
    Calls Try.prog 17 #[.int .i64 22, .int .i64 a, .int .u64 x, .int .u64 y] w fun e w' => e = .returned (.tuple #[.int .u64 (trimI a (IntKind.u64.wrap ((trimI a x) * (trimI a y)))), .int .i64 0]) ∧ w' = w := by
  go_enter Try.func17, Try.ntmps17
  go_wp2_with (first | (go_at_call 9; refine (rright_yes _ _ ?_ ?_).mono ?_; omega; omega; rintro e w' ⟨rfl, rfl⟩) | (go_at_call 11; refine (rtrim_any _ _ _ ?_).mono ?_; (first | exact hx | exact hy | exact U_bits _ _ _ | exact U_wrap _ | exact U_max); rintro e w' ⟨rfl, rfl⟩))
  go_ret2
  exact ⟨rfl, rfl⟩

theorem rbin_23z (a x y : Int) (h1 : 1 ≤ a) (h2 : a ≤ 64) (hx : U x) (hy : U y) (hz : trimI a y = 0) (w : World) :
    Calls Try.prog 17 #[.int .i64 23, .int .i64 a, .int .u64 x, .int .u64 y] w fun e w' => e = .returned (.tuple #[.int .u64 (trimI a 18446744073709551615), .int .i64 0]) ∧ w' = w := by
  go_enter Try.func17, Try.ntmps17
  go_wp2_with (first | (go_at_call 9; refine (rright_yes _ _ ?_ ?_).mono ?_; omega; omega; rintro e w' ⟨rfl, rfl⟩) | (go_at_call 11; refine (rtrim_any _ _ _ ?_).mono ?_; (first | exact hx | exact hy | exact U_bits _ _ _ | exact U_wrap _ | exact U_max); rintro e w' ⟨rfl, rfl⟩))
  go_ret2
  exact ⟨rfl, rfl⟩

theorem rbin_23 (a x y : Int) (h1 : 1 ≤ a) (h2 : a ≤ 64) (hx : U x) (hy : U y) (ht : 0 < trimI a y) (w : World) :
    Calls Try.prog 17 #[.int .i64 23, .int .i64 a, .int .u64 x, .int .u64 y] w fun e w' => e = .returned (.tuple #[.int .u64 (trimI a (trimI a x / trimI a y)), .int .i64 0]) ∧ w' = w := by
  have hl := trim_lo a x hx.1
  have hm : Hid (IntKind.u64.wrap ((trimI a x).tdiv (trimI a y)) = trimI a (trimI a x / trimI a y)) := by
    rw [Hid, quo_u _ _ (U_trim _ _ hx) ht, trim_div a _ _ h1 h2 (trim_lo a x hx.1) (trim_hi a x h2 hx.2) (Int.le_of_lt ht)]
  go_enter Try.func17, Try.ntmps17
  go_wp2_with (first | (go_at_call 9; refine (rright_yes _ _ ?_ ?_).mono ?_; omega; omega; rintro e w' ⟨rfl, rfl⟩) | (go_at_call 11; refine (rtrim_any _ _ _ ?_).mono ?_; (first | exact hx | exact hy | exact U_bits _ _ _ | exact U_wrap _ | exact U_max); rintro e w' ⟨rfl, rfl⟩))
  go_ret2
  exact ⟨ret2i hm.out, rfl⟩

theorem rbin_24z (a x y : Int) (h1 : 1 ≤ a) (h2 : a ≤ 64) (hx : U x) (hy : U y) (hz : trimI a y = 0) (w : World) :
    Calls Try.prog 17 #[.int .i64 24, .int .i64 a, .int .u64 x, .int .u64 y] w fun e w' => e = .returned (.tuple #[.int .u64 (trimI a (trimI a x)), .int .i64 0]) ∧ w' = w := by
  have hm : Hid (trimI a (trimI a x) = trimI a x) := trim_id a _ h1 h2 (trim_lo a x hx.1) (trim_hi a x h2 hx.2)
  go_enter Try.func17, Try.ntmps17
  go_wp2_with (first | (go_at_call 9; refine (rright_yes _ _ ?_ ?_).mono ?_; omega; omega; rintro e w' ⟨rfl, rfl⟩) | (go_at_call 11; refine (rtrim_any _ _ _ ?_).mono ?_; (first | exact hx | exact hy | exact U_bits _ _ _ | exact U_wrap _ | exact U_max); rintro e w' ⟨rfl, rfl⟩))
  go_ret2
  exact ⟨ret2i hm.out.symm, rfl⟩

theorem rbin_24 (a x y : Int) (h1 : 1 ≤ a) (h2 : a ≤ 64) (hx : U x) (hy : U y) (ht : 0 < trimI a y) (w : World) :
    Calls Try.prog 17 #[.int .i64 24, .int .i64 a, .int .u64 x, .int .u64 y] w fun e w' => e = .returned (.tuple #[.int .u64 (trimI a (trimI a x % trimI a y)), .int .i64 0]) ∧ w' = w := by
  have hl := trim_lo a x hx.1
  have hm : Hid (trimI a (trimI a x % trimI a y) = trimI a x % trimI a y) := trim_remt a _ _ h1 h2 (trim_lo a y hy.1) (trim_hi a y h2 hy.2) (by omega)
  go_enter Try.func17, Try.ntmps17
  go_wp2_with (first | (go_at_call 9; refine (rright_yes _ _ ?_ ?_).mono ?_; omega; omega; rintro e w' ⟨rfl, rfl⟩) | (go_at_call 11; refine (rtrim_any _ _ _ ?_).mono ?_; (first | exact hx | exact hy | exact U_bits _ _ _ | exact U_wrap _ | exact U_max); rintro e w' ⟨rfl, rfl⟩))
  go_ret2
  exact ⟨ret2i hm.out.symm, rfl⟩

theorem rbin_25 (A N X : Nat) (x y : Int) (h0 : 1 ≤ A) (h1 : A ≤ 64) (hN : N < A) (hx : U x) (hy : U y) (hs : shB A = true) (ex : trimI A x = X) (en : trimI A y % A = N) (w : World) :
    Calls Try.prog 17 #[.int .i64 25, .int .i64 A, .int .u64 x, .int .u64 y] w fun e w' => e = .returned (.tuple #[.int .u64 (shlN A N X : Nat), .int .i64 0]) ∧ w' = w := by
  have hyl := trim_lo A y hy.1
  have hX : Hid (X < 2 ^ A) := by have := trim_hi A x (by omega) hx.2; rw [ex, Int.toNat_natCast] at this; exact_mod_cast this
  go_enter Try.func17, Try.ntmps17
  go_wp2_with (first | (go_at_call 9; refine (rright_yes _ _ ?_ ?_).mono ?_; omega; omega; rintro e w' ⟨rfl, rfl⟩) | (go_at_call 31; refine (rsh_yes _ _ hs).mono ?_; rintro e w' ⟨rfl, rfl⟩) | (go_at_call 32; refine (moved_25 A N X _ h0 h1 hN hX.out).mono ?_; rintro e w' ⟨rfl, rfl⟩) | (go_at_call 11; refine (rtrim_any _ _ _ ?_).mono ?_; (first | exact hx | exact hy | exact U_bits _ _ _ | exact U_wrap _ | exact U_max); rintro e w' ⟨rfl, rfl⟩))
  go_ret2
  exact ⟨rfl, rfl⟩

theorem rbin_26 (A N X : Nat) (x y : Int) (h0 : 1 ≤ A) (h1 : A ≤ 64) (hN : N < A) (hx : U x) (hy : U y) (hs : shB A = true) (ex : trimI A x = X) (en : trimI A y % A = N) (w : World) :
    Calls Try.prog 17 #[.int .i64 26, .int .i64 A, .int .u64 x, .int .u64 y] w fun e w' => e = .returned (.tuple #[.int .u64 (shrN N X : Nat), .int .i64 0]) ∧ w' = w := by
  have hyl := trim_lo A y hy.1
  have hX : Hid (X < 2 ^ A) := by have := trim_hi A x (by omega) hx.2; rw [ex, Int.toNat_natCast] at this; exact_mod_cast this
  go_enter Try.func17, Try.ntmps17
  go_wp2_with (first | (go_at_call 9; refine (rright_yes _ _ ?_ ?_).mono ?_; omega; omega; rintro e w' ⟨rfl, rfl⟩) | (go_at_call 31; refine (rsh_yes _ _ hs).mono ?_; rintro e w' ⟨rfl, rfl⟩) | (go_at_call 32; refine (moved_26 A N X _ h0 h1 hN hX.out).mono ?_; rintro e w' ⟨rfl, rfl⟩) | (go_at_call 11; refine (rtrim_any _ _ _ ?_).mono ?_; (first | exact hx | exact hy | exact U_bits _ _ _ | exact U_wrap _ | exact U_max); rintro e w' ⟨rfl, rfl⟩))
  go_ret2
  exact ⟨rfl, rfl⟩

theorem rbin_27 (A N X : Nat) (x y : Int) (h0 : 1 ≤ A) (h1 : A ≤ 64) (hN : N < A) (hx : U x) (hy : U y) (hs : shB A = true) (ex : trimI A x = X) (en : trimI A y % A = N) (w : World) :
    Calls Try.prog 17 #[.int .i64 27, .int .i64 A, .int .u64 x, .int .u64 y] w fun e w' => e = .returned (.tuple #[.int .u64 (sarN A N X : Nat), .int .i64 0]) ∧ w' = w := by
  have hyl := trim_lo A y hy.1
  have hX : Hid (X < 2 ^ A) := by have := trim_hi A x (by omega) hx.2; rw [ex, Int.toNat_natCast] at this; exact_mod_cast this
  go_enter Try.func17, Try.ntmps17
  go_wp2_with (first | (go_at_call 9; refine (rright_yes _ _ ?_ ?_).mono ?_; omega; omega; rintro e w' ⟨rfl, rfl⟩) | (go_at_call 31; refine (rsh_yes _ _ hs).mono ?_; rintro e w' ⟨rfl, rfl⟩) | (go_at_call 32; refine (moved_27 A N X _ h0 h1 hN hX.out).mono ?_; rintro e w' ⟨rfl, rfl⟩) | (go_at_call 11; refine (rtrim_any _ _ _ ?_).mono ?_; (first | exact hx | exact hy | exact U_bits _ _ _ | exact U_wrap _ | exact U_max); rintro e w' ⟨rfl, rfl⟩))
  go_ret2
  exact ⟨rfl, rfl⟩

theorem rbin_28 (A N X : Nat) (x y : Int) (h0 : 1 ≤ A) (h1 : A ≤ 64) (hN : N < A) (hx : U x) (hy : U y) (hs : shB A = true) (ex : trimI A x = X) (en : trimI A y % A = N) (w : World) :
    Calls Try.prog 17 #[.int .i64 28, .int .i64 A, .int .u64 x, .int .u64 y] w fun e w' => e = .returned (.tuple #[.int .u64 (rolN A N X : Nat), .int .i64 0]) ∧ w' = w := by
  have hyl := trim_lo A y hy.1
  have hX : Hid (X < 2 ^ A) := by have := trim_hi A x (by omega) hx.2; rw [ex, Int.toNat_natCast] at this; exact_mod_cast this
  go_enter Try.func17, Try.ntmps17
  go_wp2_with (first | (go_at_call 9; refine (rright_yes _ _ ?_ ?_).mono ?_; omega; omega; rintro e w' ⟨rfl, rfl⟩) | (go_at_call 31; refine (rsh_yes _ _ hs).mono ?_; rintro e w' ⟨rfl, rfl⟩) | (go_at_call 32; refine (moved_28 A N X _ h0 h1 hN hX.out).mono ?_; rintro e w' ⟨rfl, rfl⟩) | (go_at_call 11; refine (rtrim_any _ _ _ ?_).mono ?_; (first | exact hx | exact hy | exact U_bits _ _ _ | exact U_wrap _ | exact U_max); rintro e w' ⟨rfl, rfl⟩))
  go_ret2
  exact ⟨rfl, rfl⟩

theorem rbin_29 (A N X : Nat) (x y : Int) (h0 : 1 ≤ A) (h1 : A ≤ 64) (hN : N < A) (hx : U x) (hy : U y) (hs : shB A = true) (ex : trimI A x = X) (en : trimI A y % A = N) (w : World) :
    Calls Try.prog 17 #[.int .i64 29, .int .i64 A, .int .u64 x, .int .u64 y] w fun e w' => e = .returned (.tuple #[.int .u64 (rorN A N X : Nat), .int .i64 0]) ∧ w' = w := by
  have hyl := trim_lo A y hy.1
  have hX : Hid (X < 2 ^ A) := by have := trim_hi A x (by omega) hx.2; rw [ex, Int.toNat_natCast] at this; exact_mod_cast this
  go_enter Try.func17, Try.ntmps17
  go_wp2_with (first | (go_at_call 9; refine (rright_yes _ _ ?_ ?_).mono ?_; omega; omega; rintro e w' ⟨rfl, rfl⟩) | (go_at_call 31; refine (rsh_yes _ _ hs).mono ?_; rintro e w' ⟨rfl, rfl⟩) | (go_at_call 32; refine (moved_29 A N X _ h0 h1 hN hX.out).mono ?_; rintro e w' ⟨rfl, rfl⟩) | (go_at_call 11; refine (rtrim_any _ _ _ ?_).mono ?_; (first | exact hx | exact hy | exact U_bits _ _ _ | exact U_wrap _ | exact U_max); rintro e w' ⟨rfl, rfl⟩))
  go_ret2
  exact ⟨rfl, rfl⟩

theorem bin_both (op a x y : Int) (hx : U x) (hy : U y) : ∃ r e : Int, (∀ w, Calls Try.prog 16 #[.int .i64 op, .int .i64 a, .int .u64 x, .int .u64 y] w fun E w' => E = .returned (.tuple #[.int .u64 r, .int .i64 e]) ∧ ∃ n, w' = w.drewN n) ∧ (∀ w, Calls Try.prog 17 #[.int .i64 op, .int .i64 a, .int .u64 x, .int .u64 y] w fun E w' => E = .returned (.tuple #[.int .u64 r, .int .i64 e]) ∧ w' = w) := by
  by_cases h17 : op < 17
  · exact ⟨_, _, fun w => (bin_lo op a x y h17 w).mono fun _ _ h => ⟨h.1, 0, h.2⟩, rbin_lo op a x y h17⟩
  by_cases h29 : 29 < op
  · exact ⟨_, _, fun w => (bin_hi op a x y (by omega) h29 w).mono fun _ _ h => ⟨h.1, 0, h.2⟩, rbin_hi op a x y (by omega) h29⟩
  by_cases hw : 1 ≤ a ∧ a ≤ 64
  · by_cases h25 : op < 25
    · by_cases ht : 0 < trimI a y
      · have hc : op = 17 ∨ op = 18 ∨ op = 19 ∨ op = 20 ∨ op = 21 ∨ op = 22 ∨ op = 23 ∨ op = 24 := by omega
        rcases hc with rfl | rfl | rfl | rfl | rfl | rfl | rfl | rfl

        · exact ⟨_, _, fun w => (bin_17 a x y hw.1 hw.2 hx hy w).mono fun _ _ h => ⟨h.1, 0, h.2⟩, rbin_17 a x y hw.1 hw.2 hx hy⟩
        · exact ⟨_, _, fun w => (bin_18 a x y hw.1 hw.2 hx hy w).mono fun _ _ h => ⟨h.1, 0, h.2⟩, rbin_18 a x y hw.1 hw.2 hx hy⟩
        · exact ⟨_, _, fun w => (bin_19 a x y hw.1 hw.2 hx hy w).mono fun _ _ h => ⟨h.1, 0, h.2⟩, rbin_19 a x y hw.1 hw.2 hx hy⟩
        · exact ⟨_, _, fun w => (bin_20 a x y hw.1 hw.2 hx hy w).mono fun _ _ h => ⟨h.1, 0, h.2⟩, rbin_20 a x y hw.1 hw.2 hx hy⟩
        · exact ⟨_, _, fun w => (bin_21 a x y hw.1 hw.2 hx hy w).mono fun _ _ h => ⟨h.1, 0, h.2⟩, rbin_21 a x y hw.1 hw.2 hx hy⟩
        · exact ⟨_, _, fun w => (bin_22 a x y hw.1 hw.2 hx hy w).mono fun _ _ h => ⟨h.1, 0, h.2⟩, rbin_22 a x y hw.1 hw.2 hx hy⟩
        · exact ⟨_, _, fun w => (bin_23 a x y hw.1 hw.2 hx hy ht w).mono fun _ _ h => ⟨h.1, 0, h.2⟩, rbin_23 a x y hw.1 hw.2 hx hy ht⟩
        · exact ⟨_, _, fun w => (bin_24 a x y hw.1 hw.2 hx hy ht w).mono fun _ _ h => ⟨h.1, 0, h.2⟩, rbin_24 a x y hw.1 hw.2 hx hy ht⟩
      · have hz : trimI a y = 0 := by have := trim_lo a y hy.1; omega
        have hc : op = 17 ∨ op = 18 ∨ op = 19 ∨ op = 20 ∨ op = 21 ∨ op = 22 ∨ op = 23 ∨ op = 24 := by omega
        rcases hc with rfl | rfl | rfl | rfl | rfl | rfl | rfl | rfl
        · exact ⟨_, _, fun w => (bin_17 a x y hw.1 hw.2 hx hy w).mono fun _ _ h => ⟨h.1, 0, h.2⟩, rbin_17 a x y hw.1 hw.2 hx hy⟩
        · exact ⟨_, _, fun w => (bin_18 a x y hw.1 hw.2 hx hy w).mono fun _ _ h => ⟨h.1, 0, h.2⟩, rbin_18 a x y hw.1 hw.2 hx hy⟩
        · exact ⟨_, _, fun w => (bin_19 a x y hw.1 hw.2 hx hy w).mono fun _ _ h => ⟨h.1, 0, h.2⟩, rbin_19 a x y hw.1 hw.2 hx hy⟩
        · exact ⟨_, _, fun w => (bin_20 a x y hw.1 hw.2 hx hy w).mono fun _ _ h => ⟨h.1, 0, h.2⟩, rbin_20 a x y hw.1 hw.2 hx hy⟩
        · exact ⟨_, _, fun w => (bin_21 a x y hw.1 hw.2 hx hy w).mono fun _ _ h => ⟨h.1, 0, h.2⟩, rbin_21 a x y hw.1 hw.2 hx hy⟩
        · exact ⟨_, _, fun w => (bin_22 a x y hw.1 hw.2 hx hy w).mono fun _ _ h => ⟨h.1, 0, h.2⟩, rbin_22 a x y hw.1 hw.2 hx hy⟩
        · exact ⟨_, _, fun w => (bin_23z a x y hw.1 hw.2 hx hy hz w).mono fun _ _ h => ⟨h.1, 0, h.2⟩, rbin_23z a x y hw.1 hw.2 hx hy hz⟩
        · exact ⟨_, _, fun w => (bin_24z a x y hw.1 hw.2 hx hy hz w).mono fun _ _ h => ⟨h.1, 0, h.2⟩, rbin_24z a x y hw.1 hw.2 hx hy hz⟩
    · by_cases hs : shB a = true
      · obtain ⟨A, rfl⟩ := Int.eq_ofNat_of_zero_le (show 0 ≤ a by omega)
        obtain ⟨X, ex⟩ := Int.eq_ofNat_of_zero_le (trim_lo A x hx.1)
        have en := amt_eq A y hw.1
        have hN : amt A y < A := by have := amt_lt A y hw.1; omega
        have h0 : 1 ≤ A := by omega
        have h1 : A ≤ 64 := by omega
        have hc : op = 25 ∨ op = 26 ∨ op = 27 ∨ op = 28 ∨ op = 29 := by omega
        rcases hc with rfl | rfl | rfl | rfl | rfl
        · exact ⟨_, _, bin_25 A _ X x y h0 h1 hN hx hy hs ex en, rbin_25 A _ X x y h0 h1 hN hx hy hs ex en⟩
        · exact ⟨_, _, bin_26 A _ X x y h0 h1 hN hx hy hs ex en, rbin_26 A _ X x y h0 h1 hN hx hy hs ex en⟩
        · exact ⟨_, _, bin_27 A _ X x y h0 h1 hN hx hy hs ex en, rbin_27 A _ X x y h0 h1 hN hx hy hs ex en⟩
        · exact ⟨_, _, bin_28 A _ X x y h0 h1 hN hx hy hs ex en, rbin_28 A _ X x y h0 h1 hN hx hy hs ex en⟩
        · exact ⟨_, _, bin_29 A _ X x y h0 h1 hN hx hy hs ex en, rbin_29 A _ X x y h0 h1 hN hx hy hs ex en⟩
      · have hs' : shB a = false := by simpa using hs
        exact ⟨_, _, fun w => (bin_shw op a x y (by omega) (by omega) hw.1 hw.2 hs' w).mono fun _ _ h => ⟨h.1, 0, h.2⟩, rbin_shw op a x y (by omega) (by omega) hw.1 hw.2 hs'⟩
  · exact ⟨_, _, fun w => (bin_width op a x y (by omega) (by omega) (by omega) w).mono fun _ _ h => ⟨h.1, 0, h.2⟩, rbin_width op a x y (by omega) (by omega) (by omega)⟩
theorem grown_dn (w : World) (n : Nat) : Grown w (w.drewN n) := by
  induction n with
  | zero => exact Grown.refl _
  | succ n ih => rw [← World.drew_drewN]; exact ih.drew

end Go.Proofs.Ytjdgcfedpinopaa
