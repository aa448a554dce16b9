import Derived.Test.YtjdgcfedpinopabWalks
import Derived.Test.YtjdgcfedpinopabMath2
import Derived.Deep.QuietTactic
import Derived.BigQuiet
namespace Go.Proofs.Ytjdgcfedpinopab
open Go.ChangeShapes Go.WideShapes Go.ChangeAt Go.RowKit Go.Bw

theorem ret2_int {k j : IntKind} {a b c : Int} (h : a = b) : Ending.returned (.tuple #[.int k a, .int j c]) = .returned (.tuple #[.int k b, .int j c]) := by rw [h]

theorem cat_w (a x v y : Int) (hn : a < 1 ∨ 64 < a) (w : World) :
    Calls Try.prog 17 #[.int .i64 a, .int .u64 x, .int .i64 v, .int .u64 y] w fun e w' => e = .returned (.tuple #[.int .u64 0, .int .i64 5]) ∧ w' = w := by
  go_enter Try.func17, Try.ntmps17
  go_wp2_with (first | (go_at_call 11; refine (right_yes _ _ ?_ ?_).mono ?_; omega; omega; rintro e w' ⟨rfl, rfl⟩) | (go_at_call 11; refine (right_no _ _ ?_).mono ?_; omega; rintro e w' ⟨rfl, rfl⟩) | (go_at_call 13; refine (trim_any _ _ _ ?_).mono ?_; (first | exact hx | exact hy | exact U_bits _ _ _ | exact U_wrap _ | exact U_shr _ _ hx | exact U_shr _ _ (U_trim _ _ hx)); rintro e w' ⟨rfl, rfl⟩) | (go_at_call 19; refine (signed_any _ _ _ ?_ ?_ ?_).mono ?_; omega; omega; exact hx; rintro e w' ⟨rfl, rfl⟩))
  go_ret2
  exact ⟨rfl, rfl⟩

theorem cat_v (a x v y : Int) (h1 : 1 ≤ a) (h2 : a ≤ 64) (hn : v < 1 ∨ 64 < v) (w : World) :
    Calls Try.prog 17 #[.int .i64 a, .int .u64 x, .int .i64 v, .int .u64 y] w fun e w' => e = .returned (.tuple #[.int .u64 0, .int .i64 5]) ∧ w' = w := by
  go_enter Try.func17, Try.ntmps17
  go_wp2_with (first | (go_at_call 11; refine (right_yes _ _ ?_ ?_).mono ?_; omega; omega; rintro e w' ⟨rfl, rfl⟩) | (go_at_call 11; refine (right_no _ _ ?_).mono ?_; omega; rintro e w' ⟨rfl, rfl⟩) | (go_at_call 13; refine (trim_any _ _ _ ?_).mono ?_; (first | exact hx | exact hy | exact U_bits _ _ _ | exact U_wrap _ | exact U_shr _ _ hx | exact U_shr _ _ (U_trim _ _ hx)); rintro e w' ⟨rfl, rfl⟩) | (go_at_call 19; refine (signed_any _ _ _ ?_ ?_ ?_).mono ?_; omega; omega; exact hx; rintro e w' ⟨rfl, rfl⟩))
  go_ret2
  exact ⟨rfl, rfl⟩

theorem cat_s (a x v y : Int) (h1 : 1 ≤ a) (h2 : a ≤ 64) (h3 : 1 ≤ v) (h4 : v ≤ 64) (h5 : 64 < a + v) (w : World) :
    Calls Try.prog 17 #[.int .i64 a, .int .u64 x, .int .i64 v, .int .u64 y] w fun e w' => e = .returned (.tuple #[.int .u64 0, .int .i64 5]) ∧ w' = w := by
  go_enter Try.func17, Try.ntmps17
  go_wp2_with (first | (go_at_call 11; refine (right_yes _ _ ?_ ?_).mono ?_; omega; omega; rintro e w' ⟨rfl, rfl⟩) | (go_at_call 11; refine (right_no _ _ ?_).mono ?_; omega; rintro e w' ⟨rfl, rfl⟩) | (go_at_call 13; refine (trim_any _ _ _ ?_).mono ?_; (first | exact hx | exact hy | exact U_bits _ _ _ | exact U_wrap _ | exact U_shr _ _ hx | exact U_shr _ _ (U_trim _ _ hx)); rintro e w' ⟨rfl, rfl⟩) | (go_at_call 19; refine (signed_any _ _ _ ?_ ?_ ?_).mono ?_; omega; omega; exact hx; rintro e w' ⟨rfl, rfl⟩))
  go_ret2
  exact ⟨rfl, rfl⟩

theorem cat_any (a x v y : Int) (h1 : 1 ≤ a) (h3 : 1 ≤ v) (h4 : a + v ≤ 64) (hx : U x) (hy : U y) (w : World) :
    Calls Try.prog 17 #[.int .i64 a, .int .u64 x, .int .i64 v, .int .u64 y] w fun e w' => e = .returned (.tuple #[.int .u64 (catI a x v y), .int .i64 0]) ∧ ∃ n, w' = w.drewN n := by
  have hm : Hid (bits .or .u64 (IntKind.u64.wrap (trimI a x * 2 ^ v.toNat)) (trimI v y) = catI a x v y) := cat_or a x v y h1 h3 h4 hx hy
  have hv : v ≤ 64 := by omega
  have hv0 : 0 ≤ v := by omega
  have ha : a ≤ 64 := by omega
  go_enter Try.func17, Try.ntmps17
  go_wp2_with (first | (go_at_call 11; refine (right_yes _ _ ?_ ?_).mono ?_; omega; omega; rintro e w' ⟨rfl, rfl⟩))
  go_quiet ((go_at_call 13; refine Calls.quiet_of_same (trim_any _ _ _ ?_); (first | exact hx | exact hy)))
  go_wp2
  go_ret2
  exact ⟨ret2_int hm.out, _, rfl⟩

theorem slice_w (a x f n : Int) (hn : a < 1 ∨ 64 < a) (w : World) :
    Calls Try.prog 16 #[.int .i64 a, .int .u64 x, .int .i64 f, .int .i64 n] w fun e w' => e = .returned (.tuple #[.int .u64 0, .int .i64 5]) ∧ w' = w := by
  go_enter Try.func16, Try.ntmps16
  go_wp2_with (first | (go_at_call 11; refine (right_yes _ _ ?_ ?_).mono ?_; omega; omega; rintro e w' ⟨rfl, rfl⟩) | (go_at_call 11; refine (right_no _ _ ?_).mono ?_; omega; rintro e w' ⟨rfl, rfl⟩) | (go_at_call 13; refine (trim_any _ _ _ ?_).mono ?_; (first | exact hx | exact hy | exact U_bits _ _ _ | exact U_wrap _ | exact U_shr _ _ hx | exact U_shr _ _ (U_trim _ _ hx)); rintro e w' ⟨rfl, rfl⟩) | (go_at_call 19; refine (signed_any _ _ _ ?_ ?_ ?_).mono ?_; omega; omega; exact hx; rintro e w' ⟨rfl, rfl⟩))
  go_ret2
  exact ⟨rfl, rfl⟩

theorem slice_n (a x f n : Int) (h1 : 1 ≤ a) (h2 : a ≤ 64) (hn : n < 1) (w : World) :
    Calls Try.prog 16 #[.int .i64 a, .int .u64 x, .int .i64 f, .int .i64 n] w fun e w' => e = .returned (.tuple #[.int .u64 0, .int .i64 5]) ∧ w' = w := by
  go_enter Try.func16, Try.ntmps16
  go_wp2_with (first | (go_at_call 11; refine (right_yes _ _ ?_ ?_).mono ?_; omega; omega; rintro e w' ⟨rfl, rfl⟩) | (go_at_call 11; refine (right_no _ _ ?_).mono ?_; omega; rintro e w' ⟨rfl, rfl⟩) | (go_at_call 13; refine (trim_any _ _ _ ?_).mono ?_; (first | exact hx | exact hy | exact U_bits _ _ _ | exact U_wrap _ | exact U_shr _ _ hx | exact U_shr _ _ (U_trim _ _ hx)); rintro e w' ⟨rfl, rfl⟩) | (go_at_call 19; refine (signed_any _ _ _ ?_ ?_ ?_).mono ?_; omega; omega; exact hx; rintro e w' ⟨rfl, rfl⟩))
  go_ret2
  exact ⟨rfl, rfl⟩

theorem slice_f (a x f n : Int) (h1 : 1 ≤ a) (h2 : a ≤ 64) (h3 : 1 ≤ n) (hf : f < 0) (w : World) :
    Calls Try.prog 16 #[.int .i64 a, .int .u64 x, .int .i64 f, .int .i64 n] w fun e w' => e = .returned (.tuple #[.int .u64 0, .int .i64 5]) ∧ w' = w := by
  go_enter Try.func16, Try.ntmps16
  go_wp2_with (first | (go_at_call 11; refine (right_yes _ _ ?_ ?_).mono ?_; omega; omega; rintro e w' ⟨rfl, rfl⟩) | (go_at_call 11; refine (right_no _ _ ?_).mono ?_; omega; rintro e w' ⟨rfl, rfl⟩) | (go_at_call 13; refine (trim_any _ _ _ ?_).mono ?_; (first | exact hx | exact hy | exact U_bits _ _ _ | exact U_wrap _ | exact U_shr _ _ hx | exact U_shr _ _ (U_trim _ _ hx)); rintro e w' ⟨rfl, rfl⟩) | (go_at_call 19; refine (signed_any _ _ _ ?_ ?_ ?_).mono ?_; omega; omega; exact hx; rintro e w' ⟨rfl, rfl⟩))
  go_ret2
  exact ⟨rfl, rfl⟩

theorem slice_s (a x f n : Int) (h1 : 1 ≤ a) (h2 : a ≤ 64) (h3 : 1 ≤ n) (hm : n ≤ 9223372036854775807) (hf : 0 ≤ f) (hs : a - n < f) (w : World) :
    Calls Try.prog 16 #[.int .i64 a, .int .u64 x, .int .i64 f, .int .i64 n] w fun e w' => e = .returned (.tuple #[.int .u64 0, .int .i64 5]) ∧ w' = w := by
  go_enter Try.func16, Try.ntmps16
  go_wp2_with (first | (go_at_call 11; refine (right_yes _ _ ?_ ?_).mono ?_; omega; omega; rintro e w' ⟨rfl, rfl⟩) | (go_at_call 11; refine (right_no _ _ ?_).mono ?_; omega; rintro e w' ⟨rfl, rfl⟩) | (go_at_call 13; refine (trim_any _ _ _ ?_).mono ?_; (first | exact hx | exact hy | exact U_bits _ _ _ | exact U_wrap _ | exact U_shr _ _ hx | exact U_shr _ _ (U_trim _ _ hx)); rintro e w' ⟨rfl, rfl⟩) | (go_at_call 19; refine (signed_any _ _ _ ?_ ?_ ?_).mono ?_; omega; omega; exact hx; rintro e w' ⟨rfl, rfl⟩))
  go_ret2
  exact ⟨rfl, rfl⟩

theorem slice_any (a x f n : Int) (h1 : 1 ≤ a) (h2 : a ≤ 64) (h3 : 1 ≤ n) (hf : 0 ≤ f) (hg : f ≤ a - n) (hx : U x) (w : World) :
    Calls Try.prog 16 #[.int .i64 a, .int .u64 x, .int .i64 f, .int .i64 n] w fun e w' => e = .returned (.tuple #[.int .u64 (trimI n (x / 2 ^ f.toNat)), .int .i64 0]) ∧ w' = w := by
  go_enter Try.func16, Try.ntmps16
  go_wp2_with (first | (go_at_call 11; refine (right_yes _ _ ?_ ?_).mono ?_; omega; omega; rintro e w' ⟨rfl, rfl⟩) | (go_at_call 11; refine (right_no _ _ ?_).mono ?_; omega; rintro e w' ⟨rfl, rfl⟩) | (go_at_call 13; refine (trim_any _ _ _ ?_).mono ?_; (first | exact hx | exact hy | exact U_bits _ _ _ | exact U_wrap _ | exact U_shr _ _ hx | exact U_shr _ _ (U_trim _ _ hx)); rintro e w' ⟨rfl, rfl⟩) | (go_at_call 19; refine (signed_any _ _ _ ?_ ?_ ?_).mono ?_; omega; omega; exact hx; rintro e w' ⟨rfl, rfl⟩))
  go_ret2
  exact ⟨rfl, rfl⟩

theorem ext_op (op a x t : Int) (h32 : ¬ op = 32) (h33 : ¬ op = 33) (w : World) :
    Calls Try.prog 18 #[.int .i64 op, .int .i64 a, .int .u64 x, .int .i64 t] w fun e w' => e = .returned (.tuple #[.int .u64 0, .int .i64 73]) ∧ w' = w := by
  have k32 : (op != 32) = true := by simpa using h32
  have k33 : (op != 33) = true := by simpa using h33
  go_enter Try.func18, Try.ntmps18
  go_wp2_with (first | (go_at_call 11; refine (right_yes _ _ ?_ ?_).mono ?_; omega; omega; rintro e w' ⟨rfl, rfl⟩) | (go_at_call 11; refine (right_no _ _ ?_).mono ?_; omega; rintro e w' ⟨rfl, rfl⟩) | (go_at_call 13; refine (trim_any _ _ _ ?_).mono ?_; (first | exact hx | exact hy | exact U_bits _ _ _ | exact U_wrap _ | exact U_shr _ _ hx | exact U_shr _ _ (U_trim _ _ hx)); rintro e w' ⟨rfl, rfl⟩) | (go_at_call 19; refine (signed_any _ _ _ ?_ ?_ ?_).mono ?_; omega; omega; exact hx; rintro e w' ⟨rfl, rfl⟩))
  go_ret2
  exact ⟨rfl, rfl⟩

theorem ext_w32 (a x t : Int) (hn : a < 1 ∨ 64 < a) (w : World) :
    Calls Try.prog 18 #[.int .i64 32, .int .i64 a, .int .u64 x, .int .i64 t] w fun e w' => e = .returned (.tuple #[.int .u64 0, .int .i64 5]) ∧ w' = w := by
  go_enter Try.func18, Try.ntmps18
  go_wp2_with (first | (go_at_call 11; refine (right_yes _ _ ?_ ?_).mono ?_; omega; omega; rintro e w' ⟨rfl, rfl⟩) | (go_at_call 11; refine (right_no _ _ ?_).mono ?_; omega; rintro e w' ⟨rfl, rfl⟩) | (go_at_call 13; refine (trim_any _ _ _ ?_).mono ?_; (first | exact hx | exact hy | exact U_bits _ _ _ | exact U_wrap _ | exact U_shr _ _ hx | exact U_shr _ _ (U_trim _ _ hx)); rintro e w' ⟨rfl, rfl⟩) | (go_at_call 19; refine (signed_any _ _ _ ?_ ?_ ?_).mono ?_; omega; omega; exact hx; rintro e w' ⟨rfl, rfl⟩))
  go_ret2
  exact ⟨rfl, rfl⟩

theorem ext_t32 (a x t : Int) (h1 : 1 ≤ a) (h2 : a ≤ 64) (hn : t < 1 ∨ 64 < t) (w : World) :
    Calls Try.prog 18 #[.int .i64 32, .int .i64 a, .int .u64 x, .int .i64 t] w fun e w' => e = .returned (.tuple #[.int .u64 0, .int .i64 5]) ∧ w' = w := by
  go_enter Try.func18, Try.ntmps18
  go_wp2_with (first | (go_at_call 11; refine (right_yes _ _ ?_ ?_).mono ?_; omega; omega; rintro e w' ⟨rfl, rfl⟩) | (go_at_call 11; refine (right_no _ _ ?_).mono ?_; omega; rintro e w' ⟨rfl, rfl⟩) | (go_at_call 13; refine (trim_any _ _ _ ?_).mono ?_; (first | exact hx | exact hy | exact U_bits _ _ _ | exact U_wrap _ | exact U_shr _ _ hx | exact U_shr _ _ (U_trim _ _ hx)); rintro e w' ⟨rfl, rfl⟩) | (go_at_call 19; refine (signed_any _ _ _ ?_ ?_ ?_).mono ?_; omega; omega; exact hx; rintro e w' ⟨rfl, rfl⟩))
  go_ret2
  exact ⟨rfl, rfl⟩

theorem ext_s32 (a x t : Int) (h1 : 1 ≤ a) (h2 : a ≤ 64) (h3 : 1 ≤ t) (h4 : t ≤ 64) (hs : t < a) (w : World) :
    Calls Try.prog 18 #[.int .i64 32, .int .i64 a, .int .u64 x, .int .i64 t] w fun e w' => e = .returned (.tuple #[.int .u64 0, .int .i64 5]) ∧ w' = w := by
  go_enter Try.func18, Try.ntmps18
  go_wp2_with (first | (go_at_call 11; refine (right_yes _ _ ?_ ?_).mono ?_; omega; omega; rintro e w' ⟨rfl, rfl⟩) | (go_at_call 11; refine (right_no _ _ ?_).mono ?_; omega; rintro e w' ⟨rfl, rfl⟩) | (go_at_call 13; refine (trim_any _ _ _ ?_).mono ?_; (first | exact hx | exact hy | exact U_bits _ _ _ | exact U_wrap _ | exact U_shr _ _ hx | exact U_shr _ _ (U_trim _ _ hx)); rintro e w' ⟨rfl, rfl⟩) | (go_at_call 19; refine (signed_any _ _ _ ?_ ?_ ?_).mono ?_; omega; omega; exact hx; rintro e w' ⟨rfl, rfl⟩))
  go_ret2
  exact ⟨rfl, rfl⟩

theorem ext_32 (a x t : Int) (h1 : 1 ≤ a) (h2 : a ≤ 64) (h3 : 1 ≤ t) (h4 : t ≤ 64) (hs : a ≤ t) (hx : U x) (w : World) :
    Calls Try.prog 18 #[.int .i64 32, .int .i64 a, .int .u64 x, .int .i64 t] w fun e w' => e = .returned (.tuple #[.int .u64 (trimI a x), .int .i64 0]) ∧ w' = w := by
  go_enter Try.func18, Try.ntmps18
  go_wp2_with (first | (go_at_call 11; refine (right_yes _ _ ?_ ?_).mono ?_; omega; omega; rintro e w' ⟨rfl, rfl⟩) | (go_at_call 11; refine (right_no _ _ ?_).mono ?_; omega; rintro e w' ⟨rfl, rfl⟩) | (go_at_call 13; refine (trim_any _ _ _ ?_).mono ?_; (first | exact hx | exact hy | exact U_bits _ _ _ | exact U_wrap _ | exact U_shr _ _ hx | exact U_shr _ _ (U_trim _ _ hx)); rintro e w' ⟨rfl, rfl⟩) | (go_at_call 19; refine (signed_any _ _ _ ?_ ?_ ?_).mono ?_; omega; omega; exact hx; rintro e w' ⟨rfl, rfl⟩))
  go_ret2
  exact ⟨rfl, rfl⟩

theorem ext_w33 (a x t : Int) (hn : a < 1 ∨ 64 < a) (w : World) :
    Calls Try.prog 18 #[.int .i64 33, .int .i64 a, .int .u64 x, .int .i64 t] w fun e w' => e = .returned (.tuple #[.int .u64 0, .int .i64 5]) ∧ w' = w := by
  go_enter Try.func18, Try.ntmps18
  go_wp2_with (first | (go_at_call 11; refine (right_yes _ _ ?_ ?_).mono ?_; omega; omega; rintro e w' ⟨rfl, rfl⟩) | (go_at_call 11; refine (right_no _ _ ?_).mono ?_; omega; rintro e w' ⟨rfl, rfl⟩) | (go_at_call 13; refine (trim_any _ _ _ ?_).mono ?_; (first | exact hx | exact hy | exact U_bits _ _ _ | exact U_wrap _ | exact U_shr _ _ hx | exact U_shr _ _ (U_trim _ _ hx)); rintro e w' ⟨rfl, rfl⟩) | (go_at_call 19; refine (signed_any _ _ _ ?_ ?_ ?_).mono ?_; omega; omega; exact hx; rintro e w' ⟨rfl, rfl⟩))
  go_ret2
  exact ⟨rfl, rfl⟩

theorem ext_t33 (a x t : Int) (h1 : 1 ≤ a) (h2 : a ≤ 64) (hn : t < 1 ∨ 64 < t) (w : World) :
    Calls Try.prog 18 #[.int .i64 33, .int .i64 a, .int .u64 x, .int .i64 t] w fun e w' => e = .returned (.tuple #[.int .u64 0, .int .i64 5]) ∧ w' = w := by
  go_enter Try.func18, Try.ntmps18
  go_wp2_with (first | (go_at_call 11; refine (right_yes _ _ ?_ ?_).mono ?_; omega; omega; rintro e w' ⟨rfl, rfl⟩) | (go_at_call 11; refine (right_no _ _ ?_).mono ?_; omega; rintro e w' ⟨rfl, rfl⟩) | (go_at_call 13; refine (trim_any _ _ _ ?_).mono ?_; (first | exact hx | exact hy | exact U_bits _ _ _ | exact U_wrap _ | exact U_shr _ _ hx | exact U_shr _ _ (U_trim _ _ hx)); rintro e w' ⟨rfl, rfl⟩) | (go_at_call 19; refine (signed_any _ _ _ ?_ ?_ ?_).mono ?_; omega; omega; exact hx; rintro e w' ⟨rfl, rfl⟩))
  go_ret2
  exact ⟨rfl, rfl⟩

theorem ext_s33 (a x t : Int) (h1 : 1 ≤ a) (h2 : a ≤ 64) (h3 : 1 ≤ t) (h4 : t ≤ 64) (hs : t < a) (w : World) :
    Calls Try.prog 18 #[.int .i64 33, .int .i64 a, .int .u64 x, .int .i64 t] w fun e w' => e = .returned (.tuple #[.int .u64 0, .int .i64 5]) ∧ w' = w := by
  go_enter Try.func18, Try.ntmps18
  go_wp2_with (first | (go_at_call 11; refine (right_yes _ _ ?_ ?_).mono ?_; omega; omega; rintro e w' ⟨rfl, rfl⟩) | (go_at_call 11; refine (right_no _ _ ?_).mono ?_; omega; rintro e w' ⟨rfl, rfl⟩) | (go_at_call 13; refine (trim_any _ _ _ ?_).mono ?_; (first | exact hx | exact hy | exact U_bits _ _ _ | exact U_wrap _ | exact U_shr _ _ hx | exact U_shr _ _ (U_trim _ _ hx)); rintro e w' ⟨rfl, rfl⟩) | (go_at_call 19; refine (signed_any _ _ _ ?_ ?_ ?_).mono ?_; omega; omega; exact hx; rintro e w' ⟨rfl, rfl⟩))
  go_ret2
  exact ⟨rfl, rfl⟩

theorem ext_33 (a x t : Int) (h1 : 1 ≤ a) (h2 : a ≤ 64) (h3 : 1 ≤ t) (h4 : t ≤ 64) (hs : a ≤ t) (hx : U x) (w : World) :
    Calls Try.prog 18 #[.int .i64 33, .int .i64 a, .int .u64 x, .int .i64 t] w fun e w' => e = .returned (.tuple #[.int .u64 (trimI t (IntKind.u64.wrap (sgnI a x))), .int .i64 0]) ∧ w' = w := by
  go_enter Try.func18, Try.ntmps18
  go_wp2_with (first | (go_at_call 11; refine (right_yes _ _ ?_ ?_).mono ?_; omega; omega; rintro e w' ⟨rfl, rfl⟩) | (go_at_call 11; refine (right_no _ _ ?_).mono ?_; omega; rintro e w' ⟨rfl, rfl⟩) | (go_at_call 13; refine (trim_any _ _ _ ?_).mono ?_; (first | exact hx | exact hy | exact U_bits _ _ _ | exact U_wrap _ | exact U_shr _ _ hx | exact U_shr _ _ (U_trim _ _ hx)); rintro e w' ⟨rfl, rfl⟩) | (go_at_call 19; refine (signed_any _ _ _ ?_ ?_ ?_).mono ?_; omega; omega; exact hx; rintro e w' ⟨rfl, rfl⟩))
  go_ret2
  exact ⟨rfl, rfl⟩

theorem grown_drewN (w : World) (n : Nat) : Grown w (w.drewN n) := by
  induction n with
  | zero => exact Grown.refl _
  | succ n ih => rw [← World.drew_drewN]; exact ih.drew

abbrev Gives (f : Nat) (args : Array Value) (r : Value) : Prop := ∀ w, Calls Try.prog f args w fun e w' => e = .returned r ∧ ∃ n, w' = w.drewN n
theorem gives {f : Nat} {args : Array Value} {r : Value} (h : ∀ w, Calls Try.prog f args w fun e w' => e = .returned r ∧ w' = w) : Gives f args r :=
  fun w => (h w).mono fun _ _ ⟨he, hw⟩ => ⟨he, 0, hw⟩
end Go.Proofs.Ytjdgcfedpinopab
