import Derived.Test.YtjdgcfedpinopaaWalks
import Derived.Test.YtjdgcfedpinopaaMath2
import Derived.Deep.QuietTactic
import Derived.BigQuiet
namespace Go.Proofs.Ytjdgcfedpinopaa
open Go.ChangeShapes Go.WideShapes Go.ChangeAt Go.RowKit Go.Bw

theorem ret2_int {k j : IntKind} {a b c : Int} (h : a = b) : Ending.returned (.tuple #[.int k a, .int j c]) = .returned (.tuple #[.int k b, .int j c]) := by rw [h]

theorem cat_w (a x v y : Int) (hn : a < 1 ∨ 64 < a) (w : World) :
    Calls Try.prog 20 #[.int .i64 a, .int .u64 x, .int .i64 v, .int .u64 y] w fun e w' => e = .returned (.tuple #[.int .u64 0, .int .i64 5]) ∧ w' = w := by
  go_enter Try.func20, Try.ntmps20
  go_wp2_with (first | (go_at_call 8; refine (right_yes _ _ ?_ ?_).mono ?_; omega; omega; rintro e w' ⟨rfl, rfl⟩) | (go_at_call 8; refine (right_no _ _ ?_).mono ?_; omega; rintro e w' ⟨rfl, rfl⟩) | (go_at_call 10; refine (trim_any _ _ _ ?_).mono ?_; (first | exact hx | exact hy | exact U_bits _ _ _ | exact U_wrap _ | exact U_shr _ _ hx | exact U_shr _ _ (U_trim _ _ hx)); rintro e w' ⟨rfl, rfl⟩) | (go_at_call 12; refine (signed_any _ _ _ ?_ ?_ ?_).mono ?_; omega; omega; exact hx; rintro e w' ⟨rfl, rfl⟩))
  go_ret2
  exact ⟨rfl, rfl⟩

theorem cat_v (a x v y : Int) (h1 : 1 ≤ a) (h2 : a ≤ 64) (hn : v < 1 ∨ 64 < v) (w : World) :
    Calls Try.prog 20 #[.int .i64 a, .int .u64 x, .int .i64 v, .int .u64 y] w fun e w' => e = .returned (.tuple #[.int .u64 0, .int .i64 5]) ∧ w' = w := by
  go_enter Try.func20, Try.ntmps20
  go_wp2_with (first | (go_at_call 8; refine (right_yes _ _ ?_ ?_).mono ?_; omega; omega; rintro e w' ⟨rfl, rfl⟩) | (go_at_call 8; refine (right_no _ _ ?_).mono ?_; omega; rintro e w' ⟨rfl, rfl⟩) | (go_at_call 10; refine (trim_any _ _ _ ?_).mono ?_; (first | exact hx | exact hy | exact U_bits _ _ _ | exact U_wrap _ | exact U_shr _ _ hx | exact U_shr _ _ (U_trim _ _ hx)); rintro e w' ⟨rfl, rfl⟩) | (go_at_call 12; refine (signed_any _ _ _ ?_ ?_ ?_).mono ?_; omega; omega; exact hx; rintro e w' ⟨rfl, rfl⟩))
  go_ret2
  exact ⟨rfl, rfl⟩

theorem cat_s (a x v y : Int) (h1 : 1 ≤ a) (h2 : a ≤ 64) (h3 : 1 ≤ v) (h4 : v ≤ 64) (h5 : 64 < a + v) (w : World) :
    Calls Try.prog 20 #[.int .i64 a, .int .u64 x, .int .i64 v, .int .u64 y] w fun e w' => e = .returned (.tuple #[.int .u64 0, .int .i64 5]) ∧ w' = w := by
  go_enter Try.func20, Try.ntmps20
  go_wp2_with (first | (go_at_call 8; refine (right_yes _ _ ?_ ?_).mono ?_; omega; omega; rintro e w' ⟨rfl, rfl⟩) | (go_at_call 8; refine (right_no _ _ ?_).mono ?_; omega; rintro e w' ⟨rfl, rfl⟩) | (go_at_call 10; refine (trim_any _ _ _ ?_).mono ?_; (first | exact hx | exact hy | exact U_bits _ _ _ | exact U_wrap _ | exact U_shr _ _ hx | exact U_shr _ _ (U_trim _ _ hx)); rintro e w' ⟨rfl, rfl⟩) | (go_at_call 12; refine (signed_any _ _ _ ?_ ?_ ?_).mono ?_; omega; omega; exact hx; rintro e w' ⟨rfl, rfl⟩))
  go_ret2
  exact ⟨rfl, rfl⟩

theorem cat_any (a x v y : Int) (h1 : 1 ≤ a) (h3 : 1 ≤ v) (h4 : a + v ≤ 64) (hx : U x) (hy : U y) (w : World) :
    Calls Try.prog 20 #[.int .i64 a, .int .u64 x, .int .i64 v, .int .u64 y] w fun e w' => e = .returned (.tuple #[.int .u64 (catI a x v y), .int .i64 0]) ∧ ∃ n, w' = w.drewN n := by
  have hm : Hid (bits .or .u64 (IntKind.u64.wrap (trimI a x * 2 ^ v.toNat)) (trimI v y) = catI a x v y) := cat_or a x v y h1 h3 h4 hx hy
  have hv : v ≤ 64 := by omega
  have hv0 : 0 ≤ v := by omega
  have ha : a ≤ 64 := by omega
  go_enter Try.func20, Try.ntmps20
  go_wp2_with (first | (go_at_call 8; refine (right_yes _ _ ?_ ?_).mono ?_; omega; omega; rintro e w' ⟨rfl, rfl⟩))
  go_quiet ((go_at_call 10; refine Calls.quiet_of_same (trim_any _ _ _ ?_); (first | exact hx | exact hy)))
  go_wp2
  go_ret2
  exact ⟨ret2_int hm.out, _, rfl⟩

theorem slice_w (a x f n : Int) (hn : a < 1 ∨ 64 < a) (w : World) :
    Calls Try.prog 22 #[.int .i64 a, .int .u64 x, .int .i64 f, .int .i64 n] w fun e w' => e = .returned (.tuple #[.int .u64 0, .int .i64 5]) ∧ w' = w := by
  go_enter Try.func22, Try.ntmps22
  go_wp2_with (first | (go_at_call 8; refine (right_yes _ _ ?_ ?_).mono ?_; omega; omega; rintro e w' ⟨rfl, rfl⟩) | (go_at_call 8; refine (right_no _ _ ?_).mono ?_; omega; rintro e w' ⟨rfl, rfl⟩) | (go_at_call 10; refine (trim_any _ _ _ ?_).mono ?_; (first | exact hx | exact hy | exact U_bits _ _ _ | exact U_wrap _ | exact U_shr _ _ hx | exact U_shr _ _ (U_trim _ _ hx)); rintro e w' ⟨rfl, rfl⟩) | (go_at_call 12; refine (signed_any _ _ _ ?_ ?_ ?_).mono ?_; omega; omega; exact hx; rintro e w' ⟨rfl, rfl⟩))
  go_ret2
  exact ⟨rfl, rfl⟩

theorem slice_n (a x f n : Int) (h1 : 1 ≤ a) (h2 : a ≤ 64) (hn : n < 1) (w : World) :
    Calls Try.prog 22 #[.int .i64 a, .int .u64 x, .int .i64 f, .int .i64 n] w fun e w' => e = .returned (.tuple #[.int .u64 0, .int .i64 5]) ∧ w' = w := by
  go_enter Try.func22, Try.ntmps22
  go_wp2_with (first | (go_at_call 8; refine (right_yes _ _ ?_ ?_).mono ?_; omega; omega; rintro e w' ⟨rfl, rfl⟩) | (go_at_call 8; refine (right_no _ _ ?_).mono ?_; omega; rintro e w' ⟨rfl, rfl⟩) | (go_at_call 10; refine (trim_any _ _ _ ?_).mono ?_; (first | exact hx | exact hy | exact U_bits _ _ _ | exact U_wrap _ | exact U_shr _ _ hx | exact U_shr _ _ (U_trim _ _ hx)); rintro e w' ⟨rfl, rfl⟩) | (go_at_call 12; refine (signed_any _ _ _ ?_ ?_ ?_).mono ?_; omega; omega; exact hx; rintro e w' ⟨rfl, rfl⟩))
  go_ret2
  exact ⟨rfl, rfl⟩

theorem slice_f (a x f n : Int) (h1 : 1 ≤ a) (h2 : a ≤ 64) (h3 : 1 ≤ n) (hf : f < 0) (w : World) :
    Calls Try.prog 22 #[.int .i64 a, .int .u64 x, .int .i64 f, .int .i64 n] w fun e w' => e = .returned (.tuple #[.int .u64 0, .int .i64 5]) ∧ w' = w := by
  go_enter Try.func22, Try.ntmps22
  go_wp2_with (first | (go_at_call 8; refine (right_yes _ _ ?_ ?_).mono ?_; omega; omega; rintro e w' ⟨rfl, rfl⟩) | (go_at_call 8; refine (right_no _ _ ?_).mono ?_; omega; rintro e w' ⟨rfl, rfl⟩) | (go_at_call 10; refine (trim_any _ _ _ ?_).mono ?_; (first | exact hx | exact hy | exact U_bits _ _ _ | exact U_wrap _ | exact U_shr _ _ hx | exact U_shr _ _ (U_trim _ _ hx)); rintro e w' ⟨rfl, rfl⟩) | (go_at_call 12; refine (signed_any _ _ _ ?_ ?_ ?_).mono ?_; omega; omega; exact hx; rintro e w' ⟨rfl, rfl⟩))
  go_ret2
  exact ⟨rfl, rfl⟩

theorem slice_s (a x f n : Int) (h1 : 1 ≤ a) (h2 : a ≤ 64) (h3 : 1 ≤ n) (hm : n ≤ 9223372036854775807) (hf : 0 ≤ f) (hs : a - n < f) (w : World) :
    Calls Try.prog 22 #[.int .i64 a, .int .u64 x, .int .i64 f, .int .i64 n] w fun e w' => e = .returned (.tuple #[.int .u64 0, .int .i64 5]) ∧ w' = w := by
  go_enter Try.func22, Try.ntmps22
  go_wp2_with (first | (go_at_call 8; refine (right_yes _ _ ?_ ?_).mono ?_; omega; omega; rintro e w' ⟨rfl, rfl⟩) | (go_at_call 8; refine (right_no _ _ ?_).mono ?_; omega; rintro e w' ⟨rfl, rfl⟩) | (go_at_call 10; refine (trim_any _ _ _ ?_).mono ?_; (first | exact hx | exact hy | exact U_bits _ _ _ | exact U_wrap _ | exact U_shr _ _ hx | exact U_shr _ _ (U_trim _ _ hx)); rintro e w' ⟨rfl, rfl⟩) | (go_at_call 12; refine (signed_any _ _ _ ?_ ?_ ?_).mono ?_; omega; omega; exact hx; rintro e w' ⟨rfl, rfl⟩))
  go_ret2
  exact ⟨rfl, rfl⟩

theorem slice_any (a x f n : Int) (h1 : 1 ≤ a) (h2 : a ≤ 64) (h3 : 1 ≤ n) (hf : 0 ≤ f) (hg : f ≤ a - n) (hx : U x) (w : World) :
    Calls Try.prog 22 #[.int .i64 a, .int .u64 x, .int .i64 f, .int .i64 n] w fun e w' => e = .returned (.tuple #[.int .u64 (trimI n (x / 2 ^ f.toNat)), .int .i64 0]) ∧ w' = w := by
  go_enter Try.func22, Try.ntmps22
  go_wp2_with (first | (go_at_call 8; refine (right_yes _ _ ?_ ?_).mono ?_; omega; omega; rintro e w' ⟨rfl, rfl⟩) | (go_at_call 8; refine (right_no _ _ ?_).mono ?_; omega; rintro e w' ⟨rfl, rfl⟩) | (go_at_call 10; refine (trim_any _ _ _ ?_).mono ?_; (first | exact hx | exact hy | exact U_bits _ _ _ | exact U_wrap _ | exact U_shr _ _ hx | exact U_shr _ _ (U_trim _ _ hx)); rintro e w' ⟨rfl, rfl⟩) | (go_at_call 12; refine (signed_any _ _ _ ?_ ?_ ?_).mono ?_; omega; omega; exact hx; rintro e w' ⟨rfl, rfl⟩))
  go_ret2
  exact ⟨rfl, rfl⟩

theorem ext_op (op a x t : Int) (h32 : ¬ op = 32) (h33 : ¬ op = 33) (w : World) :
    Calls Try.prog 24 #[.int .i64 op, .int .i64 a, .int .u64 x, .int .i64 t] w fun e w' => e = .returned (.tuple #[.int .u64 0, .int .i64 73]) ∧ w' = w := by
  have k32 : (op != 32) = true := by simpa using h32
  have k33 : (op != 33) = true := by simpa using h33
  go_enter Try.func24, Try.ntmps24
  go_wp2_with (first | (go_at_call 8; refine (right_yes _ _ ?_ ?_).mono ?_; omega; omega; rintro e w' ⟨rfl, rfl⟩) | (go_at_call 8; refine (right_no _ _ ?_).mono ?_; omega; rintro e w' ⟨rfl, rfl⟩) | (go_at_call 10; refine (trim_any _ _ _ ?_).mono ?_; (first | exact hx | exact hy | exact U_bits _ _ _ | exact U_wrap _ | exact U_shr _ _ hx | exact U_shr _ _ (U_trim _ _ hx)); rintro e w' ⟨rfl, rfl⟩) | (go_at_call 12; refine (signed_any _ _ _ ?_ ?_ ?_).mono ?_; omega; omega; exact hx; rintro e w' ⟨rfl, rfl⟩))
  go_ret2
  exact ⟨rfl, rfl⟩

theorem ext_w32 (a x t : Int) (hn : a < 1 ∨ 64 < a) (w : World) :
    Calls Try.prog 24 #[.int .i64 32, .int .i64 a, .int .u64 x, .int .i64 t] w fun e w' => e = .returned (.tuple #[.int .u64 0, .int .i64 5]) ∧ w' = w := by
  go_enter Try.func24, Try.ntmps24
  go_wp2_with (first | (go_at_call 8; refine (right_yes _ _ ?_ ?_).mono ?_; omega; omega; rintro e w' ⟨rfl, rfl⟩) | (go_at_call 8; refine (right_no _ _ ?_).mono ?_; omega; rintro e w' ⟨rfl, rfl⟩) | (go_at_call 10; refine (trim_any _ _ _ ?_).mono ?_; (first | exact hx | exact hy | exact U_bits _ _ _ | exact U_wrap _ | exact U_shr _ _ hx | exact U_shr _ _ (U_trim _ _ hx)); rintro e w' ⟨rfl, rfl⟩) | (go_at_call 12; refine (signed_any _ _ _ ?_ ?_ ?_).mono ?_; omega; omega; exact hx; rintro e w' ⟨rfl, rfl⟩))
  go_ret2
  exact ⟨rfl, rfl⟩

theorem ext_t32 (a x t : Int) (h1 : 1 ≤ a) (h2 : a ≤ 64) (hn : t < 1 ∨ 64 < t) (w : World) :
    Calls Try.prog 24 #[.int .i64 32, .int .i64 a, .int .u64 x, .int .i64 t] w fun e w' => e = .returned (.tuple #[.int .u64 0, .int .i64 5]) ∧ w' = w := by
  go_enter Try.func24, Try.ntmps24
  go_wp2_with (first | (go_at_call 8; refine (right_yes _ _ ?_ ?_).mono ?_; omega; omega; rintro e w' ⟨rfl, rfl⟩) | (go_at_call 8; refine (right_no _ _ ?_).mono ?_; omega; rintro e w' ⟨rfl, rfl⟩) | (go_at_call 10; refine (trim_any _ _ _ ?_).mono ?_; (first | exact hx | exact hy | exact U_bits _ _ _ | exact U_wrap _ | exact U_shr _ _ hx | exact U_shr _ _ (U_trim _ _ hx)); rintro e w' ⟨rfl, rfl⟩) | (go_at_call 12; refine (signed_any _ _ _ ?_ ?_ ?_).mono ?_; omega; omega; exact hx; rintro e w' ⟨rfl, rfl⟩))
  go_ret2
  exact ⟨rfl, rfl⟩

theorem ext_s32 (a x t : Int) (h1 : 1 ≤ a) (h2 : a ≤ 64) (h3 : 1 ≤ t) (h4 : t ≤ 64) (hs : t < a) (w : World) :
    Calls Try.prog 24 #[.int .i64 32, .int .i64 a, .int .u64 x, .int .i64 t] w fun e w' => e = .returned (.tuple #[.int .u64 0, .int .i64 5]) ∧ w' = w := by
  go_enter Try.func24, Try.ntmps24
  go_wp2_with (first | (go_at_call 8; refine (right_yes _ _ ?_ ?_).mono ?_; omega; omega; rintro e w' ⟨rfl, rfl⟩) | (go_at_call 8; refine (right_no _ _ ?_).mono ?_; omega; rintro e w' ⟨rfl, rfl⟩) | (go_at_call 10; refine (trim_any _ _ _ ?_).mono ?_; (first | exact hx | exact hy | exact U_bits _ _ _ | exact U_wrap _ | exact U_shr _ _ hx | exact U_shr _ _ (U_trim _ _ hx)); rintro e w' ⟨rfl, rfl⟩) | (go_at_call 12; refine (signed_any _ _ _ ?_ ?_ ?_).mono ?_; omega; omega; exact hx; rintro e w' ⟨rfl, rfl⟩))
  go_ret2
  exact ⟨rfl, rfl⟩

theorem ext_32 (a x t : Int) (h1 : 1 ≤ a) (h2 : a ≤ 64) (h3 : 1 ≤ t) (h4 : t ≤ 64) (hs : a ≤ t) (hx : U x) (w : World) :
    Calls Try.prog 24 #[.int .i64 32, .int .i64 a, .int .u64 x, .int .i64 t] w fun e w' => e = .returned (.tuple #[.int .u64 (trimI a x), .int .i64 0]) ∧ w' = w := by
  go_enter Try.func24, Try.ntmps24
  go_wp2_with (first | (go_at_call 8; refine (right_yes _ _ ?_ ?_).mono ?_; omega; omega; rintro e w' ⟨rfl, rfl⟩) | (go_at_call 8; refine (right_no _ _ ?_).mono ?_; omega; rintro e w' ⟨rfl, rfl⟩) | (go_at_call 10; refine (trim_any _ _ _ ?_).mono ?_; (first | exact hx | exact hy | exact U_bits _ _ _ | exact U_wrap _ | exact U_shr _ _ hx | exact U_shr _ _ (U_trim _ _ hx)); rintro e w' ⟨rfl, rfl⟩) | (go_at_call 12; refine (signed_any _ _ _ ?_ ?_ ?_).mono ?_; omega; omega; exact hx; rintro e w' ⟨rfl, rfl⟩))
  go_ret2
  exact ⟨rfl, rfl⟩

theorem ext_w33 (a x t : Int) (hn : a < 1 ∨ 64 < a) (w : World) :
    Calls Try.prog 24 #[.int .i64 33, .int .i64 a, .int .u64 x, .int .i64 t] w fun e w' => e = .returned (.tuple #[.int .u64 0, .int .i64 5]) ∧ w' = w := by
  go_enter Try.func24, Try.ntmps24
  go_wp2_with (first | (go_at_call 8; refine (right_yes _ _ ?_ ?_).mono ?_; omega; omega; rintro e w' ⟨rfl, rfl⟩) | (go_at_call 8; refine (right_no _ _ ?_).mono ?_; omega; rintro e w' ⟨rfl, rfl⟩) | (go_at_call 10; refine (trim_any _ _ _ ?_).mono ?_; (first | exact hx | exact hy | exact U_bits _ _ _ | exact U_wrap _ | exact U_shr _ _ hx | exact U_shr _ _ (U_trim _ _ hx)); rintro e w' ⟨rfl, rfl⟩) | (go_at_call 12; refine (signed_any _ _ _ ?_ ?_ ?_).mono ?_; omega; omega; exact hx; rintro e w' ⟨rfl, rfl⟩))
  go_ret2
  exact ⟨rfl, rfl⟩

theorem ext_t33 (a x t : Int) (h1 : 1 ≤ a) (h2 : a ≤ 64) (hn : t < 1 ∨ 64 < t) (w : World) :
    Calls Try.prog 24 #[.int .i64 33, .int .i64 a, .int .u64 x, .int .i64 t] w fun e w' => e = .returned (.tuple #[.int .u64 0, .int .i64 5]) ∧ w' = w := by
  go_enter Try.func24, Try.ntmps24
  go_wp2_with (first | (go_at_call 8; refine (right_yes _ _ ?_ ?_).mono ?_; omega; omega; rintro e w' ⟨rfl, rfl⟩) | (go_at_call 8; refine (right_no _ _ ?_).mono ?_; omega; rintro e w' ⟨rfl, rfl⟩) | (go_at_call 10; refine (trim_any _ _ _ ?_).mono ?_; (first | exact hx | exact hy | exact U_bits _ _ _ | exact U_wrap _ | exact U_shr _ _ hx | exact U_shr _ _ (U_trim _ _ hx)); rintro e w' ⟨rfl, rfl⟩) | (go_at_call 12; refine (signed_any _ _ _ ?_ ?_ ?_).mono ?_; omega; omega; exact hx; rintro e w' ⟨rfl, rfl⟩))
  go_ret2
  exact ⟨rfl, rfl⟩

theorem ext_s33 (a x t : Int) (h1 : 1 ≤ a) (h2 : a ≤ 64) (h3 : 1 ≤ t) (h4 : t ≤ 64) (hs : t < a) (w : World) :
    Calls Try.prog 24 #[.int .i64 33, .int .i64 a, .int .u64 x, .int .i64 t] w fun e w' => e = .returned (.tuple #[.int .u64 0, .int .i64 5]) ∧ w' = w := by
  go_enter Try.func24, Try.ntmps24
  go_wp2_with (first | (go_at_call 8; refine (right_yes _ _ ?_ ?_).mono ?_; omega; omega; rintro e w' ⟨rfl, rfl⟩) | (go_at_call 8; refine (right_no _ _ ?_).mono ?_; omega; rintro e w' ⟨rfl, rfl⟩) | (go_at_call 10; refine (trim_any _ _ _ ?_).mono ?_; (first | exact hx | exact hy | exact U_bits _ _ _ | exact U_wrap _ | exact U_shr _ _ hx | exact U_shr _ _ (U_trim _ _ hx)); rintro e w' ⟨rfl, rfl⟩) | (go_at_call 12; refine (signed_any _ _ _ ?_ ?_ ?_).mono ?_; omega; omega; exact hx; rintro e w' ⟨rfl, rfl⟩))
  go_ret2
  exact ⟨rfl, rfl⟩

theorem ext_33 (a x t : Int) (h1 : 1 ≤ a) (h2 : a ≤ 64) (h3 : 1 ≤ t) (h4 : t ≤ 64) (hs : a ≤ t) (hx : U x) (w : World) :
    Calls Try.prog 24 #[.int .i64 33, .int .i64 a, .int .u64 x, .int .i64 t] w fun e w' => e = .returned (.tuple #[.int .u64 (trimI t (IntKind.u64.wrap (sgnI a x))), .int .i64 0]) ∧ w' = w := by
  go_enter Try.func24, Try.ntmps24
  go_wp2_with (first | (go_at_call 8; refine (right_yes _ _ ?_ ?_).mono ?_; omega; omega; rintro e w' ⟨rfl, rfl⟩) | (go_at_call 8; refine (right_no _ _ ?_).mono ?_; omega; rintro e w' ⟨rfl, rfl⟩) | (go_at_call 10; refine (trim_any _ _ _ ?_).mono ?_; (first | exact hx | exact hy | exact U_bits _ _ _ | exact U_wrap _ | exact U_shr _ _ hx | exact U_shr _ _ (U_trim _ _ hx)); rintro e w' ⟨rfl, rfl⟩) | (go_at_call 12; refine (signed_any _ _ _ ?_ ?_ ?_).mono ?_; omega; omega; exact hx; rintro e w' ⟨rfl, rfl⟩))
  go_ret2
  exact ⟨rfl, rfl⟩

theorem rcat_w (a x v y : Int) (hn : a < 1 ∨ 64 < a) (w : World) :
    Calls Try.prog 21 #[.int .i64 a, .int .u64 x, .int .i64 v, .int .u64 y] w fun e w' => e = .returned (.tuple #[.int .u64 0, .int .i64 5]) ∧ w' = w := by
  go_enter Try.func21, Try.ntmps21
  go_wp2_with (first | (go_at_call 9; refine (rright_yes _ _ ?_ ?_).mono ?_; omega; omega; rintro e w' ⟨rfl, rfl⟩) | (go_at_call 9; refine (rright_no _ _ ?_).mono ?_; omega; rintro e w' ⟨rfl, rfl⟩) | (go_at_call 11; refine (rtrim_any _ _ _ ?_).mono ?_; (first | exact hx | exact hy | exact U_bits _ _ _ | exact U_wrap _ | exact U_shr _ _ hx | exact U_shr _ _ (U_trim _ _ hx)); rintro e w' ⟨rfl, rfl⟩) | (go_at_call 13; refine (rsigned_any _ _ _ ?_ ?_ ?_).mono ?_; omega; omega; exact hx; rintro e w' ⟨rfl, rfl⟩))
  go_ret2
  exact ⟨rfl, rfl⟩

theorem rcat_v (a x v y : Int) (h1 : 1 ≤ a) (h2 : a ≤ 64) (hn : v < 1 ∨ 64 < v) (w : World) :
    Calls Try.prog 21 #[.int .i64 a, .int .u64 x, .int .i64 v, .int .u64 y] w fun e w' => e = .returned (.tuple #[.int .u64 0, .int .i64 5]) ∧ w' = w := by
  go_enter Try.func21, Try.ntmps21
  go_wp2_with (first | (go_at_call 9; refine (rright_yes _ _ ?_ ?_).mono ?_; omega; omega; rintro e w' ⟨rfl, rfl⟩) | (go_at_call 9; refine (rright_no _ _ ?_).mono ?_; omega; rintro e w' ⟨rfl, rfl⟩) | (go_at_call 11; refine (rtrim_any _ _ _ ?_).mono ?_; (first | exact hx | exact hy | exact U_bits _ _ _ | exact U_wrap _ | exact U_shr _ _ hx | exact U_shr _ _ (U_trim _ _ hx)); rintro e w' ⟨rfl, rfl⟩) | (go_at_call 13; refine (rsigned_any _ _ _ ?_ ?_ ?_).mono ?_; omega; omega; exact hx; rintro e w' ⟨rfl, rfl⟩))
  go_ret2
  exact ⟨rfl, rfl⟩

theorem rcat_s (a x v y : Int) (h1 : 1 ≤ a) (h2 : a ≤ 64) (h3 : 1 ≤ v) (h4 : v ≤ 64) (h5 : 64 < a + v) (w : World) :
    Calls Try.prog 21 #[.int .i64 a, .int .u64 x, .int .i64 v, .int .u64 y] w fun e w' => e = .returned (.tuple #[.int .u64 0, .int .i64 5]) ∧ w' = w := by
  go_enter Try.func21, Try.ntmps21
  go_wp2_with (first | (go_at_call 9; refine (rright_yes _ _ ?_ ?_).mono ?_; omega; omega; rintro e w' ⟨rfl, rfl⟩) | (go_at_call 9; refine (rright_no _ _ ?_).mono ?_; omega; rintro e w' ⟨rfl, rfl⟩) | (go_at_call 11; refine (rtrim_any _ _ _ ?_).mono ?_; (first | exact hx | exact hy | exact U_bits _ _ _ | exact U_wrap _ | exact U_shr _ _ hx | exact U_shr _ _ (U_trim _ _ hx)); rintro e w' ⟨rfl, rfl⟩) | (go_at_call 13; refine (rsigned_any _ _ _ ?_ ?_ ?_).mono ?_; omega; omega; exact hx; rintro e w' ⟨rfl, rfl⟩))
  go_ret2
  exact ⟨rfl, rfl⟩

theorem rcat_any (a x v y : Int) (h1 : 1 ≤ a) (h3 : 1 ≤ v) (h4 : a + v ≤ 64) (hx : U x) (hy : U y) (w : World) :
    Calls Try.prog 21 #[.int .i64 a, .int .u64 x, .int .i64 v, .int .u64 y] w fun e w' => e = .returned (.tuple #[.int .u64 (catI a x v y), .int .i64 0]) ∧ w' = w := by
  have hm : Hid (IntKind.u64.wrap (IntKind.u64.wrap (trimI a x * 2 ^ v.toNat) + trimI v y) = catI a x v y) := cat_add a x v y h1 h3 h4 hx hy
  go_enter Try.func21, Try.ntmps21
  go_wp2_with (first | (go_at_call 9; refine (rright_yes _ _ ?_ ?_).mono ?_; omega; omega; rintro e w' ⟨rfl, rfl⟩) | (go_at_call 9; refine (rright_no _ _ ?_).mono ?_; omega; rintro e w' ⟨rfl, rfl⟩) | (go_at_call 11; refine (rtrim_any _ _ _ ?_).mono ?_; (first | exact hx | exact hy | exact U_bits _ _ _ | exact U_wrap _ | exact U_shr _ _ hx | exact U_shr _ _ (U_trim _ _ hx)); rintro e w' ⟨rfl, rfl⟩) | (go_at_call 13; refine (rsigned_any _ _ _ ?_ ?_ ?_).mono ?_; omega; omega; exact hx; rintro e w' ⟨rfl, rfl⟩))
  go_ret2
  exact ⟨ret2_int hm.out, rfl⟩

theorem rslice_w (a x f n : Int) (hn : a < 1 ∨ 64 < a) (w : World) :
    Calls Try.prog 23 #[.int .i64 a, .int .u64 x, .int .i64 f, .int .i64 n] w fun e w' => e = .returned (.tuple #[.int .u64 0, .int .i64 5]) ∧ w' = w := by
  go_enter Try.func23, Try.ntmps23
  go_wp2_with (first | (go_at_call 9; refine (rright_yes _ _ ?_ ?_).mono ?_; omega; omega; rintro e w' ⟨rfl, rfl⟩) | (go_at_call 9; refine (rright_no _ _ ?_).mono ?_; omega; rintro e w' ⟨rfl, rfl⟩) | (go_at_call 11; refine (rtrim_any _ _ _ ?_).mono ?_; (first | exact hx | exact hy | exact U_bits _ _ _ | exact U_wrap _ | exact U_shr _ _ hx | exact U_shr _ _ (U_trim _ _ hx)); rintro e w' ⟨rfl, rfl⟩) | (go_at_call 13; refine (rsigned_any _ _ _ ?_ ?_ ?_).mono ?_; omega; omega; exact hx; rintro e w' ⟨rfl, rfl⟩))
  go_ret2
  exact ⟨rfl, rfl⟩

theorem rslice_n (a x f n : Int) (h1 : 1 ≤ a) (h2 : a ≤ 64) (hn : n < 1) (w : World) :
    Calls Try.prog 23 #[.int .i64 a, .int .u64 x, .int .i64 f, .int .i64 n] w fun e w' => e = .returned (.tuple #[.int .u64 0, .int .i64 5]) ∧ w' = w := by
  go_enter Try.func23, Try.ntmps23
  go_wp2_with (first | (go_at_call 9; refine (rright_yes _ _ ?_ ?_).mono ?_; omega; omega; rintro e w' ⟨rfl, rfl⟩) | (go_at_call 9; refine (rright_no _ _ ?_).mono ?_; omega; rintro e w' ⟨rfl, rfl⟩) | (go_at_call 11; refine (rtrim_any _ _ _ ?_).mono ?_; (first | exact hx | exact hy | exact U_bits _ _ _ | exact U_wrap _ | exact U_shr _ _ hx | exact U_shr _ _ (U_trim _ _ hx)); rintro e w' ⟨rfl, rfl⟩) | (go_at_call 13; refine (rsigned_any _ _ _ ?_ ?_ ?_).mono ?_; omega; omega; exact hx; rintro e w' ⟨rfl, rfl⟩))
  go_ret2
  exact ⟨rfl, rfl⟩

theorem rslice_g (a x f n : Int) (h1 : 1 ≤ a) (h2 : a ≤ 64) (h3 : 1 ≤ n) (hn : 64 < n) (w : World) :
    Calls Try.prog 23 #[.int .i64 a, .int .u64 x, .int .i64 f, .int .i64 n] w fun e w' => e = .returned (.tuple #[.int .u64 0, .int .i64 5]) ∧ w' = w := by
  go_enter Try.func23, Try.ntmps23
  go_wp2_with (first | (go_at_call 9; refine (rright_yes _ _ ?_ ?_).mono ?_; omega; omega; rintro e w' ⟨rfl, rfl⟩) | (go_at_call 9; refine (rright_no _ _ ?_).mono ?_; omega; rintro e w' ⟨rfl, rfl⟩) | (go_at_call 11; refine (rtrim_any _ _ _ ?_).mono ?_; (first | exact hx | exact hy | exact U_bits _ _ _ | exact U_wrap _ | exact U_shr _ _ hx | exact U_shr _ _ (U_trim _ _ hx)); rintro e w' ⟨rfl, rfl⟩) | (go_at_call 13; refine (rsigned_any _ _ _ ?_ ?_ ?_).mono ?_; omega; omega; exact hx; rintro e w' ⟨rfl, rfl⟩))
  go_ret2
  exact ⟨rfl, rfl⟩

theorem rslice_f (a x f n : Int) (h1 : 1 ≤ a) (h2 : a ≤ 64) (h3 : 1 ≤ n) (hn : n ≤ 64) (hf : f < 0) (w : World) :
    Calls Try.prog 23 #[.int .i64 a, .int .u64 x, .int .i64 f, .int .i64 n] w fun e w' => e = .returned (.tuple #[.int .u64 0, .int .i64 5]) ∧ w' = w := by
  go_enter Try.func23, Try.ntmps23
  go_wp2_with (first | (go_at_call 9; refine (rright_yes _ _ ?_ ?_).mono ?_; omega; omega; rintro e w' ⟨rfl, rfl⟩) | (go_at_call 9; refine (rright_no _ _ ?_).mono ?_; omega; rintro e w' ⟨rfl, rfl⟩) | (go_at_call 11; refine (rtrim_any _ _ _ ?_).mono ?_; (first | exact hx | exact hy | exact U_bits _ _ _ | exact U_wrap _ | exact U_shr _ _ hx | exact U_shr _ _ (U_trim _ _ hx)); rintro e w' ⟨rfl, rfl⟩) | (go_at_call 13; refine (rsigned_any _ _ _ ?_ ?_ ?_).mono ?_; omega; omega; exact hx; rintro e w' ⟨rfl, rfl⟩))
  go_ret2
  exact ⟨rfl, rfl⟩

theorem rslice_s (a x f n : Int) (h1 : 1 ≤ a) (h2 : a ≤ 64) (h3 : 1 ≤ n) (hn : n ≤ 64) (hf : 0 ≤ f) (hs : a - n < f) (w : World) :
    Calls Try.prog 23 #[.int .i64 a, .int .u64 x, .int .i64 f, .int .i64 n] w fun e w' => e = .returned (.tuple #[.int .u64 0, .int .i64 5]) ∧ w' = w := by
  go_enter Try.func23, Try.ntmps23
  go_wp2_with (first | (go_at_call 9; refine (rright_yes _ _ ?_ ?_).mono ?_; omega; omega; rintro e w' ⟨rfl, rfl⟩) | (go_at_call 9; refine (rright_no _ _ ?_).mono ?_; omega; rintro e w' ⟨rfl, rfl⟩) | (go_at_call 11; refine (rtrim_any _ _ _ ?_).mono ?_; (first | exact hx | exact hy | exact U_bits _ _ _ | exact U_wrap _ | exact U_shr _ _ hx | exact U_shr _ _ (U_trim _ _ hx)); rintro e w' ⟨rfl, rfl⟩) | (go_at_call 13; refine (rsigned_any _ _ _ ?_ ?_ ?_).mono ?_; omega; omega; exact hx; rintro e w' ⟨rfl, rfl⟩))
  go_ret2
  exact ⟨rfl, rfl⟩

theorem rslice_any (a x f n : Int) (h1 : 1 ≤ a) (h2 : a ≤ 64) (h3 : 1 ≤ n) (h4 : n ≤ 64) (hf : 0 ≤ f) (hg : f ≤ a - n) (hx : U x) (w : World) :
    Calls Try.prog 23 #[.int .i64 a, .int .u64 x, .int .i64 f, .int .i64 n] w fun e w' => e = .returned (.tuple #[.int .u64 (trimI n (x / 2 ^ f.toNat)), .int .i64 0]) ∧ w' = w := by
  have hm : Hid (trimI n (trimI a x / 2 ^ f.toNat) = trimI n (x / 2 ^ f.toNat)) := slice_same a x f n h1 h2 hf h3 hg hx
  go_enter Try.func23, Try.ntmps23
  go_wp2_with (first | (go_at_call 9; refine (rright_yes _ _ ?_ ?_).mono ?_; omega; omega; rintro e w' ⟨rfl, rfl⟩) | (go_at_call 9; refine (rright_no _ _ ?_).mono ?_; omega; rintro e w' ⟨rfl, rfl⟩) | (go_at_call 11; refine (rtrim_any _ _ _ ?_).mono ?_; (first | exact hx | exact hy | exact U_bits _ _ _ | exact U_wrap _ | exact U_shr _ _ hx | exact U_shr _ _ (U_trim _ _ hx)); rintro e w' ⟨rfl, rfl⟩) | (go_at_call 13; refine (rsigned_any _ _ _ ?_ ?_ ?_).mono ?_; omega; omega; exact hx; rintro e w' ⟨rfl, rfl⟩))
  go_ret2
  exact ⟨ret2_int hm.out, rfl⟩

theorem rext_op (op a x t : Int) (h32 : ¬ op = 32) (h33 : ¬ op = 33) (w : World) :
    Calls Try.prog 25 #[.int .i64 op, .int .i64 a, .int .u64 x, .int .i64 t] w fun e w' => e = .returned (.tuple #[.int .u64 0, .int .i64 73]) ∧ w' = w := by
  have k32 : (op != 32) = true := by simpa using h32
  have k33 : (op != 33) = true := by simpa using h33
  go_enter Try.func25, Try.ntmps25
  go_wp2_with (first | (go_at_call 9; refine (rright_yes _ _ ?_ ?_).mono ?_; omega; omega; rintro e w' ⟨rfl, rfl⟩) | (go_at_call 9; refine (rright_no _ _ ?_).mono ?_; omega; rintro e w' ⟨rfl, rfl⟩) | (go_at_call 11; refine (rtrim_any _ _ _ ?_).mono ?_; (first | exact hx | exact hy | exact U_bits _ _ _ | exact U_wrap _ | exact U_shr _ _ hx | exact U_shr _ _ (U_trim _ _ hx)); rintro e w' ⟨rfl, rfl⟩) | (go_at_call 13; refine (rsigned_any _ _ _ ?_ ?_ ?_).mono ?_; omega; omega; exact hx; rintro e w' ⟨rfl, rfl⟩))
  go_ret2
  exact ⟨rfl, rfl⟩

theorem rext_w32 (a x t : Int) (hn : a < 1 ∨ 64 < a) (w : World) :
    Calls Try.prog 25 #[.int .i64 32, .int .i64 a, .int .u64 x, .int .i64 t] w fun e w' => e = .returned (.tuple #[.int .u64 0, .int .i64 5]) ∧ w' = w := by
  go_enter Try.func25, Try.ntmps25
  go_wp2_with (first | (go_at_call 9; refine (rright_yes _ _ ?_ ?_).mono ?_; omega; omega; rintro e w' ⟨rfl, rfl⟩) | (go_at_call 9; refine (rright_no _ _ ?_).mono ?_; omega; rintro e w' ⟨rfl, rfl⟩) | (go_at_call 11; refine (rtrim_any _ _ _ ?_).mono ?_; (first | exact hx | exact hy | exact U_bits _ _ _ | exact U_wrap _ | exact U_shr _ _ hx | exact U_shr _ _ (U_trim _ _ hx)); rintro e w' ⟨rfl, rfl⟩) | (go_at_call 13; refine (rsigned_any _ _ _ ?_ ?_ ?_).mono ?_; omega; omega; exact hx; rintro e w' ⟨rfl, rfl⟩))
  go_ret2
  exact ⟨rfl, rfl⟩

theorem rext_t32 (a x t : Int) (h1 : 1 ≤ a) (h2 : a ≤ 64) (hn : t < 1 ∨ 64 < t) (w : World) :
    Calls Try.prog 25 #[.int .i64 32, .int .i64 a, .int .u64 x, .int .i64 t] w fun e w' => e = .returned (.tuple #[.int .u64 0, .int .i64 5]) ∧ w' = w := by
  go_enter Try.func25, Try.ntmps25
  go_wp2_with (first | (go_at_call 9; refine (rright_yes _ _ ?_ ?_).mono ?_; omega; omega; rintro e w' ⟨rfl, rfl⟩) | (go_at_call 9; refine (rright_no _ _ ?_).mono ?_; omega; rintro e w' ⟨rfl, rfl⟩) | (go_at_call 11; refine (rtrim_any _ _ _ ?_).mono ?_; (first | exact hx | exact hy | exact U_bits _ _ _ | exact U_wrap _ | exact U_shr _ _ hx | exact U_shr _ _ (U_trim _ _ hx)); rintro e w' ⟨rfl, rfl⟩) | (go_at_call 13; refine (rsigned_any _ _ _ ?_ ?_ ?_).mono ?_; omega; omega; exact hx; rintro e w' ⟨rfl, rfl⟩))
  go_ret2
  exact ⟨rfl, rfl⟩

theorem rext_s32 (a x t : Int) (h1 : 1 ≤ a) (h2 : a ≤ 64) (h3 : 1 ≤ t) (h4 : t ≤ 64) (hs : t < a) (w : World) :
    Calls Try.prog 25 #[.int .i64 32, .int .i64 a, .int .u64 x, .int .i64 t] w fun e w' => e = .returned (.tuple #[.int .u64 0, .int .i64 5]) ∧ w' = w := by
  go_enter Try.func25, Try.ntmps25
  go_wp2_with (first | (go_at_call 9; refine (rright_yes _ _ ?_ ?_).mono ?_; omega; omega; rintro e w' ⟨rfl, rfl⟩) | (go_at_call 9; refine (rright_no _ _ ?_).mono ?_; omega; rintro e w' ⟨rfl, rfl⟩) | (go_at_call 11; refine (rtrim_any _ _ _ ?_).mono ?_; (first | exact hx | exact hy | exact U_bits _ _ _ | exact U_wrap _ | exact U_shr _ _ hx | exact U_shr _ _ (U_trim _ _ hx)); rintro e w' ⟨rfl, rfl⟩) | (go_at_call 13; refine (rsigned_any _ _ _ ?_ ?_ ?_).mono ?_; omega; omega; exact hx; rintro e w' ⟨rfl, rfl⟩))
  go_ret2
  exact ⟨rfl, rfl⟩

theorem rext_32 (a x t : Int) (h1 : 1 ≤ a) (h2 : a ≤ 64) (h3 : 1 ≤ t) (h4 : t ≤ 64) (hs : a ≤ t) (hx : U x) (w : World) :
    Calls Try.prog 25 #[.int .i64 32, .int .i64 a, .int .u64 x, .int .i64 t] w fun e w' => e = .returned (.tuple #[.int .u64 (trimI a x), .int .i64 0]) ∧ w' = w := by
  go_enter Try.func25, Try.ntmps25
  go_wp2_with (first | (go_at_call 9; refine (rright_yes _ _ ?_ ?_).mono ?_; omega; omega; rintro e w' ⟨rfl, rfl⟩) | (go_at_call 9; refine (rright_no _ _ ?_).mono ?_; omega; rintro e w' ⟨rfl, rfl⟩) | (go_at_call 11; refine (rtrim_any _ _ _ ?_).mono ?_; (first | exact hx | exact hy | exact U_bits _ _ _ | exact U_wrap _ | exact U_shr _ _ hx | exact U_shr _ _ (U_trim _ _ hx)); rintro e w' ⟨rfl, rfl⟩) | (go_at_call 13; refine (rsigned_any _ _ _ ?_ ?_ ?_).mono ?_; omega; omega; exact hx; rintro e w' ⟨rfl, rfl⟩))
  go_ret2
  exact ⟨rfl, rfl⟩

theorem rext_w33 (a x t : Int) (hn : a < 1 ∨ 64 < a) (w : World) :
    Calls Try.prog 25 #[.int .i64 33, .int .i64 a, .int .u64 x, .int .i64 t] w fun e w' => e = .returned (.tuple #[.int .u64 0, .int .i64 5]) ∧ w' = w := by
  go_enter Try.func25, Try.ntmps25
  go_wp2_with (first | (go_at_call 9; refine (rright_yes _ _ ?_ ?_).mono ?_; omega; omega; rintro e w' ⟨rfl, rfl⟩) | (go_at_call 9; refine (rright_no _ _ ?_).mono ?_; omega; rintro e w' ⟨rfl, rfl⟩) | (go_at_call 11; refine (rtrim_any _ _ _ ?_).mono ?_; (first | exact hx | exact hy | exact U_bits _ _ _ | exact U_wrap _ | exact U_shr _ _ hx | exact U_shr _ _ (U_trim _ _ hx)); rintro e w' ⟨rfl, rfl⟩) | (go_at_call 13; refine (rsigned_any _ _ _ ?_ ?_ ?_).mono ?_; omega; omega; exact hx; rintro e w' ⟨rfl, rfl⟩))
  go_ret2
  exact ⟨rfl, rfl⟩

theorem rext_t33 (a x t : Int) (h1 : 1 ≤ a) (h2 : a ≤ 64) (hn : t < 1 ∨ 64 < t) (w : World) :
    Calls Try.prog 25 #[.int .i64 33, .int .i64 a, .int .u64 x, .int .i64 t] w fun e w' => e = .returned (.tuple #[.int .u64 0, .int .i64 5]) ∧ w' = w := by
  go_enter Try.func25, Try.ntmps25
  go_wp2_with (first | (go_at_call 9; refine (rright_yes _ _ ?_ ?_).mono ?_; omega; omega; rintro e w' ⟨rfl, rfl⟩) | (go_at_call 9; refine (rright_no _ _ ?_).mono ?_; omega; rintro e w' ⟨rfl, rfl⟩) | (go_at_call 11; refine (rtrim_any _ _ _ ?_).mono ?_; (first | exact hx | exact hy | exact U_bits _ _ _ | exact U_wrap _ | exact U_shr _ _ hx | exact U_shr _ _ (U_trim _ _ hx)); rintro e w' ⟨rfl, rfl⟩) | (go_at_call 13; refine (rsigned_any _ _ _ ?_ ?_ ?_).mono ?_; omega; omega; exact hx; rintro e w' ⟨rfl, rfl⟩))
  go_ret2
  exact ⟨rfl, rfl⟩

theorem rext_s33 (a x t : Int) (h1 : 1 ≤ a) (h2 : a ≤ 64) (h3 : 1 ≤ t) (h4 : t ≤ 64) (hs : t < a) (w : World) :
    Calls Try.prog 25 #[.int .i64 33, .int .i64 a, .int .u64 x, .int .i64 t] w fun e w' => e = .returned (.tuple #[.int .u64 0, .int .i64 5]) ∧ w' = w := by
  go_enter Try.func25, Try.ntmps25
  go_wp2_with (first | (go_at_call 9; refine (rright_yes _ _ ?_ ?_).mono ?_; omega; omega; rintro e w' ⟨rfl, rfl⟩) | (go_at_call 9; refine (rright_no _ _ ?_).mono ?_; omega; rintro e w' ⟨rfl, rfl⟩) | (go_at_call 11; refine (rtrim_any _ _ _ ?_).mono ?_; (first | exact hx | exact hy | exact U_bits _ _ _ | exact U_wrap _ | exact U_shr _ _ hx | exact U_shr _ _ (U_trim _ _ hx)); rintro e w' ⟨rfl, rfl⟩) | (go_at_call 13; refine (rsigned_any _ _ _ ?_ ?_ ?_).mono ?_; omega; omega; exact hx; rintro e w' ⟨rfl, rfl⟩))
  go_ret2
  exact ⟨rfl, rfl⟩

theorem rext_33 (a x t : Int) (h1 : 1 ≤ a) (h2 : a ≤ 64) (h3 : 1 ≤ t) (h4 : t ≤ 64) (hs : a ≤ t) (hx : U x) (w : World) :
    Calls Try.prog 25 #[.int .i64 33, .int .i64 a, .int .u64 x, .int .i64 t] w fun e w' => e = .returned (.tuple #[.int .u64 (trimI t (IntKind.u64.wrap (sgnI a x))), .int .i64 0]) ∧ w' = w := by
  go_enter Try.func25, Try.ntmps25
  go_wp2_with (first | (go_at_call 9; refine (rright_yes _ _ ?_ ?_).mono ?_; omega; omega; rintro e w' ⟨rfl, rfl⟩) | (go_at_call 9; refine (rright_no _ _ ?_).mono ?_; omega; rintro e w' ⟨rfl, rfl⟩) | (go_at_call 11; refine (rtrim_any _ _ _ ?_).mono ?_; (first | exact hx | exact hy | exact U_bits _ _ _ | exact U_wrap _ | exact U_shr _ _ hx | exact U_shr _ _ (U_trim _ _ hx)); rintro e w' ⟨rfl, rfl⟩) | (go_at_call 13; refine (rsigned_any _ _ _ ?_ ?_ ?_).mono ?_; omega; omega; exact hx; rintro e w' ⟨rfl, rfl⟩))
  go_ret2
  exact ⟨rfl, rfl⟩

theorem grown_drewN (w : World) (n : Nat) : Grown w (w.drewN n) := by
  induction n with
  | zero => exact Grown.refl _
  | succ n ih => rw [← World.drew_drewN]; exact ih.drew

abbrev Gives (f : Nat) (args : Array Value) (r : Value) : Prop := ∀ w, Calls Try.prog f args w fun e w' => e = .returned r ∧ ∃ n, w' = w.drewN n
theorem gives {f : Nat} {args : Array Value} {r : Value} (h : ∀ w, Calls Try.prog f args w fun e w' => e = .returned r ∧ w' = w) : Gives f args r :=
  fun w => (h w).mono fun _ _ ⟨he, hw⟩ => ⟨he, 0, hw⟩
theorem cat_both (a x v y : Int) (hx : U x) (hy : U y) : ∃ r e : Int, Gives 20 #[.int .i64 a, .int .u64 x, .int .i64 v, .int .u64 y] (.tuple #[.int .u64 r, .int .i64 e]) ∧ Gives 21 #[.int .i64 a, .int .u64 x, .int .i64 v, .int .u64 y] (.tuple #[.int .u64 r, .int .i64 e]) := by
  by_cases h : 1 ≤ a ∧ a ≤ 64
  · by_cases h' : 1 ≤ v ∧ v ≤ 64
    · by_cases h5 : 64 < a + v
      · exact ⟨_, _, gives (cat_s a x v y h.1 h.2 h'.1 h'.2 h5), gives (rcat_s a x v y h.1 h.2 h'.1 h'.2 h5)⟩
      · exact ⟨_, _, cat_any a x v y h.1 h'.1 (by omega) hx hy, gives (rcat_any a x v y h.1 h'.1 (by omega) hx hy)⟩
    · exact ⟨_, _, gives (cat_v a x v y h.1 h.2 (by omega)), gives (rcat_v a x v y h.1 h.2 (by omega))⟩
  · exact ⟨_, _, gives (cat_w a x v y (by omega)), gives (rcat_w a x v y (by omega))⟩
theorem slice_both (a x f n : Int) (hx : U x) (hm : n ≤ 9223372036854775807) : ∃ r e : Int, Gives 22 #[.int .i64 a, .int .u64 x, .int .i64 f, .int .i64 n] (.tuple #[.int .u64 r, .int .i64 e]) ∧ Gives 23 #[.int .i64 a, .int .u64 x, .int .i64 f, .int .i64 n] (.tuple #[.int .u64 r, .int .i64 e]) := by
  by_cases h : 1 ≤ a ∧ a ≤ 64
  · by_cases h3 : 1 ≤ n
    · by_cases hf : 0 ≤ f
      · by_cases hs : f ≤ a - n
        · exact ⟨_, _, gives (slice_any a x f n h.1 h.2 h3 hf hs hx), gives (rslice_any a x f n h.1 h.2 h3 (by omega) hf hs hx)⟩
        · by_cases h4 : n ≤ 64
          · exact ⟨_, _, gives (slice_s a x f n h.1 h.2 h3 hm hf (by omega)), gives (rslice_s a x f n h.1 h.2 h3 h4 hf (by omega))⟩
          · exact ⟨_, _, gives (slice_s a x f n h.1 h.2 h3 hm hf (by omega)), gives (rslice_g a x f n h.1 h.2 h3 (by omega))⟩
      · by_cases h4 : n ≤ 64
        · exact ⟨_, _, gives (slice_f a x f n h.1 h.2 h3 (by omega)), gives (rslice_f a x f n h.1 h.2 h3 h4 (by omega))⟩
        · exact ⟨_, _, gives (slice_f a x f n h.1 h.2 h3 (by omega)), gives (rslice_g a x f n h.1 h.2 h3 (by omega))⟩
    · exact ⟨_, _, gives (slice_n a x f n h.1 h.2 (by omega)), gives (rslice_n a x f n h.1 h.2 (by omega))⟩
  · exact ⟨_, _, gives (slice_w a x f n (by omega)), gives (rslice_w a x f n (by omega))⟩
theorem ext_both (op a x t : Int) (hx : U x) : ∃ r e : Int, Gives 24 #[.int .i64 op, .int .i64 a, .int .u64 x, .int .i64 t] (.tuple #[.int .u64 r, .int .i64 e]) ∧ Gives 25 #[.int .i64 op, .int .i64 a, .int .u64 x, .int .i64 t] (.tuple #[.int .u64 r, .int .i64 e]) := by
  by_cases h32 : op = 32
  · subst h32
    by_cases h : 1 ≤ a ∧ a ≤ 64
    · by_cases h' : 1 ≤ t ∧ t ≤ 64
      · by_cases hs : a ≤ t
        · exact ⟨_, _, gives (ext_32 a x t h.1 h.2 h'.1 h'.2 hs hx), gives (rext_32 a x t h.1 h.2 h'.1 h'.2 hs hx)⟩
        · exact ⟨_, _, gives (ext_s32 a x t h.1 h.2 h'.1 h'.2 (by omega)), gives (rext_s32 a x t h.1 h.2 h'.1 h'.2 (by omega))⟩
      · exact ⟨_, _, gives (ext_t32 a x t h.1 h.2 (by omega)), gives (rext_t32 a x t h.1 h.2 (by omega))⟩
    · exact ⟨_, _, gives (ext_w32 a x t (by omega)), gives (rext_w32 a x t (by omega))⟩
  by_cases h33 : op = 33
  · subst h33
    by_cases h : 1 ≤ a ∧ a ≤ 64
    · by_cases h' : 1 ≤ t ∧ t ≤ 64
      · by_cases hs : a ≤ t
        · exact ⟨_, _, gives (ext_33 a x t h.1 h.2 h'.1 h'.2 hs hx), gives (rext_33 a x t h.1 h.2 h'.1 h'.2 hs hx)⟩
        · exact ⟨_, _, gives (ext_s33 a x t h.1 h.2 h'.1 h'.2 (by omega)), gives (rext_s33 a x t h.1 h.2 h'.1 h'.2 (by omega))⟩
      · exact ⟨_, _, gives (ext_t33 a x t h.1 h.2 (by omega)), gives (rext_t33 a x t h.1 h.2 (by omega))⟩
    · exact ⟨_, _, gives (ext_w33 a x t (by omega)), gives (rext_w33 a x t (by omega))⟩
  exact ⟨_, _, gives (ext_op op a x t h32 h33), gives (rext_op op a x t h32 h33)⟩
end Go.Proofs.Ytjdgcfedpinopaa
