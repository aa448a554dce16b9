import Derived.Test.YtjdgcfedpinopabWalks
import Derived.Test.YtjdgcfedpinopabOps
import Derived.Test.YtjdgcfedpinopabBin
import Derived.Test.YtjdgcfedpinopabMath5
namespace Go.Proofs.Ytjdgcfedpinopab
open Go.ChangeShapes Go.WideShapes Go.ChangeAt Go.RowKit Go.Bw

theorem alive_bin (w : World) : Calls Try.prog 12 #[.int .i64 24, .int .i64 8, .int .u64 7, .int .u64 0] w fun e w' => e = .returned (.tuple #[.int .u64 7, .int .i64 0]) ∧ w' = w := by
  have h := bin_24z 8 7 0 (by omega) (by omega) (U_num _ (by omega)) (U_num _ (by omega)) alive3 w
  rw [alive1] at h; exact h
theorem alive_un (w : World) : Calls Try.prog 14 #[.int .i64 16, .int .i64 8, .int .u64 1] w fun e w' => e = .returned (.tuple #[.int .u64 255, .int .i64 0]) ∧ w' = w := by
  have h := un_16 8 1 (by omega) (by omega) w
  rw [alive2] at h; exact h
theorem alive_any (w : World) : Calls Try.prog 10 #[] w fun e w' => e = .returned (.bool true) ∧ w' = w := by
  go_enter Try.func10, Try.ntmps10
  go_wp2_with (first | (go_at_call 12; refine (alive_bin _).mono ?_; rintro e w' ⟨rfl, rfl⟩) | (go_at_call 14; refine (alive_un _).mono ?_; rintro e w' ⟨rfl, rfl⟩) | (go_at_call 11; refine (right_yes _ _ ?_ ?_).mono ?_; omega; omega; rintro e w' ⟨rfl, rfl⟩) | (go_at_call 11; refine (right_no _ _ ?_).mono ?_; omega; rintro e w' ⟨rfl, rfl⟩))
  go_ret
  exact ⟨rfl, rfl⟩
abbrev Bi (op a x y r : Int) : Prop := ∀ w, Calls Try.prog 12 #[.int .i64 op, .int .i64 a, .int .u64 x, .int .u64 y] w fun e w' => e = .returned (.tuple #[.int .u64 r, .int .i64 0]) ∧ ∃ n, w' = w.drewN n
abbrev Tw (op a x y r : Int) : Prop := ∀ w, Calls Try.prog 15 #[.int .i64 op, .int .i64 a, .int .u64 x, .int .u64 y] w fun e w' => e = .returned (.int .u64 r) ∧ ∃ n, w' = w.drewN n
theorem two_of (op a x y r : Int) (h : Bi op a x y r) : Tw op a x y r := by
  intro w
  have H : Hid (Bi op a x y r) := h
  clear h
  go_enter Try.func15, Try.ntmps15
  go_wp2_with (go_at_call 12; refine (H.out _).mono ?_; rintro e w' ⟨rfl, n1, rfl⟩)
  go_ret
  exact ⟨rfl, _, rfl⟩
theorem bi_of {op a x y r r' : Int} (hr : r = r') (h : ∀ w, Calls Try.prog 12 #[.int .i64 op, .int .i64 a, .int .u64 x, .int .u64 y] w fun e w' => e = .returned (.tuple #[.int .u64 r, .int .i64 0]) ∧ w' = w) : Tw op a x y r' :=
  two_of _ _ _ _ _ (hr ▸ fun w => (h w).mono fun _ _ ⟨he, hw⟩ => ⟨he, 0, hw⟩)
theorem grown_dn (w : World) (n : Nat) : Grown w (w.drewN n) := by
  induction n with
  | zero => exact Grown.refl _
  | succ n ih => rw [← World.drew_drewN]; exact ih.drew
end Go.Proofs.Ytjdgcfedpinopab
