import Derived.Test.YtjdgcfedpinopabDoorText
namespace Go.Proofs.YtjdgcfedpinopabDoor
open Go.ChangeShapes Go.WideShapes Go.ChangeAt Go.RowKit Go.Bd

theorem dg_slice (d : Nat) (hd : d < 16) (W : World) : (Instr.slice 9 (.string ⟨#[48, 49, 50, 51, 52, 53, 54, 55, 56, 57, 97, 98, 99, 100, 101, 102]⟩) (some (.int .u64 (d : Int))) (some (.int .u64 ((d : Int) + 1))) none).run Tryd.prog W = .ok (.string ⟨#[dg d]⟩) W := by
  have h : d = 0 ∨ d = 1 ∨ d = 2 ∨ d = 3 ∨ d = 4 ∨ d = 5 ∨ d = 6 ∨ d = 7 ∨ d = 8 ∨ d = 9 ∨ d = 10 ∨ d = 11 ∨ d = 12 ∨ d = 13 ∨ d = 14 ∨ d = 15 := by omega
  rcases h with rfl | rfl | rfl | rfl | rfl | rfl | rfl | rfl | rfl | rfl | rfl | rfl | rfl | rfl | rfl | rfl <;> (show _ = _; kernel_rfl)
theorem digs_step (b x n : Nat) (out R : List UInt8) (hb : 2 ≤ b) (hx : x < b ^ n) (h1 : 1 ≤ n) (hq : ¬ x / b = 0) (hd : digs b n x out = R) : ∃ n', n = n' + 1 ∧ 1 ≤ n' ∧ x / b < b ^ n' ∧ digs b n' (x / b) (dg (x % b) :: out) = R := by
  match n with
  | 0 => omega
  | 1 => simp at hx; exact absurd (Nat.div_eq_of_lt hx) hq
  | n' + 2 =>
    refine ⟨n' + 1, rfl, by omega, ?_, ?_⟩
    · rw [Nat.div_lt_iff_lt_mul (by omega), ← Nat.pow_succ]; exact hx
    · rw [digs_more b (n' + 1) x out hq] at hd; exact hd

theorem dg_dec (d : Nat) (h : d < 10) : dg d = UInt8.ofNat (48 + d) := by unfold dg; rw [if_pos h]
theorem dec_digs (n : Nat) : ∀ (x : Nat) (out : List UInt8), x < 10 ^ (n + 1) → digs 10 (n + 1) x out = Lib.decDigits x ++ out := by
  induction n with
  | zero =>
    intro x out hx
    have h10 : x < 10 := by simpa using hx
    rw [digs_end 10 0 x out (by omega), Lib.decDigits, dif_pos h10, dg_dec _ (by omega), Nat.mod_eq_of_lt h10]; rfl
  | succ n ih =>
    intro x out hx
    by_cases h10 : x < 10
    · rw [digs_end 10 (n + 1) x out (by omega), Lib.decDigits, dif_pos h10, dg_dec _ (by omega), Nat.mod_eq_of_lt h10]; rfl
    · rw [digs_more 10 (n + 1) x out (by omega), ih (x / 10) _ (by rw [Nat.div_lt_iff_lt_mul (by omega), ← Nat.pow_succ]; exact hx)]
      conv => rhs; rw [Lib.decDigits, dif_neg h10]
      rw [dg_dec _ (by omega), List.append_assoc]; rfl
theorem dec_same (x : Nat) (h : x < 1000) : Lib.decDigits x = digs 10 16 x [] := by
  rw [dec_digs 15 x [] (by omega), List.append_nil]
end Go.Proofs.YtjdgcfedpinopabDoor
