import Derived.Test.YtjdgcfedpinopaaWalks
import Derived.Test.YtjdgcfedpinopaaMath3
import Derived.Deep.QuietTactic
import Derived.BigQuiet
namespace Go.Proofs.Ytjdgcfedpinopaa
open Go.ChangeShapes Go.WideShapes Go.ChangeAt Go.RowKit Go.Bw

set_option maxHeartbeats 400000 in
theorem moved_25 (A N X : Nat) (w : World) (h0 : 1 ≤ A) (h1 : A ≤ 64) (hN : N < A) (hX : X < 2 ^ A) :
    Calls Try.prog 32 #[.int .i64 25, .int .i64 A, .int .u64 X, .int .i64 N] w fun e w' => e = .returned (.int .u64 (shlN A N X : Nat)) ∧ w' = w := by
  have hX' : Hid (X < 2 ^ A) := hX
  clear hX
  go_enter Try.func32, Try.ntmps32
  go_wp2
  go_loop [9, 10] (fun v i => ∃ k q : Int, -1 ≤ k ∧ k < A ∧ i = .int .i64 k ∧ Hid (q = ((shlN A N X / 2 ^ (k + 1).toNat : Nat) : Int)) ∧ v = .int .u64 q) (fun _ i => (intOf i + 1).toNat)
  case atStart => exact ⟨A - 1, 0, by omega, by omega, rfl, start_zero _ A (shl_lt A N X), rfl⟩
  case round =>
    obtain ⟨k, q, hk0, hk1, rfl, HQ, rfl⟩ := hrel
    by_cases hk : 0 ≤ k
    · by_cases hc : N ≤ k
      · go_wp2_with ((go_at_call 26; refine (bit_any _ _ _ ?_ ?_ ?_).mono ?_; omega; omega; omega; rintro e w' ⟨rfl, rfl⟩))
        go_round
        case rel => exact ⟨k - 1, _, by omega, by omega, rfl, m25y A N X k q h1 hk hk1 hc HQ.out, rfl⟩
        case measure => simp [intOf]; omega
      · go_wp2_with ((go_at_call 26; refine (bit_any _ _ _ ?_ ?_ ?_).mono ?_; omega; omega; omega; rintro e w' ⟨rfl, rfl⟩))
        go_round
        case rel => exact ⟨k - 1, _, by omega, by omega, rfl, m25n A N X k q h1 hk hk1 hc HQ.out, rfl⟩
        case measure => simp [intOf]; omega
    · go_wp2
      go_ret
      exact ⟨ret_int (done_zero _ k q hk0 (by omega) HQ.out), rfl⟩

set_option maxHeartbeats 400000 in
theorem moved_26 (A N X : Nat) (w : World) (h0 : 1 ≤ A) (h1 : A ≤ 64) (hN : N < A) (hX : X < 2 ^ A) :
    Calls Try.prog 32 #[.int .i64 26, .int .i64 A, .int .u64 X, .int .i64 N] w fun e w' => e = .returned (.int .u64 (shrN N X : Nat)) ∧ w' = w := by
  have hX' : Hid (X < 2 ^ A) := hX
  clear hX
  go_enter Try.func32, Try.ntmps32
  go_wp2
  go_loop [9, 10] (fun v i => ∃ k q : Int, -1 ≤ k ∧ k < A ∧ i = .int .i64 k ∧ Hid (q = ((shrN N X / 2 ^ (k + 1).toNat : Nat) : Int)) ∧ v = .int .u64 q) (fun _ i => (intOf i + 1).toNat)
  case atStart => exact ⟨A - 1, 0, by omega, by omega, rfl, start_zero _ A (shr_lt A N X hX'.out), rfl⟩
  case round =>
    obtain ⟨k, q, hk0, hk1, rfl, HQ, rfl⟩ := hrel
    by_cases hk : 0 ≤ k
    · by_cases hc : k + N < A
      · go_wp2_with ((go_at_call 26; refine (bit_any _ _ _ ?_ ?_ ?_).mono ?_; omega; omega; omega; rintro e w' ⟨rfl, rfl⟩))
        go_round
        case rel => exact ⟨k - 1, _, by omega, by omega, rfl, m26y A N X k q hX'.out h1 hk HQ.out, rfl⟩
        case measure => simp [intOf]; omega
      · go_wp2_with ((go_at_call 26; refine (bit_any _ _ _ ?_ ?_ ?_).mono ?_; omega; omega; omega; rintro e w' ⟨rfl, rfl⟩))
        go_round
        case rel => exact ⟨k - 1, _, by omega, by omega, rfl, m26n A N X k q hX'.out h1 hk hc HQ.out, rfl⟩
        case measure => simp [intOf]; omega
    · go_wp2
      go_ret
      exact ⟨ret_int (done_zero _ k q hk0 (by omega) HQ.out), rfl⟩

set_option maxHeartbeats 400000 in
theorem moved_27 (A N X : Nat) (w : World) (h0 : 1 ≤ A) (h1 : A ≤ 64) (hN : N < A) (hX : X < 2 ^ A) :
    Calls Try.prog 32 #[.int .i64 27, .int .i64 A, .int .u64 X, .int .i64 N] w fun e w' => e = .returned (.int .u64 (sarN A N X : Nat)) ∧ w' = w := by
  have hX' : Hid (X < 2 ^ A) := hX
  clear hX
  go_enter Try.func32, Try.ntmps32
  go_wp2
  go_loop [9, 10] (fun v i => ∃ k q : Int, -1 ≤ k ∧ k < A ∧ i = .int .i64 k ∧ Hid (q = ((sarN A N X / 2 ^ (k + 1).toNat : Nat) : Int)) ∧ v = .int .u64 q) (fun _ i => (intOf i + 1).toNat)
  case atStart => exact ⟨A - 1, 0, by omega, by omega, rfl, start_zero _ A (sar_lt A N X hX'.out), rfl⟩
  case round =>
    obtain ⟨k, q, hk0, hk1, rfl, HQ, rfl⟩ := hrel
    by_cases hk : 0 ≤ k
    · by_cases hc : k + N ≤ A - 1
      · go_wp2_with ((go_at_call 26; refine (bit_any _ _ _ ?_ ?_ ?_).mono ?_; omega; omega; omega; rintro e w' ⟨rfl, rfl⟩))
        go_round
        case rel => exact ⟨k - 1, _, by omega, by omega, rfl, m27y A N X k q hX'.out h0 h1 hk hk1 hc HQ.out, rfl⟩
        case measure => simp [intOf]; omega
      · go_wp2_with ((go_at_call 26; refine (bit_any _ _ _ ?_ ?_ ?_).mono ?_; omega; omega; omega; rintro e w' ⟨rfl, rfl⟩))
        go_round
        case rel => exact ⟨k - 1, _, by omega, by omega, rfl, m27n A N X k q hX'.out h0 h1 hk hk1 (by omega) HQ.out, rfl⟩
        case measure => simp [intOf]; omega
    · go_wp2
      go_ret
      exact ⟨ret_int (done_zero _ k q hk0 (by omega) HQ.out), rfl⟩

set_option maxHeartbeats 400000 in
theorem moved_28 (A N X : Nat) (w : World) (h0 : 1 ≤ A) (h1 : A ≤ 64) (hN : N < A) (hX : X < 2 ^ A) :
    Calls Try.prog 32 #[.int .i64 28, .int .i64 A, .int .u64 X, .int .i64 N] w fun e w' => e = .returned (.int .u64 (rolN A N X : Nat)) ∧ w' = w := by
  have hX' : Hid (X < 2 ^ A) := hX
  clear hX
  go_enter Try.func32, Try.ntmps32
  go_wp2
  go_loop [9, 10] (fun v i => ∃ k q : Int, -1 ≤ k ∧ k < A ∧ i = .int .i64 k ∧ Hid (q = ((rolN A N X / 2 ^ (k + 1).toNat : Nat) : Int)) ∧ v = .int .u64 q) (fun _ i => (intOf i + 1).toNat)
  case atStart => exact ⟨A - 1, 0, by omega, by omega, rfl, start_zero _ A (rol_lt A N X hX'.out), rfl⟩
  case round =>
    obtain ⟨k, q, hk0, hk1, rfl, HQ, rfl⟩ := hrel
    by_cases hk : 0 ≤ k
    · have hb := at_bounds A (k - N) h0 h1
      obtain ⟨hb0, hb1⟩ := hb
      go_wp2_with ((go_at_call 26; refine (bit_any _ _ _ ?_ ?_ ?_).mono ?_; omega; omega; omega; rintro e w' ⟨rfl, rfl⟩))
      go_round
      case rel => exact ⟨k - 1, _, by omega, by omega, rfl, m28 A N X k q _ hX'.out h1 hN hk hk1 HQ.out (by rw [Int.add_emod_right]), rfl⟩
      case measure => simp [intOf]; omega
    · go_wp2
      go_ret
      exact ⟨ret_int (done_zero _ k q hk0 (by omega) HQ.out), rfl⟩

set_option maxHeartbeats 400000 in
theorem moved_29 (A N X : Nat) (w : World) (h0 : 1 ≤ A) (h1 : A ≤ 64) (hN : N < A) (hX : X < 2 ^ A) :
    Calls Try.prog 32 #[.int .i64 29, .int .i64 A, .int .u64 X, .int .i64 N] w fun e w' => e = .returned (.int .u64 (rorN A N X : Nat)) ∧ w' = w := by
  have hX' : Hid (X < 2 ^ A) := hX
  clear hX
  go_enter Try.func32, Try.ntmps32
  go_wp2
  go_loop [9, 10] (fun v i => ∃ k q : Int, -1 ≤ k ∧ k < A ∧ i = .int .i64 k ∧ Hid (q = ((rorN A N X / 2 ^ (k + 1).toNat : Nat) : Int)) ∧ v = .int .u64 q) (fun _ i => (intOf i + 1).toNat)
  case atStart => exact ⟨A - 1, 0, by omega, by omega, rfl, start_zero _ A (ror_lt A N X hX'.out), rfl⟩
  case round =>
    obtain ⟨k, q, hk0, hk1, rfl, HQ, rfl⟩ := hrel
    by_cases hk : 0 ≤ k
    · have hb := at_bounds A (k + N) h0 h1
      obtain ⟨hb0, hb1⟩ := hb
      go_wp2_with ((go_at_call 26; refine (bit_any _ _ _ ?_ ?_ ?_).mono ?_; omega; omega; omega; rintro e w' ⟨rfl, rfl⟩))
      go_round
      case rel => exact ⟨k - 1, _, by omega, by omega, rfl, m29 A N X k q _ hX'.out h1 hN hk hk1 HQ.out rfl, rfl⟩
      case measure => simp [intOf]; omega
    · go_wp2
      go_ret
      exact ⟨ret_int (done_zero _ k q hk0 (by omega) HQ.out), rfl⟩

end Go.Proofs.Ytjdgcfedpinopaa
