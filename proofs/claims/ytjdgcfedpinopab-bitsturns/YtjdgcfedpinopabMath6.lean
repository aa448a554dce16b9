import Derived.Test.YtjdgcfedpinopabMath5
namespace Go.Bw
theorem U_nat (A V : Nat) (h1 : A ≤ 64) (h : V < 2 ^ A) : U (V : Int) := by
  have := lt64 V A h h1; unfold U; omega
theorem trim_nat (A V : Nat) (h0 : 1 ≤ A) (h1 : A ≤ 64) (h : V < 2 ^ A) : trimI A (V : Int) = V :=
  trim_id _ _ (by omega) (by omega) (by omega) (by rw [Int.toNat_natCast]; exact of_nat _ _ h)
theorem eq_bits (A V W : Nat) (hV : V < 2 ^ A) (hW : W < 2 ^ A) (h : ∀ i, i < A → V.testBit i = W.testBit i) : V = W := by
  apply Nat.eq_of_testBit_eq; intro i
  by_cases hi : i < A
  · exact h i hi
  · rw [tb_hi A V i hV (by omega), tb_hi A W i hW (by omega)]
theorem ror_rol (A N X : Nat) (hN : N < A) (hX : X < 2 ^ A) : rorN A N (rolN A N X) = X := by
  refine eq_bits A _ _ (ror_lt A N _ (rol_lt A N X hX)) hX fun i hi => ?_
  rw [ror_bit A N _ i (rol_lt A N X hX) hN hi, rol_bit A N X _ hX hN (Nat.mod_lt _ (by omega))]
  congr 1
  by_cases h : i + N < A
  · rw [Nat.mod_eq_of_lt h, show i + N + A - N = i + A by omega, Nat.add_mod_right, Nat.mod_eq_of_lt hi]
  · rw [show i + N = (i + N - A) + A by omega, Nat.add_mod_right, Nat.mod_eq_of_lt (show i + N - A < A by omega), show i + N - A + A - N = i by omega, Nat.mod_eq_of_lt hi]
theorem rol_ror (A N X : Nat) (hN : N < A) (hX : X < 2 ^ A) : rolN A N (rorN A N X) = X := by
  refine eq_bits A _ _ (rol_lt A N _ (ror_lt A N X hX)) hX fun i hi => ?_
  rw [rol_bit A N _ i (ror_lt A N X hX) hN hi, ror_bit A N X _ hX hN (Nat.mod_lt _ (by omega))]
  congr 1
  by_cases h : N ≤ i
  · rw [show i + A - N = (i - N) + A by omega, Nat.add_mod_right, Nat.mod_eq_of_lt (show i - N < A by omega), show i - N + N = i by omega, Nat.mod_eq_of_lt hi]
  · rw [Nat.mod_eq_of_lt (show i + A - N < A by omega), show i + A - N + N = i + A by omega, Nat.add_mod_right, Nat.mod_eq_of_lt hi]
theorem mul_pow (A N X : Nat) (h0 : 1 ≤ A) (h1 : A ≤ 64) (hN : N < A) (hX : X < 2 ^ A) : trimI A (IntKind.u64.wrap (trimI A (X : Int) * trimI A (2 ^ N))) = (shlN A N X : Nat) := by
  have e : (2 : Int) ^ N = ((2 ^ N : Nat) : Int) := by simp
  rw [trim_nat A X h0 h1 hX, e, trim_nat A (2 ^ N) h0 h1 (Nat.pow_lt_pow_right (by decide) hN), ← e]
  exact b25 A N X h0 h1
theorem pow_trim (A N : Nat) (h0 : 1 ≤ A) (h1 : A ≤ 64) (hN : N < A) : trimI A (2 ^ N) = 2 ^ N := by
  have e : (2 : Int) ^ N = ((2 ^ N : Nat) : Int) := by simp
  rw [e, trim_nat A (2 ^ N) h0 h1 (Nat.pow_lt_pow_right (by decide) hN)]
theorem div_pow (A N X : Nat) (h0 : 1 ≤ A) (h1 : A ≤ 64) (hN : N < A) (hX : X < 2 ^ A) : trimI A (trimI A (X : Int) / trimI A (2 ^ N)) = (shrN N X : Nat) := by
  rw [trim_nat A X h0 h1 hX, pow_trim A N h0 h1 hN]
  exact b26 A N X h0 h1 hX
theorem U_pow (N : Nat) (h : N < 64) : U (2 ^ N) := ⟨Int.le_of_lt (pos N), pow_lt64 N h⟩
theorem amt_self (A N : Nat) (h0 : 1 ≤ A) (h1 : A ≤ 64) (hN : N < A) : trimI A (N : Int) % A = N := by
  have : N < 2 ^ A := Nat.lt_trans hN Nat.lt_two_pow_self
  rw [trim_nat A N h0 h1 this]; exact Int.emod_eq_of_lt (by omega) (by omega)
theorem amt_two (A j : Nat) (n : Int) (hj : j ≤ 6) (hA : (2 : Int) ^ j = A) (hn : U n) : trimI A n % A = n % A := by
  have hA' : A = 2 ^ j := by have : ((2 ^ j : Nat) : Int) = A := by simpa using hA
                             omega
  have h64 : A ≤ 64 := by rw [hA']; exact Nat.pow_le_pow_right (n := 2) (by decide) hj
  have h1 : 1 ≤ A := by rw [hA']; exact Nat.two_pow_pos j
  have hl : j ≤ A := by rw [hA']; exact Nat.le_of_lt Nat.lt_two_pow_self
  rw [trim_mod A n (by omega) (by omega) hn.1 hn.2, Int.toNat_natCast]
  have e : (2 : Int) ^ A = (A : Int) * 2 ^ (A - j) := by rw [← hA, ← Int.pow_add, show j + (A - j) = A by omega]
  rw [e, Int.emod_emod_of_dvd _ (Int.dvd_mul_right _ _)]
theorem or_turn (A N X : Nat) (h0 : 1 ≤ A) (h1 : A ≤ 64) (hX : X < 2 ^ A) : trimI A (bits .or .u64 (trimI A (shlN A N X : Nat)) (trimI A (shrN (A - N) X : Nat))) = (rolN A N X : Nat) := by
  have l1 := shl_lt A N X
  have l2 := shr_lt A (A - N) X hX
  rw [trim_nat A _ h0 h1 l1, trim_nat A _ h0 h1 l2, u64_or_nat _ _ (lt64 _ A l1 h1) (lt64 _ A l2 h1)]
  rw [trim_nat A _ h0 h1 (Nat.or_lt_two_pow l1 l2)]
  rfl
theorem seven (k : Int) : ∃ j : Nat, j ≤ 6 ∧ (IntKind.u64.wrap k).tmod 7 = (j : Int) := by
  have hu := U_wrap k
  rw [Int.tmod_eq_emod_of_nonneg hu.1]
  exact ⟨(IntKind.u64.wrap k % 7).toNat, by omega, by omega⟩
end Go.Bw
