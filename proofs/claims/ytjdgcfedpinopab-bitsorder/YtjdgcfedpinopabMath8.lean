import Derived.Test.YtjdgcfedpinopabMath7
namespace Go.Bw
theorem xor_top (k R : Nat) (h : R < 2 ^ k) : R ^^^ 2 ^ k = R + 2 ^ k := by
  rw [show R + 2 ^ k = 2 ^ k * 1 + R by omega]
  apply Nat.eq_of_testBit_eq; intro i
  rw [Nat.testBit_xor, Nat.testBit_two_pow, Nat.testBit_two_pow_mul_add _ h]
  by_cases hi : i < k
  · rw [if_pos hi]
    have : ¬ k = i := by omega
    simp [this]
  · rw [if_neg hi, tb_hi k R i h (by omega)]
    by_cases e : k = i
    · subst e; simp
    · have e1 : (1 : Nat).testBit (i - k) = false := Nat.testBit_lt_two_pow (by have : 2 ^ 1 ≤ 2 ^ (i - k) := Nat.pow_le_pow_right (by decide) (by omega)
                                                                                omega)
      simp [e, e1]
theorem xor_mod (k X : Nat) : (X ^^^ 2 ^ k) % 2 ^ (k + 1) = if 2 * (X % 2 ^ (k + 1)) < 2 ^ (k + 1) then X % 2 ^ (k + 1) + 2 ^ k else X % 2 ^ (k + 1) - 2 ^ k := by
  have hd : (X ^^^ 2 ^ k) % 2 ^ (k + 1) = (X % 2 ^ (k + 1)) ^^^ 2 ^ k := by
    apply Nat.eq_of_testBit_eq; intro i
    simp only [Nat.testBit_mod_two_pow, Nat.testBit_xor, Nat.testBit_two_pow]
    by_cases hi : i < k + 1
    · simp [hi]
    · have : ¬ k = i := by omega
      simp [hi, this]
  have hl := Nat.mod_lt X (Nat.two_pow_pos (k + 1))
  have e : 2 ^ (k + 1) = 2 * 2 ^ k := by rw [Nat.pow_succ, Nat.mul_comm]
  rw [hd]
  generalize X % 2 ^ (k + 1) = S at *
  rw [e] at hl ⊢
  split
  · exact xor_top k S (by omega)
  · have h := xor_top k (S - 2 ^ k) (by omega)
    rw [show S - 2 ^ k + 2 ^ k = S by omega] at h
    rw [← h, Nat.xor_assoc, Nat.xor_self, Nat.xor_zero, h]
theorem flip_val (a x : Int) (h1 : 1 ≤ a) (h2 : a ≤ 64) (hx : U x) : trimI a (bits .xor .u64 x (2 ^ (a - 1).toNat)) = sgnI a x + 2 ^ (a - 1).toNat := by
  have hx' : 0 ≤ x ∧ x < 18446744073709551616 := hx
  obtain ⟨X, rfl⟩ := Int.eq_ofNat_of_zero_le hx.1
  have ha : a.toNat = (a - 1).toNat + 1 := by omega
  generalize (a - 1).toNat = k at *
  have e : (2 : Int) ^ k = ((2 ^ k : Nat) : Int) := by simp
  have e1 : (2 : Int) ^ (k + 1) = ((2 ^ (k + 1) : Nat) : Int) := by simp
  have hk : 2 ^ k < 18446744073709551616 := lt64 _ 64 (Nat.pow_lt_pow_right (by decide) (by omega)) (by omega)
  have hb := u64_xor_nat X (2 ^ k) (by omega) hk
  have hu := U_bits .xor (X : Int) (2 ^ k)
  rw [trim_mod a _ h1 h2 hu.1 hu.2, ha, e, hb, e1, ← Int.natCast_emod, xor_mod k X]
  have ht : trimI a (X : Int) = ((X % 2 ^ (k + 1) : Nat) : Int) := by
    rw [trim_mod a _ h1 h2 hx.1 hx.2, ha, e1, Int.natCast_emod]
  rw [sgnI, ht, ha, e1]
  have hl := Nat.mod_lt X (Nat.two_pow_pos (k + 1))
  have e2 : 2 ^ (k + 1) = 2 * 2 ^ k := by rw [Nat.pow_succ, Nat.mul_comm]
  generalize X % 2 ^ (k + 1) = S at *
  generalize 2 ^ (k + 1) = P at *
  generalize 2 ^ k = Q at *
  by_cases hc : 2 * S < P
  · rw [if_pos hc, if_pos (by omega)]; omega
  · rw [if_neg hc, if_neg (by omega)]; omega
theorem sgn_inj (a x y : Int) (_h1 : 1 ≤ a) (h2 : a ≤ 64) (hx : U x) (hy : U y) (h : sgnI a x = sgnI a y) : trimI a x = trimI a y := by
  have a0 := trim_lo a x hx.1
  have a1 := trim_hi a x h2 hx.2
  have b0 := trim_lo a y hy.1
  have b1 := trim_hi a y h2 hy.2
  unfold sgnI at h
  split at h <;> split at h <;> omega
end Go.Bw
