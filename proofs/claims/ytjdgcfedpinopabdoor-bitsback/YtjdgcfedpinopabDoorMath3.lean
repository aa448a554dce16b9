import Derived.Test.YtjdgcfedpinopabDoorMath2
namespace Go.Bw
open Go.RowKit (wrap64)

def tb (b : Bool) : Int := if b then 1 else 0
theorem bit_nat (X : Nat) (i : Int) : bitI (X : Int) i = tb (X.testBit i.toNat) := by
  unfold bitI tb
  have e : ((X : Int) / 2 ^ i.toNat % 2) = ((X / 2 ^ i.toNat % 2 : Nat) : Int) := by simp
  rw [e, Nat.testBit_eq_decide_div_mod_eq]
  have h2 : X / 2 ^ i.toNat % 2 = 0 ∨ X / 2 ^ i.toNat % 2 = 1 := by omega
  rcases h2 with h2 | h2 <;> rw [h2] <;> simp
theorem half (V j : Nat) : ((V / 2 ^ j : Nat) : Int) = 2 * ((V / 2 ^ (j + 1) : Nat) : Int) + tb (V.testBit j) := by
  unfold tb
  rw [Nat.testBit_eq_decide_div_mod_eq, Nat.pow_succ, ← Nat.div_div_eq_div_mul]
  generalize V / 2 ^ j = q
  have h2 : q % 2 = 0 ∨ q % 2 = 1 := by omega
  rcases h2 with h2 | h2 <;> rw [h2] <;> simp <;> omega
theorem div_lt (V j : Nat) (hV : V < 18446744073709551616) : V / 2 ^ j < 18446744073709551616 := Nat.lt_of_le_of_lt (Nat.div_le_self _ _) hV
theorem step_bit (V j : Nat) (b : Int) (hV : V < 18446744073709551616) (hb : b = tb (V.testBit j)) :
    IntKind.u64.wrap (IntKind.u64.wrap (2 * ((V / 2 ^ (j + 1) : Nat) : Int)) + b) = ((V / 2 ^ j : Nat) : Int) := by
  have h := half V j
  have l := div_lt V j hV
  have hb' : b = 0 ∨ b = 1 := by rw [hb]; unfold tb; split <;> simp
  rw [← hb] at h
  rw [IntKind.wrap_u64, IntKind.wrap_u64]
  generalize V / 2 ^ j = q at *
  generalize V / 2 ^ (j + 1) = r at *
  omega
theorem step_none (V j : Nat) (hV : V < 18446744073709551616) (hb : V.testBit j = false) :
    IntKind.u64.wrap (2 * ((V / 2 ^ (j + 1) : Nat) : Int)) = ((V / 2 ^ j : Nat) : Int) := by
  have h := half V j
  have l := div_lt V j hV
  rw [hb] at h; unfold tb at h
  rw [IntKind.wrap_u64]
  generalize V / 2 ^ j = q at *
  generalize V / 2 ^ (j + 1) = r at *
  simp at h
  omega
theorem p64n : (2 : Nat) ^ 64 = 18446744073709551616 := by decide
theorem lt64 (V A : Nat) (h : V < 2 ^ A) (hA : A ≤ 64) : V < 18446744073709551616 := by
  rw [← p64n]; exact Nat.lt_of_lt_of_le h (Nat.pow_le_pow_right (by decide) hA)

/-- the five turns, as numbers -/
def shlN (A N X : Nat) : Nat := X <<< N % 2 ^ A
def shrN (N X : Nat) : Nat := X >>> N
def sarN (A N X : Nat) : Nat := if 2 * X < 2 ^ A then X >>> N else (2 ^ A * (2 ^ N - 1) + X) >>> N
def rolN (A N X : Nat) : Nat := X <<< N % 2 ^ A ||| X >>> (A - N)
def rorN (A N X : Nat) : Nat := X >>> N ||| X <<< (A - N) % 2 ^ A

theorem tb_hi (A X i : Nat) (hX : X < 2 ^ A) (h : A ≤ i) : X.testBit i = false :=
  Nat.testBit_lt_two_pow (Nat.lt_of_lt_of_le hX (Nat.pow_le_pow_right (by decide) h))
theorem shl_bit (A N X i : Nat) (hi : i < A) : (shlN A N X).testBit i = (decide (N ≤ i) && X.testBit (i - N)) := by
  unfold shlN; rw [Nat.testBit_mod_two_pow, Nat.testBit_shiftLeft]; simp [hi]
theorem shr_bit (N X i : Nat) : (shrN N X).testBit i = X.testBit (N + i) := by
  unfold shrN; rw [Nat.testBit_shiftRight]
theorem rol_bit (A N X i : Nat) (hX : X < 2 ^ A) (hN : N < A) (hi : i < A) : (rolN A N X).testBit i = X.testBit ((i + A - N) % A) := by
  unfold rolN
  rw [Nat.testBit_or, Nat.testBit_mod_two_pow, Nat.testBit_shiftLeft, Nat.testBit_shiftRight]
  by_cases h : N ≤ i
  · rw [show (i + A - N) % A = i - N by rw [show i + A - N = (i - N) + A by omega, Nat.add_mod_right]; exact Nat.mod_eq_of_lt (by omega)]
    rw [tb_hi A X (A - N + i) hX (by omega)]
    simp [hi, h]
  · rw [show (i + A - N) % A = A - N + i by rw [show i + A - N = A - N + i by omega]; exact Nat.mod_eq_of_lt (by omega)]
    simp [hi, h]
theorem ror_bit (A N X i : Nat) (hX : X < 2 ^ A) (hN : N < A) (hi : i < A) : (rorN A N X).testBit i = X.testBit ((i + N) % A) := by
  unfold rorN
  rw [Nat.testBit_or, Nat.testBit_mod_two_pow, Nat.testBit_shiftLeft, Nat.testBit_shiftRight]
  by_cases h : i + N < A
  · rw [Nat.mod_eq_of_lt h, Nat.add_comm N i]
    have h' : ¬ A - N ≤ i := by omega
    simp [hi, h']
  · rw [show (i + N) % A = i - (A - N) by rw [show i + N = (i - (A - N)) + A by omega, Nat.add_mod_right]; exact Nat.mod_eq_of_lt (by omega)]
    have h' : A ≤ i + N := by omega
    rw [tb_hi A X (N + i) hX (by omega)]
    simp [hi, h']
theorem sar_bit (A N X i : Nat) (hX : X < 2 ^ A) (h0 : 0 < A) (hi : i < A) : (sarN A N X).testBit i = X.testBit (min (i + N) (A - 1)) := by
  have e : 2 ^ A = 2 * 2 ^ (A - 1) := by rw [show A = A - 1 + 1 by omega, Nat.pow_succ]; simp [Nat.mul_comm]
  unfold sarN
  split
  · rename_i h
    rw [Nat.testBit_shiftRight]
    by_cases h' : i + N < A
    · rw [Nat.min_eq_left (by omega), Nat.add_comm]
    · rw [Nat.min_eq_right (by omega), tb_hi (A - 1) X (N + i) (by omega) (by omega), tb_hi (A - 1) X (A - 1) (by omega) (by omega)]
  · rename_i h
    rw [Nat.testBit_shiftRight, Nat.testBit_two_pow_mul_add _ hX]
    by_cases h' : i + N < A
    · rw [Nat.min_eq_left (by omega), if_pos (by omega), Nat.add_comm]
    · rw [Nat.min_eq_right (by omega), if_neg (by omega), Nat.testBit_two_pow_sub_one]
      have hb : X.testBit (A - 1) = true := by
        rw [Nat.testBit_eq_decide_div_mod_eq]
        have : X / 2 ^ (A - 1) = 1 := by
          rw [Nat.div_eq_iff (Nat.two_pow_pos _)]; omega
        simp [this]
      rw [hb]; simp; omega
theorem shl_lt (A N X : Nat) : shlN A N X < 2 ^ A := Nat.mod_lt _ (Nat.two_pow_pos _)
theorem shr_lt (A N X : Nat) (hX : X < 2 ^ A) : shrN N X < 2 ^ A := by
  unfold shrN; rw [Nat.shiftRight_eq_div_pow]; exact Nat.lt_of_le_of_lt (Nat.div_le_self _ _) hX
theorem rol_lt (A N X : Nat) (hX : X < 2 ^ A) : rolN A N X < 2 ^ A := Nat.or_lt_two_pow (shl_lt A N X) (shr_lt A (A - N) X hX)
theorem ror_lt (A N X : Nat) (hX : X < 2 ^ A) : rorN A N X < 2 ^ A := Nat.or_lt_two_pow (shr_lt A N X hX) (shl_lt A (A - N) X)
theorem sar_lt (A N X : Nat) (hX : X < 2 ^ A) : sarN A N X < 2 ^ A := by
  unfold sarN; split
  · exact shr_lt A N X hX
  · rw [Nat.shiftRight_eq_div_pow, Nat.div_lt_iff_lt_mul (Nat.two_pow_pos _)]
    have hp := Nat.two_pow_pos N
    have : 2 ^ A * (2 ^ N - 1) + 2 ^ A = 2 ^ A * 2 ^ N := by rw [← Nat.mul_succ]; congr 1; omega
    omega
theorem start_zero (V A : Nat) (h : V < 2 ^ A) : (0 : Int) = ((V / 2 ^ ((A : Int) - 1 + 1).toNat : Nat) : Int) := by
  rw [show ((A : Int) - 1 + 1).toNat = A by omega, Nat.div_eq_of_lt h]; rfl
theorem done_zero (V : Nat) (k q : Int) (h0 : -1 ≤ k) (h : ¬ 0 ≤ k) (hq : q = ((V / 2 ^ (k + 1).toNat : Nat) : Int)) : q = (V : Int) := by
  rw [hq, show (k + 1).toNat = 0 by omega]; simp
/-- one more bit -/
theorem more_bit (V : Nat) (k q b : Int) (hV : V < 18446744073709551616) (hk : 0 ≤ k) (hq : q = ((V / 2 ^ (k + 1).toNat : Nat) : Int)) (hb : b = tb (V.testBit k.toNat)) :
    IntKind.u64.wrap (IntKind.u64.wrap (2 * q) + b) = ((V / 2 ^ (k - 1 + 1).toNat : Nat) : Int) := by
  rw [hq, show (k + 1).toNat = k.toNat + 1 by omega, show k - 1 + 1 = k by omega]; exact step_bit V _ b hV hb
theorem more_none (V : Nat) (k q : Int) (hV : V < 18446744073709551616) (hk : 0 ≤ k) (hq : q = ((V / 2 ^ (k + 1).toNat : Nat) : Int)) (hb : V.testBit k.toNat = false) :
    IntKind.u64.wrap (2 * q) = ((V / 2 ^ (k - 1 + 1).toNat : Nat) : Int) := by
  rw [hq, show (k + 1).toNat = k.toNat + 1 by omega, show k - 1 + 1 = k by omega]; exact step_none V _ hV hb
theorem m25y (A N X : Nat) (k q : Int) (h1 : A ≤ 64) (hk : 0 ≤ k) (hk1 : k < A) (hc : N ≤ k) (hq : q = ((shlN A N X / 2 ^ (k + 1).toNat : Nat) : Int)) :
    IntKind.u64.wrap (IntKind.u64.wrap (2 * q) + bitI X (k - N)) = ((shlN A N X / 2 ^ (k - 1 + 1).toNat : Nat) : Int) := by
  refine more_bit _ k q _ (lt64 _ A (shl_lt A N X) h1) hk hq ?_
  rw [bit_nat, shl_bit A N X _ (by omega), show (k - N).toNat = k.toNat - N by omega, decide_eq_true (show N ≤ k.toNat by omega), Bool.true_and]
theorem m25n (A N X : Nat) (k q : Int) (h1 : A ≤ 64) (hk : 0 ≤ k) (hk1 : k < A) (hc : ¬ N ≤ k) (hq : q = ((shlN A N X / 2 ^ (k + 1).toNat : Nat) : Int)) :
    IntKind.u64.wrap (2 * q) = ((shlN A N X / 2 ^ (k - 1 + 1).toNat : Nat) : Int) := by
  refine more_none _ k q (lt64 _ A (shl_lt A N X) h1) hk hq ?_
  rw [shl_bit A N X _ (by omega), decide_eq_false (show ¬ N ≤ k.toNat by omega), Bool.false_and]
theorem m26y (A N X : Nat) (k q : Int) (hX : X < 2 ^ A) (h1 : A ≤ 64) (hk : 0 ≤ k) (hq : q = ((shrN N X / 2 ^ (k + 1).toNat : Nat) : Int)) :
    IntKind.u64.wrap (IntKind.u64.wrap (2 * q) + bitI X (k + N)) = ((shrN N X / 2 ^ (k - 1 + 1).toNat : Nat) : Int) := by
  refine more_bit _ k q _ (lt64 _ A (shr_lt A N X hX) h1) hk hq ?_
  rw [bit_nat, shr_bit, show (k + N).toNat = N + k.toNat by omega]
theorem m26n (A N X : Nat) (k q : Int) (hX : X < 2 ^ A) (h1 : A ≤ 64) (hk : 0 ≤ k) (hc : ¬ k + N < A) (hq : q = ((shrN N X / 2 ^ (k + 1).toNat : Nat) : Int)) :
    IntKind.u64.wrap (2 * q) = ((shrN N X / 2 ^ (k - 1 + 1).toNat : Nat) : Int) := by
  refine more_none _ k q (lt64 _ A (shr_lt A N X hX) h1) hk hq ?_
  rw [shr_bit, tb_hi A X _ hX (by omega)]
theorem m27y (A N X : Nat) (k q : Int) (hX : X < 2 ^ A) (h0 : 1 ≤ A) (h1 : A ≤ 64) (hk : 0 ≤ k) (hk1 : k < A) (hc : k + N ≤ A - 1) (hq : q = ((sarN A N X / 2 ^ (k + 1).toNat : Nat) : Int)) :
    IntKind.u64.wrap (IntKind.u64.wrap (2 * q) + bitI X (k + N)) = ((sarN A N X / 2 ^ (k - 1 + 1).toNat : Nat) : Int) := by
  refine more_bit _ k q _ (lt64 _ A (sar_lt A N X hX) h1) hk hq ?_
  rw [bit_nat, sar_bit A N X _ hX h0 (by omega), show (k + N).toNat = min (k.toNat + N) (A - 1) by omega]
theorem m27n (A N X : Nat) (k q : Int) (hX : X < 2 ^ A) (h0 : 1 ≤ A) (h1 : A ≤ 64) (hk : 0 ≤ k) (hk1 : k < A) (hc : ¬ k + N ≤ A - 1) (hq : q = ((sarN A N X / 2 ^ (k + 1).toNat : Nat) : Int)) :
    IntKind.u64.wrap (IntKind.u64.wrap (2 * q) + bitI X (A - 1)) = ((sarN A N X / 2 ^ (k - 1 + 1).toNat : Nat) : Int) := by
  refine more_bit _ k q _ (lt64 _ A (sar_lt A N X hX) h1) hk hq ?_
  rw [bit_nat, sar_bit A N X _ hX h0 (by omega), show ((A : Int) - 1).toNat = min (k.toNat + N) (A - 1) by omega]
theorem m28 (A N X : Nat) (k q b : Int) (hX : X < 2 ^ A) (h1 : A ≤ 64) (hN : N < A) (hk : 0 ≤ k) (hk1 : k < A) (hq : q = ((rolN A N X / 2 ^ (k + 1).toNat : Nat) : Int)) (hb : b = bitI X ((k - N + A) % A)) :
    IntKind.u64.wrap (IntKind.u64.wrap (2 * q) + b) = ((rolN A N X / 2 ^ (k - 1 + 1).toNat : Nat) : Int) := by
  refine more_bit _ k q _ (lt64 _ A (rol_lt A N X hX) h1) hk hq ?_
  have e : ((k - N + A) % A).toNat = (k.toNat + A - N) % A := by
    have : k - N + A = ((k.toNat + A - N : Nat) : Int) := by omega
    rw [this, ← Int.natCast_emod, Int.toNat_natCast]
  rw [hb, bit_nat, rol_bit A N X _ hX hN (by omega), e]
theorem m29 (A N X : Nat) (k q b : Int) (hX : X < 2 ^ A) (h1 : A ≤ 64) (hN : N < A) (hk : 0 ≤ k) (hk1 : k < A) (hq : q = ((rorN A N X / 2 ^ (k + 1).toNat : Nat) : Int)) (hb : b = bitI X ((k + N) % A)) :
    IntKind.u64.wrap (IntKind.u64.wrap (2 * q) + b) = ((rorN A N X / 2 ^ (k - 1 + 1).toNat : Nat) : Int) := by
  refine more_bit _ k q _ (lt64 _ A (ror_lt A N X hX) h1) hk hq ?_
  have e : ((k + N) % A).toNat = (k.toNat + N) % A := by
    have : k + N = ((k.toNat + N : Nat) : Int) := by omega
    rw [this, ← Int.natCast_emod, Int.toNat_natCast]
  rw [hb, bit_nat, ror_bit A N X _ hX hN (by omega), e]
theorem at_bounds (A : Nat) (m : Int) (h0 : 1 ≤ A) (h1 : A ≤ 64) : 0 ≤ m % A ∧ m % A < 64 := by
  have := Int.emod_nonneg m (show (A : Int) ≠ 0 by omega)
  have := Int.emod_lt_of_pos m (show (0 : Int) < A by omega)
  omega
end Go.Bw
