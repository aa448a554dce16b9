import Derived.Test.YtdgmilmhdcmbgaaGreatDoorMath
import Derived.Test.YtdgmilmhdcmbgaaGreatDoorNames
import Derived.Deep.QuietTactic
import Derived.BigQuiet
namespace Go.Bw
open Go.RowKit (wrap64)

def catI (a x v y : Int) : Int := trimI a x * 2 ^ v.toNat + trimI v y
theorem pow_le64 (n : Nat) (h : n ≤ 64) : (2 : Int) ^ n ≤ 18446744073709551616 := by rw [← p64]; exact pow_mono _ _ h
theorem cat_lt (a x v y : Int) (h1 : 1 ≤ a) (h3 : 1 ≤ v) (h4 : a + v ≤ 64) (hx : U x) (hy : U y) : catI a x v y < 2 ^ (a + v).toNat := by
  have hv := pos v.toNat
  have b1 := trim_hi a x (by omega) hx.2
  have b2 := trim_hi v y (by omega) hy.2
  have e : (2 : Int) ^ (a + v).toNat = 2 ^ a.toNat * 2 ^ v.toNat := by rw [← Int.pow_add, show (a + v).toNat = a.toNat + v.toNat by omega]
  have m : (trimI a x + 1) * 2 ^ v.toNat ≤ 2 ^ a.toNat * 2 ^ v.toNat := Int.mul_le_mul_of_nonneg_right (by omega) (by omega)
  rw [Int.add_mul] at m
  unfold catI; rw [e]; omega
theorem sh_wrap (a x v : Int) (h1 : 1 ≤ a) (h3 : 1 ≤ v) (h4 : a + v ≤ 64) (hx : U x) : IntKind.u64.wrap (trimI a x * 2 ^ v.toNat) = trimI a x * 2 ^ v.toNat := by
  have hv := pos v.toNat
  have hl := cat_lt a x v 0 h1 h3 h4 hx ⟨by omega, by omega⟩
  have z : trimI v 0 = 0 := by unfold trimI; rw [Int.zero_emod]; simp
  unfold catI at hl; rw [z] at hl
  have h64 := pow_le64 (a + v).toNat (by omega)
  have b0 : 0 ≤ trimI a x * 2 ^ v.toNat := Int.mul_nonneg (trim_lo a x hx.1) (by omega)
  rw [IntKind.wrap_u64]; omega
theorem cat_or (a x v y : Int) (h1 : 1 ≤ a) (h3 : 1 ≤ v) (h4 : a + v ≤ 64) (hx : U x) (hy : U y) :
    bits .or .u64 (IntKind.u64.wrap (trimI a x * 2 ^ v.toNat)) (trimI v y) = catI a x v y := by
  have hv := pos v.toNat
  have hl := cat_lt a x v y h1 h3 h4 hx hy
  have h64 := pow_le64 (a + v).toNat (by omega)
  have b0 := trim_lo a x hx.1
  have c0 := trim_lo v y hy.1
  have c1 := trim_hi v y (by omega) hy.2
  have m0 : 0 ≤ trimI a x * 2 ^ v.toNat := Int.mul_nonneg b0 (by omega)
  rw [sh_wrap a x v h1 h3 h4 hx]
  have hu := U_trim v y hy
  unfold catI at hl ⊢
  rw [u64_or _ _ m0 (by omega) c0 hu.2]
  generalize trimI a x = A at *
  generalize trimI v y = B at *
  obtain ⟨A, rfl⟩ := Int.eq_ofNat_of_zero_le b0
  obtain ⟨B, rfl⟩ := Int.eq_ofNat_of_zero_le c0
  have e2 : ((2 : Int) ^ v.toNat) = ((2 ^ v.toNat : Nat) : Int) := by simp
  have e3 : ((A : Int) * 2 ^ v.toNat).toNat = A * 2 ^ v.toNat := by
    rw [e2, ← Int.natCast_mul, Int.toNat_natCast]
  rw [e3, Int.toNat_natCast, nat_join v.toNat _ _ (Nat.mul_mod_left _ _) (by rw [e2] at c1; exact_mod_cast c1)]
  simp
theorem cat_add (a x v y : Int) (h1 : 1 ≤ a) (h3 : 1 ≤ v) (h4 : a + v ≤ 64) (hx : U x) (hy : U y) :
    IntKind.u64.wrap (IntKind.u64.wrap (trimI a x * 2 ^ v.toNat) + trimI v y) = catI a x v y := by
  have hl := cat_lt a x v y h1 h3 h4 hx hy
  have h64 := pow_le64 (a + v).toNat (by omega)
  have c0 := trim_lo v y hy.1
  have m0 : 0 ≤ trimI a x * 2 ^ v.toNat := Int.mul_nonneg (trim_lo a x hx.1) (Int.le_of_lt (pos _))
  rw [sh_wrap a x v h1 h3 h4 hx, IntKind.wrap_u64]
  unfold catI at hl ⊢
  omega
theorem U_shr (x : Int) (n : Nat) (hx : U x) : U (x / 2 ^ n) := by
  have hp := pos n
  refine ⟨Int.ediv_nonneg hx.1 (by omega), Int.lt_of_le_of_lt (Int.ediv_le_self _ hx.1) hx.2⟩
/-- a cut of a cut -/
theorem slice_same (a x f n : Int) (h1 : 1 ≤ a) (h2 : a ≤ 64) (hf : 0 ≤ f) (hn : 1 ≤ n) (hs : f ≤ a - n) (hx : U x) :
    trimI n (trimI a x / 2 ^ f.toNat) = trimI n (x / 2 ^ f.toNat) := by
  have hu := U_shr x f.toNat hx
  have hu2 := U_shr _ f.toNat (U_trim a x hx)
  rw [trim_mod n _ hn (by omega) hu.1 hu.2, trim_mod n _ hn (by omega) hu2.1 hu2.2, trim_mod a x h1 h2 hx.1 hx.2]
  have hp := pos f.toNat
  have hq := pos n.toNat
  have hr := pos (a - f - n).toNat
  have e : (2 : Int) ^ a.toNat = 2 ^ f.toNat * (2 ^ n.toNat * 2 ^ (a - f - n).toNat) := by
    rw [← Int.pow_add, ← Int.pow_add, show f.toNat + (n.toNat + (a - f - n).toNat) = a.toNat by omega]
  rw [e]
  generalize (2 : Int) ^ f.toNat = P at *
  generalize (2 : Int) ^ n.toNat = Q at *
  generalize (2 : Int) ^ (a - f - n).toNat = R at *
  -- x % (P * (Q*R)) / P = x / P % (Q*R)
  have k : x % (P * (Q * R)) = x - P * (Q * R) * (x / (P * (Q * R))) := Int.emod_def _ _
  rw [k, show x - P * (Q * R) * (x / (P * (Q * R))) = x + (-(Q * R * (x / (P * (Q * R))))) * P by
    rw [Int.neg_mul, Int.mul_assoc P, Int.mul_comm P]; rfl]
  rw [Int.add_mul_ediv_right _ _ (by omega)]
  rw [show x / P + -(Q * R * (x / (P * (Q * R)))) = x / P + Q * (-(R * (x / (P * (Q * R))))) by rw [Int.mul_neg, Int.mul_assoc]]
  exact Int.add_mul_emod_self_left _ _ _
end Go.Bw
namespace Go.Bw
open Go.RowKit (wrap64)

def tb (b : Bool) : Int := if b then 1 else 0
theorem bit_nat (X : Nat) (i : Int) : bitI (X : Int) i = tb (X.testBit i.toNat) := by
  unfold bitI tb
  have e : ((X : Int) / 2 ^ i.toNat % 2) = ((X / 2 ^ i.toNat % 2 : Nat) : Int) := by simp
  rw [e, Nat.testBit_eq_decide_div_mod_eq]
  have h2 : X / 2 ^ i.toNat % 2 = 0 ∨ X / 2 ^ i.toNat % 2 = 1 := by omega
  rcases h2 with h2 | h2 <;> rw [h2] <;> simp
theorem half (V j : Nat) : ((V / 2 ^ j : Nat) : Int) = 2 * ((V / 2 ^ (j + 1) : Nat) : Int) + tb (V.testBit j) := by
  unfold tb
  rw [Nat.testBit_eq_decide_div_mod_eq, Nat.pow_succ, ← Nat.div_div_eq_div_mul]
  generalize V / 2 ^ j = q
  have h2 : q % 2 = 0 ∨ q % 2 = 1 := by omega
  rcases h2 with h2 | h2 <;> rw [h2] <;> simp <;> omega
theorem div_lt (V j : Nat) (hV : V < 18446744073709551616) : V / 2 ^ j < 18446744073709551616 := Nat.lt_of_le_of_lt (Nat.div_le_self _ _) hV
theorem step_bit (V j : Nat) (b : Int) (hV : V < 18446744073709551616) (hb : b = tb (V.testBit j)) :
    IntKind.u64.wrap (IntKind.u64.wrap (2 * ((V / 2 ^ (j + 1) : Nat) : Int)) + b) = ((V / 2 ^ j : Nat) : Int) := by
  have h := half V j
  have l := div_lt V j hV
  have hb' : b = 0 ∨ b = 1 := by rw [hb]; unfold tb; split <;> simp
  rw [← hb] at h
  rw [IntKind.wrap_u64, IntKind.wrap_u64]
  generalize V / 2 ^ j = q at *
  generalize V / 2 ^ (j + 1) = r at *
  omega
theorem step_none (V j : Nat) (hV : V < 18446744073709551616) (hb : V.testBit j = false) :
    IntKind.u64.wrap (2 * ((V / 2 ^ (j + 1) : Nat) : Int)) = ((V / 2 ^ j : Nat) : Int) := by
  have h := half V j
  have l := div_lt V j hV
  rw [hb] at h; unfold tb at h
  rw [IntKind.wrap_u64]
  generalize V / 2 ^ j = q at *
  generalize V / 2 ^ (j + 1) = r at *
  simp at h
  omega
theorem p64n : (2 : Nat) ^ 64 = 18446744073709551616 := by decide
theorem lt64 (V A : Nat) (h : V < 2 ^ A) (hA : A ≤ 64) : V < 18446744073709551616 := by
  rw [← p64n]; exact Nat.lt_of_lt_of_le h (Nat.pow_le_pow_right (by decide) hA)

/-- the five turns, as numbers -/
def shlN (A N X : Nat) : Nat := X <<< N % 2 ^ A
def shrN (N X : Nat) : Nat := X >>> N
def sarN (A N X : Nat) : Nat := if 2 * X < 2 ^ A then X >>> N else (2 ^ A * (2 ^ N - 1) + X) >>> N
def rolN (A N X : Nat) : Nat := X <<< N % 2 ^ A ||| X >>> (A - N)
def rorN (A N X : Nat) : Nat := X >>> N ||| X <<< (A - N) % 2 ^ A

theorem tb_hi (A X i : Nat) (hX : X < 2 ^ A) (h : A ≤ i) : X.testBit i = false :=
  Nat.testBit_lt_two_pow (Nat.lt_of_lt_of_le hX (Nat.pow_le_pow_right (by decide) h))
theorem shl_bit (A N X i : Nat) (hi : i < A) : (shlN A N X).testBit i = (decide (N ≤ i) && X.testBit (i - N)) := by
  unfold shlN; rw [Nat.testBit_mod_two_pow, Nat.testBit_shiftLeft]; simp [hi]
theorem shr_bit (N X i : Nat) : (shrN N X).testBit i = X.testBit (N + i) := by
  unfold shrN; rw [Nat.testBit_shiftRight]
theorem rol_bit (A N X i : Nat) (hX : X < 2 ^ A) (hN : N < A) (hi : i < A) : (rolN A N X).testBit i = X.testBit ((i + A - N) % A) := by
  unfold rolN
  rw [Nat.testBit_or, Nat.testBit_mod_two_pow, Nat.testBit_shiftLeft, Nat.testBit_shiftRight]
  by_cases h : N ≤ i
  · rw [show (i + A - N) % A = i - N by rw [show i + A - N = (i - N) + A by omega, Nat.add_mod_right]; exact Nat.mod_eq_of_lt (by omega)]
    rw [tb_hi A X (A - N + i) hX (by omega)]
    simp [hi, h]
  · rw [show (i + A - N) % A = A - N + i by rw [show i + A - N = A - N + i by omega]; exact Nat.mod_eq_of_lt (by omega)]
    simp [hi, h]
theorem ror_bit (A N X i : Nat) (hX : X < 2 ^ A) (hN : N < A) (hi : i < A) : (rorN A N X).testBit i = X.testBit ((i + N) % A) := by
  unfold rorN
  rw [Nat.testBit_or, Nat.testBit_mod_two_pow, Nat.testBit_shiftLeft, Nat.testBit_shiftRight]
  by_cases h : i + N < A
  · rw [Nat.mod_eq_of_lt h, Nat.add_comm N i]
    have h' : ¬ A - N ≤ i := by omega
    simp [hi, h']
  · rw [show (i + N) % A = i - (A - N) by rw [show i + N = (i - (A - N)) + A by omega, Nat.add_mod_right]; exact Nat.mod_eq_of_lt (by omega)]
    have h' : A ≤ i + N := by omega
    rw [tb_hi A X (N + i) hX (by omega)]
    simp [hi, h']
theorem sar_bit (A N X i : Nat) (hX : X < 2 ^ A) (h0 : 0 < A) (hi : i < A) : (sarN A N X).testBit i = X.testBit (min (i + N) (A - 1)) := by
  have e : 2 ^ A = 2 * 2 ^ (A - 1) := by rw [show A = A - 1 + 1 by omega, Nat.pow_succ]; simp [Nat.mul_comm]
  unfold sarN
  split
  · rename_i h
    rw [Nat.testBit_shiftRight]
    by_cases h' : i + N < A
    · rw [Nat.min_eq_left (by omega), Nat.add_comm]
    · rw [Nat.min_eq_right (by omega), tb_hi (A - 1) X (N + i) (by omega) (by omega), tb_hi (A - 1) X (A - 1) (by omega) (by omega)]
  · rename_i h
    rw [Nat.testBit_shiftRight, Nat.testBit_two_pow_mul_add _ hX]
    by_cases h' : i + N < A
    · rw [Nat.min_eq_left (by omega), if_pos (by omega), Nat.add_comm]
    · rw [Nat.min_eq_right (by omega), if_neg (by omega), Nat.testBit_two_pow_sub_one]
      have hb : X.testBit (A - 1) = true := by
        rw [Nat.testBit_eq_decide_div_mod_eq]
        have : X / 2 ^ (A - 1) = 1 := by
          rw [Nat.div_eq_iff (Nat.two_pow_pos _)]; omega
        simp [this]
      rw [hb]; simp; omega
theorem shl_lt (A N X : Nat) : shlN A N X < 2 ^ A := Nat.mod_lt _ (Nat.two_pow_pos _)
theorem shr_lt (A N X : Nat) (hX : X < 2 ^ A) : shrN N X < 2 ^ A := by
  unfold shrN; rw [Nat.shiftRight_eq_div_pow]; exact Nat.lt_of_le_of_lt (Nat.div_le_self _ _) hX
theorem rol_lt (A N X : Nat) (hX : X < 2 ^ A) : rolN A N X < 2 ^ A := Nat.or_lt_two_pow (shl_lt A N X) (shr_lt A (A - N) X hX)
theorem ror_lt (A N X : Nat) (hX : X < 2 ^ A) : rorN A N X < 2 ^ A := Nat.or_lt_two_pow (shr_lt A N X hX) (shl_lt A (A - N) X)
theorem sar_lt (A N X : Nat) (hX : X < 2 ^ A) : sarN A N X < 2 ^ A := by
  unfold sarN; split
  · exact shr_lt A N X hX
  · rw [Nat.shiftRight_eq_div_pow, Nat.div_lt_iff_lt_mul (Nat.two_pow_pos _)]
    have hp := Nat.two_pow_pos N
    have : 2 ^ A * (2 ^ N - 1) + 2 ^ A = 2 ^ A * 2 ^ N := by rw [← Nat.mul_succ]; congr 1; omega
    omega
theorem start_zero (V A : Nat) (h : V < 2 ^ A) : (0 : Int) = ((V / 2 ^ ((A : Int) - 1 + 1).toNat : Nat) : Int) := by
  rw [show ((A : Int) - 1 + 1).toNat = A by omega, Nat.div_eq_of_lt h]; rfl
theorem done_zero (V : Nat) (k q : Int) (h0 : -1 ≤ k) (h : ¬ 0 ≤ k) (hq : q = ((V / 2 ^ (k + 1).toNat : Nat) : Int)) : q = (V : Int) := by
  rw [hq, show (k + 1).toNat = 0 by omega]; simp
/-- one more bit -/
theorem more_bit (V : Nat) (k q b : Int) (hV : V < 18446744073709551616) (hk : 0 ≤ k) (hq : q = ((V / 2 ^ (k + 1).toNat : Nat) : Int)) (hb : b = tb (V.testBit k.toNat)) :
    IntKind.u64.wrap (IntKind.u64.wrap (2 * q) + b) = ((V / 2 ^ (k - 1 + 1).toNat : Nat) : Int) := by
  rw [hq, show (k + 1).toNat = k.toNat + 1 by omega, show k - 1 + 1 = k by omega]; exact step_bit V _ b hV hb
theorem more_none (V : Nat) (k q : Int) (hV : V < 18446744073709551616) (hk : 0 ≤ k) (hq : q = ((V / 2 ^ (k + 1).toNat : Nat) : Int)) (hb : V.testBit k.toNat = false) :
    IntKind.u64.wrap (2 * q) = ((V / 2 ^ (k - 1 + 1).toNat : Nat) : Int) := by
  rw [hq, show (k + 1).toNat = k.toNat + 1 by omega, show k - 1 + 1 = k by omega]; exact step_none V _ hV hb
theorem m25y (A N X : Nat) (k q : Int) (h1 : A ≤ 64) (hk : 0 ≤ k) (hk1 : k < A) (hc : N ≤ k) (hq : q = ((shlN A N X / 2 ^ (k + 1).toNat : Nat) : Int)) :
    IntKind.u64.wrap (IntKind.u64.wrap (2 * q) + bitI X (k - N)) = ((shlN A N X / 2 ^ (k - 1 + 1).toNat : Nat) : Int) := by
  refine more_bit _ k q _ (lt64 _ A (shl_lt A N X) h1) hk hq ?_
  rw [bit_nat, shl_bit A N X _ (by omega), show (k - N).toNat = k.toNat - N by omega, decide_eq_true (show N ≤ k.toNat by omega), Bool.true_and]
theorem m25n (A N X : Nat) (k q : Int) (h1 : A ≤ 64) (hk : 0 ≤ k) (hk1 : k < A) (hc : ¬ N ≤ k) (hq : q = ((shlN A N X / 2 ^ (k + 1).toNat : Nat) : Int)) :
    IntKind.u64.wrap (2 * q) = ((shlN A N X / 2 ^ (k - 1 + 1).toNat : Nat) : Int) := by
  refine more_none _ k q (lt64 _ A (shl_lt A N X) h1) hk hq ?_
  rw [shl_bit A N X _ (by omega), decide_eq_false (show ¬ N ≤ k.toNat by omega), Bool.false_and]
theorem m26y (A N X : Nat) (k q : Int) (hX : X < 2 ^ A) (h1 : A ≤ 64) (hk : 0 ≤ k) (hq : q = ((shrN N X / 2 ^ (k + 1).toNat : Nat) : Int)) :
    IntKind.u64.wrap (IntKind.u64.wrap (2 * q) + bitI X (k + N)) = ((shrN N X / 2 ^ (k - 1 + 1).toNat : Nat) : Int) := by
  refine more_bit _ k q _ (lt64 _ A (shr_lt A N X hX) h1) hk hq ?_
  rw [bit_nat, shr_bit, show (k + N).toNat = N + k.toNat by omega]
theorem m26n (A N X : Nat) (k q : Int) (hX : X < 2 ^ A) (h1 : A ≤ 64) (hk : 0 ≤ k) (hc : ¬ k + N < A) (hq : q = ((shrN N X / 2 ^ (k + 1).toNat : Nat) : Int)) :
    IntKind.u64.wrap (2 * q) = ((shrN N X / 2 ^ (k - 1 + 1).toNat : Nat) : Int) := by
  refine more_none _ k q (lt64 _ A (shr_lt A N X hX) h1) hk hq ?_
  rw [shr_bit, tb_hi A X _ hX (by omega)]
theorem m27y (A N X : Nat) (k q : Int) (hX : X < 2 ^ A) (h0 : 1 ≤ A) (h1 : A ≤ 64) (hk : 0 ≤ k) (hk1 : k < A) (hc : k + N ≤ A - 1) (hq : q = ((sarN A N X / 2 ^ (k + 1).toNat : Nat) : Int)) :
    IntKind.u64.wrap (IntKind.u64.wrap (2 * q) + bitI X (k + N)) = ((sarN A N X / 2 ^ (k - 1 + 1).toNat : Nat) : Int) := by
  refine more_bit _ k q _ (lt64 _ A (sar_lt A N X hX) h1) hk hq ?_
  rw [bit_nat, sar_bit A N X _ hX h0 (by omega), show (k + N).toNat = min (k.toNat + N) (A - 1) by omega]
theorem m27n (A N X : Nat) (k q : Int) (hX : X < 2 ^ A) (h0 : 1 ≤ A) (h1 : A ≤ 64) (hk : 0 ≤ k) (hk1 : k < A) (hc : ¬ k + N ≤ A - 1) (hq : q = ((sarN A N X / 2 ^ (k + 1).toNat : Nat) : Int)) :
    IntKind.u64.wrap (IntKind.u64.wrap (2 * q) + bitI X (A - 1)) = ((sarN A N X / 2 ^ (k - 1 + 1).toNat : Nat) : Int) := by
  refine more_bit _ k q _ (lt64 _ A (sar_lt A N X hX) h1) hk hq ?_
  rw [bit_nat, sar_bit A N X _ hX h0 (by omega), show ((A : Int) - 1).toNat = min (k.toNat + N) (A - 1) by omega]
theorem m28 (A N X : Nat) (k q b : Int) (hX : X < 2 ^ A) (h1 : A ≤ 64) (hN : N < A) (hk : 0 ≤ k) (hk1 : k < A) (hq : q = ((rolN A N X / 2 ^ (k + 1).toNat : Nat) : Int)) (hb : b = bitI X ((k - N + A) % A)) :
    IntKind.u64.wrap (IntKind.u64.wrap (2 * q) + b) = ((rolN A N X / 2 ^ (k - 1 + 1).toNat : Nat) : Int) := by
  refine more_bit _ k q _ (lt64 _ A (rol_lt A N X hX) h1) hk hq ?_
  have e : ((k - N + A) % A).toNat = (k.toNat + A - N) % A := by
    have : k - N + A = ((k.toNat + A - N : Nat) : Int) := by omega
    rw [this, ← Int.natCast_emod, Int.toNat_natCast]
  rw [hb, bit_nat, rol_bit A N X _ hX hN (by omega), e]
theorem m29 (A N X : Nat) (k q b : Int) (hX : X < 2 ^ A) (h1 : A ≤ 64) (hN : N < A) (hk : 0 ≤ k) (hk1 : k < A) (hq : q = ((rorN A N X / 2 ^ (k + 1).toNat : Nat) : Int)) (hb : b = bitI X ((k + N) % A)) :
    IntKind.u64.wrap (IntKind.u64.wrap (2 * q) + b) = ((rorN A N X / 2 ^ (k - 1 + 1).toNat : Nat) : Int) := by
  refine more_bit _ k q _ (lt64 _ A (ror_lt A N X hX) h1) hk hq ?_
  have e : ((k + N) % A).toNat = (k.toNat + N) % A := by
    have : k + N = ((k.toNat + N : Nat) : Int) := by omega
    rw [this, ← Int.natCast_emod, Int.toNat_natCast]
  rw [hb, bit_nat, ror_bit A N X _ hX hN (by omega), e]
theorem at_bounds (A : Nat) (m : Int) (h0 : 1 ≤ A) (h1 : A ≤ 64) : 0 ≤ m % A ∧ m % A < 64 := by
  have := Int.emod_nonneg m (show (A : Int) ≠ 0 by omega)
  have := Int.emod_lt_of_pos m (show (0 : Int) < A by omega)
  omega
end Go.Bw
namespace Go.Bw
open Go.RowKit (wrap64)
def shB (a : Int) : Bool := a == 1 || a == 2 || a == 4 || a == 8 || a == 16 || a == 32 || a == 64
theorem sh_fin : ∀ n : Fin 65, 1 ≤ n.val → (bits .and .i64 (n.val : Int) ((n.val : Int) - 1) == 0) = shB n.val := by decide +kernel
theorem sh_width (a : Int) (h1 : 1 ≤ a) (h2 : a ≤ 64) : (bits .and .i64 a (a - 1) == 0) = shB a := by
  have h := sh_fin ⟨a.toNat, by omega⟩ (by show 1 ≤ a.toNat; omega)
  have e : ((a.toNat : Nat) : Int) = a := by omega
  simpa [e] using h
/-- 2 to the j, j up to 7 -/
theorem sh_yes (a : Int) (j : Nat) (hj : j ≤ 6) (h : a = 2 ^ j) : shB a = true := by
  have : j = 0 ∨ j = 1 ∨ j = 2 ∨ j = 3 ∨ j = 4 ∨ j = 5 ∨ j = 6 := by omega
  rcases this with rfl | rfl | rfl | rfl | rfl | rfl | rfl <;> subst h <;> decide
theorem sh_no (a : Int) (h : ∀ i : Nat, i < 7 → ¬ a = 2 ^ i) : shB a = false := by
  have h0 := h 0 (by omega); have h1 := h 1 (by omega); have h2 := h 2 (by omega); have h3 := h 3 (by omega)
  have h4 := h 4 (by omega); have h5 := h 5 (by omega); have h6 := h 6 (by omega)
  unfold shB; simp at *; omega
theorem pow7 (j : Nat) (h : j ≤ 7) : (2 : Int) ^ j ≤ 128 := pow_mono j 7 h
theorem pow6 (j : Nat) (h : j ≤ 7) (h2 : (2 : Int) ^ j ≤ 64) : j ≤ 6 := by
  rcases Nat.lt_or_ge j 7 with h' | h'
  · omega
  · have : j = 7 := by omega
    subst this; exact absurd h2 (by decide)
theorem trim_id (a v : Int) (h1 : 1 ≤ a) (h2 : a ≤ 64) (h0 : 0 ≤ v) (h : v < 2 ^ a.toNat) : trimI a v = v := by
  rw [trim_mod a v h1 h2 h0 (Int.lt_of_lt_of_le h (pow_le64 _ (by omega))), Int.emod_eq_of_lt h0 h]
theorem nat_of (A : Nat) (v : Int) (h0 : 0 ≤ v) (h : v < 2 ^ A) : v.toNat < 2 ^ A := by
  have e : ((2 : Int) ^ A) = ((2 ^ A : Nat) : Int) := by simp
  rw [e] at h; omega
theorem of_nat (A V : Nat) (h : V < 2 ^ A) : (V : Int) < 2 ^ A := by
  have e : ((2 : Int) ^ A) = ((2 ^ A : Nat) : Int) := by simp
  rw [e]; omega
theorem trim_and (a s t : Int) (h1 : 1 ≤ a) (h2 : a ≤ 64) (s0 : 0 ≤ s) (s1 : s < 2 ^ a.toNat) (t0 : 0 ≤ t) (t1 : t < 2 ^ a.toNat) : trimI a (bits .and .u64 s t) = bits .and .u64 s t := by
  have hp := pow_le64 a.toNat (by omega)
  rw [u64_and s t s0 (by omega) t0 (by omega)]
  exact trim_id a _ h1 h2 (by omega) (of_nat _ _ (Nat.and_lt_two_pow _ (nat_of _ t t0 t1)))
theorem trim_or (a s t : Int) (h1 : 1 ≤ a) (h2 : a ≤ 64) (s0 : 0 ≤ s) (s1 : s < 2 ^ a.toNat) (t0 : 0 ≤ t) (t1 : t < 2 ^ a.toNat) : trimI a (bits .or .u64 s t) = bits .or .u64 s t := by
  have hp := pow_le64 a.toNat (by omega)
  rw [u64_or s t s0 (by omega) t0 (by omega)]
  exact trim_id a _ h1 h2 (by omega) (of_nat _ _ (Nat.or_lt_two_pow (nat_of _ s s0 s1) (nat_of _ t t0 t1)))
theorem trim_xor (a s t : Int) (h1 : 1 ≤ a) (h2 : a ≤ 64) (s0 : 0 ≤ s) (s1 : s < 2 ^ a.toNat) (t0 : 0 ≤ t) (t1 : t < 2 ^ a.toNat) : trimI a (bits .xor .u64 s t) = bits .xor .u64 s t := by
  have hp := pow_le64 a.toNat (by omega)
  rw [u64_xor s t s0 (by omega) t0 (by omega)]
  exact trim_id a _ h1 h2 (by omega) (of_nat _ _ (Nat.xor_lt_two_pow (nat_of _ s s0 s1) (nat_of _ t t0 t1)))
theorem trim_div (a s t : Int) (h1 : 1 ≤ a) (h2 : a ≤ 64) (s0 : 0 ≤ s) (s1 : s < 2 ^ a.toNat) (t0 : 0 ≤ t) : trimI a (s / t) = s / t :=
  trim_id a _ h1 h2 (Int.ediv_nonneg s0 t0) (Int.lt_of_le_of_lt (Int.ediv_le_self _ s0) s1)
theorem trim_remt (a s t : Int) (h1 : 1 ≤ a) (h2 : a ≤ 64) (t0 : 0 ≤ t) (t1 : t < 2 ^ a.toNat) (hz : ¬ t = 0) : trimI a (s % t) = s % t :=
  trim_id a _ h1 h2 (Int.emod_nonneg _ hz) (Int.lt_trans (Int.emod_lt_of_pos _ (by omega)) t1)
theorem not_zero : bits .xor .u64 18446744073709551615 0 = 18446744073709551615 := by decide +kernel
theorem U_max : U 18446744073709551615 := by unfold U; omega
/-- the amount of a turn -/
def amt (a y : Int) : Nat := (trimI a y % a).toNat
theorem amt_lt (a y : Int) (h1 : 1 ≤ a) : (amt a y : Int) < a := by
  unfold amt
  have := Int.emod_lt_of_pos (trimI a y) (show 0 < a by omega)
  have := Int.emod_nonneg (trimI a y) (show a ≠ 0 by omega)
  omega
theorem amt_eq (a y : Int) (h1 : 1 ≤ a) : trimI a y % a = (amt a y : Int) := by
  unfold amt
  have := Int.emod_nonneg (trimI a y) (show a ≠ 0 by omega)
  omega
/-- the five turns' numbers, out of bits' own -/
theorem b25 (A N X : Nat) (h0 : 1 ≤ A) (h1 : A ≤ 64) : trimI A (IntKind.u64.wrap ((X : Int) * 2 ^ N)) = (shlN A N X : Nat) := by
  have hu := U_wrap ((X : Int) * 2 ^ N)
  rw [trim_mod _ _ (by omega) (by omega) hu.1 hu.2, IntKind.wrap_u64, Int.toNat_natCast]
  have e64 : (18446744073709551616 : Int) = 2 ^ A * 2 ^ (64 - A) := by rw [← Int.pow_add, show A + (64 - A) = 64 by omega, p64]
  rw [e64, Int.emod_emod_of_dvd _ (Int.dvd_mul_right _ _)]
  unfold shlN
  rw [Nat.shiftLeft_eq]; simp
theorem b26 (A N X : Nat) (h0 : 1 ≤ A) (h1 : A ≤ 64) (hX : X < 2 ^ A) : trimI A ((X : Int) / 2 ^ N) = (shrN N X : Nat) := by
  have e : ((X : Int) / 2 ^ N) = ((X / 2 ^ N : Nat) : Int) := by simp
  have l : X / 2 ^ N < 2 ^ A := Nat.lt_of_le_of_lt (Nat.div_le_self _ _) hX
  rw [e, trim_id _ _ (by omega) (by omega) (Int.natCast_nonneg _) (by rw [Int.toNat_natCast]; exact of_nat _ _ l)]
  unfold shrN; rw [Nat.shiftRight_eq_div_pow]
theorem b27 (A N X : Nat) (h0 : 1 ≤ A) (h1 : A ≤ 64) (hX : X < 2 ^ A) : trimI A (IntKind.u64.wrap (sgnI A X / 2 ^ N)) = (sarN A N X : Nat) := by
  have hu := U_wrap (sgnI A X / 2 ^ N)
  have e64 : (18446744073709551616 : Int) = 2 ^ A * 2 ^ (64 - A) := by rw [← Int.pow_add, show A + (64 - A) = 64 by omega, p64]
  have eA : ((2 : Int) ^ A) = ((2 ^ A : Nat) : Int) := by simp
  have eN : ((2 : Int) ^ N) = ((2 ^ N : Nat) : Int) := by simp
  have hp := Nat.two_pow_pos N
  have ht : trimI A X = (X : Int) := trim_id _ _ (by omega) (by omega) (by omega) (by rw [Int.toNat_natCast]; exact of_nat _ _ hX)
  rw [trim_mod _ _ (by omega) (by omega) hu.1 hu.2, IntKind.wrap_u64, Int.toNat_natCast, e64, Int.emod_emod_of_dvd _ (Int.dvd_mul_right _ _)]
  have hl := sar_lt A N X hX
  unfold sgnI; rw [ht, Int.toNat_natCast]
  unfold sarN at hl ⊢
  by_cases hc : 2 * X < 2 ^ A
  · have hc' : 2 * (X : Int) < 2 ^ A := by rw [eA]; omega
    rw [if_pos hc', if_pos hc, Nat.shiftRight_eq_div_pow]
    rw [if_pos hc, Nat.shiftRight_eq_div_pow] at hl
    rw [eN, eA, ← Int.natCast_ediv, ← Int.natCast_emod, Nat.mod_eq_of_lt hl]
  · have hc' : ¬ 2 * (X : Int) < 2 ^ A := by rw [eA]; omega
    rw [if_neg hc', if_neg hc, Nat.shiftRight_eq_div_pow]
    rw [if_neg hc, Nat.shiftRight_eq_div_pow] at hl
    have e : (X : Int) - 2 ^ A = ((2 ^ A * (2 ^ N - 1) + X : Nat) : Int) + (-(2 ^ A)) * 2 ^ N := by
      have : ((2 ^ N - 1 : Nat) : Int) = 2 ^ N - 1 := by rw [eN]; omega
      rw [Int.natCast_add, Int.natCast_mul, this, ← eA, Int.mul_sub, Int.neg_mul]; omega
    rw [e, Int.add_mul_ediv_right _ _ (by rw [eN]; omega), eN, ← Int.natCast_ediv]
    rw [show ((( 2 ^ A * (2 ^ N - 1) + X) / 2 ^ N : Nat) : Int) + -(2 ^ A) = (((2 ^ A * (2 ^ N - 1) + X) / 2 ^ N : Nat) : Int) + 2 ^ A * (-1) by omega]
    rw [Int.add_mul_emod_self_left, eA, ← Int.natCast_emod, Nat.mod_eq_of_lt hl]
theorem or_mod (A P Q : Nat) : (P ||| Q) % 2 ^ A = P % 2 ^ A ||| Q % 2 ^ A := by
  apply Nat.eq_of_testBit_eq; intro i
  simp only [Nat.testBit_mod_two_pow, Nat.testBit_or]
  cases decide (i < A) <;> simp
theorem shl_wrap (A N X : Nat) (h1 : A ≤ 64) : X * 2 ^ N % 18446744073709551616 % 2 ^ A = shlN A N X := by
  have e64 : 18446744073709551616 = 2 ^ A * 2 ^ (64 - A) := by rw [← Nat.pow_add, show A + (64 - A) = 64 by omega]
  unfold shlN
  rw [e64, Nat.mod_mul_right_mod, Nat.shiftLeft_eq]
theorem b28 (A N X M : Nat) (h0 : 1 ≤ A) (h1 : A ≤ 64) (hX : X < 2 ^ A) (hM : M = A - N) : trimI A (bits .or .u64 (IntKind.u64.wrap ((X : Int) * 2 ^ N)) ((X : Int) / 2 ^ M)) = (rolN A N X : Nat) := by
  subst hM
  have hx64 := lt64 X A hX h1
  have hu := U_bits .or (IntKind.u64.wrap ((X : Int) * 2 ^ N)) ((X : Int) / 2 ^ (A - N))
  have e1 : IntKind.u64.wrap ((X : Int) * 2 ^ N) = ((X * 2 ^ N % 18446744073709551616 : Nat) : Int) := by rw [IntKind.wrap_u64]; simp
  have e2 : ((X : Int) / 2 ^ (A - N)) = ((X / 2 ^ (A - N) : Nat) : Int) := by simp
  have l2 := div_lt X (A - N) hx64
  have eA : ((2 : Int) ^ A) = ((2 ^ A : Nat) : Int) := by simp
  rw [trim_mod _ _ (by omega) (by omega) hu.1 hu.2, e1, e2, u64_or_nat _ _ (Nat.mod_lt _ (by omega)) l2, Int.toNat_natCast, eA, ← Int.natCast_emod, or_mod, shl_wrap A N X h1]
  have hl := shr_lt A (A - N) X hX
  unfold shrN at hl; rw [Nat.shiftRight_eq_div_pow] at hl
  rw [Nat.mod_eq_of_lt hl]
  unfold rolN; rw [Nat.shiftRight_eq_div_pow]; rfl
theorem b29 (A N X M : Nat) (h0 : 1 ≤ A) (h1 : A ≤ 64) (hX : X < 2 ^ A) (hM : M = A - N) : trimI A (bits .or .u64 ((X : Int) / 2 ^ N) (IntKind.u64.wrap ((X : Int) * 2 ^ M))) = (rorN A N X : Nat) := by
  subst hM
  have hx64 := lt64 X A hX h1
  have hu := U_bits .or ((X : Int) / 2 ^ N) (IntKind.u64.wrap ((X : Int) * 2 ^ (A - N)))
  have e1 : IntKind.u64.wrap ((X : Int) * 2 ^ (A - N)) = ((X * 2 ^ (A - N) % 18446744073709551616 : Nat) : Int) := by rw [IntKind.wrap_u64]; simp
  have e2 : ((X : Int) / 2 ^ N) = ((X / 2 ^ N : Nat) : Int) := by simp
  have l2 := div_lt X N hx64
  have eA : ((2 : Int) ^ A) = ((2 ^ A : Nat) : Int) := by simp
  rw [trim_mod _ _ (by omega) (by omega) hu.1 hu.2, e1, e2, u64_or_nat _ _ l2 (Nat.mod_lt _ (by omega)), Int.toNat_natCast, eA, ← Int.natCast_emod, or_mod, shl_wrap A (A - N) X h1]
  have hl := shr_lt A N X hX
  unfold shrN at hl; rw [Nat.shiftRight_eq_div_pow] at hl
  rw [Nat.mod_eq_of_lt hl]
  unfold rorN; rw [Nat.shiftRight_eq_div_pow]; rfl
theorem U_div (a x y : Int) (hx : U x) (_hy : U y) (ht : 0 < trimI a y) : U (trimI a x / trimI a y) := by
  have hu := U_trim a x hx
  exact ⟨Int.ediv_nonneg hu.1 (Int.le_of_lt ht), Int.lt_of_le_of_lt (Int.ediv_le_self _ hu.1) hu.2⟩
theorem U_rem (a x y : Int) (_hx : U x) (hy : U y) (ht : 0 < trimI a y) : U (trimI a x % trimI a y) := by
  have hu := U_trim a y hy
  exact ⟨Int.emod_nonneg _ (by omega), Int.lt_trans (Int.emod_lt_of_pos _ ht) hu.2⟩
theorem quo_u (s t : Int) (us : U s) (ht : 0 < t) : IntKind.u64.wrap (s.tdiv t) = s / t := by
  rw [Int.tdiv_eq_ediv_of_nonneg us.1, IntKind.wrap_u64]
  exact Int.emod_eq_of_lt (Int.ediv_nonneg us.1 (Int.le_of_lt ht)) (Int.lt_of_le_of_lt (Int.ediv_le_self _ us.1) us.2)
theorem sh_step (a p : Int) (j : Nat) (h : p = 2 ^ j ∧ ∀ i : Nat, i < j → ¬ a = 2 ^ i) (he : ¬ a = p) : 2 * p = 2 ^ (j + 1) ∧ ∀ i : Nat, i < j + 1 → ¬ a = 2 ^ i := by
  refine ⟨by rw [h.1, Int.pow_succ, Int.mul_comm], fun i hi => ?_⟩
  rcases Nat.lt_succ_iff_lt_or_eq.mp hi with h' | h'
  · exact h.2 i h'
  · rw [h', ← h.1]; exact he
theorem sh_end (a p : Int) (j : Nat) (h : p = 2 ^ j ∧ ∀ i : Nat, i < j → ¬ a = 2 ^ i) (h64 : ¬ p ≤ 64) (_hj : j ≤ 7) : shB a = false :=
  sh_no a (fun i hi => h.2 i (by
    rcases Nat.lt_or_ge j 7 with h' | h'
    · exact absurd (by rw [h.1]; exact pow_mono j 6 (by omega)) h64
    · omega))
end Go.Bw
namespace Go.Proofs.YtdgmilmhdcmbgaaGreatDoor
open Go.ChangeShapes Go.WideShapes Go.ChangeAt Go.RowKit Go.Bw

theorem un_op (op a x : Int) (h15 : ¬ op = 15) (h16 : ¬ op = 16) (w : World) :
    Calls Tryz.prog 52 #[.int .i64 op, .int .i64 a, .int .u64 x] w fun e w' => e = .returned (.tuple #[.int .u64 0, .int .i64 73]) ∧ w' = w := by
  have k15 : (op != 15) = true := by simpa using h15
  have k16 : (op != 16) = true := by simpa using h16
  go_enter Tryz.func52, Tryz.ntmps52
  go_wp2
  go_ret2
  exact ⟨rfl, rfl⟩

theorem un_width15 (a x : Int) (hn : a < 1 ∨ 64 < a) (w : World) :
    Calls Tryz.prog 52 #[.int .i64 15, .int .i64 a, .int .u64 x] w fun e w' => e = .returned (.tuple #[.int .u64 0, .int .i64 5]) ∧ w' = w := by
  go_enter Tryz.func52, Tryz.ntmps52
  go_wp2_with (first | (go_at_call 73; refine (right_no _ _ hn).mono ?_; rintro e w' ⟨rfl, rfl⟩))
  go_ret2
  exact ⟨rfl, rfl⟩

theorem un_15 (a x : Int) (h1 : 1 ≤ a) (h2 : a ≤ 64) (w : World) :
    Calls Tryz.prog 52 #[.int .i64 15, .int .i64 a, .int .u64 x] w fun e w' => e = .returned (.tuple #[.int .u64 (trimI a (bits .xor .u64 18446744073709551615 x)), .int .i64 0]) ∧ w' = w := by
  go_enter Tryz.func52, Tryz.ntmps52
  go_wp2_with (first | (go_at_call 73; refine (right_yes _ _ h1 h2).mono ?_; rintro e w' ⟨rfl, rfl⟩) | (go_at_call 74; refine (trim_any _ _ _ (by first | exact hx | exact hy | exact U_bits _ _ _ | exact U_wrap _)).mono ?_; rintro e w' ⟨rfl, rfl⟩))
  go_ret2
  exact ⟨rfl, rfl⟩

theorem un_width16 (a x : Int) (hn : a < 1 ∨ 64 < a) (w : World) :
    Calls Tryz.prog 52 #[.int .i64 16, .int .i64 a, .int .u64 x] w fun e w' => e = .returned (.tuple #[.int .u64 0, .int .i64 5]) ∧ w' = w := by
  go_enter Tryz.func52, Tryz.ntmps52
  go_wp2_with (first | (go_at_call 73; refine (right_no _ _ hn).mono ?_; rintro e w' ⟨rfl, rfl⟩))
  go_ret2
  exact ⟨rfl, rfl⟩

theorem un_16 (a x : Int) (h1 : 1 ≤ a) (h2 : a ≤ 64) (w : World) :
    Calls Tryz.prog 52 #[.int .i64 16, .int .i64 a, .int .u64 x] w fun e w' => e = .returned (.tuple #[.int .u64 (trimI a (IntKind.u64.wrap (-x))), .int .i64 0]) ∧ w' = w := by
  go_enter Tryz.func52, Tryz.ntmps52
  go_wp2_with (first | (go_at_call 73; refine (right_yes _ _ h1 h2).mono ?_; rintro e w' ⟨rfl, rfl⟩) | (go_at_call 74; refine (trim_any _ _ _ (by first | exact hx | exact hy | exact U_bits _ _ _ | exact U_wrap _)).mono ?_; rintro e w' ⟨rfl, rfl⟩))
  go_ret2
  exact ⟨rfl, rfl⟩

theorem cmp_lo (op a x y : Int) (h : op < 9) (w : World) :
    Calls Tryz.prog 50 #[.int .i64 op, .int .i64 a, .int .u64 x, .int .u64 y] w fun e w' => e = .returned (.tuple #[.bool false, .int .i64 73]) ∧ w' = w := by
  go_enter Tryz.func50, Tryz.ntmps50
  go_wp2
  go_ret2
  exact ⟨rfl, rfl⟩

theorem cmp_hi (op a x y : Int) (h0 : 9 ≤ op) (h : 13 < op) (w : World) :
    Calls Tryz.prog 50 #[.int .i64 op, .int .i64 a, .int .u64 x, .int .u64 y] w fun e w' => e = .returned (.tuple #[.bool false, .int .i64 73]) ∧ w' = w := by
  go_enter Tryz.func50, Tryz.ntmps50
  go_wp2
  go_ret2
  exact ⟨rfl, rfl⟩

theorem cmp_width (op a x y : Int) (h0 : 9 ≤ op) (h3 : op ≤ 13) (hn : a < 1 ∨ 64 < a) (w : World) :
    Calls Tryz.prog 50 #[.int .i64 op, .int .i64 a, .int .u64 x, .int .u64 y] w fun e w' => e = .returned (.tuple #[.bool false, .int .i64 5]) ∧ w' = w := by
  go_enter Tryz.func50, Tryz.ntmps50
  go_wp2_with (first | (go_at_call 73; refine (right_no _ _ hn).mono ?_; rintro e w' ⟨rfl, rfl⟩))
  go_ret2
  exact ⟨rfl, rfl⟩

theorem cmp_9 (a x y : Int) (h1 : 1 ≤ a) (h2 : a ≤ 64) (hx : U x) (hy : U y) (w : World) :
    Calls Tryz.prog 50 #[.int .i64 9, .int .i64 a, .int .u64 x, .int .u64 y] w fun e w' => e = .returned (.tuple #[.bool (trimI a x == trimI a y), .int .i64 0]) ∧ w' = w := by
  go_enter Tryz.func50, Tryz.ntmps50
  go_wp2_with (first | (go_at_call 73; refine (right_yes _ _ h1 h2).mono ?_; rintro e w' ⟨rfl, rfl⟩) | (go_at_call 74; refine (trim_any _ _ _ (by first | exact hx | exact hy | exact U_bits _ _ _ | exact U_wrap _)).mono ?_; rintro e w' ⟨rfl, rfl⟩) | (go_at_call 75; refine (signed_any _ _ _ h1 h2 (by first | exact U_trim _ _ hx | exact U_trim _ _ hy)).mono ?_; rintro e w' ⟨rfl, rfl⟩))
  go_ret2
  exact ⟨rfl, rfl⟩

theorem cmp_10 (a x y : Int) (h1 : 1 ≤ a) (h2 : a ≤ 64) (hx : U x) (hy : U y) (w : World) :
    Calls Tryz.prog 50 #[.int .i64 10, .int .i64 a, .int .u64 x, .int .u64 y] w fun e w' => e = .returned (.tuple #[.bool (decide (trimI a x < trimI a y)), .int .i64 0]) ∧ w' = w := by
  go_enter Tryz.func50, Tryz.ntmps50
  go_wp2_with (first | (go_at_call 73; refine (right_yes _ _ h1 h2).mono ?_; rintro e w' ⟨rfl, rfl⟩) | (go_at_call 74; refine (trim_any _ _ _ (by first | exact hx | exact hy | exact U_bits _ _ _ | exact U_wrap _)).mono ?_; rintro e w' ⟨rfl, rfl⟩) | (go_at_call 75; refine (signed_any _ _ _ h1 h2 (by first | exact U_trim _ _ hx | exact U_trim _ _ hy)).mono ?_; rintro e w' ⟨rfl, rfl⟩))
  go_ret2
  exact ⟨rfl, rfl⟩

theorem cmp_11 (a x y : Int) (h1 : 1 ≤ a) (h2 : a ≤ 64) (hx : U x) (hy : U y) (w : World) :
    Calls Tryz.prog 50 #[.int .i64 11, .int .i64 a, .int .u64 x, .int .u64 y] w fun e w' => e = .returned (.tuple #[.bool (decide (trimI a x ≤ trimI a y)), .int .i64 0]) ∧ w' = w := by
  go_enter Tryz.func50, Tryz.ntmps50
  go_wp2_with (first | (go_at_call 73; refine (right_yes _ _ h1 h2).mono ?_; rintro e w' ⟨rfl, rfl⟩) | (go_at_call 74; refine (trim_any _ _ _ (by first | exact hx | exact hy | exact U_bits _ _ _ | exact U_wrap _)).mono ?_; rintro e w' ⟨rfl, rfl⟩) | (go_at_call 75; refine (signed_any _ _ _ h1 h2 (by first | exact U_trim _ _ hx | exact U_trim _ _ hy)).mono ?_; rintro e w' ⟨rfl, rfl⟩))
  go_ret2
  exact ⟨rfl, rfl⟩

theorem cmp_12 (a x y : Int) (h1 : 1 ≤ a) (h2 : a ≤ 64) (hx : U x) (hy : U y) (w : World) :
    Calls Tryz.prog 50 #[.int .i64 12, .int .i64 a, .int .u64 x, .int .u64 y] w fun e w' => e = .returned (.tuple #[.bool (decide (sgnI a (trimI a x) < sgnI a (trimI a y))), .int .i64 0]) ∧ w' = w := by
  go_enter Tryz.func50, Tryz.ntmps50
  go_wp2_with (first | (go_at_call 73; refine (right_yes _ _ h1 h2).mono ?_; rintro e w' ⟨rfl, rfl⟩) | (go_at_call 74; refine (trim_any _ _ _ (by first | exact hx | exact hy | exact U_bits _ _ _ | exact U_wrap _)).mono ?_; rintro e w' ⟨rfl, rfl⟩) | (go_at_call 75; refine (signed_any _ _ _ h1 h2 (by first | exact U_trim _ _ hx | exact U_trim _ _ hy)).mono ?_; rintro e w' ⟨rfl, rfl⟩))
  go_ret2
  exact ⟨rfl, rfl⟩

theorem cmp_13 (a x y : Int) (h1 : 1 ≤ a) (h2 : a ≤ 64) (hx : U x) (hy : U y) (w : World) :
    Calls Tryz.prog 50 #[.int .i64 13, .int .i64 a, .int .u64 x, .int .u64 y] w fun e w' => e = .returned (.tuple #[.bool (decide (sgnI a (trimI a x) ≤ sgnI a (trimI a y))), .int .i64 0]) ∧ w' = w := by
  go_enter Tryz.func50, Tryz.ntmps50
  go_wp2_with (first | (go_at_call 73; refine (right_yes _ _ h1 h2).mono ?_; rintro e w' ⟨rfl, rfl⟩) | (go_at_call 74; refine (trim_any _ _ _ (by first | exact hx | exact hy | exact U_bits _ _ _ | exact U_wrap _)).mono ?_; rintro e w' ⟨rfl, rfl⟩) | (go_at_call 75; refine (signed_any _ _ _ h1 h2 (by first | exact U_trim _ _ hx | exact U_trim _ _ hy)).mono ?_; rintro e w' ⟨rfl, rfl⟩))
  go_ret2
  exact ⟨rfl, rfl⟩

end Go.Proofs.YtdgmilmhdcmbgaaGreatDoor
namespace Go.Proofs.YtdgmilmhdcmbgaaGreatDoor
open Go.ChangeShapes Go.WideShapes Go.ChangeAt Go.RowKit Go.Bw

theorem shw_any (a : Int) (w : World) (h1 : 1 ≤ a) (h2 : a ≤ 64) :
    Calls Tryz.prog 77 #[.int .i64 a] w fun e w' => e = .returned (.bool (shB a)) ∧ w' = w := by
  have hm : Hid ((bits .and .i64 a (a - 1) == 0) = shB a) := sh_width a h1 h2
  go_enter Tryz.func77, Tryz.ntmps77
  go_wp2
  go_ret
  exact ⟨by rw [← hm.out]; rfl, rfl⟩
theorem ish_yes (op : Int) (w : World) (h1 : 25 ≤ op) (h2 : op ≤ 29) :
    Calls Tryz.prog 76 #[.int .i64 op] w fun e w' => e = .returned (.bool true) ∧ w' = w := by
  go_enter Tryz.func76, Tryz.ntmps76
  go_wp2
  go_ret
  exact ⟨rfl, rfl⟩
theorem ish_no (op : Int) (w : World) (h1 : op < 25) :
    Calls Tryz.prog 76 #[.int .i64 op] w fun e w' => e = .returned (.bool false) ∧ w' = w := by
  go_enter Tryz.func76, Tryz.ntmps76
  go_wp2
  go_ret
  exact ⟨rfl, rfl⟩
theorem shifted_25 (A N X : Nat) (y : Int) (w : World) (h0 : 1 ≤ A) (h1 : A ≤ 64) (hN : N < A) (hy : 0 ≤ y) (hn : y % A = N) :
    Calls Tryz.prog 78 #[.int .i64 25, .int .i64 A, .int .u64 X, .int .u64 y] w fun e w' => e = .returned (.int .u64 (IntKind.u64.wrap ((X : Int) * 2 ^ N))) ∧ ∃ n, w' = w.drewN n := by
  go_enter Tryz.func78, Tryz.ntmps78
  go_wp2
  go_ret
  exact ⟨rfl, 0, rfl⟩
theorem shifted_26 (A N X : Nat) (y : Int) (w : World) (h0 : 1 ≤ A) (h1 : A ≤ 64) (hN : N < A) (hy : 0 ≤ y) (hn : y % A = N) :
    Calls Tryz.prog 78 #[.int .i64 26, .int .i64 A, .int .u64 X, .int .u64 y] w fun e w' => e = .returned (.int .u64 ((X : Int) / 2 ^ N)) ∧ ∃ n, w' = w.drewN n := by
  go_enter Tryz.func78, Tryz.ntmps78
  go_wp2
  go_ret
  exact ⟨rfl, 0, rfl⟩
theorem shifted_27 (A N X : Nat) (y : Int) (w : World) (h0 : 1 ≤ A) (h1 : A ≤ 64) (hN : N < A) (hy : 0 ≤ y) (hn : y % A = N) (hX : U X) :
    Calls Tryz.prog 78 #[.int .i64 27, .int .i64 A, .int .u64 X, .int .u64 y] w fun e w' => e = .returned (.int .u64 (IntKind.u64.wrap (sgnI A X / 2 ^ N))) ∧ ∃ n, w' = w.drewN n := by
  go_enter Tryz.func78, Tryz.ntmps78
  go_wp2_with (go_at_call 75; refine (signed_any _ _ _ ?_ ?_ hX).mono ?_; omega; omega; rintro e w' ⟨rfl, rfl⟩)
  go_ret
  exact ⟨rfl, 0, rfl⟩
theorem shifted_28 (A N X : Nat) (y : Int) (w : World) (h0 : 1 ≤ A) (h1 : A ≤ 64) (hN : N < A) (hy : 0 ≤ y) (hn : y % A = N) :
    Calls Tryz.prog 78 #[.int .i64 28, .int .i64 A, .int .u64 X, .int .u64 y] w fun e w' => e = .returned (.int .u64 (bits .or .u64 (IntKind.u64.wrap ((X : Int) * 2 ^ N)) ((X : Int) / 2 ^ (A - N)))) ∧ ∃ n, w' = w.drewN n := by
  go_enter Tryz.func78, Tryz.ntmps78
  go_wp2
  go_quiet (fail)
  go_wp2
  go_ret
  exact ⟨rfl, _, rfl⟩
theorem shifted_29 (A N X : Nat) (y : Int) (w : World) (h0 : 1 ≤ A) (h1 : A ≤ 64) (hN : N < A) (hy : 0 ≤ y) (hn : y % A = N) :
    Calls Tryz.prog 78 #[.int .i64 29, .int .i64 A, .int .u64 X, .int .u64 y] w fun e w' => e = .returned (.int .u64 (bits .or .u64 ((X : Int) / 2 ^ N) (IntKind.u64.wrap ((X : Int) * 2 ^ (A - N))))) ∧ ∃ n, w' = w.drewN n := by
  go_enter Tryz.func78, Tryz.ntmps78
  go_wp2
  go_quiet (fail)
  go_wp2
  go_ret
  exact ⟨rfl, _, rfl⟩

theorem shw_yes (a : Int) (w : World) (h1 : 1 ≤ a) (h2 : a ≤ 64) (hs : shB a = true) :
    Calls Tryz.prog 77 #[.int .i64 a] w fun e w' => e = .returned (.bool true) ∧ w' = w := by rw [← hs]; exact shw_any a w h1 h2
theorem shw_no (a : Int) (w : World) (h1 : 1 ≤ a) (h2 : a ≤ 64) (hs : shB a = false) :
    Calls Tryz.prog 77 #[.int .i64 a] w fun e w' => e = .returned (.bool false) ∧ w' = w := by rw [← hs]; exact shw_any a w h1 h2
theorem ret2i {k j : IntKind} {a b c : Int} (h : a = b) : Ending.returned (.tuple #[.int k a, .int j c]) = .returned (.tuple #[.int k b, .int j c]) := by rw [h]

theorem joined_17 (s t : Int) (w : World) :
    Calls Tryz.prog 79 #[.int .i64 17, .int .u64 s, .int .u64 t] w fun e w' => e = .returned (.int .u64 (bits .and .u64 s t)) ∧ w' = w := by
  go_enter Tryz.func79, Tryz.ntmps79
  go_wp2
  go_ret
  exact ⟨rfl, rfl⟩

theorem joined_18 (s t : Int) (w : World) :
    Calls Tryz.prog 79 #[.int .i64 18, .int .u64 s, .int .u64 t] w fun e w' => e = .returned (.int .u64 (bits .or .u64 s t)) ∧ w' = w := by
  go_enter Tryz.func79, Tryz.ntmps79
  go_wp2
  go_ret
  exact ⟨rfl, rfl⟩

theorem joined_19 (s t : Int) (w : World) :
    Calls Tryz.prog 79 #[.int .i64 19, .int .u64 s, .int .u64 t] w fun e w' => e = .returned (.int .u64 (bits .xor .u64 s t)) ∧ w' = w := by
  go_enter Tryz.func79, Tryz.ntmps79
  go_wp2
  go_ret
  exact ⟨rfl, rfl⟩

theorem jnn_20 (s t : Int) (w : World) :
    Calls Tryz.prog 79 #[.int .i64 20, .int .u64 s, .int .u64 t] w fun e w' => e = .returned (.int .u64 (IntKind.u64.wrap (s + t))) ∧ w' = w := by
  go_enter Tryz.func79, Tryz.ntmps79
  go_wp2
  go_ret
  exact ⟨rfl, rfl⟩

theorem joined_21 (s t : Int) (w : World) :
    Calls Tryz.prog 79 #[.int .i64 21, .int .u64 s, .int .u64 t] w fun e w' => e = .returned (.int .u64 (IntKind.u64.wrap (s - t))) ∧ w' = w := by
  go_enter Tryz.func79, Tryz.ntmps79
  go_wp2
  go_ret
  exact ⟨rfl, rfl⟩

theorem joined_22 (s t : Int) (w : World) :
    Calls Tryz.prog 79 #[.int .i64 22, .int .u64 s, .int .u64 t] w fun e w' => e = .returned (.int .u64 (IntKind.u64.wrap (s * t))) ∧ w' = w := by
  go_enter Tryz.func79, Tryz.ntmps79
  go_wp2
  go_ret
  exact ⟨rfl, rfl⟩

theorem joined_23z (s : Int) (w : World) :
    Calls Tryz.prog 79 #[.int .i64 23, .int .u64 s, .int .u64 0] w fun e w' => e = .returned (.int .u64 (18446744073709551615)) ∧ w' = w := by
  have hm := not_zero
  go_enter Tryz.func79, Tryz.ntmps79
  go_wp2
  go_ret
  exact ⟨rfl, rfl⟩
theorem joined_23 (s t : Int) (w : World) (us : U s) (ht : 0 < t) :
    Calls Tryz.prog 79 #[.int .i64 23, .int .u64 s, .int .u64 t] w fun e w' => e = .returned (.int .u64 (s / t)) ∧ w' = w := by
  have hs : 0 ≤ s := us.1
  have hq : Hid (IntKind.u64.wrap (s.tdiv t) = s / t) := quo_u s t us ht
  go_enter Tryz.func79, Tryz.ntmps79
  go_wp2
  go_ret
  exact ⟨by first | rfl | exact ret_int hq.out, rfl⟩

theorem joined_24z (s : Int) (w : World) :
    Calls Tryz.prog 79 #[.int .i64 24, .int .u64 s, .int .u64 0] w fun e w' => e = .returned (.int .u64 (s)) ∧ w' = w := by
  have hm := not_zero
  go_enter Tryz.func79, Tryz.ntmps79
  go_wp2
  go_ret
  exact ⟨rfl, rfl⟩
theorem joined_24 (s t : Int) (w : World) (us : U s) (ht : 0 < t) :
    Calls Tryz.prog 79 #[.int .i64 24, .int .u64 s, .int .u64 t] w fun e w' => e = .returned (.int .u64 (s % t)) ∧ w' = w := by
  have hs : 0 ≤ s := us.1
  have hq : Hid (IntKind.u64.wrap (s.tdiv t) = s / t) := quo_u s t us ht
  go_enter Tryz.func79, Tryz.ntmps79
  go_wp2
  go_ret
  exact ⟨by first | rfl | exact ret_int hq.out, rfl⟩

theorem bin_lo (op a x y : Int) (h : op < 17) (w : World) :
    Calls Tryz.prog 56 #[.int .i64 op, .int .i64 a, .int .u64 x, .int .u64 y] w fun e w' => e = .returned (.tuple #[.int .u64 0, .int .i64 73]) ∧ w' = w := by
  go_enter Tryz.func56, Tryz.ntmps56
  go_wp2_with (fail)
  go_ret2
  exact ⟨rfl, rfl⟩

theorem bin_hi (op a x y : Int) (h0 : 17 ≤ op) (h : 29 < op) (w : World) :
    Calls Tryz.prog 56 #[.int .i64 op, .int .i64 a, .int .u64 x, .int .u64 y] w fun e w' => e = .returned (.tuple #[.int .u64 0, .int .i64 73]) ∧ w' = w := by
  go_enter Tryz.func56, Tryz.ntmps56
  go_wp2_with (fail)
  go_ret2
  exact ⟨rfl, rfl⟩

theorem bin_width (op a x y : Int) (h0 : 17 ≤ op) (h3 : op ≤ 29) (hn : a < 1 ∨ 64 < a) (w : World) :
    Calls Tryz.prog 56 #[.int .i64 op, .int .i64 a, .int .u64 x, .int .u64 y] w fun e w' => e = .returned (.tuple #[.int .u64 0, .int .i64 5]) ∧ w' = w := by
  go_enter Tryz.func56, Tryz.ntmps56
  go_wp2_with (first | (go_at_call 73; refine (right_no _ _ ?_).mono ?_; omega; rintro e w' ⟨rfl, rfl⟩))
  go_ret2
  exact ⟨rfl, rfl⟩

theorem bin_shw (op a x y : Int) (h0 : 25 ≤ op) (h3 : op ≤ 29) (h1 : 1 ≤ a) (h2 : a ≤ 64) (hs : shB a = false) (w : World) :
    Calls Tryz.prog 56 #[.int .i64 op, .int .i64 a, .int .u64 x, .int .u64 y] w fun e w' => e = .returned (.tuple #[.int .u64 0, .int .i64 5]) ∧ w' = w := by
  go_enter Tryz.func56, Tryz.ntmps56
  go_wp2_with (first | (go_at_call 73; refine (right_yes _ _ ?_ ?_).mono ?_; omega; omega; rintro e w' ⟨rfl, rfl⟩) | (go_at_call 76; refine (ish_yes _ _ ?_ ?_).mono ?_; omega; omega; rintro e w' ⟨rfl, rfl⟩) | (go_at_call 77; refine (shw_no _ _ ?_ ?_ hs).mono ?_; omega; omega; rintro e w' ⟨rfl, rfl⟩))
  go_ret2
  exact ⟨rfl, rfl⟩

theorem bin_17 (a x y : Int) (h1 : 1 ≤ a) (h2 : a ≤ 64) (hx : U x) (hy : U y) (w : World) :
    Calls Tryz.prog 56 #[.int .i64 17, .int .i64 a, .int .u64 x, .int .u64 y] w fun e w' => e = .returned (.tuple #[.int .u64 (trimI a (bits .and .u64 (trimI a x) (trimI a y))), .int .i64 0]) ∧ w' = w := by
  go_enter Tryz.func56, Tryz.ntmps56
  go_wp2_with (first | (go_at_call 73; refine (right_yes _ _ ?_ ?_).mono ?_; omega; omega; rintro e w' ⟨rfl, rfl⟩) | (go_at_call 76; refine (ish_no _ _ ?_).mono ?_; omega; rintro e w' ⟨rfl, rfl⟩) | (go_at_call 79; refine (joined_17 _ _ _).mono ?_; rintro e w' ⟨rfl, rfl⟩) | (go_at_call 74; refine (trim_any _ _ _ ?_).mono ?_; (first | exact hx | exact hy | exact U_bits _ _ _ | exact U_wrap _ | exact U_max | exact U_trim _ _ hx | exact U_shr _ _ UX | exact hu); rintro e w' ⟨rfl, rfl⟩))
  go_ret2
  exact ⟨rfl, rfl⟩

theorem bin_18 (a x y : Int) (h1 : 1 ≤ a) (h2 : a ≤ 64) (hx : U x) (hy : U y) (w : World) :
    Calls Tryz.prog 56 #[.int .i64 18, .int .i64 a, .int .u64 x, .int .u64 y] w fun e w' => e = .returned (.tuple #[.int .u64 (trimI a (bits .or .u64 (trimI a x) (trimI a y))), .int .i64 0]) ∧ w' = w := by
  go_enter Tryz.func56, Tryz.ntmps56
  go_wp2_with (first | (go_at_call 73; refine (right_yes _ _ ?_ ?_).mono ?_; omega; omega; rintro e w' ⟨rfl, rfl⟩) | (go_at_call 76; refine (ish_no _ _ ?_).mono ?_; omega; rintro e w' ⟨rfl, rfl⟩) | (go_at_call 79; refine (joined_18 _ _ _).mono ?_; rintro e w' ⟨rfl, rfl⟩) | (go_at_call 74; refine (trim_any _ _ _ ?_).mono ?_; (first | exact hx | exact hy | exact U_bits _ _ _ | exact U_wrap _ | exact U_max | exact U_trim _ _ hx | exact U_shr _ _ UX | exact hu); rintro e w' ⟨rfl, rfl⟩))
  go_ret2
  exact ⟨rfl, rfl⟩

theorem bin_19 (a x y : Int) (h1 : 1 ≤ a) (h2 : a ≤ 64) (hx : U x) (hy : U y) (w : World) :
    Calls Tryz.prog 56 #[.int .i64 19, .int .i64 a, .int .u64 x, .int .u64 y] w fun e w' => e = .returned (.tuple #[.int .u64 (trimI a (bits .xor .u64 (trimI a x) (trimI a y))), .int .i64 0]) ∧ w' = w := by
  go_enter Tryz.func56, Tryz.ntmps56
  go_wp2_with (first | (go_at_call 73; refine (right_yes _ _ ?_ ?_).mono ?_; omega; omega; rintro e w' ⟨rfl, rfl⟩) | (go_at_call 76; refine (ish_no _ _ ?_).mono ?_; omega; rintro e w' ⟨rfl, rfl⟩) | (go_at_call 79; refine (joined_19 _ _ _).mono ?_; rintro e w' ⟨rfl, rfl⟩) | (go_at_call 74; refine (trim_any _ _ _ ?_).mono ?_; (first | exact hx | exact hy | exact U_bits _ _ _ | exact U_wrap _ | exact U_max | exact U_trim _ _ hx | exact U_shr _ _ UX | exact hu); rintro e w' ⟨rfl, rfl⟩))
  go_ret2
  exact ⟨rfl, rfl⟩

theorem bnn_20 (a x y : Int) (h1 : 1 ≤ a) (h2 : a ≤ 64) (hx : U x) (hy : U y) (w : World) :
    Calls Tryz.prog 56 #[.int .i64 20, .int .i64 a, .int .u64 x, .int .u64 y] w fun e w' => e = .returned (.tuple #[.int .u64 (trimI a (IntKind.u64.wrap ((trimI a x) + (trimI a y)))), .int .i64 0]) ∧ w' = w := by
  go_enter Tryz.func56, Tryz.ntmps56
  go_wp2_with (first | (go_at_call 73; refine (right_yes _ _ ?_ ?_).mono ?_; omega; omega; rintro e w' ⟨rfl, rfl⟩) | (go_at_call 76; refine (ish_no _ _ ?_).mono ?_; omega; rintro e w' ⟨rfl, rfl⟩) | (go_at_call 79; refine (jnn_20 _ _ _).mono ?_; rintro e w' ⟨rfl, rfl⟩) | (go_at_call 74; refine (trim_any _ _ _ ?_).mono ?_; (first | exact hx | exact hy | exact U_bits _ _ _ | exact U_wrap _ | exact U_max | exact U_trim _ _ hx | exact U_shr _ _ UX | exact hu); rintro e w' ⟨rfl, rfl⟩))
  go_ret2
  exact ⟨rfl, rfl⟩

theorem bin_21 (a x y : Int) (h1 : 1 ≤ a) (h2 : a ≤ 64) (hx : U x) (hy : U y) (w : World) :
    Calls Tryz.prog 56 #[.int .i64 21, .int .i64 a, .int .u64 x, .int .u64 y] w fun e w' => e = .returned (.tuple #[.int .u64 (trimI a (IntKind.u64.wrap ((trimI a x) - (trimI a y)))), .int .i64 0]) ∧ w' = w := by
  go_enter Tryz.func56, Tryz.ntmps56
  go_wp2_with (first | (go_at_call 73; refine (right_yes _ _ ?_ ?_).mono ?_; omega; omega; rintro e w' ⟨rfl, rfl⟩) | (go_at_call 76; refine (ish_no _ _ ?_).mono ?_; omega; rintro e w' ⟨rfl, rfl⟩) | (go_at_call 79; refine (joined_21 _ _ _).mono ?_; rintro e w' ⟨rfl, rfl⟩) | (go_at_call 74; refine (trim_any _ _ _ ?_).mono ?_; (first | exact hx | exact hy | exact U_bits _ _ _ | exact U_wrap _ | exact U_max | exact U_trim _ _ hx | exact U_shr _ _ UX | exact hu); rintro e w' ⟨rfl, rfl⟩))
  go_ret2
  exact ⟨rfl, rfl⟩

theorem bin_22 (a x y : Int) (h1 : 1 ≤ a) (h2 : a ≤ 64) (hx : U x) (hy : U y) (w : World) :
    Calls Tryz.prog 56 #[.int .i64 22, .int .i64 a, .int .u64 x, .int .u64 y] w fun e w' => e = .returned (.tuple #[.int .u64 (trimI a (IntKind.u64.wrap ((trimI a x) * (trimI a y)))), .int .i64 0]) ∧ w' = w := by
  go_enter Tryz.func56, Tryz.ntmps56
  go_wp2_with (first | (go_at_call 73; refine (right_yes _ _ ?_ ?_).mono ?_; omega; omega; rintro e w' ⟨rfl, rfl⟩) | (go_at_call 76; refine (ish_no _ _ ?_).mono ?_; omega; rintro e w' ⟨rfl, rfl⟩) | (go_at_call 79; refine (joined_22 _ _ _).mono ?_; rintro e w' ⟨rfl, rfl⟩) | (go_at_call 74; refine (trim_any _ _ _ ?_).mono ?_; (first | exact hx | exact hy | exact U_bits _ _ _ | exact U_wrap _ | exact U_max | exact U_trim _ _ hx | exact U_shr _ _ UX | exact hu); rintro e w' ⟨rfl, rfl⟩))
  go_ret2
  exact ⟨rfl, rfl⟩

theorem bin_23z (a x y : Int) (h1 : 1 ≤ a) (h2 : a ≤ 64) (hx : U x) (hy : U y) (hz : trimI a y = 0) (w : World) :
    Calls Tryz.prog 56 #[.int .i64 23, .int .i64 a, .int .u64 x, .int .u64 y] w fun e w' => e = .returned (.tuple #[.int .u64 (trimI a (18446744073709551615)), .int .i64 0]) ∧ w' = w := by
  go_enter Tryz.func56, Tryz.ntmps56
  go_wp2_with (first | (go_at_call 73; refine (right_yes _ _ ?_ ?_).mono ?_; omega; omega; rintro e w' ⟨rfl, rfl⟩) | (go_at_call 76; refine (ish_no _ _ ?_).mono ?_; omega; rintro e w' ⟨rfl, rfl⟩) | (go_at_call 79; refine (joined_23z _ _).mono ?_; rintro e w' ⟨rfl, rfl⟩) | (go_at_call 74; refine (trim_any _ _ _ ?_).mono ?_; (first | exact hx | exact hy | exact U_bits _ _ _ | exact U_wrap _ | exact U_max | exact U_trim _ _ hx | exact U_shr _ _ UX | exact hu); rintro e w' ⟨rfl, rfl⟩))
  go_ret2
  exact ⟨rfl, rfl⟩

theorem bin_23 (a x y : Int) (h1 : 1 ≤ a) (h2 : a ≤ 64) (hx : U x) (hy : U y) (ht : 0 < trimI a y) (w : World) :
    Calls Tryz.prog 56 #[.int .i64 23, .int .i64 a, .int .u64 x, .int .u64 y] w fun e w' => e = .returned (.tuple #[.int .u64 (trimI a (trimI a x / trimI a y)), .int .i64 0]) ∧ w' = w := by
  have hu := U_div a x y hx hy ht
  go_enter Tryz.func56, Tryz.ntmps56
  go_wp2_with (first | (go_at_call 73; refine (right_yes _ _ ?_ ?_).mono ?_; omega; omega; rintro e w' ⟨rfl, rfl⟩) | (go_at_call 76; refine (ish_no _ _ ?_).mono ?_; omega; rintro e w' ⟨rfl, rfl⟩) | (go_at_call 79; refine (joined_23 _ _ _ (U_trim _ _ hx) ht).mono ?_; rintro e w' ⟨rfl, rfl⟩) | (go_at_call 74; refine (trim_any _ _ _ ?_).mono ?_; (first | exact hx | exact hy | exact U_bits _ _ _ | exact U_wrap _ | exact U_max | exact U_trim _ _ hx | exact U_shr _ _ UX | exact hu); rintro e w' ⟨rfl, rfl⟩))
  go_ret2
  exact ⟨rfl, rfl⟩

theorem bin_24z (a x y : Int) (h1 : 1 ≤ a) (h2 : a ≤ 64) (hx : U x) (hy : U y) (hz : trimI a y = 0) (w : World) :
    Calls Tryz.prog 56 #[.int .i64 24, .int .i64 a, .int .u64 x, .int .u64 y] w fun e w' => e = .returned (.tuple #[.int .u64 (trimI a (trimI a x)), .int .i64 0]) ∧ w' = w := by
  go_enter Tryz.func56, Tryz.ntmps56
  go_wp2_with (first | (go_at_call 73; refine (right_yes _ _ ?_ ?_).mono ?_; omega; omega; rintro e w' ⟨rfl, rfl⟩) | (go_at_call 76; refine (ish_no _ _ ?_).mono ?_; omega; rintro e w' ⟨rfl, rfl⟩) | (go_at_call 79; refine (joined_24z _ _).mono ?_; rintro e w' ⟨rfl, rfl⟩) | (go_at_call 74; refine (trim_any _ _ _ ?_).mono ?_; (first | exact hx | exact hy | exact U_bits _ _ _ | exact U_wrap _ | exact U_max | exact U_trim _ _ hx | exact U_shr _ _ UX | exact hu); rintro e w' ⟨rfl, rfl⟩))
  go_ret2
  exact ⟨rfl, rfl⟩

theorem bin_24 (a x y : Int) (h1 : 1 ≤ a) (h2 : a ≤ 64) (hx : U x) (hy : U y) (ht : 0 < trimI a y) (w : World) :
    Calls Tryz.prog 56 #[.int .i64 24, .int .i64 a, .int .u64 x, .int .u64 y] w fun e w' => e = .returned (.tuple #[.int .u64 (trimI a (trimI a x % trimI a y)), .int .i64 0]) ∧ w' = w := by
  have hu := U_rem a x y hx hy ht
  go_enter Tryz.func56, Tryz.ntmps56
  go_wp2_with (first | (go_at_call 73; refine (right_yes _ _ ?_ ?_).mono ?_; omega; omega; rintro e w' ⟨rfl, rfl⟩) | (go_at_call 76; refine (ish_no _ _ ?_).mono ?_; omega; rintro e w' ⟨rfl, rfl⟩) | (go_at_call 79; refine (joined_24 _ _ _ (U_trim _ _ hx) ht).mono ?_; rintro e w' ⟨rfl, rfl⟩) | (go_at_call 74; refine (trim_any _ _ _ ?_).mono ?_; (first | exact hx | exact hy | exact U_bits _ _ _ | exact U_wrap _ | exact U_max | exact U_trim _ _ hx | exact U_shr _ _ UX | exact hu); rintro e w' ⟨rfl, rfl⟩))
  go_ret2
  exact ⟨rfl, rfl⟩

theorem bin_25 (A N X : Nat) (x y : Int) (h0 : 1 ≤ A) (h1 : A ≤ 64) (hN : N < A) (hx : U x) (hy : U y) (hs : shB A = true) (ex : trimI A x = X) (en : trimI A y % A = N) (w : World) :
    Calls Tryz.prog 56 #[.int .i64 25, .int .i64 A, .int .u64 x, .int .u64 y] w fun e w' => e = .returned (.tuple #[.int .u64 (shlN A N X : Nat), .int .i64 0]) ∧ ∃ n, w' = w.drewN n := by
  have hyl := trim_lo A y hy.1
  have UX : U (X : Int) := by rw [← ex]; exact U_trim _ _ hx
  have hX : X < 2 ^ A := by have := trim_hi A x (by omega) hx.2; rw [ex, Int.toNat_natCast] at this; exact_mod_cast this
  have hm : Hid (trimI A (IntKind.u64.wrap ((X : Int) * 2 ^ N)) = (shlN A N X : Nat)) := b25 A N X h0 h1
  clear hX
  go_enter Tryz.func56, Tryz.ntmps56
  go_wp2_with (first | (go_at_call 73; refine (right_yes _ _ ?_ ?_).mono ?_; omega; omega; rintro e w' ⟨rfl, rfl⟩) | (go_at_call 76; refine (ish_yes _ _ ?_ ?_).mono ?_; omega; omega; rintro e w' ⟨rfl, rfl⟩) | (go_at_call 77; refine (shw_yes _ _ ?_ ?_ hs).mono ?_; omega; omega; rintro e w' ⟨rfl, rfl⟩) | (go_at_call 78; refine (shifted_25 A N X _ _ h0 h1 hN hyl en).mono ?_; rintro e w' ⟨rfl, nd, rfl⟩) | (go_at_call 74; refine (trim_any _ _ _ ?_).mono ?_; (first | exact hx | exact hy | exact U_bits _ _ _ | exact U_wrap _ | exact U_max | exact U_trim _ _ hx | exact U_shr _ _ UX | exact hu); rintro e w' ⟨rfl, rfl⟩))
  go_ret2
  exact ⟨ret2i hm.out, _, rfl⟩

theorem bin_26 (A N X : Nat) (x y : Int) (h0 : 1 ≤ A) (h1 : A ≤ 64) (hN : N < A) (hx : U x) (hy : U y) (hs : shB A = true) (ex : trimI A x = X) (en : trimI A y % A = N) (w : World) :
    Calls Tryz.prog 56 #[.int .i64 26, .int .i64 A, .int .u64 x, .int .u64 y] w fun e w' => e = .returned (.tuple #[.int .u64 (shrN N X : Nat), .int .i64 0]) ∧ ∃ n, w' = w.drewN n := by
  have hyl := trim_lo A y hy.1
  have UX : U (X : Int) := by rw [← ex]; exact U_trim _ _ hx
  have hX : X < 2 ^ A := by have := trim_hi A x (by omega) hx.2; rw [ex, Int.toNat_natCast] at this; exact_mod_cast this
  have hm : Hid (trimI A ((X : Int) / 2 ^ N) = (shrN N X : Nat)) := b26 A N X h0 h1 hX
  clear hX
  go_enter Tryz.func56, Tryz.ntmps56
  go_wp2_with (first | (go_at_call 73; refine (right_yes _ _ ?_ ?_).mono ?_; omega; omega; rintro e w' ⟨rfl, rfl⟩) | (go_at_call 76; refine (ish_yes _ _ ?_ ?_).mono ?_; omega; omega; rintro e w' ⟨rfl, rfl⟩) | (go_at_call 77; refine (shw_yes _ _ ?_ ?_ hs).mono ?_; omega; omega; rintro e w' ⟨rfl, rfl⟩) | (go_at_call 78; refine (shifted_26 A N X _ _ h0 h1 hN hyl en).mono ?_; rintro e w' ⟨rfl, nd, rfl⟩) | (go_at_call 74; refine (trim_any _ _ _ ?_).mono ?_; (first | exact hx | exact hy | exact U_bits _ _ _ | exact U_wrap _ | exact U_max | exact U_trim _ _ hx | exact U_shr _ _ UX | exact hu); rintro e w' ⟨rfl, rfl⟩))
  go_ret2
  exact ⟨ret2i hm.out, _, rfl⟩

theorem bin_27 (A N X : Nat) (x y : Int) (h0 : 1 ≤ A) (h1 : A ≤ 64) (hN : N < A) (hx : U x) (hy : U y) (hs : shB A = true) (ex : trimI A x = X) (en : trimI A y % A = N) (w : World) :
    Calls Tryz.prog 56 #[.int .i64 27, .int .i64 A, .int .u64 x, .int .u64 y] w fun e w' => e = .returned (.tuple #[.int .u64 (sarN A N X : Nat), .int .i64 0]) ∧ ∃ n, w' = w.drewN n := by
  have hyl := trim_lo A y hy.1
  have UX : U (X : Int) := by rw [← ex]; exact U_trim _ _ hx
  have hX : X < 2 ^ A := by have := trim_hi A x (by omega) hx.2; rw [ex, Int.toNat_natCast] at this; exact_mod_cast this
  have hm : Hid (trimI A (IntKind.u64.wrap (sgnI A X / 2 ^ N)) = (sarN A N X : Nat)) := b27 A N X h0 h1 hX
  clear hX
  go_enter Tryz.func56, Tryz.ntmps56
  go_wp2_with (first | (go_at_call 73; refine (right_yes _ _ ?_ ?_).mono ?_; omega; omega; rintro e w' ⟨rfl, rfl⟩) | (go_at_call 76; refine (ish_yes _ _ ?_ ?_).mono ?_; omega; omega; rintro e w' ⟨rfl, rfl⟩) | (go_at_call 77; refine (shw_yes _ _ ?_ ?_ hs).mono ?_; omega; omega; rintro e w' ⟨rfl, rfl⟩) | (go_at_call 78; refine (shifted_27 A N X _ _ h0 h1 hN hyl en UX).mono ?_; rintro e w' ⟨rfl, nd, rfl⟩) | (go_at_call 74; refine (trim_any _ _ _ ?_).mono ?_; (first | exact hx | exact hy | exact U_bits _ _ _ | exact U_wrap _ | exact U_max | exact U_trim _ _ hx | exact U_shr _ _ UX | exact hu); rintro e w' ⟨rfl, rfl⟩))
  go_ret2
  exact ⟨ret2i hm.out, _, rfl⟩

theorem bin_28 (A N X : Nat) (x y : Int) (h0 : 1 ≤ A) (h1 : A ≤ 64) (hN : N < A) (hx : U x) (hy : U y) (hs : shB A = true) (ex : trimI A x = X) (en : trimI A y % A = N) (w : World) :
    Calls Tryz.prog 56 #[.int .i64 28, .int .i64 A, .int .u64 x, .int .u64 y] w fun e w' => e = .returned (.tuple #[.int .u64 (rolN A N X : Nat), .int .i64 0]) ∧ ∃ n, w' = w.drewN n := by
  have hyl := trim_lo A y hy.1
  have UX : U (X : Int) := by rw [← ex]; exact U_trim _ _ hx
  have hX : X < 2 ^ A := by have := trim_hi A x (by omega) hx.2; rw [ex, Int.toNat_natCast] at this; exact_mod_cast this
  have hm : Hid (trimI A (bits .or .u64 (IntKind.u64.wrap ((X : Int) * 2 ^ N)) ((X : Int) / 2 ^ (A - N))) = (rolN A N X : Nat)) := b28 A N X _ h0 h1 hX rfl
  clear hX
  go_enter Tryz.func56, Tryz.ntmps56
  go_wp2_with (first | (go_at_call 73; refine (right_yes _ _ ?_ ?_).mono ?_; omega; omega; rintro e w' ⟨rfl, rfl⟩) | (go_at_call 76; refine (ish_yes _ _ ?_ ?_).mono ?_; omega; omega; rintro e w' ⟨rfl, rfl⟩) | (go_at_call 77; refine (shw_yes _ _ ?_ ?_ hs).mono ?_; omega; omega; rintro e w' ⟨rfl, rfl⟩) | (go_at_call 78; refine (shifted_28 A N X _ _ h0 h1 hN hyl en).mono ?_; rintro e w' ⟨rfl, nd, rfl⟩) | (go_at_call 74; refine (trim_any _ _ _ ?_).mono ?_; (first | exact hx | exact hy | exact U_bits _ _ _ | exact U_wrap _ | exact U_max | exact U_trim _ _ hx | exact U_shr _ _ UX | exact hu); rintro e w' ⟨rfl, rfl⟩))
  go_ret2
  exact ⟨ret2i hm.out, _, rfl⟩

theorem bin_29 (A N X : Nat) (x y : Int) (h0 : 1 ≤ A) (h1 : A ≤ 64) (hN : N < A) (hx : U x) (hy : U y) (hs : shB A = true) (ex : trimI A x = X) (en : trimI A y % A = N) (w : World) :
    Calls Tryz.prog 56 #[.int .i64 29, .int .i64 A, .int .u64 x, .int .u64 y] w fun e w' => e = .returned (.tuple #[.int .u64 (rorN A N X : Nat), .int .i64 0]) ∧ ∃ n, w' = w.drewN n := by
  have hyl := trim_lo A y hy.1
  have UX : U (X : Int) := by rw [← ex]; exact U_trim _ _ hx
  have hX : X < 2 ^ A := by have := trim_hi A x (by omega) hx.2; rw [ex, Int.toNat_natCast] at this; exact_mod_cast this
  have hm : Hid (trimI A (bits .or .u64 ((X : Int) / 2 ^ N) (IntKind.u64.wrap ((X : Int) * 2 ^ (A - N)))) = (rorN A N X : Nat)) := b29 A N X _ h0 h1 hX rfl
  clear hX
  go_enter Tryz.func56, Tryz.ntmps56
  go_wp2_with (first | (go_at_call 73; refine (right_yes _ _ ?_ ?_).mono ?_; omega; omega; rintro e w' ⟨rfl, rfl⟩) | (go_at_call 76; refine (ish_yes _ _ ?_ ?_).mono ?_; omega; omega; rintro e w' ⟨rfl, rfl⟩) | (go_at_call 77; refine (shw_yes _ _ ?_ ?_ hs).mono ?_; omega; omega; rintro e w' ⟨rfl, rfl⟩) | (go_at_call 78; refine (shifted_29 A N X _ _ h0 h1 hN hyl en).mono ?_; rintro e w' ⟨rfl, nd, rfl⟩) | (go_at_call 74; refine (trim_any _ _ _ ?_).mono ?_; (first | exact hx | exact hy | exact U_bits _ _ _ | exact U_wrap _ | exact U_max | exact U_trim _ _ hx | exact U_shr _ _ UX | exact hu); rintro e w' ⟨rfl, rfl⟩))
  go_ret2
  exact ⟨ret2i hm.out, _, rfl⟩

end Go.Proofs.YtdgmilmhdcmbgaaGreatDoor
namespace Go.Proofs.YtdgmilmhdcmbgaaGreatDoor
open Go.ChangeShapes Go.WideShapes Go.ChangeAt Go.RowKit Go.Bw

theorem ret2_int {k j : IntKind} {a b c : Int} (h : a = b) : Ending.returned (.tuple #[.int k a, .int j c]) = .returned (.tuple #[.int k b, .int j c]) := by rw [h]

theorem cat_w (a x v y : Int) (hn : a < 1 ∨ 64 < a) (w : World) :
    Calls Tryz.prog 53 #[.int .i64 a, .int .u64 x, .int .i64 v, .int .u64 y] w fun e w' => e = .returned (.tuple #[.int .u64 0, .int .i64 5]) ∧ w' = w := by
  go_enter Tryz.func53, Tryz.ntmps53
  go_wp2_with (first | (go_at_call 73; refine (right_yes _ _ ?_ ?_).mono ?_; omega; omega; rintro e w' ⟨rfl, rfl⟩) | (go_at_call 73; refine (right_no _ _ ?_).mono ?_; omega; rintro e w' ⟨rfl, rfl⟩) | (go_at_call 74; refine (trim_any _ _ _ ?_).mono ?_; (first | exact hx | exact hy | exact U_bits _ _ _ | exact U_wrap _ | exact U_shr _ _ hx | exact U_shr _ _ (U_trim _ _ hx)); rintro e w' ⟨rfl, rfl⟩) | (go_at_call 75; refine (signed_any _ _ _ ?_ ?_ ?_).mono ?_; omega; omega; exact hx; rintro e w' ⟨rfl, rfl⟩))
  go_ret2
  exact ⟨rfl, rfl⟩

theorem cat_v (a x v y : Int) (h1 : 1 ≤ a) (h2 : a ≤ 64) (hn : v < 1 ∨ 64 < v) (w : World) :
    Calls Tryz.prog 53 #[.int .i64 a, .int .u64 x, .int .i64 v, .int .u64 y] w fun e w' => e = .returned (.tuple #[.int .u64 0, .int .i64 5]) ∧ w' = w := by
  go_enter Tryz.func53, Tryz.ntmps53
  go_wp2_with (first | (go_at_call 73; refine (right_yes _ _ ?_ ?_).mono ?_; omega; omega; rintro e w' ⟨rfl, rfl⟩) | (go_at_call 73; refine (right_no _ _ ?_).mono ?_; omega; rintro e w' ⟨rfl, rfl⟩) | (go_at_call 74; refine (trim_any _ _ _ ?_).mono ?_; (first | exact hx | exact hy | exact U_bits _ _ _ | exact U_wrap _ | exact U_shr _ _ hx | exact U_shr _ _ (U_trim _ _ hx)); rintro e w' ⟨rfl, rfl⟩) | (go_at_call 75; refine (signed_any _ _ _ ?_ ?_ ?_).mono ?_; omega; omega; exact hx; rintro e w' ⟨rfl, rfl⟩))
  go_ret2
  exact ⟨rfl, rfl⟩

theorem cat_s (a x v y : Int) (h1 : 1 ≤ a) (h2 : a ≤ 64) (h3 : 1 ≤ v) (h4 : v ≤ 64) (h5 : 64 < a + v) (w : World) :
    Calls Tryz.prog 53 #[.int .i64 a, .int .u64 x, .int .i64 v, .int .u64 y] w fun e w' => e = .returned (.tuple #[.int .u64 0, .int .i64 5]) ∧ w' = w := by
  go_enter Tryz.func53, Tryz.ntmps53
  go_wp2_with (first | (go_at_call 73; refine (right_yes _ _ ?_ ?_).mono ?_; omega; omega; rintro e w' ⟨rfl, rfl⟩) | (go_at_call 73; refine (right_no _ _ ?_).mono ?_; omega; rintro e w' ⟨rfl, rfl⟩) | (go_at_call 74; refine (trim_any _ _ _ ?_).mono ?_; (first | exact hx | exact hy | exact U_bits _ _ _ | exact U_wrap _ | exact U_shr _ _ hx | exact U_shr _ _ (U_trim _ _ hx)); rintro e w' ⟨rfl, rfl⟩) | (go_at_call 75; refine (signed_any _ _ _ ?_ ?_ ?_).mono ?_; omega; omega; exact hx; rintro e w' ⟨rfl, rfl⟩))
  go_ret2
  exact ⟨rfl, rfl⟩

theorem cat_any (a x v y : Int) (h1 : 1 ≤ a) (h3 : 1 ≤ v) (h4 : a + v ≤ 64) (hx : U x) (hy : U y) (w : World) :
    Calls Tryz.prog 53 #[.int .i64 a, .int .u64 x, .int .i64 v, .int .u64 y] w fun e w' => e = .returned (.tuple #[.int .u64 (catI a x v y), .int .i64 0]) ∧ ∃ n, w' = w.drewN n := by
  have hm : Hid (bits .or .u64 (IntKind.u64.wrap (trimI a x * 2 ^ v.toNat)) (trimI v y) = catI a x v y) := cat_or a x v y h1 h3 h4 hx hy
  have hv : v ≤ 64 := by omega
  have hv0 : 0 ≤ v := by omega
  have ha : a ≤ 64 := by omega
  go_enter Tryz.func53, Tryz.ntmps53
  go_wp2_with (first | (go_at_call 73; refine (right_yes _ _ ?_ ?_).mono ?_; omega; omega; rintro e w' ⟨rfl, rfl⟩))
  go_quiet ((go_at_call 74; refine Calls.quiet_of_same (trim_any _ _ _ ?_); (first | exact hx | exact hy)))
  go_wp2
  go_ret2
  exact ⟨ret2_int hm.out, _, rfl⟩

theorem slice_w (a x f n : Int) (hn : a < 1 ∨ 64 < a) (w : World) :
    Calls Tryz.prog 54 #[.int .i64 a, .int .u64 x, .int .i64 f, .int .i64 n] w fun e w' => e = .returned (.tuple #[.int .u64 0, .int .i64 5]) ∧ w' = w := by
  go_enter Tryz.func54, Tryz.ntmps54
  go_wp2_with (first | (go_at_call 73; refine (right_yes _ _ ?_ ?_).mono ?_; omega; omega; rintro e w' ⟨rfl, rfl⟩) | (go_at_call 73; refine (right_no _ _ ?_).mono ?_; omega; rintro e w' ⟨rfl, rfl⟩) | (go_at_call 74; refine (trim_any _ _ _ ?_).mono ?_; (first | exact hx | exact hy | exact U_bits _ _ _ | exact U_wrap _ | exact U_shr _ _ hx | exact U_shr _ _ (U_trim _ _ hx)); rintro e w' ⟨rfl, rfl⟩) | (go_at_call 75; refine (signed_any _ _ _ ?_ ?_ ?_).mono ?_; omega; omega; exact hx; rintro e w' ⟨rfl, rfl⟩))
  go_ret2
  exact ⟨rfl, rfl⟩

theorem slice_n (a x f n : Int) (h1 : 1 ≤ a) (h2 : a ≤ 64) (hn : n < 1) (w : World) :
    Calls Tryz.prog 54 #[.int .i64 a, .int .u64 x, .int .i64 f, .int .i64 n] w fun e w' => e = .returned (.tuple #[.int .u64 0, .int .i64 5]) ∧ w' = w := by
  go_enter Tryz.func54, Tryz.ntmps54
  go_wp2_with (first | (go_at_call 73; refine (right_yes _ _ ?_ ?_).mono ?_; omega; omega; rintro e w' ⟨rfl, rfl⟩) | (go_at_call 73; refine (right_no _ _ ?_).mono ?_; omega; rintro e w' ⟨rfl, rfl⟩) | (go_at_call 74; refine (trim_any _ _ _ ?_).mono ?_; (first | exact hx | exact hy | exact U_bits _ _ _ | exact U_wrap _ | exact U_shr _ _ hx | exact U_shr _ _ (U_trim _ _ hx)); rintro e w' ⟨rfl, rfl⟩) | (go_at_call 75; refine (signed_any _ _ _ ?_ ?_ ?_).mono ?_; omega; omega; exact hx; rintro e w' ⟨rfl, rfl⟩))
  go_ret2
  exact ⟨rfl, rfl⟩

theorem slice_f (a x f n : Int) (h1 : 1 ≤ a) (h2 : a ≤ 64) (h3 : 1 ≤ n) (hf : f < 0) (w : World) :
    Calls Tryz.prog 54 #[.int .i64 a, .int .u64 x, .int .i64 f, .int .i64 n] w fun e w' => e = .returned (.tuple #[.int .u64 0, .int .i64 5]) ∧ w' = w := by
  go_enter Tryz.func54, Tryz.ntmps54
  go_wp2_with (first | (go_at_call 73; refine (right_yes _ _ ?_ ?_).mono ?_; omega; omega; rintro e w' ⟨rfl, rfl⟩) | (go_at_call 73; refine (right_no _ _ ?_).mono ?_; omega; rintro e w' ⟨rfl, rfl⟩) | (go_at_call 74; refine (trim_any _ _ _ ?_).mono ?_; (first | exact hx | exact hy | exact U_bits _ _ _ | exact U_wrap _ | exact U_shr _ _ hx | exact U_shr _ _ (U_trim _ _ hx)); rintro e w' ⟨rfl, rfl⟩) | (go_at_call 75; refine (signed_any _ _ _ ?_ ?_ ?_).mono ?_; omega; omega; exact hx; rintro e w' ⟨rfl, rfl⟩))
  go_ret2
  exact ⟨rfl, rfl⟩

theorem slice_s (a x f n : Int) (h1 : 1 ≤ a) (h2 : a ≤ 64) (h3 : 1 ≤ n) (hm : n ≤ 9223372036854775807) (hf : 0 ≤ f) (hs : a - n < f) (w : World) :
    Calls Tryz.prog 54 #[.int .i64 a, .int .u64 x, .int .i64 f, .int .i64 n] w fun e w' => e = .returned (.tuple #[.int .u64 0, .int .i64 5]) ∧ w' = w := by
  go_enter Tryz.func54, Tryz.ntmps54
  go_wp2_with (first | (go_at_call 73; refine (right_yes _ _ ?_ ?_).mono ?_; omega; omega; rintro e w' ⟨rfl, rfl⟩) | (go_at_call 73; refine (right_no _ _ ?_).mono ?_; omega; rintro e w' ⟨rfl, rfl⟩) | (go_at_call 74; refine (trim_any _ _ _ ?_).mono ?_; (first | exact hx | exact hy | exact U_bits _ _ _ | exact U_wrap _ | exact U_shr _ _ hx | exact U_shr _ _ (U_trim _ _ hx)); rintro e w' ⟨rfl, rfl⟩) | (go_at_call 75; refine (signed_any _ _ _ ?_ ?_ ?_).mono ?_; omega; omega; exact hx; rintro e w' ⟨rfl, rfl⟩))
  go_ret2
  exact ⟨rfl, rfl⟩

theorem slice_any (a x f n : Int) (h1 : 1 ≤ a) (h2 : a ≤ 64) (h3 : 1 ≤ n) (hf : 0 ≤ f) (hg : f ≤ a - n) (hx : U x) (w : World) :
    Calls Tryz.prog 54 #[.int .i64 a, .int .u64 x, .int .i64 f, .int .i64 n] w fun e w' => e = .returned (.tuple #[.int .u64 (trimI n (x / 2 ^ f.toNat)), .int .i64 0]) ∧ w' = w := by
  go_enter Tryz.func54, Tryz.ntmps54
  go_wp2_with (first | (go_at_call 73; refine (right_yes _ _ ?_ ?_).mono ?_; omega; omega; rintro e w' ⟨rfl, rfl⟩) | (go_at_call 73; refine (right_no _ _ ?_).mono ?_; omega; rintro e w' ⟨rfl, rfl⟩) | (go_at_call 74; refine (trim_any _ _ _ ?_).mono ?_; (first | exact hx | exact hy | exact U_bits _ _ _ | exact U_wrap _ | exact U_shr _ _ hx | exact U_shr _ _ (U_trim _ _ hx)); rintro e w' ⟨rfl, rfl⟩) | (go_at_call 75; refine (signed_any _ _ _ ?_ ?_ ?_).mono ?_; omega; omega; exact hx; rintro e w' ⟨rfl, rfl⟩))
  go_ret2
  exact ⟨rfl, rfl⟩

theorem ext_op (op a x t : Int) (h32 : ¬ op = 32) (h33 : ¬ op = 33) (w : World) :
    Calls Tryz.prog 55 #[.int .i64 op, .int .i64 a, .int .u64 x, .int .i64 t] w fun e w' => e = .returned (.tuple #[.int .u64 0, .int .i64 73]) ∧ w' = w := by
  have k32 : (op != 32) = true := by simpa using h32
  have k33 : (op != 33) = true := by simpa using h33
  go_enter Tryz.func55, Tryz.ntmps55
  go_wp2_with (first | (go_at_call 73; refine (right_yes _ _ ?_ ?_).mono ?_; omega; omega; rintro e w' ⟨rfl, rfl⟩) | (go_at_call 73; refine (right_no _ _ ?_).mono ?_; omega; rintro e w' ⟨rfl, rfl⟩) | (go_at_call 74; refine (trim_any _ _ _ ?_).mono ?_; (first | exact hx | exact hy | exact U_bits _ _ _ | exact U_wrap _ | exact U_shr _ _ hx | exact U_shr _ _ (U_trim _ _ hx)); rintro e w' ⟨rfl, rfl⟩) | (go_at_call 75; refine (signed_any _ _ _ ?_ ?_ ?_).mono ?_; omega; omega; exact hx; rintro e w' ⟨rfl, rfl⟩))
  go_ret2
  exact ⟨rfl, rfl⟩

theorem ext_w32 (a x t : Int) (hn : a < 1 ∨ 64 < a) (w : World) :
    Calls Tryz.prog 55 #[.int .i64 32, .int .i64 a, .int .u64 x, .int .i64 t] w fun e w' => e = .returned (.tuple #[.int .u64 0, .int .i64 5]) ∧ w' = w := by
  go_enter Tryz.func55, Tryz.ntmps55
  go_wp2_with (first | (go_at_call 73; refine (right_yes _ _ ?_ ?_).mono ?_; omega; omega; rintro e w' ⟨rfl, rfl⟩) | (go_at_call 73; refine (right_no _ _ ?_).mono ?_; omega; rintro e w' ⟨rfl, rfl⟩) | (go_at_call 74; refine (trim_any _ _ _ ?_).mono ?_; (first | exact hx | exact hy | exact U_bits _ _ _ | exact U_wrap _ | exact U_shr _ _ hx | exact U_shr _ _ (U_trim _ _ hx)); rintro e w' ⟨rfl, rfl⟩) | (go_at_call 75; refine (signed_any _ _ _ ?_ ?_ ?_).mono ?_; omega; omega; exact hx; rintro e w' ⟨rfl, rfl⟩))
  go_ret2
  exact ⟨rfl, rfl⟩

theorem ext_t32 (a x t : Int) (h1 : 1 ≤ a) (h2 : a ≤ 64) (hn : t < 1 ∨ 64 < t) (w : World) :
    Calls Tryz.prog 55 #[.int .i64 32, .int .i64 a, .int .u64 x, .int .i64 t] w fun e w' => e = .returned (.tuple #[.int .u64 0, .int .i64 5]) ∧ w' = w := by
  go_enter Tryz.func55, Tryz.ntmps55
  go_wp2_with (first | (go_at_call 73; refine (right_yes _ _ ?_ ?_).mono ?_; omega; omega; rintro e w' ⟨rfl, rfl⟩) | (go_at_call 73; refine (right_no _ _ ?_).mono ?_; omega; rintro e w' ⟨rfl, rfl⟩) | (go_at_call 74; refine (trim_any _ _ _ ?_).mono ?_; (first | exact hx | exact hy | exact U_bits _ _ _ | exact U_wrap _ | exact U_shr _ _ hx | exact U_shr _ _ (U_trim _ _ hx)); rintro e w' ⟨rfl, rfl⟩) | (go_at_call 75; refine (signed_any _ _ _ ?_ ?_ ?_).mono ?_; omega; omega; exact hx; rintro e w' ⟨rfl, rfl⟩))
  go_ret2
  exact ⟨rfl, rfl⟩

theorem ext_s32 (a x t : Int) (h1 : 1 ≤ a) (h2 : a ≤ 64) (h3 : 1 ≤ t) (h4 : t ≤ 64) (hs : t < a) (w : World) :
    Calls Tryz.prog 55 #[.int .i64 32, .int .i64 a, .int .u64 x, .int .i64 t] w fun e w' => e = .returned (.tuple #[.int .u64 0, .int .i64 5]) ∧ w' = w := by
  go_enter Tryz.func55, Tryz.ntmps55
  go_wp2_with (first | (go_at_call 73; refine (right_yes _ _ ?_ ?_).mono ?_; omega; omega; rintro e w' ⟨rfl, rfl⟩) | (go_at_call 73; refine (right_no _ _ ?_).mono ?_; omega; rintro e w' ⟨rfl, rfl⟩) | (go_at_call 74; refine (trim_any _ _ _ ?_).mono ?_; (first | exact hx | exact hy | exact U_bits _ _ _ | exact U_wrap _ | exact U_shr _ _ hx | exact U_shr _ _ (U_trim _ _ hx)); rintro e w' ⟨rfl, rfl⟩) | (go_at_call 75; refine (signed_any _ _ _ ?_ ?_ ?_).mono ?_; omega; omega; exact hx; rintro e w' ⟨rfl, rfl⟩))
  go_ret2
  exact ⟨rfl, rfl⟩

theorem ext_32 (a x t : Int) (h1 : 1 ≤ a) (h2 : a ≤ 64) (h3 : 1 ≤ t) (h4 : t ≤ 64) (hs : a ≤ t) (hx : U x) (w : World) :
    Calls Tryz.prog 55 #[.int .i64 32, .int .i64 a, .int .u64 x, .int .i64 t] w fun e w' => e = .returned (.tuple #[.int .u64 (trimI a x), .int .i64 0]) ∧ w' = w := by
  go_enter Tryz.func55, Tryz.ntmps55
  go_wp2_with (first | (go_at_call 73; refine (right_yes _ _ ?_ ?_).mono ?_; omega; omega; rintro e w' ⟨rfl, rfl⟩) | (go_at_call 73; refine (right_no _ _ ?_).mono ?_; omega; rintro e w' ⟨rfl, rfl⟩) | (go_at_call 74; refine (trim_any _ _ _ ?_).mono ?_; (first | exact hx | exact hy | exact U_bits _ _ _ | exact U_wrap _ | exact U_shr _ _ hx | exact U_shr _ _ (U_trim _ _ hx)); rintro e w' ⟨rfl, rfl⟩) | (go_at_call 75; refine (signed_any _ _ _ ?_ ?_ ?_).mono ?_; omega; omega; exact hx; rintro e w' ⟨rfl, rfl⟩))
  go_ret2
  exact ⟨rfl, rfl⟩

theorem ext_w33 (a x t : Int) (hn : a < 1 ∨ 64 < a) (w : World) :
    Calls Tryz.prog 55 #[.int .i64 33, .int .i64 a, .int .u64 x, .int .i64 t] w fun e w' => e = .returned (.tuple #[.int .u64 0, .int .i64 5]) ∧ w' = w := by
  go_enter Tryz.func55, Tryz.ntmps55
  go_wp2_with (first | (go_at_call 73; refine (right_yes _ _ ?_ ?_).mono ?_; omega; omega; rintro e w' ⟨rfl, rfl⟩) | (go_at_call 73; refine (right_no _ _ ?_).mono ?_; omega; rintro e w' ⟨rfl, rfl⟩) | (go_at_call 74; refine (trim_any _ _ _ ?_).mono ?_; (first | exact hx | exact hy | exact U_bits _ _ _ | exact U_wrap _ | exact U_shr _ _ hx | exact U_shr _ _ (U_trim _ _ hx)); rintro e w' ⟨rfl, rfl⟩) | (go_at_call 75; refine (signed_any _ _ _ ?_ ?_ ?_).mono ?_; omega; omega; exact hx; rintro e w' ⟨rfl, rfl⟩))
  go_ret2
  exact ⟨rfl, rfl⟩

theorem ext_t33 (a x t : Int) (h1 : 1 ≤ a) (h2 : a ≤ 64) (hn : t < 1 ∨ 64 < t) (w : World) :
    Calls Tryz.prog 55 #[.int .i64 33, .int .i64 a, .int .u64 x, .int .i64 t] w fun e w' => e = .returned (.tuple #[.int .u64 0, .int .i64 5]) ∧ w' = w := by
  go_enter Tryz.func55, Tryz.ntmps55
  go_wp2_with (first | (go_at_call 73; refine (right_yes _ _ ?_ ?_).mono ?_; omega; omega; rintro e w' ⟨rfl, rfl⟩) | (go_at_call 73; refine (right_no _ _ ?_).mono ?_; omega; rintro e w' ⟨rfl, rfl⟩) | (go_at_call 74; refine (trim_any _ _ _ ?_).mono ?_; (first | exact hx | exact hy | exact U_bits _ _ _ | exact U_wrap _ | exact U_shr _ _ hx | exact U_shr _ _ (U_trim _ _ hx)); rintro e w' ⟨rfl, rfl⟩) | (go_at_call 75; refine (signed_any _ _ _ ?_ ?_ ?_).mono ?_; omega; omega; exact hx; rintro e w' ⟨rfl, rfl⟩))
  go_ret2
  exact ⟨rfl, rfl⟩

theorem ext_s33 (a x t : Int) (h1 : 1 ≤ a) (h2 : a ≤ 64) (h3 : 1 ≤ t) (h4 : t ≤ 64) (hs : t < a) (w : World) :
    Calls Tryz.prog 55 #[.int .i64 33, .int .i64 a, .int .u64 x, .int .i64 t] w fun e w' => e = .returned (.tuple #[.int .u64 0, .int .i64 5]) ∧ w' = w := by
  go_enter Tryz.func55, Tryz.ntmps55
  go_wp2_with (first | (go_at_call 73; refine (right_yes _ _ ?_ ?_).mono ?_; omega; omega; rintro e w' ⟨rfl, rfl⟩) | (go_at_call 73; refine (right_no _ _ ?_).mono ?_; omega; rintro e w' ⟨rfl, rfl⟩) | (go_at_call 74; refine (trim_any _ _ _ ?_).mono ?_; (first | exact hx | exact hy | exact U_bits _ _ _ | exact U_wrap _ | exact U_shr _ _ hx | exact U_shr _ _ (U_trim _ _ hx)); rintro e w' ⟨rfl, rfl⟩) | (go_at_call 75; refine (signed_any _ _ _ ?_ ?_ ?_).mono ?_; omega; omega; exact hx; rintro e w' ⟨rfl, rfl⟩))
  go_ret2
  exact ⟨rfl, rfl⟩

theorem ext_33 (a x t : Int) (h1 : 1 ≤ a) (h2 : a ≤ 64) (h3 : 1 ≤ t) (h4 : t ≤ 64) (hs : a ≤ t) (hx : U x) (w : World) :
    Calls Tryz.prog 55 #[.int .i64 33, .int .i64 a, .int .u64 x, .int .i64 t] w fun e w' => e = .returned (.tuple #[.int .u64 (trimI t (IntKind.u64.wrap (sgnI a x))), .int .i64 0]) ∧ w' = w := by
  go_enter Tryz.func55, Tryz.ntmps55
  go_wp2_with (first | (go_at_call 73; refine (right_yes _ _ ?_ ?_).mono ?_; omega; omega; rintro e w' ⟨rfl, rfl⟩) | (go_at_call 73; refine (right_no _ _ ?_).mono ?_; omega; rintro e w' ⟨rfl, rfl⟩) | (go_at_call 74; refine (trim_any _ _ _ ?_).mono ?_; (first | exact hx | exact hy | exact U_bits _ _ _ | exact U_wrap _ | exact U_shr _ _ hx | exact U_shr _ _ (U_trim _ _ hx)); rintro e w' ⟨rfl, rfl⟩) | (go_at_call 75; refine (signed_any _ _ _ ?_ ?_ ?_).mono ?_; omega; omega; exact hx; rintro e w' ⟨rfl, rfl⟩))
  go_ret2
  exact ⟨rfl, rfl⟩

theorem grown_drewN (w : World) (n : Nat) : Grown w (w.drewN n) := by
  induction n with
  | zero => exact Grown.refl _
  | succ n ih => rw [← World.drew_drewN]; exact ih.drew

abbrev Gives (f : Nat) (args : Array Value) (r : Value) : Prop := ∀ w, Calls Tryz.prog f args w fun e w' => e = .returned r ∧ ∃ n, w' = w.drewN n
theorem gives {f : Nat} {args : Array Value} {r : Value} (h : ∀ w, Calls Tryz.prog f args w fun e w' => e = .returned r ∧ w' = w) : Gives f args r :=
  fun w => (h w).mono fun _ _ ⟨he, hw⟩ => ⟨he, 0, hw⟩
end Go.Proofs.YtdgmilmhdcmbgaaGreatDoor
namespace Go.Proofs.YtdgmilmhdcmbgaaGreatDoor
open Go.ChangeShapes Go.WideShapes Go.ChangeAt Go.RowKit Go.Bw

/-- it answers one and the same in whatever world -/
def GU (f : Nat) (args : Array Value) : Prop := ∃ r e : Int, U r ∧ ∀ w, Calls Tryz.prog f args w fun E w' => E = .returned (.tuple #[.int .u64 r, .int .i64 e]) ∧ Below w.heap.size w w'
theorem gu0 {f : Nat} {args : Array Value} {r e : Int} (hU : U r) (h : ∀ w, Calls Tryz.prog f args w fun E w' => E = .returned (.tuple #[.int .u64 r, .int .i64 e]) ∧ w' = w) : GU f args :=
  ⟨r, e, hU, fun w => (h w).mono fun _ _ ⟨h1, h2⟩ => ⟨h1, by rw [h2]; exact Below.refl _ _⟩⟩
theorem gun {f : Nat} {args : Array Value} {r e : Int} (hU : U r) (h : ∀ w, Calls Tryz.prog f args w fun E w' => E = .returned (.tuple #[.int .u64 r, .int .i64 e]) ∧ ∃ n, w' = w.drewN n) : GU f args :=
  ⟨r, e, hU, fun w => (h w).mono fun _ _ ⟨h1, n, h2⟩ => ⟨h1, by rw [h2]; exact ⟨rfl, rfl, rfl, Nat.le_refl _, fun _ _ => rfl⟩⟩⟩
theorem U_0 : U 0 := by unfold U; omega
theorem U_lt (A Z : Nat) (h1 : A ≤ 64) (h : Z < 2 ^ A) : U ((Z : Nat) : Int) := by
  have h2 : (2 : Nat) ^ A ≤ 2 ^ 64 := Nat.pow_le_pow_right (by omega) h1
  have h3 : (2 : Nat) ^ 64 = 18446744073709551616 := by decide
  unfold U
  omega
theorem un_ex (op a x : Int) (_hx : U x) : GU 52 #[.int .i64 op, .int .i64 a, .int .u64 x] := by
  by_cases h15 : op = 15
  · subst h15
    by_cases h : 1 ≤ a ∧ a ≤ 64
    · exact gu0 (U_trim _ _ (U_bits _ _ _)) (un_15 a x h.1 h.2)
    · exact gu0 U_0 (un_width15 a x (by omega))
  by_cases h16 : op = 16
  · subst h16
    by_cases h : 1 ≤ a ∧ a ≤ 64
    · exact gu0 (U_trim _ _ (U_wrap _)) (un_16 a x h.1 h.2)
    · exact gu0 U_0 (un_width16 a x (by omega))
  exact gu0 U_0 (un_op op a x h15 h16)
/-- a compare, the like -/
theorem cmp_ex (op a x y : Int) (hx : U x) (hy : U y) : ∃ (r : Bool) (e : Int), ∀ w, Calls Tryz.prog 50 #[.int .i64 op, .int .i64 a, .int .u64 x, .int .u64 y] w fun E w' => E = .returned (.tuple #[.bool r, .int .i64 e]) ∧ w' = w := by
  by_cases h9 : op < 9
  · exact ⟨_, _, cmp_lo op a x y h9⟩
  by_cases h13 : 13 < op
  · exact ⟨_, _, cmp_hi op a x y (by omega) h13⟩
  by_cases h : 1 ≤ a ∧ a ≤ 64
  · have hc : op = 9 ∨ op = 10 ∨ op = 11 ∨ op = 12 ∨ op = 13 := by omega
    rcases hc with rfl | rfl | rfl | rfl | rfl
    · exact ⟨_, _, cmp_9 a x y h.1 h.2 hx hy⟩
    · exact ⟨_, _, cmp_10 a x y h.1 h.2 hx hy⟩
    · exact ⟨_, _, cmp_11 a x y h.1 h.2 hx hy⟩
    · exact ⟨_, _, cmp_12 a x y h.1 h.2 hx hy⟩
    · exact ⟨_, _, cmp_13 a x y h.1 h.2 hx hy⟩
  · exact ⟨_, _, cmp_width op a x y (by omega) (by omega) (by omega)⟩
theorem bin_ex (op a x y : Int) (hx : U x) (hy : U y) : GU 56 #[.int .i64 op, .int .i64 a, .int .u64 x, .int .u64 y] := by
  by_cases h17 : op < 17
  · exact gu0 U_0 (bin_lo op a x y h17)
  by_cases h29 : 29 < op
  · exact gu0 U_0 (bin_hi op a x y (by omega) h29)
  by_cases hw : 1 ≤ a ∧ a ≤ 64
  · by_cases h25 : op < 25
    · by_cases ht : 0 < trimI a y
      · have hc : op = 17 ∨ op = 18 ∨ op = 19 ∨ op = 20 ∨ op = 21 ∨ op = 22 ∨ op = 23 ∨ op = 24 := by omega
        rcases hc with rfl | rfl | rfl | rfl | rfl | rfl | rfl | rfl
        · exact gu0 (U_trim _ _ (U_bits _ _ _)) (bin_17 a x y hw.1 hw.2 hx hy)
        · exact gu0 (U_trim _ _ (U_bits _ _ _)) (bin_18 a x y hw.1 hw.2 hx hy)
        · exact gu0 (U_trim _ _ (U_bits _ _ _)) (bin_19 a x y hw.1 hw.2 hx hy)
        · exact gu0 (U_trim _ _ (U_wrap _)) (bnn_20 a x y hw.1 hw.2 hx hy)
        · exact gu0 (U_trim _ _ (U_wrap _)) (bin_21 a x y hw.1 hw.2 hx hy)
        · exact gu0 (U_trim _ _ (U_wrap _)) (bin_22 a x y hw.1 hw.2 hx hy)
        · exact gu0 (U_trim _ _ (U_div a x y hx hy ht)) (bin_23 a x y hw.1 hw.2 hx hy ht)
        · exact gu0 (U_trim _ _ (U_rem a x y hx hy ht)) (bin_24 a x y hw.1 hw.2 hx hy ht)
      · have hz : trimI a y = 0 := by have := trim_lo a y hy.1; omega
        have hc : op = 17 ∨ op = 18 ∨ op = 19 ∨ op = 20 ∨ op = 21 ∨ op = 22 ∨ op = 23 ∨ op = 24 := by omega
        rcases hc with rfl | rfl | rfl | rfl | rfl | rfl | rfl | rfl
        · exact gu0 (U_trim _ _ (U_bits _ _ _)) (bin_17 a x y hw.1 hw.2 hx hy)
        · exact gu0 (U_trim _ _ (U_bits _ _ _)) (bin_18 a x y hw.1 hw.2 hx hy)
        · exact gu0 (U_trim _ _ (U_bits _ _ _)) (bin_19 a x y hw.1 hw.2 hx hy)
        · exact gu0 (U_trim _ _ (U_wrap _)) (bnn_20 a x y hw.1 hw.2 hx hy)
        · exact gu0 (U_trim _ _ (U_wrap _)) (bin_21 a x y hw.1 hw.2 hx hy)
        · exact gu0 (U_trim _ _ (U_wrap _)) (bin_22 a x y hw.1 hw.2 hx hy)
        · exact gu0 (U_trim _ _ U_max) (bin_23z a x y hw.1 hw.2 hx hy hz)
        · exact gu0 (U_trim _ _ (U_trim _ _ hx)) (bin_24z a x y hw.1 hw.2 hx hy hz)
    · by_cases hs : shB a = true
      · obtain ⟨A, rfl⟩ := Int.eq_ofNat_of_zero_le (show 0 ≤ a by omega)
        obtain ⟨X, ex⟩ := Int.eq_ofNat_of_zero_le (trim_lo A x hx.1)
        have en := amt_eq A y hw.1
        have hN : amt A y < A := by have := amt_lt A y hw.1; omega
        have h0 : 1 ≤ A := by omega
        have h1 : A ≤ 64 := by omega
        have hX : X < 2 ^ A := by
          have h7 := trim_hi (A : Int) x (by omega) hx.2
          rw [ex] at h7
          have h8 : (2 : Int) ^ ((A : Int)).toNat = ((2 ^ A : Nat) : Int) := by simp
          rw [h8] at h7
          omega
        have hc : op = 25 ∨ op = 26 ∨ op = 27 ∨ op = 28 ∨ op = 29 := by omega
        rcases hc with rfl | rfl | rfl | rfl | rfl
        · exact gun (U_lt A _ h1 (shl_lt _ _ _)) (bin_25 A _ X x y h0 h1 hN hx hy hs ex en)
        · exact gun (U_lt A _ h1 (shr_lt _ _ _ hX)) (bin_26 A _ X x y h0 h1 hN hx hy hs ex en)
        · exact gun (U_lt A _ h1 (sar_lt _ _ _ hX)) (bin_27 A _ X x y h0 h1 hN hx hy hs ex en)
        · exact gun (U_lt A _ h1 (rol_lt _ _ _ hX)) (bin_28 A _ X x y h0 h1 hN hx hy hs ex en)
        · exact gun (U_lt A _ h1 (ror_lt _ _ _ hX)) (bin_29 A _ X x y h0 h1 hN hx hy hs ex en)
      · have hs' : shB a = false := by simpa using hs
        exact gu0 U_0 (bin_shw op a x y (by omega) (by omega) hw.1 hw.2 hs')
  · exact gu0 U_0 (bin_width op a x y (by omega) (by omega) (by omega))
theorem cat_ex (a x v y : Int) (hx : U x) (hy : U y) : GU 53 #[.int .i64 a, .int .u64 x, .int .i64 v, .int .u64 y] := by
  by_cases h : 1 ≤ a ∧ a ≤ 64
  · by_cases h' : 1 ≤ v ∧ v ≤ 64
    · by_cases h5 : 64 < a + v
      · exact gu0 U_0 (cat_s a x v y h.1 h.2 h'.1 h'.2 h5)
      · have hl := cat_lt a x v y h.1 h'.1 (by omega) hx hy
        have h6 := pow_le64 (a + v).toNat (by omega)
        have h0 : 0 ≤ catI a x v y := by
          unfold catI
          have := trim_lo v y hy.1
          have := Int.mul_nonneg (trim_lo a x hx.1) (Int.le_of_lt (pos v.toNat))
          omega
        exact gun ⟨h0, by omega⟩ (cat_any a x v y h.1 h'.1 (by omega) hx hy)
    · exact gu0 U_0 (cat_v a x v y h.1 h.2 (by omega))
  · exact gu0 U_0 (cat_w a x v y (by omega))
theorem slice_ex (a x f n : Int) (hx : U x) (hm : n ≤ 9223372036854775807) : GU 54 #[.int .i64 a, .int .u64 x, .int .i64 f, .int .i64 n] := by
  by_cases h : 1 ≤ a ∧ a ≤ 64
  · by_cases h3 : 1 ≤ n
    · by_cases hf : 0 ≤ f
      · by_cases hs : f ≤ a - n
        · exact gu0 (U_trim _ _ (U_shr _ _ hx)) (slice_any a x f n h.1 h.2 h3 hf hs hx)
        · exact gu0 U_0 (slice_s a x f n h.1 h.2 h3 hm hf (by omega))
      · exact gu0 U_0 (slice_f a x f n h.1 h.2 h3 (by omega))
    · exact gu0 U_0 (slice_n a x f n h.1 h.2 (by omega))
  · exact gu0 U_0 (slice_w a x f n (by omega))
theorem ext_ex (op a x t : Int) (hx : U x) : GU 55 #[.int .i64 op, .int .i64 a, .int .u64 x, .int .i64 t] := by
  by_cases h32 : op = 32
  · subst h32
    by_cases h : 1 ≤ a ∧ a ≤ 64
    · by_cases h' : 1 ≤ t ∧ t ≤ 64
      · by_cases hs : a ≤ t
        · exact gu0 (U_trim _ _ hx) (ext_32 a x t h.1 h.2 h'.1 h'.2 hs hx)
        · exact gu0 U_0 (ext_s32 a x t h.1 h.2 h'.1 h'.2 (by omega))
      · exact gu0 U_0 (ext_t32 a x t h.1 h.2 (by omega))
    · exact gu0 U_0 (ext_w32 a x t (by omega))
  by_cases h33 : op = 33
  · subst h33
    by_cases h : 1 ≤ a ∧ a ≤ 64
    · by_cases h' : 1 ≤ t ∧ t ≤ 64
      · by_cases hs : a ≤ t
        · exact gu0 (U_trim _ _ (U_wrap _)) (ext_33 a x t h.1 h.2 h'.1 h'.2 hs hx)
        · exact gu0 U_0 (ext_s33 a x t h.1 h.2 h'.1 h'.2 (by omega))
      · exact gu0 U_0 (ext_t33 a x t h.1 h.2 (by omega))
    · exact gu0 U_0 (ext_w33 a x t (by omega))
  exact gu0 U_0 (ext_op op a x t h32 h33)
end Go.Proofs.YtdgmilmhdcmbgaaGreatDoor
