import Derived.Test.YtjdgcfedpinopabDoorMath3
namespace Go.Bw
open Go.RowKit (wrap64)
def shB (a : Int) : Bool := a == 1 || a == 2 || a == 4 || a == 8 || a == 16 || a == 32 || a == 64
theorem sh_fin : ∀ n : Fin 65, 1 ≤ n.val → (bits .and .i64 (n.val : Int) ((n.val : Int) - 1) == 0) = shB n.val := by decide +kernel
theorem sh_width (a : Int) (h1 : 1 ≤ a) (h2 : a ≤ 64) : (bits .and .i64 a (a - 1) == 0) = shB a := by
  have h := sh_fin ⟨a.toNat, by omega⟩ (by show 1 ≤ a.toNat; omega)
  have e : ((a.toNat : Nat) : Int) = a := by omega
  simpa [e] using h
/-- 2 to the j, j up to 7 -/
theorem sh_yes (a : Int) (j : Nat) (hj : j ≤ 6) (h : a = 2 ^ j) : shB a = true := by
  have : j = 0 ∨ j = 1 ∨ j = 2 ∨ j = 3 ∨ j = 4 ∨ j = 5 ∨ j = 6 := by omega
  rcases this with rfl | rfl | rfl | rfl | rfl | rfl | rfl <;> subst h <;> decide
theorem sh_no (a : Int) (h : ∀ i : Nat, i < 7 → ¬ a = 2 ^ i) : shB a = false := by
  have h0 := h 0 (by omega); have h1 := h 1 (by omega); have h2 := h 2 (by omega); have h3 := h 3 (by omega)
  have h4 := h 4 (by omega); have h5 := h 5 (by omega); have h6 := h 6 (by omega)
  unfold shB; simp at *; omega
theorem pow7 (j : Nat) (h : j ≤ 7) : (2 : Int) ^ j ≤ 128 := pow_mono j 7 h
theorem pow6 (j : Nat) (h : j ≤ 7) (h2 : (2 : Int) ^ j ≤ 64) : j ≤ 6 := by
  rcases Nat.lt_or_ge j 7 with h' | h'
  · omega
  · have : j = 7 := by omega
    subst this; exact absurd h2 (by decide)
theorem trim_id (a v : Int) (h1 : 1 ≤ a) (h2 : a ≤ 64) (h0 : 0 ≤ v) (h : v < 2 ^ a.toNat) : trimI a v = v := by
  rw [trim_mod a v h1 h2 h0 (Int.lt_of_lt_of_le h (pow_le64 _ (by omega))), Int.emod_eq_of_lt h0 h]
theorem nat_of (A : Nat) (v : Int) (h0 : 0 ≤ v) (h : v < 2 ^ A) : v.toNat < 2 ^ A := by
  have e : ((2 : Int) ^ A) = ((2 ^ A : Nat) : Int) := by simp
  rw [e] at h; omega
theorem of_nat (A V : Nat) (h : V < 2 ^ A) : (V : Int) < 2 ^ A := by
  have e : ((2 : Int) ^ A) = ((2 ^ A : Nat) : Int) := by simp
  rw [e]; omega
theorem trim_and (a s t : Int) (h1 : 1 ≤ a) (h2 : a ≤ 64) (s0 : 0 ≤ s) (s1 : s < 2 ^ a.toNat) (t0 : 0 ≤ t) (t1 : t < 2 ^ a.toNat) : trimI a (bits .and .u64 s t) = bits .and .u64 s t := by
  have hp := pow_le64 a.toNat (by omega)
  rw [u64_and s t s0 (by omega) t0 (by omega)]
  exact trim_id a _ h1 h2 (by omega) (of_nat _ _ (Nat.and_lt_two_pow _ (nat_of _ t t0 t1)))
theorem trim_or (a s t : Int) (h1 : 1 ≤ a) (h2 : a ≤ 64) (s0 : 0 ≤ s) (s1 : s < 2 ^ a.toNat) (t0 : 0 ≤ t) (t1 : t < 2 ^ a.toNat) : trimI a (bits .or .u64 s t) = bits .or .u64 s t := by
  have hp := pow_le64 a.toNat (by omega)
  rw [u64_or s t s0 (by omega) t0 (by omega)]
  exact trim_id a _ h1 h2 (by omega) (of_nat _ _ (Nat.or_lt_two_pow (nat_of _ s s0 s1) (nat_of _ t t0 t1)))
theorem trim_xor (a s t : Int) (h1 : 1 ≤ a) (h2 : a ≤ 64) (s0 : 0 ≤ s) (s1 : s < 2 ^ a.toNat) (t0 : 0 ≤ t) (t1 : t < 2 ^ a.toNat) : trimI a (bits .xor .u64 s t) = bits .xor .u64 s t := by
  have hp := pow_le64 a.toNat (by omega)
  rw [u64_xor s t s0 (by omega) t0 (by omega)]
  exact trim_id a _ h1 h2 (by omega) (of_nat _ _ (Nat.xor_lt_two_pow (nat_of _ s s0 s1) (nat_of _ t t0 t1)))
theorem trim_div (a s t : Int) (h1 : 1 ≤ a) (h2 : a ≤ 64) (s0 : 0 ≤ s) (s1 : s < 2 ^ a.toNat) (t0 : 0 ≤ t) : trimI a (s / t) = s / t :=
  trim_id a _ h1 h2 (Int.ediv_nonneg s0 t0) (Int.lt_of_le_of_lt (Int.ediv_le_self _ s0) s1)
theorem trim_remt (a s t : Int) (h1 : 1 ≤ a) (h2 : a ≤ 64) (t0 : 0 ≤ t) (t1 : t < 2 ^ a.toNat) (hz : ¬ t = 0) : trimI a (s % t) = s % t :=
  trim_id a _ h1 h2 (Int.emod_nonneg _ hz) (Int.lt_trans (Int.emod_lt_of_pos _ (by omega)) t1)
theorem not_zero : bits .xor .u64 18446744073709551615 0 = 18446744073709551615 := by decide +kernel
theorem U_max : U 18446744073709551615 := by unfold U; omega
/-- the amount of a turn -/
def amt (a y : Int) : Nat := (trimI a y % a).toNat
theorem amt_lt (a y : Int) (h1 : 1 ≤ a) : (amt a y : Int) < a := by
  unfold amt
  have := Int.emod_lt_of_pos (trimI a y) (show 0 < a by omega)
  have := Int.emod_nonneg (trimI a y) (show a ≠ 0 by omega)
  omega
theorem amt_eq (a y : Int) (h1 : 1 ≤ a) : trimI a y % a = (amt a y : Int) := by
  unfold amt
  have := Int.emod_nonneg (trimI a y) (show a ≠ 0 by omega)
  omega
/-- the five turns' numbers, out of bits' own -/
theorem b25 (A N X : Nat) (h0 : 1 ≤ A) (h1 : A ≤ 64) : trimI A (IntKind.u64.wrap ((X : Int) * 2 ^ N)) = (shlN A N X : Nat) := by
  have hu := U_wrap ((X : Int) * 2 ^ N)
  rw [trim_mod _ _ (by omega) (by omega) hu.1 hu.2, IntKind.wrap_u64, Int.toNat_natCast]
  have e64 : (18446744073709551616 : Int) = 2 ^ A * 2 ^ (64 - A) := by rw [← Int.pow_add, show A + (64 - A) = 64 by omega, p64]
  rw [e64, Int.emod_emod_of_dvd _ (Int.dvd_mul_right _ _)]
  unfold shlN
  rw [Nat.shiftLeft_eq]; simp
theorem b26 (A N X : Nat) (h0 : 1 ≤ A) (h1 : A ≤ 64) (hX : X < 2 ^ A) : trimI A ((X : Int) / 2 ^ N) = (shrN N X : Nat) := by
  have e : ((X : Int) / 2 ^ N) = ((X / 2 ^ N : Nat) : Int) := by simp
  have l : X / 2 ^ N < 2 ^ A := Nat.lt_of_le_of_lt (Nat.div_le_self _ _) hX
  rw [e, trim_id _ _ (by omega) (by omega) (Int.natCast_nonneg _) (by rw [Int.toNat_natCast]; exact of_nat _ _ l)]
  unfold shrN; rw [Nat.shiftRight_eq_div_pow]
theorem b27 (A N X : Nat) (h0 : 1 ≤ A) (h1 : A ≤ 64) (hX : X < 2 ^ A) : trimI A (IntKind.u64.wrap (sgnI A X / 2 ^ N)) = (sarN A N X : Nat) := by
  have hu := U_wrap (sgnI A X / 2 ^ N)
  have e64 : (18446744073709551616 : Int) = 2 ^ A * 2 ^ (64 - A) := by rw [← Int.pow_add, show A + (64 - A) = 64 by omega, p64]
  have eA : ((2 : Int) ^ A) = ((2 ^ A : Nat) : Int) := by simp
  have eN : ((2 : Int) ^ N) = ((2 ^ N : Nat) : Int) := by simp
  have hp := Nat.two_pow_pos N
  have ht : trimI A X = (X : Int) := trim_id _ _ (by omega) (by omega) (by omega) (by rw [Int.toNat_natCast]; exact of_nat _ _ hX)
  rw [trim_mod _ _ (by omega) (by omega) hu.1 hu.2, IntKind.wrap_u64, Int.toNat_natCast, e64, Int.emod_emod_of_dvd _ (Int.dvd_mul_right _ _)]
  have hl := sar_lt A N X hX
  unfold sgnI; rw [ht, Int.toNat_natCast]
  unfold sarN at hl ⊢
  by_cases hc : 2 * X < 2 ^ A
  · have hc' : 2 * (X : Int) < 2 ^ A := by rw [eA]; omega
    rw [if_pos hc', if_pos hc, Nat.shiftRight_eq_div_pow]
    rw [if_pos hc, Nat.shiftRight_eq_div_pow] at hl
    rw [eN, eA, ← Int.natCast_ediv, ← Int.natCast_emod, Nat.mod_eq_of_lt hl]
  · have hc' : ¬ 2 * (X : Int) < 2 ^ A := by rw [eA]; omega
    rw [if_neg hc', if_neg hc, Nat.shiftRight_eq_div_pow]
    rw [if_neg hc, Nat.shiftRight_eq_div_pow] at hl
    have e : (X : Int) - 2 ^ A = ((2 ^ A * (2 ^ N - 1) + X : Nat) : Int) + (-(2 ^ A)) * 2 ^ N := by
      have : ((2 ^ N - 1 : Nat) : Int) = 2 ^ N - 1 := by rw [eN]; omega
      rw [Int.natCast_add, Int.natCast_mul, this, ← eA, Int.mul_sub, Int.neg_mul]; omega
    rw [e, Int.add_mul_ediv_right _ _ (by rw [eN]; omega), eN, ← Int.natCast_ediv]
    rw [show ((( 2 ^ A * (2 ^ N - 1) + X) / 2 ^ N : Nat) : Int) + -(2 ^ A) = (((2 ^ A * (2 ^ N - 1) + X) / 2 ^ N : Nat) : Int) + 2 ^ A * (-1) by omega]
    rw [Int.add_mul_emod_self_left, eA, ← Int.natCast_emod, Nat.mod_eq_of_lt hl]
theorem or_mod (A P Q : Nat) : (P ||| Q) % 2 ^ A = P % 2 ^ A ||| Q % 2 ^ A := by
  apply Nat.eq_of_testBit_eq; intro i
  simp only [Nat.testBit_mod_two_pow, Nat.testBit_or]
  cases decide (i < A) <;> simp
theorem shl_wrap (A N X : Nat) (h1 : A ≤ 64) : X * 2 ^ N % 18446744073709551616 % 2 ^ A = shlN A N X := by
  have e64 : 18446744073709551616 = 2 ^ A * 2 ^ (64 - A) := by rw [← Nat.pow_add, show A + (64 - A) = 64 by omega]
  unfold shlN
  rw [e64, Nat.mod_mul_right_mod, Nat.shiftLeft_eq]
theorem b28 (A N X M : Nat) (h0 : 1 ≤ A) (h1 : A ≤ 64) (hX : X < 2 ^ A) (hM : M = A - N) : trimI A (bits .or .u64 (IntKind.u64.wrap ((X : Int) * 2 ^ N)) ((X : Int) / 2 ^ M)) = (rolN A N X : Nat) := by
  subst hM
  have hx64 := lt64 X A hX h1
  have hu := U_bits .or (IntKind.u64.wrap ((X : Int) * 2 ^ N)) ((X : Int) / 2 ^ (A - N))
  have e1 : IntKind.u64.wrap ((X : Int) * 2 ^ N) = ((X * 2 ^ N % 18446744073709551616 : Nat) : Int) := by rw [IntKind.wrap_u64]; simp
  have e2 : ((X : Int) / 2 ^ (A - N)) = ((X / 2 ^ (A - N) : Nat) : Int) := by simp
  have l2 := div_lt X (A - N) hx64
  have eA : ((2 : Int) ^ A) = ((2 ^ A : Nat) : Int) := by simp
  rw [trim_mod _ _ (by omega) (by omega) hu.1 hu.2, e1, e2, u64_or_nat _ _ (Nat.mod_lt _ (by omega)) l2, Int.toNat_natCast, eA, ← Int.natCast_emod, or_mod, shl_wrap A N X h1]
  have hl := shr_lt A (A - N) X hX
  unfold shrN at hl; rw [Nat.shiftRight_eq_div_pow] at hl
  rw [Nat.mod_eq_of_lt hl]
  unfold rolN; rw [Nat.shiftRight_eq_div_pow]; rfl
theorem b29 (A N X M : Nat) (h0 : 1 ≤ A) (h1 : A ≤ 64) (hX : X < 2 ^ A) (hM : M = A - N) : trimI A (bits .or .u64 ((X : Int) / 2 ^ N) (IntKind.u64.wrap ((X : Int) * 2 ^ M))) = (rorN A N X : Nat) := by
  subst hM
  have hx64 := lt64 X A hX h1
  have hu := U_bits .or ((X : Int) / 2 ^ N) (IntKind.u64.wrap ((X : Int) * 2 ^ (A - N)))
  have e1 : IntKind.u64.wrap ((X : Int) * 2 ^ (A - N)) = ((X * 2 ^ (A - N) % 18446744073709551616 : Nat) : Int) := by rw [IntKind.wrap_u64]; simp
  have e2 : ((X : Int) / 2 ^ N) = ((X / 2 ^ N : Nat) : Int) := by simp
  have l2 := div_lt X N hx64
  have eA : ((2 : Int) ^ A) = ((2 ^ A : Nat) : Int) := by simp
  rw [trim_mod _ _ (by omega) (by omega) hu.1 hu.2, e1, e2, u64_or_nat _ _ l2 (Nat.mod_lt _ (by omega)), Int.toNat_natCast, eA, ← Int.natCast_emod, or_mod, shl_wrap A (A - N) X h1]
  have hl := shr_lt A N X hX
  unfold shrN at hl; rw [Nat.shiftRight_eq_div_pow] at hl
  rw [Nat.mod_eq_of_lt hl]
  unfold rorN; rw [Nat.shiftRight_eq_div_pow]; rfl
theorem U_div (a x y : Int) (hx : U x) (_hy : U y) (ht : 0 < trimI a y) : U (trimI a x / trimI a y) := by
  have hu := U_trim a x hx
  exact ⟨Int.ediv_nonneg hu.1 (Int.le_of_lt ht), Int.lt_of_le_of_lt (Int.ediv_le_self _ hu.1) hu.2⟩
theorem U_rem (a x y : Int) (_hx : U x) (hy : U y) (ht : 0 < trimI a y) : U (trimI a x % trimI a y) := by
  have hu := U_trim a y hy
  exact ⟨Int.emod_nonneg _ (by omega), Int.lt_trans (Int.emod_lt_of_pos _ ht) hu.2⟩
theorem quo_u (s t : Int) (us : U s) (ht : 0 < t) : IntKind.u64.wrap (s.tdiv t) = s / t := by
  rw [Int.tdiv_eq_ediv_of_nonneg us.1, IntKind.wrap_u64]
  exact Int.emod_eq_of_lt (Int.ediv_nonneg us.1 (Int.le_of_lt ht)) (Int.lt_of_le_of_lt (Int.ediv_le_self _ us.1) us.2)
theorem sh_step (a p : Int) (j : Nat) (h : p = 2 ^ j ∧ ∀ i : Nat, i < j → ¬ a = 2 ^ i) (he : ¬ a = p) : 2 * p = 2 ^ (j + 1) ∧ ∀ i : Nat, i < j + 1 → ¬ a = 2 ^ i := by
  refine ⟨by rw [h.1, Int.pow_succ, Int.mul_comm], fun i hi => ?_⟩
  rcases Nat.lt_succ_iff_lt_or_eq.mp hi with h' | h'
  · exact h.2 i h'
  · rw [h', ← h.1]; exact he
theorem sh_end (a p : Int) (j : Nat) (h : p = 2 ^ j ∧ ∀ i : Nat, i < j → ¬ a = 2 ^ i) (h64 : ¬ p ≤ 64) (_hj : j ≤ 7) : shB a = false :=
  sh_no a (fun i hi => h.2 i (by
    rcases Nat.lt_or_ge j 7 with h' | h'
    · exact absurd (by rw [h.1]; exact pow_mono j 6 (by omega)) h64
    · omega))
end Go.Bw
