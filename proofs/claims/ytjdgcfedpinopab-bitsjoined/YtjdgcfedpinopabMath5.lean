import Derived.Test.YtjdgcfedpinopabMath4
namespace Go.Bw
open Go.RowKit (wrap64)
theorem wrap_mod (a z : Int) (h1 : 1 ≤ a) (h2 : a ≤ 64) : trimI a (IntKind.u64.wrap z) = z % 2 ^ a.toNat := by
  have hu := U_wrap z
  have e64 : (18446744073709551616 : Int) = 2 ^ a.toNat * 2 ^ (64 - a).toNat := (split64 a h1 h2).symm
  rw [trim_mod a _ h1 h2 hu.1 hu.2, IntKind.wrap_u64, e64, Int.emod_emod_of_dvd _ (Int.dvd_mul_right _ _)]
theorem trim_trim (a x : Int) (h1 : 1 ≤ a) (h2 : a ≤ 64) (hx : U x) : trimI a (trimI a x) = trimI a x :=
  trim_id a _ h1 h2 (trim_lo a x hx.1) (trim_hi a x h2 hx.2)
theorem com_val (x : Int) (hx : U x) : bits .xor .u64 18446744073709551615 x = 18446744073709551615 - x := by
  have hx' : 0 ≤ x ∧ x < 18446744073709551616 := hx
  obtain ⟨X, rfl⟩ := Int.eq_ofNat_of_zero_le hx.1
  have hX : X < 18446744073709551616 := by omega
  have h := u64_xor_nat 18446744073709551615 X (by omega) hX
  have e : 18446744073709551615 ^^^ X = 18446744073709551615 - X := by
    have hb : (~~~ (BitVec.ofNat 64 X)).toNat = 2 ^ 64 - 1 - X := by
      rw [BitVec.toNat_not, BitVec.toNat_ofNat, Nat.mod_eq_of_lt (by omega)]
    have hc : (BitVec.allOnes 64 ^^^ BitVec.ofNat 64 X).toNat = 18446744073709551615 ^^^ X := by
      rw [BitVec.toNat_xor, BitVec.toNat_allOnes, BitVec.toNat_ofNat, Nat.mod_eq_of_lt (by omega)]
    rw [← hc, BitVec.allOnes_xor, hb]
  have h' : bits .xor .u64 18446744073709551615 (X : Int) = ((18446744073709551615 ^^^ X : Nat) : Int) := h
  rw [h', e]; omega
theorem com_mod (a x : Int) (h1 : 1 ≤ a) (h2 : a ≤ 64) (hx : U x) : trimI a (bits .xor .u64 18446744073709551615 x) = (-1 - x) % 2 ^ a.toNat := by
  have hx' : 0 ≤ x ∧ x < 18446744073709551616 := hx
  have e : (18446744073709551615 : Int) - x = (-1 - x) + 2 ^ a.toNat * 2 ^ (64 - a).toNat := by rw [split64 a h1 h2]; omega
  have hp := split64 a h1 h2
  rw [com_val x hx, trim_mod a _ h1 h2 (by omega) (by omega), e, Int.add_mul_emod_self_left]
theorem U_one : U 1 := by unfold U; omega
theorem L1 (a x : Int) (h1 : 1 ≤ a) (h2 : a ≤ 64) (hx : U x) : trimI a (IntKind.u64.wrap (trimI a (trimI a (bits .xor .u64 18446744073709551615 (trimI a x))) + trimI a 1)) = trimI a (IntKind.u64.wrap (-trimI a x)) := by
  have us := U_trim a x hx
  rw [trim_trim a _ h1 h2 (U_bits _ _ _), com_mod a _ h1 h2 us, wrap_mod a _ h1 h2, wrap_mod a _ h1 h2, trim_mod a 1 h1 h2 (by omega) (by omega)]
  rw [← Int.add_emod]; congr 1; omega
theorem L2 (a x : Int) (h1 : 1 ≤ a) (h2 : a ≤ 64) (hx : U x) : trimI a (IntKind.u64.wrap (trimI a (trimI a x) + trimI a (trimI a (IntKind.u64.wrap (-trimI a x))))) = 0 := by
  rw [trim_trim a x h1 h2 hx, trim_trim a _ h1 h2 (U_wrap _), wrap_mod a _ h1 h2, wrap_mod a _ h1 h2, Int.add_emod, Int.emod_emod_of_dvd _ (Int.dvd_refl _), ← Int.add_emod, show trimI a x + -trimI a x = 0 by omega, Int.zero_emod]
theorem L3 (a x y : Int) (h1 : 1 ≤ a) (h2 : a ≤ 64) (hx : U x) (hy : U y) : trimI a (IntKind.u64.wrap (trimI a (trimI a (IntKind.u64.wrap (trimI a (trimI a x) + trimI a (trimI a y)))) - trimI a (trimI a y))) = trimI a x := by
  rw [trim_trim a x h1 h2 hx, trim_trim a y h1 h2 hy, trim_trim a _ h1 h2 (U_wrap _), wrap_mod a _ h1 h2, wrap_mod a _ h1 h2, Int.sub_emod, Int.emod_emod_of_dvd _ (Int.dvd_refl _), ← Int.sub_emod, show trimI a x + trimI a y - trimI a y = trimI a x by omega]
  exact Int.emod_eq_of_lt (trim_lo a x hx.1) (trim_hi a x h2 hx.2)
theorem L4 (a x y : Int) (h1 : 1 ≤ a) (h2 : a ≤ 64) (hx : U x) (hy : U y) (ht : 0 < trimI a y) : trimI a (IntKind.u64.wrap (trimI a (trimI a (IntKind.u64.wrap (trimI a (trimI a (trimI a (trimI a x) / trimI a (trimI a y))) * trimI a (trimI a y)))) + trimI a (trimI a (trimI a (trimI a x) % trimI a (trimI a y))))) = trimI a x := by
  have s0 := trim_lo a x hx.1
  have s1 := trim_hi a x h2 hx.2
  have t1 := trim_hi a y h2 hy.2
  rw [trim_trim a x h1 h2 hx, trim_trim a y h1 h2 hy, trim_div a _ _ h1 h2 s0 s1 (Int.le_of_lt ht), trim_div a _ _ h1 h2 s0 s1 (Int.le_of_lt ht), trim_remt a _ _ h1 h2 (Int.le_of_lt ht) t1 (by omega), trim_remt a _ _ h1 h2 (Int.le_of_lt ht) t1 (by omega)]
  rw [trim_trim a _ h1 h2 (U_wrap _), wrap_mod a _ h1 h2, wrap_mod a _ h1 h2, Int.add_emod, Int.emod_emod_of_dvd _ (Int.dvd_refl _), ← Int.add_emod, Int.ediv_mul_add_emod]
  exact Int.emod_eq_of_lt s0 s1
theorem L4r (a x y : Int) (h1 : 1 ≤ a) (h2 : a ≤ 64) (hx : U x) (hy : U y) (ht : 0 < trimI a y) : trimI a (trimI a (trimI a x) % trimI a (trimI a y)) < trimI a y := by
  have t1 := trim_hi a y h2 hy.2
  rw [trim_trim a x h1 h2 hx, trim_trim a y h1 h2 hy, trim_remt a _ _ h1 h2 (Int.le_of_lt ht) t1 (by omega)]
  exact Int.emod_lt_of_pos _ ht
theorem L4z (a x : Int) (h1 : 1 ≤ a) (h2 : a ≤ 64) (hx : U x) : trimI a (IntKind.u64.wrap (trimI a (trimI a (IntKind.u64.wrap (trimI a (trimI a 18446744073709551615) * trimI a 0))) + trimI a (trimI a (trimI a (trimI a x))))) = trimI a x := by
  have z : trimI a 0 = 0 := by unfold trimI; rw [Int.zero_emod]; simp
  have w0 : IntKind.u64.wrap 0 = 0 := by decide
  rw [trim_trim a x h1 h2 hx, trim_trim a x h1 h2 hx, trim_trim a x h1 h2 hx, z, Int.mul_zero, w0, z, z, Int.zero_add, wrap_mod a _ h1 h2]
  exact Int.emod_eq_of_lt (trim_lo a x hx.1) (trim_hi a x h2 hx.2)
theorem alive1 : trimI 8 (trimI 8 7) = 7 := by decide
theorem alive2 : trimI 8 (IntKind.u64.wrap (-1)) = 255 := by decide
theorem alive3 : trimI 8 0 = 0 := by decide
theorem U_num (x : Int) (h : 0 ≤ x ∧ x < 1000) : U x := by unfold U; omega
end Go.Bw
