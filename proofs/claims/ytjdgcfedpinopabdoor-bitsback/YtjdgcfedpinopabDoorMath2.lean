import Derived.Test.YtjdgcfedpinopabDoorMath
namespace Go.Bw
open Go.RowKit (wrap64)

def catI (a x v y : Int) : Int := trimI a x * 2 ^ v.toNat + trimI v y
theorem pow_le64 (n : Nat) (h : n ≤ 64) : (2 : Int) ^ n ≤ 18446744073709551616 := by rw [← p64]; exact pow_mono _ _ h
theorem cat_lt (a x v y : Int) (h1 : 1 ≤ a) (h3 : 1 ≤ v) (h4 : a + v ≤ 64) (hx : U x) (hy : U y) : catI a x v y < 2 ^ (a + v).toNat := by
  have hv := pos v.toNat
  have b1 := trim_hi a x (by omega) hx.2
  have b2 := trim_hi v y (by omega) hy.2
  have e : (2 : Int) ^ (a + v).toNat = 2 ^ a.toNat * 2 ^ v.toNat := by rw [← Int.pow_add, show (a + v).toNat = a.toNat + v.toNat by omega]
  have m : (trimI a x + 1) * 2 ^ v.toNat ≤ 2 ^ a.toNat * 2 ^ v.toNat := Int.mul_le_mul_of_nonneg_right (by omega) (by omega)
  rw [Int.add_mul] at m
  unfold catI; rw [e]; omega
theorem sh_wrap (a x v : Int) (h1 : 1 ≤ a) (h3 : 1 ≤ v) (h4 : a + v ≤ 64) (hx : U x) : IntKind.u64.wrap (trimI a x * 2 ^ v.toNat) = trimI a x * 2 ^ v.toNat := by
  have hv := pos v.toNat
  have hl := cat_lt a x v 0 h1 h3 h4 hx ⟨by omega, by omega⟩
  have z : trimI v 0 = 0 := by unfold trimI; rw [Int.zero_emod]; simp
  unfold catI at hl; rw [z] at hl
  have h64 := pow_le64 (a + v).toNat (by omega)
  have b0 : 0 ≤ trimI a x * 2 ^ v.toNat := Int.mul_nonneg (trim_lo a x hx.1) (by omega)
  rw [IntKind.wrap_u64]; omega
theorem cat_or (a x v y : Int) (h1 : 1 ≤ a) (h3 : 1 ≤ v) (h4 : a + v ≤ 64) (hx : U x) (hy : U y) :
    bits .or .u64 (IntKind.u64.wrap (trimI a x * 2 ^ v.toNat)) (trimI v y) = catI a x v y := by
  have hv := pos v.toNat
  have hl := cat_lt a x v y h1 h3 h4 hx hy
  have h64 := pow_le64 (a + v).toNat (by omega)
  have b0 := trim_lo a x hx.1
  have c0 := trim_lo v y hy.1
  have c1 := trim_hi v y (by omega) hy.2
  have m0 : 0 ≤ trimI a x * 2 ^ v.toNat := Int.mul_nonneg b0 (by omega)
  rw [sh_wrap a x v h1 h3 h4 hx]
  have hu := U_trim v y hy
  unfold catI at hl ⊢
  rw [u64_or _ _ m0 (by omega) c0 hu.2]
  generalize trimI a x = A at *
  generalize trimI v y = B at *
  obtain ⟨A, rfl⟩ := Int.eq_ofNat_of_zero_le b0
  obtain ⟨B, rfl⟩ := Int.eq_ofNat_of_zero_le c0
  have e2 : ((2 : Int) ^ v.toNat) = ((2 ^ v.toNat : Nat) : Int) := by simp
  have e3 : ((A : Int) * 2 ^ v.toNat).toNat = A * 2 ^ v.toNat := by
    rw [e2, ← Int.natCast_mul, Int.toNat_natCast]
  rw [e3, Int.toNat_natCast, nat_join v.toNat _ _ (Nat.mul_mod_left _ _) (by rw [e2] at c1; exact_mod_cast c1)]
  simp
theorem cat_add (a x v y : Int) (h1 : 1 ≤ a) (h3 : 1 ≤ v) (h4 : a + v ≤ 64) (hx : U x) (hy : U y) :
    IntKind.u64.wrap (IntKind.u64.wrap (trimI a x * 2 ^ v.toNat) + trimI v y) = catI a x v y := by
  have hl := cat_lt a x v y h1 h3 h4 hx hy
  have h64 := pow_le64 (a + v).toNat (by omega)
  have c0 := trim_lo v y hy.1
  have m0 : 0 ≤ trimI a x * 2 ^ v.toNat := Int.mul_nonneg (trim_lo a x hx.1) (Int.le_of_lt (pos _))
  rw [sh_wrap a x v h1 h3 h4 hx, IntKind.wrap_u64]
  unfold catI at hl ⊢
  omega
theorem U_shr (x : Int) (n : Nat) (hx : U x) : U (x / 2 ^ n) := by
  have hp := pos n
  refine ⟨Int.ediv_nonneg hx.1 (by omega), Int.lt_of_le_of_lt (Int.ediv_le_self _ hx.1) hx.2⟩
/-- a cut of a cut -/
theorem slice_same (a x f n : Int) (h1 : 1 ≤ a) (h2 : a ≤ 64) (hf : 0 ≤ f) (hn : 1 ≤ n) (hs : f ≤ a - n) (hx : U x) :
    trimI n (trimI a x / 2 ^ f.toNat) = trimI n (x / 2 ^ f.toNat) := by
  have hu := U_shr x f.toNat hx
  have hu2 := U_shr _ f.toNat (U_trim a x hx)
  rw [trim_mod n _ hn (by omega) hu.1 hu.2, trim_mod n _ hn (by omega) hu2.1 hu2.2, trim_mod a x h1 h2 hx.1 hx.2]
  have hp := pos f.toNat
  have hq := pos n.toNat
  have hr := pos (a - f - n).toNat
  have e : (2 : Int) ^ a.toNat = 2 ^ f.toNat * (2 ^ n.toNat * 2 ^ (a - f - n).toNat) := by
    rw [← Int.pow_add, ← Int.pow_add, show f.toNat + (n.toNat + (a - f - n).toNat) = a.toNat by omega]
  rw [e]
  generalize (2 : Int) ^ f.toNat = P at *
  generalize (2 : Int) ^ n.toNat = Q at *
  generalize (2 : Int) ^ (a - f - n).toNat = R at *
  -- x % (P * (Q*R)) / P = x / P % (Q*R)
  have k : x % (P * (Q * R)) = x - P * (Q * R) * (x / (P * (Q * R))) := Int.emod_def _ _
  rw [k, show x - P * (Q * R) * (x / (P * (Q * R))) = x + (-(Q * R * (x / (P * (Q * R))))) * P by
    rw [Int.neg_mul, Int.mul_assoc P, Int.mul_comm P]; rfl]
  rw [Int.add_mul_ediv_right _ _ (by omega)]
  rw [show x / P + -(Q * R * (x / (P * (Q * R)))) = x / P + Q * (-(R * (x / (P * (Q * R))))) by rw [Int.mul_neg, Int.mul_assoc]]
  exact Int.add_mul_emod_self_left _ _ _
end Go.Bw
