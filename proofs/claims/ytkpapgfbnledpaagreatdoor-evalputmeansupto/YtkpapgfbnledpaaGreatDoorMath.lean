import Derived.Laws.BitsAllLaws
import Derived.Laws.ShiftsVarLaws
import Derived.RowKit
namespace Go.Bw
open Go.RowKit (wrap64)

def trimI (a x : Int) : Int := if a < 1 then 0 else if 64 <= a then x else x % 2 ^ a.toNat
def sgnI (a x : Int) : Int := if 2 * trimI a x < 2 ^ a.toNat then trimI a x else trimI a x - 2 ^ a.toNat

theorem p64 : (2 : Int) ^ 64 = 18446744073709551616 := by decide
theorem pos (n : Nat) : (0 : Int) < 2 ^ n := Int.pow_pos (by decide)
theorem pow_mono (m n : Nat) (h : m <= n) : (2 : Int) ^ m <= 2 ^ n := by
  rcases Nat.lt_or_eq_of_le h with h | h
  · exact Int.le_of_lt (Int.pow_lt_pow_of_lt (by decide) h)
  rw [h]; exact Int.le_refl _
theorem pow_lt64 (n : Nat) (h : n < 64) : (2 : Int) ^ n < 18446744073709551616 := by
  rw [<- p64]; exact Int.pow_lt_pow_of_lt (by decide) h
theorem wrap_pow (n : Nat) (h : n < 64) : IntKind.u64.wrap (2 ^ n) = 2 ^ n := by
  rw [IntKind.wrap_u64]; have := pos n; have := pow_lt64 n h; omega

theorem mask (x : Int) (n : Nat) (h : n < 64) (h0 : 0 <= x) (h1 : x < 18446744073709551616) :
    bits .and .u64 x (IntKind.u64.wrap (2 ^ n - 1)) = x % 2 ^ n := by
  have hp := pos n; have hl := pow_lt64 n h; rw [IntKind.wrap_u64,Int.emod_eq_of_lt (by omega) (by omega),u64_and x _ h0 h1 (by omega) (by omega)]; have e : ((2 : Int) ^ n - 1).toNat = 2 ^ n - 1 := by
    have : ((2 : Int) ^ n) = ((2 ^ n : Nat) : Int) := by simp
    rw [this]; omega
  rw [e,Nat.and_two_pow_sub_one_eq_mod]; obtain ⟨X,rfl⟩ := Int.eq_ofNat_of_zero_le h0
  simp

theorem wrap64_def (n : Int) : wrap64 n = (n + 9223372036854775808) % 18446744073709551616 - 9223372036854775808 := by simp only [wrap64]

theorem split64 (a : Int) (h1 : 1 <= a) (h2 : a <= 64) : (2 : Int) ^ a.toNat * 2 ^ (64 - a).toNat = 18446744073709551616 := by
  rw [<- Int.pow_add,show a.toNat + (64 - a).toNat = 64 by omega,p64]

theorem trim_lo (a x : Int) (h0 : 0 <= x) : 0 <= trimI a x := by
  unfold trimI; split
  · omega
  split
  · exact h0
  exact Int.emod_nonneg _ (by have := pos a.toNat; omega)
theorem trim_hi (a x : Int) (h2 : a <= 64) (h1 : x < 18446744073709551616) : trimI a x < 2 ^ a.toNat := by
  unfold trimI; split
  · exact pos _
  split
  · rw [show a = 64 by omega]; show x < 2 ^ 64; rw [p64]; exact h1
  exact Int.emod_lt_of_pos _ (pos _)

theorem trim_mod (a x : Int) (h1 : 1 <= a) (h2 : a <= 64) (h0 : 0 <= x) (hx : x < 18446744073709551616) : trimI a x = x % 2 ^ a.toNat := by
  unfold trimI; rw [if_neg (by omega)]; split
  · rw [show a = 64 by omega]; show x = x % 2 ^ 64; rw [p64]; omega
  rfl

theorem signed_shift (a x : Int) (h1 : 1 <= a) (h2 : a <= 64) (h0 : 0 <= x) (hx : x < 18446744073709551616) :
    wrap64 (IntKind.u64.wrap (x * 2 ^ (64 - a).toNat)) / 2 ^ (64 - a).toNat = sgnI a x := by
  have hs := split64 a h1 h2; have hg := pos (64 - a).toNat; have ht : IntKind.u64.wrap (x * 2 ^ (64 - a).toNat) = trimI a x * 2 ^ (64 - a).toNat := by
    rw [IntKind.wrap_u64,<- hs,trim_mod a x h1 h2 h0 hx,Int.mul_comm,Int.mul_comm (2 ^ a.toNat),Int.mul_emod_mul_of_pos _ _ hg,Int.mul_comm]
  rw [ht]; have l0 := trim_lo a x h0; have l1 := trim_hi a x h2 hx; have b0 : 0 <= trimI a x * 2 ^ (64 - a).toNat := Int.mul_nonneg l0 (Int.le_of_lt hg); have b1 : trimI a x * 2 ^ (64 - a).toNat < 18446744073709551616 := by rw [<- hs]; exact Int.mul_lt_mul_of_pos_right l1 hg
  unfold sgnI
  split
  · rename_i hc
    have b2 : 2 * trimI a x * 2 ^ (64 - a).toNat < 18446744073709551616 := by rw [<- hs]; exact Int.mul_lt_mul_of_pos_right hc hg
    rw [Int.mul_assoc] at b2; rw [wrap64_def,show (trimI a x * 2 ^ (64 - a).toNat + 9223372036854775808) % 18446744073709551616 - 9223372036854775808 = trimI a x * 2 ^ (64 - a).toNat by omega]; exact Int.mul_ediv_cancel _ (by omega)
  rename_i hc
  have b2 : 18446744073709551616 <= 2 * trimI a x * 2 ^ (64 - a).toNat := by rw [<- hs]; exact Int.mul_le_mul_of_nonneg_right (by omega) (by omega)
  rw [Int.mul_assoc] at b2; rw [wrap64_def,show (trimI a x * 2 ^ (64 - a).toNat + 9223372036854775808) % 18446744073709551616 - 9223372036854775808 = trimI a x * 2 ^ (64 - a).toNat - 18446744073709551616 by omega]; rw [<- hs,<- Int.sub_mul]; exact Int.mul_ediv_cancel _ (by omega)

def U (x : Int) : Prop := 0 <= x /\ x < 18446744073709551616
theorem trim_none (a x : Int) (h : a < 1) : trimI a x = 0 := by unfold trimI; rw [if_pos h]
theorem trim_all (a x : Int) (h : 64 <= a) : trimI a x = x := by unfold trimI; rw [if_neg (by omega),if_pos h]
theorem trim_rem (a x : Int) (h1 : 1 <= a) (h2 : a < 64) : x % 2 ^ a.toNat = trimI a x := by unfold trimI; rw [if_neg (by omega),if_neg (by omega)]
theorem trim_mask (a x : Int) (h1 : 1 <= a) (h2 : a < 64) (hx : U x) : bits .and .u64 x (IntKind.u64.wrap (2 ^ a.toNat - 1)) = trimI a x := by
  rw [mask x a.toNat (by omega) hx.1 hx.2,trim_rem a x h1 h2]
theorem U_wrap (n : Int) : U (IntKind.u64.wrap n) := by rw [IntKind.wrap_u64]; unfold U; omega
theorem U_bits (op : BinOp) (a b : Int) : U (bits op .u64 a b) := U_wrap _
theorem U_of (x : Int) (h : 0 <= x /\ x <= 18446744073709551615) : U x := by unfold U; omega
theorem U_trim (a x : Int) (hx : U x) : U (trimI a x) := by
  have hx' : 0 <= x /\ x < 18446744073709551616 := hx; refine ⟨trim_lo a x hx.1,?_⟩; unfold trimI; split
  · omega
  split
  · omega
  rename_i h2
  have := Int.emod_lt_of_pos x (pos a.toNat); have := pow_lt64 a.toNat (by omega); omega
end Go.Bw
