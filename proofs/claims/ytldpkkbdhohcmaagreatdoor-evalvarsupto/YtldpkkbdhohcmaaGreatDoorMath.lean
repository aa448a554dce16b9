import Derived.Laws.BitsAllLaws
import Derived.Laws.ShiftsVarLaws
import Derived.RowKit
namespace Go.Bw
open Go.RowKit (wrap64)

/-- the lowest bits -/
def trimI (a x : Int) : Int := if a < 1 then 0 else if 64 <= a then x else x % 2 ^ a.toNat
theorem p64 : (2 : Int) ^ 64 = 18446744073709551616 := by decide
theorem pos (n : Nat) : (0 : Int) < 2 ^ n := Int.pow_pos (by decide)
theorem pow_lt64 (n : Nat) (h : n < 64) : (2 : Int) ^ n < 18446744073709551616 := by
  rw [<- p64]; exact Int.pow_lt_pow_of_lt (by decide) h
theorem wrap_pow (n : Nat) (h : n < 64) : IntKind.u64.wrap (2 ^ n) = 2 ^ n := by
  rw [IntKind.wrap_u64]; have := pos n; have := pow_lt64 n h; omega

theorem mask (x : Int) (n : Nat) (h : n < 64) (h0 : 0 <= x) (h1 : x < 18446744073709551616) :
    bits .and .u64 x (IntKind.u64.wrap (2 ^ n - 1)) = x % 2 ^ n := by
  have hp := pos n; have hl := pow_lt64 n h; rw [IntKind.wrap_u64,Int.emod_eq_of_lt (by omega) (by omega),u64_and x _ h0 h1 (by omega) (by omega)]; have e : ((2 : Int) ^ n - 1).toNat = 2 ^ n - 1 := by
    have : ((2 : Int) ^ n) = ((2 ^ n : Nat) : Int) := by simp
    rw [this]; omega
  rw [e,Nat.and_two_pow_sub_one_eq_mod]; obtain ⟨X,rfl⟩ := Int.eq_ofNat_of_zero_le h0
  simp

theorem trim_lo (a x : Int) (h0 : 0 <= x) : 0 <= trimI a x := by
  unfold trimI; split
  · omega
  split
  · exact h0
  exact Int.emod_nonneg _ (by have := pos a.toNat; omega)
theorem trim_hi (a x : Int) (h2 : a <= 64) (h1 : x < 18446744073709551616) : trimI a x < 2 ^ a.toNat := by
  unfold trimI; split
  · exact pos _
  split
  · rw [show a = 64 by omega]; show x < 2 ^ 64; rw [p64]; exact h1
  exact Int.emod_lt_of_pos _ (pos _)

def U (x : Int) : Prop := 0 <= x /\ x < 18446744073709551616
theorem trim_none (a x : Int) (h : a < 1) : trimI a x = 0 := by unfold trimI; rw [if_pos h]
theorem trim_all (a x : Int) (h : 64 <= a) : trimI a x = x := by unfold trimI; rw [if_neg (by omega),if_pos h]
theorem trim_rem (a x : Int) (h1 : 1 <= a) (h2 : a < 64) : x % 2 ^ a.toNat = trimI a x := by unfold trimI; rw [if_neg (by omega),if_neg (by omega)]
theorem trim_mask (a x : Int) (h1 : 1 <= a) (h2 : a < 64) (hx : U x) : bits .and .u64 x (IntKind.u64.wrap (2 ^ a.toNat - 1)) = trimI a x := by
  rw [mask x a.toNat (by omega) hx.1 hx.2,trim_rem a x h1 h2]
theorem U_wrap (n : Int) : U (IntKind.u64.wrap n) := by rw [IntKind.wrap_u64]; unfold U; omega
theorem U_of (x : Int) (h : 0 <= x /\ x <= 18446744073709551615) : U x := by unfold U; omega
end Go.Bw
