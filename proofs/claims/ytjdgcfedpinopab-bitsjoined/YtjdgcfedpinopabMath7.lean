import Derived.Test.YtjdgcfedpinopabMath6
namespace Go.Bw
/-- parted and put together -/
theorem part_cat (a x n : Int) (h1 : 2 ≤ a) (h2 : a ≤ 64) (hn : 1 ≤ n) (hn2 : n < a) (hx : U x) :
    catI (a - n) (trimI (a - n) (trimI a x / 2 ^ n.toNat)) n (trimI n (trimI a x / 2 ^ (0 : Int).toNat)) = trimI a x := by
  have us := U_trim a x hx
  have hp := pos n.toNat
  have s0 := trim_lo a x hx.1
  have s1 := trim_hi a x h2 hx.2
  have e : (2 : Int) ^ a.toNat = 2 ^ (a - n).toNat * 2 ^ n.toNat := by rw [← Int.pow_add, show (a - n).toNat + n.toNat = a.toNat by omega]
  have l : trimI a x / 2 ^ n.toNat < 2 ^ (a - n).toNat := Int.ediv_lt_of_lt_mul hp (by rw [← e]; exact s1)
  have l0 : 0 ≤ trimI a x / 2 ^ n.toNat := Int.ediv_nonneg s0 (Int.le_of_lt hp)
  have d1 : trimI a x / 2 ^ (0 : Int).toNat = trimI a x := by simp
  rw [d1]
  unfold catI
  rw [trim_id (a - n) _ (by omega) (by omega) l0 l, trim_id (a - n) _ (by omega) (by omega) l0 l, trim_trim n _ hn (by omega) us, trim_mod n _ hn (by omega) us.1 us.2]
  exact Int.ediv_mul_add_emod _ _
/-- widened with its sign -/
theorem sext_val (a x t : Int) (h1 : 1 ≤ a) (h2 : t ≤ 64) (h : a ≤ t) (hx : U x) : trimI t (IntKind.u64.wrap (sgnI a x)) = if 2 * trimI a x < 2 ^ a.toNat then trimI a x else trimI a x - 2 ^ a.toNat + 2 ^ t.toNat := by
  have s0 := trim_lo a x hx.1
  have s1 := trim_hi a x (by omega) hx.2
  have hm := pow_mono a.toNat t.toNat (by omega)
  rw [wrap_mod t _ (by omega) h2]
  unfold sgnI
  split
  · exact Int.emod_eq_of_lt s0 (by omega)
  · rw [← Int.add_emod_right]; exact Int.emod_eq_of_lt (by omega) (by omega)
theorem sext_sgn (a x t : Int) (h1 : 1 ≤ a) (h2 : t ≤ 64) (h : a ≤ t) (hx : U x) : sgnI t (trimI t (IntKind.u64.wrap (sgnI a x))) = sgnI a x := by
  have s0 := trim_lo a x hx.1
  have s1 := trim_hi a x (by omega) hx.2
  have hm := pow_mono a.toNat t.toNat (by omega)
  have et : trimI t (trimI t (IntKind.u64.wrap (sgnI a x))) = trimI t (IntKind.u64.wrap (sgnI a x)) := trim_trim t _ (by omega) h2 (U_wrap _)
  have e := sext_val a x t h1 h2 h hx
  have pa := pow_top a h1
  have pt := pow_top t (by omega)
  have hm1 := pow_mono (a - 1).toNat (t - 1).toNat (by omega)
  rw [sgnI, et, e]
  conv => rhs; rw [sgnI]
  by_cases hc : 2 * trimI a x < 2 ^ a.toNat
  · rw [if_pos hc, if_pos (by omega), if_pos hc]
  · rw [if_neg hc, if_neg (by omega), if_neg hc]; omega
theorem sext_low (a x t : Int) (h1 : 1 ≤ a) (h2 : t ≤ 64) (h : a ≤ t) (hx : U x) : trimI a (trimI t (IntKind.u64.wrap (sgnI a x))) = trimI a x := by
  have s0 := trim_lo a x hx.1
  have s1 := trim_hi a x (by omega) hx.2
  have hu := U_trim t _ (U_wrap (sgnI a x))
  rw [trim_mod a _ h1 (by omega) hu.1 hu.2, sext_val a x t h1 h2 h hx]
  have e : (2 : Int) ^ t.toNat = 2 ^ a.toNat * 2 ^ (t - a).toNat := by rw [← Int.pow_add, show a.toNat + (t - a).toNat = t.toNat by omega]
  split
  · exact Int.emod_eq_of_lt s0 s1
  · rw [e, Int.add_mul_emod_self_left, Int.sub_emod_right]; exact Int.emod_eq_of_lt s0 s1
theorem sgn_trim (a x : Int) (h1 : 1 ≤ a) (h2 : a ≤ 64) (hx : U x) : sgnI a (trimI a x) = sgnI a x := by
  unfold sgnI; rw [trim_trim a x h1 h2 hx]
end Go.Bw
