import Derived.Test.YtopdbhkkmolllaaGreatDoorKnC
import Derived.Test.YtopdbhkkmolllaaGreatDoorProg
import Derived.Lib.Strings
import Derived.Lib.Slices
import Derived.Lib.Small
import Derived.Lib.Walk
import Derived.Lib.BitFns
namespace Go.Proofs.YtopdbhkkmolllaaGreatDoor
open Go.Kn

theorem len_tab : ∀ v : Fin 256, v.val < 2 ^ Go.Lib.bitLen v.val ∧ (Go.Lib.bitLen v.val = 0 ∨ 2 ^ (Go.Lib.bitLen v.val - 1) ≤ v.val) ∧ Go.Lib.bitLen v.val ≤ 8 := by decide +kernel
theorem len_shift (x s v : Nat) (hv : x / 2 ^ s = v) (h : s = 0 ∨ 1 ≤ v) (h256 : v < 256) : len2 x (s + Go.Lib.bitLen v) := by
  have hs := len_tab ⟨v, h256⟩
  simp only [] at hs
  generalize Go.Lib.bitLen v = b at *
  have h2 : x < 2 ^ (s + b) := by
    have h3 := hs.1
    rw [← hv, Nat.div_lt_iff_lt_mul (Nat.two_pow_pos s)] at h3
    rw [Nat.pow_add, Nat.mul_comm]; exact h3
  refine ⟨h2, fun e he => ?_⟩
  rcases Nat.eq_zero_or_pos b with hb | hb
  · subst hb
    rcases h with h | h
    · omega
    · have := hs.1; omega
  · have h4 : 2 ^ (b - 1) ≤ v := by
      rcases hs.2.1 with h5 | h5
      · omega
      · exact h5
    rw [show e = s + (b - 1) by omega, Nat.pow_add]
    have h5 : 2 ^ s * (x / 2 ^ s) ≤ x := Nat.mul_div_le _ _
    rw [hv] at h5
    exact Nat.le_trans (Nat.mul_le_mul_left _ h4) h5
set_option maxHeartbeats 4000000 in
set_option maxRecDepth 100000 in
theorem len_any (x : Nat) (w : World) (hx : x < 18446744073709551616) : Calls Tryz.prog 26 #[Value.int .u64 (x : Int)] w fun e w' => ∃ d : Nat, len2 x d ∧ e = .returned (.int .i64 (d : Int)) ∧ w' = w := by
  go_enter Tryz.func26, Tryz.ntmps26
  go_wp2
  all_goals go_ret
  · have a1 : (x : Int) / 4294967296 / 65536 / 256 % 256 = ((x / 72057594037927936 : Nat) : Int) := by omega
    have a2 : x / 72057594037927936 < 256 := by omega
    have a3 : 1 ≤ x / 72057594037927936 := by omega
    have a4 := len_shift x 56 (x / 72057594037927936) rfl (Or.inr a3) a2
    have a5 := (len_tab ⟨x / 72057594037927936, a2⟩).2.2
    refine ⟨_, a4, congrArg Ending.returned (congrArg (Value.int IntKind.i64) ?_), rfl⟩
    rw [a1, Go.Lib.len8_of _ (by omega) (by omega), Int.toNat_natCast]
    simp only [] at a5
    generalize Go.Lib.bitLen (x / 72057594037927936) = b at *
    clear a4 a3 a1 a2
    omega
  · have a1 : (x : Int) / 4294967296 / 65536 % 256 = ((x / 281474976710656 : Nat) : Int) := by omega
    have a2 : x / 281474976710656 < 256 := by omega
    have a3 : 1 ≤ x / 281474976710656 := by omega
    have a4 := len_shift x 48 (x / 281474976710656) rfl (Or.inr a3) a2
    have a5 := (len_tab ⟨x / 281474976710656, a2⟩).2.2
    refine ⟨_, a4, congrArg Ending.returned (congrArg (Value.int IntKind.i64) ?_), rfl⟩
    rw [a1, Go.Lib.len8_of _ (by omega) (by omega), Int.toNat_natCast]
    simp only [] at a5
    generalize Go.Lib.bitLen (x / 281474976710656) = b at *
    clear a4 a3 a1 a2
    omega
  · have a1 : (x : Int) / 4294967296 / 256 % 256 = ((x / 1099511627776 : Nat) : Int) := by omega
    have a2 : x / 1099511627776 < 256 := by omega
    have a3 : 1 ≤ x / 1099511627776 := by omega
    have a4 := len_shift x 40 (x / 1099511627776) rfl (Or.inr a3) a2
    have a5 := (len_tab ⟨x / 1099511627776, a2⟩).2.2
    refine ⟨_, a4, congrArg Ending.returned (congrArg (Value.int IntKind.i64) ?_), rfl⟩
    rw [a1, Go.Lib.len8_of _ (by omega) (by omega), Int.toNat_natCast]
    simp only [] at a5
    generalize Go.Lib.bitLen (x / 1099511627776) = b at *
    clear a4 a3 a1 a2
    omega
  · have a1 : (x : Int) / 4294967296 % 256 = ((x / 4294967296 : Nat) : Int) := by omega
    have a2 : x / 4294967296 < 256 := by omega
    have a3 : 1 ≤ x / 4294967296 := by omega
    have a4 := len_shift x 32 (x / 4294967296) rfl (Or.inr a3) a2
    have a5 := (len_tab ⟨x / 4294967296, a2⟩).2.2
    refine ⟨_, a4, congrArg Ending.returned (congrArg (Value.int IntKind.i64) ?_), rfl⟩
    rw [a1, Go.Lib.len8_of _ (by omega) (by omega), Int.toNat_natCast]
    simp only [] at a5
    generalize Go.Lib.bitLen (x / 4294967296) = b at *
    clear a4 a3 a1 a2
    omega
  · have a1 : (x : Int) / 65536 / 256 % 256 = ((x / 16777216 : Nat) : Int) := by omega
    have a2 : x / 16777216 < 256 := by omega
    have a3 : 1 ≤ x / 16777216 := by omega
    have a4 := len_shift x 24 (x / 16777216) rfl (Or.inr a3) a2
    have a5 := (len_tab ⟨x / 16777216, a2⟩).2.2
    refine ⟨_, a4, congrArg Ending.returned (congrArg (Value.int IntKind.i64) ?_), rfl⟩
    rw [a1, Go.Lib.len8_of _ (by omega) (by omega), Int.toNat_natCast]
    simp only [] at a5
    generalize Go.Lib.bitLen (x / 16777216) = b at *
    clear a4 a3 a1 a2
    omega
  · have a1 : (x : Int) / 65536 % 256 = ((x / 65536 : Nat) : Int) := by omega
    have a2 : x / 65536 < 256 := by omega
    have a3 : 1 ≤ x / 65536 := by omega
    have a4 := len_shift x 16 (x / 65536) rfl (Or.inr a3) a2
    have a5 := (len_tab ⟨x / 65536, a2⟩).2.2
    refine ⟨_, a4, congrArg Ending.returned (congrArg (Value.int IntKind.i64) ?_), rfl⟩
    rw [a1, Go.Lib.len8_of _ (by omega) (by omega), Int.toNat_natCast]
    simp only [] at a5
    generalize Go.Lib.bitLen (x / 65536) = b at *
    clear a4 a3 a1 a2
    omega
  · have a1 : (x : Int) / 256 % 256 = ((x / 256 : Nat) : Int) := by omega
    have a2 : x / 256 < 256 := by omega
    have a3 : 1 ≤ x / 256 := by omega
    have a4 := len_shift x 8 (x / 256) rfl (Or.inr a3) a2
    have a5 := (len_tab ⟨x / 256, a2⟩).2.2
    refine ⟨_, a4, congrArg Ending.returned (congrArg (Value.int IntKind.i64) ?_), rfl⟩
    rw [a1, Go.Lib.len8_of _ (by omega) (by omega), Int.toNat_natCast]
    simp only [] at a5
    generalize Go.Lib.bitLen (x / 256) = b at *
    clear a4 a3 a1 a2
    omega
  · have a1 : (x : Int) % 256 = ((x : Nat) : Int) := by omega
    have a2 : x < 256 := by omega
    have a4 := len_shift x 0 (x) (by simp) (Or.inl rfl) a2
    have a5 := (len_tab ⟨x, a2⟩).2.2
    refine ⟨_, a4, congrArg Ending.returned (congrArg (Value.int IntKind.i64) ?_), rfl⟩
    rw [a1, Go.Lib.len8_of _ (by omega) (by omega), Int.toNat_natCast]
    simp only [] at a5
    generalize Go.Lib.bitLen (x) = b at *
    clear a4 a1 a2
    omega
end Go.Proofs.YtopdbhkkmolllaaGreatDoor
