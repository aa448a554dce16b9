import Derived.Test.YtfpmacnbfbcjgaaNewW
import Derived.Deep.Draws
import Derived.Deep.QuietTactic
import Derived.Laws.Bits64b
namespace Go.Proofs.Ytfpmacnbfbcjgaa
open Go.ChangeShapes Go.WideShapes Go.ChangeAt Go.RowKit
/-- a literal's code, and back -/
def cdI (l : Int) : Int := if l < 0 then -2 * l + 1 else 2 * l
def ltI (c : Nat) : Int := if c % 2 = 1 then -((c / 2 : Nat) : Int) else ((c / 2 : Nat) : Int)
theorem codeOf_any (l : Int) (w : World) (h : -1048576 ≤ l ∧ l ≤ 1048576) :
    Calls Try.prog 35 #[.int .i64 l] w fun e w' => e = .returned (.int .i32 (cdI l)) ∧ w' = w := by
  by_cases hn : l < 0
  · have e1 : cdI l = -2 * l + 1 := by unfold cdI; rw [if_pos hn]
    rw [e1]
    go_enter Try.func35, Try.ntmps35
    go_wp2
    go_ret
    exact ⟨rfl, rfl⟩
  · have e1 : cdI l = 2 * l := by unfold cdI; rw [if_neg hn]
    rw [e1]
    go_enter Try.func35, Try.ntmps35
    go_wp2
    go_ret
    exact ⟨rfl, rfl⟩
theorem and1_i32 (c : Nat) (h : c < 2147483648) : bits .and .i32 (c : Int) 1 = ((c % 2 : Nat) : Int) := by
  show IntKind.i32.wrap ((BitVec.ofInt 32 (c : Int) &&& BitVec.ofInt 32 ((1 : Nat) : Int)).toNat : Int) = _
  have e1 : (BitVec.ofInt 32 (c : Int)).toNat = c := by rw [BitVec.ofInt_natCast, BitVec.toNat_ofNat]; exact Nat.mod_eq_of_lt (by omega)
  have e2 : (BitVec.ofInt 32 ((1 : Nat) : Int)).toNat = 1 := by rw [BitVec.ofInt_natCast, BitVec.toNat_ofNat]
  rw [BitVec.toNat_and, e1, e2, Nat.and_one_is_mod, IntKind.wrap_i32]
  omega
theorem xor1_i32 (c : Nat) (h : c < 2147483648) : bits .xor .i32 (c : Int) 1 = ((if c % 2 = 1 then c - 1 else c + 1 : Nat) : Int) := by
  show IntKind.i32.wrap ((BitVec.ofInt 32 (c : Int) ^^^ BitVec.ofInt 32 ((1 : Nat) : Int)).toNat : Int) = _
  have e1 : (BitVec.ofInt 32 (c : Int)).toNat = c := by rw [BitVec.ofInt_natCast, BitVec.toNat_ofNat]; exact Nat.mod_eq_of_lt (by omega)
  have e2 : (BitVec.ofInt 32 ((1 : Nat) : Int)).toNat = 1 := by rw [BitVec.ofInt_natCast, BitVec.toNat_ofNat]
  have e3 : c ^^^ 1 = if c % 2 = 1 then c - 1 else c + 1 := by
    have a := Nat.xor_div_two (a := c) (b := 1)
    have b : (c ^^^ 1) % 2 = (c + 1) % 2 := by
      have := Nat.xor_mod_two_pow (a := c) (b := 1) (n := 1)
      have e : (2 : Nat) ^ 1 = 2 := rfl
      rw [e] at this
      rw [this]
      rcases Nat.mod_two_eq_zero_or_one c with h | h <;> rw [h] <;> simp <;> omega
    have d : c / 2 ^^^ 1 / 2 = c / 2 := by simp
    split <;> omega
  rw [BitVec.toNat_xor, e1, e2, e3, IntKind.wrap_i32]
  split <;> omega
def hasB (n : Nat) (l : Int) : Bool := decide (l ≠ 0) && decide (-(n : Int) ≤ l) && decide (l ≤ n)
theorem has_any (g : Nat) (ad : Option Addr) (n c : Nat) (l : Int) (w : World) (h : w.cell? ⟨g, 4, none⟩ = some (.slice ad (n + 1) c)) (hn : n ≤ 1048576) :
    Calls Try.prog 34 #[.pointer (some ⟨g, 0, none⟩), .int .i64 l] w fun e w' => e = .returned (.bool (hasB n l)) ∧ w' = w := by
  by_cases h0 : l = 0
  · have e : hasB n l = false := by unfold hasB; simp [h0]
    rw [e]
    subst h0
    go_enter Try.func34, Try.ntmps34
    go_wp2
    go_ret
    exact ⟨rfl, rfl⟩
  · have e0 : (l != 0) = true := by simpa using h0
    by_cases h1 : -(n : Int) ≤ l
    · by_cases h2 : l ≤ (n : Int)
      · have e : hasB n l = true := by unfold hasB; simp [h0, h1, h2]
        rw [e]
        go_enter Try.func34, Try.ntmps34
        go_wp2
        go_ret
        exact ⟨rfl, rfl⟩
      · have e : hasB n l = false := by unfold hasB; simp [h2]
        rw [e]
        have h3 : decide (l ≤ (n : Int)) = false := decide_eq_false h2
        go_enter Try.func34, Try.ntmps34
        go_wp2
        go_ret
        exact ⟨rfl, rfl⟩
    · have e : hasB n l = false := by unfold hasB; simp [h1]
      rw [e]
      go_enter Try.func34, Try.ntmps34
      go_wp2
      go_ret
      exact ⟨rfl, rfl⟩
end Go.Proofs.Ytfpmacnbfbcjgaa
