import Derived.Lib.Strings
import Derived.Laws.BitsAllLaws
namespace Go.Bd
/-- a digit's worth -/
def dv (b : Nat) (c : UInt8) : Option Nat :=
  if 48 ≤ c.toNat ∧ c.toNat ≤ 57 then (if c.toNat - 48 < b then some (c.toNat - 48) else none)
  else if 97 ≤ c.toNat ∧ c.toNat ≤ 102 then (if c.toNat - 87 < b then some (c.toNat - 87) else none)
  else if 65 ≤ c.toNat ∧ c.toNat ≤ 70 then (if c.toNat - 55 < b then some (c.toNat - 55) else none)
  else none
/-- digits, read on -/
def pU (b : Nat) : Nat → List UInt8 → Option Nat
  | acc, [] => some acc
  | acc, c :: cs => match dv b c with
    | none => none
    | some d => if 18446744073709551616 ≤ acc * b + d then none else pU b (acc * b + d) cs
theorem pU_none (b acc : Nat) (c : UInt8) (cs : List UInt8) (h : dv b c = none) : pU b acc (c :: cs) = none := by simp [pU, h]
theorem pU_big (b acc d : Nat) (c : UInt8) (cs : List UInt8) (h : dv b c = some d) (ho : 18446744073709551616 ≤ acc * b + d) : pU b acc (c :: cs) = none := by simp [pU, h, ho]
theorem pU_more (b acc d : Nat) (c : UInt8) (cs : List UInt8) (h : dv b c = some d) (ho : ¬ 18446744073709551616 ≤ acc * b + d) : pU b acc (c :: cs) = pU b (acc * b + d) cs := by simp [pU, h, ho]
/-- the lower letter of a byte -/
theorem low_fin : ∀ c : Fin 256, bits .or .u8 (c.val : Int) 32 = (if c.val / 32 % 2 = 0 then (c.val : Int) + 32 else c.val) := by decide +kernel
theorem low_val (c : UInt8) : bits .or .u8 (c.toNat : Int) 32 = (if c.toNat / 32 % 2 = 0 then (c.toNat : Int) + 32 else c.toNat) := low_fin ⟨c.toNat, c.toNat_lt⟩
end Go.Bd
