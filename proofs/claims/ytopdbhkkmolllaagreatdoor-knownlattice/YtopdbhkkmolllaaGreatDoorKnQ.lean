import Derived.Test.YtopdbhkkmolllaaGreatDoorKnI
namespace Go.Proofs.YtopdbhkkmolllaaGreatDoor
open Go.ChangeShapes Go.WideShapes Go.ChangeAt Go.RowKit Go.Lib Go.Kn

theorem wp (n : Nat) (h : n < 64) : IntKind.u64.wrap ((2 : Int) ^ n) = 2 ^ n := by
  have hp := pow64 n h
  rw [← pow_cast, IntKind.wrap_u64]
  generalize 2 ^ n = p at *
  omega
theorem wpm (n : Nat) (h : n < 64) : IntKind.u64.wrap ((2 : Int) ^ n - 1) = ((2 ^ n - 1 : Nat) : Int) := by
  have hp := pow64 n h
  have hp0 := Nat.two_pow_pos n
  rw [← pow_cast, IntKind.wrap_u64]
  generalize 2 ^ n = p at *
  omega
end Go.Proofs.YtopdbhkkmolllaaGreatDoor
