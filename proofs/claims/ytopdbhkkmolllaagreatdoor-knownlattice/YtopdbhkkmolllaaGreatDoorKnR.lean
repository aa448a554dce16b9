import Derived.Test.YtopdbhkkmolllaaGreatDoorKnQ
namespace Go.Proofs.YtopdbhkkmolllaaGreatDoor
open Go.ChangeShapes Go.WideShapes Go.ChangeAt Go.RowKit Go.Lib Go.Kn

theorem rcand_eq (L one k : Nat) : (an L (2 ^ (k + 1) - 1) ||| 2 ^ k) ||| (one &&& (2 ^ k - 1)) = cand L one k := by
  apply Nat.eq_of_testBit_eq
  intro i
  rw [cand_bit, Nat.testBit_or, Nat.testBit_or, an_bit, Nat.testBit_and, Nat.testBit_two_pow, Nat.testBit_two_pow_sub_one, Nat.testBit_two_pow_sub_one]
  by_cases h1 : i < k
  · rw [if_pos h1, decide_eq_true h1, decide_eq_false (show ¬ k = i by omega), decide_eq_true (show i < k + 1 by omega)]; simp
  · rw [if_neg h1, decide_eq_false h1]
    by_cases h2 : i = k
    · rw [if_pos h2, decide_eq_true h2.symm]; simp
    · rw [if_neg h2, decide_eq_false (show ¬ k = i by omega), decide_eq_false (show ¬ i < k + 1 by omega)]; simp
theorem bx_dN {W : World} {g : Nat} {f : Fc} (h : BX W g f) (n : Nat) : BX (W.drewN n) g f := h.next (bel_drewN (Below.refl _ _) n)
end Go.Proofs.YtopdbhkkmolllaaGreatDoor
