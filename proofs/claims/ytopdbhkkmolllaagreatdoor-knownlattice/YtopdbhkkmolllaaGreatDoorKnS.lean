import Derived.Test.YtopdbhkkmolllaaGreatDoorKnR
namespace Go.Proofs.YtopdbhkkmolllaaGreatDoor
open Go.ChangeShapes Go.WideShapes Go.ChangeAt Go.RowKit Go.Lib Go.Kn

theorem gcand_eq {a : Int} {T j : Nat} (zr : Nat) (hT : T ≤ mx a) (hj : j < bw a) : an T (2 ^ (j + 1) - 1) ||| an (2 ^ j - 1) zr = mx a - cand (mx a - T) zr j := by
  have hc : cand (mx a - T) zr j ≤ mx a := (mx_lt _ _).2 (cand_lt ((mx_lt _ _).1 (by omega)) hj)
  apply Nat.eq_of_testBit_eq
  intro i
  rw [neg_bit hc, cand_bit, Nat.testBit_or, an_bit, an_bit, Nat.testBit_two_pow_sub_one, Nat.testBit_two_pow_sub_one]
  by_cases h1 : i < j
  · rw [if_pos h1, decide_eq_true h1, decide_eq_true (show i < j + 1 by omega), decide_eq_true (show i < bw a by omega)]; simp
  · rw [if_neg h1, decide_eq_false h1]
    by_cases h2 : i = j
    · rw [if_pos h2, decide_eq_true (show i < j + 1 by omega)]; simp
    · rw [if_neg h2, decide_eq_false (show ¬ i < j + 1 by omega), neg_bit hT]
      by_cases h3 : i < bw a
      · simp [h3]
      · rw [tb_hi ((mx_lt _ _).1 hT) (by omega)]; simp [h3]
end Go.Proofs.YtopdbhkkmolllaaGreatDoor
