import Derived.Test.YtpkbigjijihljabPC
namespace Go.Proofs.Ytpkbigjijihljab
open Go.ChangeShapes Go.WideShapes Go.ChangeAt Go.RowKit
def IntsP (w : World) (ad : Option Addr) (xs : List Int) : Prop :=
  0 < xs.length → ∃ b off, ad = some ⟨b, off, none⟩ ∧ b < w.heap.size ∧ ∀ j, j < xs.length → w.cell? ⟨b, off + j, none⟩ = some (.int .i64 (xs.getD j 0))
/-- the literal for which a clause is a unit, and whether it is false -/
def ru (tr : List (Int × Int)) : List Int → Int → Int × Bool
  | [], u => (u, u == 0)
  | x :: c, u => if rof x tr = 1 ∨ (rof x tr = 0 ∧ u ≠ 0 ∧ u ≠ x) then (0, false) else ru tr c (if rof x tr = 0 then x else u)
theorem rof_three (l : Int) : ∀ tr, rof l tr = 0 ∨ rof l tr = 1 ∨ rof l tr = -1
  | [] => Or.inl rfl
  | x :: t => by
    unfold rof
    split
    · simp
    · split
      · simp
      · exact rof_three l t
theorem drop_consI (c : List Int) (k : Nat) (h : k < c.length) : c.drop k = c.getD k 0 :: c.drop (k + 1) := by
  rw [List.drop_eq_getElem_cons h]; simp [List.getD_eq_getElem?_getD, h]
theorem ret_ub {R : Int × Bool} {a : Int} {b : Bool} (h : R = (a, b)) : Ending.returned (.tuple #[.int .i64 a, .bool b]) = .returned (.tuple #[.int .i64 R.1, .bool R.2]) := by rw [h]
end Go.Proofs.Ytpkbigjijihljab
