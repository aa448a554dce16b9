import Derived.Test.YtokpjegiinggdaaGreatDoorRes
namespace Go.Proofs.YtokpjegiinggdaaGreatDoor
open Go.ChangeShapes Go.WideShapes Go.ChangeAt Go.RowKit Go.Cn

/-- Subsumes -/
def subB (xs ys : List Int) : Bool := if nErr xs ≠ 0 ∨ nErr ys ≠ 0 then false else xs.all fun x => decide (x ∈ ys)
theorem all_set (xs ys : List Int) : ((setL xs).all fun x => decide (x ∈ setL ys)) = xs.all fun x => decide (x ∈ ys) := by
  rw [Bool.eq_iff_iff, List.all_eq_true, List.all_eq_true]
  constructor
  · intro h x hx
    have := h x ((mem_setL x xs).2 hx)
    simpa [mem_setL] using this
  · intro h x hx
    have := h x ((mem_setL x xs).1 hx)
    simpa [mem_setL] using this
end Go.Proofs.YtokpjegiinggdaaGreatDoor
