import Derived.Test.YtnknbijbhidpnaaGreatDoorLive
namespace Go.Proofs.YtnknbijbhidpnaaGreatDoor
open Go.ChangeShapes Go.WideShapes Go.ChangeAt Go.RowKit Go.Cn

/-- a clause that was lent: its literals and the two marks behind them -/
def Lent (w : World) (g : Nat) (xs : List Int) : Prop := ∃ B, w.ownsRow B 3 1 (.slice (some ⟨g, 0, none⟩) (xs.length + 2) (xs.length + 2)) (xs.length + 2) ((xs ++ [77777, 77778]).map (Value.int .i64))
theorem Lent.below {w w' : World} {g : Nat} {xs : List Int} (h : Lent w g xs) (hb : Below w.heap.size w w') : Lent w' g xs := by
  obtain ⟨B, h⟩ := h
  exact ⟨B, own_below h hb⟩
theorem Lent.get {w : World} {g : Nat} {xs : List Int} (h : Lent w g xs) : g < w.heap.size ∧ ∀ j, j < xs.length + 2 → w.cell? ⟨g, j, none⟩ = some (.int .i64 ((xs ++ [77777, 77778]).getD j 0)) := by
  obtain ⟨B, h⟩ := h
  refine ⟨(h.lt g rfl).2, fun j hj => ?_⟩
  rw [h.cellAt j (by omega), map_get _ j (by simp; omega)]
theorem Lent.ints {w : World} {g : Nat} {xs : List Int} (h : Lent w g xs) : Ints w (some ⟨g, 0, none⟩) xs := by
  intro _
  refine ⟨g, 0, rfl, h.get.1, fun j hj => ?_⟩
  rw [Nat.zero_add, h.get.2 j (by omega)]
  congr 2
  rw [List.getD_eq_getElem?_getD, List.getElem?_append_left hj, List.getD_eq_getElem?_getD]
theorem marks (xs : List Int) : (xs ++ [77777, 77778]).getD xs.length 0 = 77777 ∧ (xs ++ [77777, 77778]).getD (xs.length + 1) 0 = 77778 := by
  constructor
  · rw [List.getD_eq_getElem?_getD, List.getElem?_append_right (Nat.le_refl _)]; simp
  · rw [List.getD_eq_getElem?_getD, List.getElem?_append_right (by omega)]; simp
end Go.Proofs.YtnknbijbhidpnaaGreatDoor
