import Derived.Test.YtnknbijbhidpnaaGreatDoorForm
import Derived.Test.YtnknbijbhidpnaaGreatDoorRes
import Derived.Test.YtnknbijbhidpnaaGreatDoorMathH
namespace Go.Proofs.YtnknbijbhidpnaaGreatDoor
open Go.ChangeShapes Go.WideShapes Go.ChangeAt Go.RowKit Go.Cn

/-- clauses that are owned: a row of clauses, each a row of its own -/
structure OwnL (w : World) (B : Nat) (v : Value) (L : List Value) (cs : List (List Int)) : Prop where
  len : L.length = cs.length
  row : w.ownsRow B 37 1 v cs.length L
  each : ∀ j, j < cs.length → w.ownsRow B 3 1 (L.getD j (.slice none 0 0)) (cs.getD j []).length ((cs.getD j []).map (Value.int .i64))
theorem OwnL.nil (w : World) (B : Nat) : OwnL w B (.slice none 0 0) [] [] := ⟨rfl, World.ownsRow_nil _ _ _ _, fun j hj => absurd hj (by simp)⟩
theorem OwnL.below {w w' : World} {B : Nat} {v : Value} {L : List Value} {cs : List (List Int)} (h : OwnL w B v L cs) (hb : Below w.heap.size w w') : OwnL w' B v L cs :=
  ⟨h.len, own_below h.row hb, fun j hj => own_below (h.each j hj) hb⟩
theorem OwnL.up {w : World} {B B' : Nat} {v : Value} {L : List Value} {cs : List (List Int)} (h : OwnL w B v L cs) (hb : B' ≤ B) : OwnL w B' v L cs :=
  ⟨h.len, own_up h.row hb, fun j hj => own_up (h.each j hj) hb⟩
theorem OwnL.set {w : World} {B : Nat} {v : Value} {L : List Value} {cs : List (List Int)} (h : OwnL w B v L cs) (G k : Nat) (u : Value) {cells : Array Value} {t : TypeId} {fr : Nat × Nat} (hb : w.heap[G]? = some (.cells cells t fr)) (h1 : 37 ≠ t) (h2 : 3 ≠ t) : OwnL (w.setCell ⟨G, k, none⟩ u) B v L cs :=
  ⟨h.len, World.ownsRow.kept h.row (gb_set w ⟨G, k, none⟩ u) (Or.inr (row_ne_blk h.row hb h1)), fun j hj => World.ownsRow.kept (h.each j hj) (gb_set w ⟨G, k, none⟩ u) (Or.inr (row_ne_blk (h.each j hj) hb h2))⟩
theorem OwnL.cls {w : World} {B n c : Nat} {ad : Option Addr} {L : List Value} {cs : List (List Int)} (h : OwnL w B (.slice ad n c) L cs) : Cls w ad cs := by
  intro h0
  rcases h.row.2 with ⟨e, h1⟩ | ⟨g, cap, cur, e, hbg, hg, _⟩
  · omega
  · have hr := h.row
    cases e
    refine ⟨g, 0, rfl, (Array.getElem?_eq_some_iff.1 hg).1, fun j hj => ?_⟩
    obtain ⟨aj, cj, e2, hi⟩ := own_ints (h.each j hj)
    refine ⟨aj, cj, ?_, hi⟩
    rw [Nat.zero_add, hr.cellAt j (by omega), ← e2, List.getD_eq_getElem?_getD, List.getElem?_eq_getElem (by rw [h.len]; exact hj)]
    rfl
theorem getD_snoc_last {α : Type} (l : List α) (x d : α) : (l ++ [x]).getD l.length d = x := by
  rw [List.getD_eq_getElem?_getD, List.getElem?_append_right (Nat.le_refl _)]; simp
theorem getD_snoc_lt {α : Type} (l : List α) (x d : α) (j : Nat) (h : j < l.length) : (l ++ [x]).getD j d = l.getD j d := by
  rw [List.getD_eq_getElem?_getD, List.getElem?_append_left h, List.getD_eq_getElem?_getD]
/-- one more clause -/
theorem OwnL.snoc {w w3 : World} {B : Nat} {v v' x : Value} {L : List Value} {cs : List (List Int)} {c : List Int} (h : OwnL w B v L cs) (hx : w.ownsRow B 3 1 x c.length (c.map (Value.int .i64)))
    (hrow : w3.ownsRow B 37 1 v' (cs.length + 1) (L ++ [x])) (hg : w.grownBy w3 v.ownBlock) : OwnL w3 B v' (L ++ [x]) (cs ++ [c]) := by
  have key : ∀ {y : Value} {n : Nat} {M : List Value}, w.ownsRow B 3 1 y n M → w3.ownsRow B 3 1 y n M := by
    intro y n M hy
    refine World.ownsRow.kept hy hg ?_
    rcases h.row.2 with ⟨e, h1⟩ | ⟨g, cap, cur, e, hbg, hgg, _⟩
    · rw [e]; by_cases h0 : y.ownBlock = none
      · exact Or.inl h0
      · exact Or.inr h0
    · rw [e]; exact Or.inr (row_ne_blk hy hgg (by decide))
  refine ⟨by simp [h.len], by rw [List.length_append]; exact hrow, fun j hj => ?_⟩
  by_cases hlt : j < cs.length
  · rw [getD_snoc_lt _ _ _ j (by rw [h.len]; exact hlt), getD_snoc_lt _ _ _ j hlt]
    exact key (h.each j hlt)
  · have e : j = cs.length := by simp at hj; omega
    subst e
    rw [getD_snoc_last cs, ← h.len, getD_snoc_last L]
    exact key hx
end Go.Proofs.YtnknbijbhidpnaaGreatDoor
