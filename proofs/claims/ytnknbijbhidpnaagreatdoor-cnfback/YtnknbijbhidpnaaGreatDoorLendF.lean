import Derived.Test.YtnknbijbhidpnaaGreatDoorLend
namespace Go.Proofs.YtnknbijbhidpnaaGreatDoor
open Go.ChangeShapes Go.WideShapes Go.ChangeAt Go.RowKit Go.Cn

/-- clauses that came in -/
def ClsS (w : World) (ad : Option Addr) (cs : List (List Int)) : Prop :=
  0 < cs.length → ∃ b off, ad = some ⟨b, off, none⟩ ∧ b < w.heap.size ∧ ∀ j, j < cs.length → ∃ aj cj, w.cell? ⟨b, off + j, none⟩ = some (.slice aj (cs.getD j []).length cj) ∧ Sl w aj cj (cs.getD j [])
theorem ClsS.cls {w : World} {ad : Option Addr} {cs : List (List Int)} (h : ClsS w ad cs) : Cls w ad cs := by
  intro h0
  obtain ⟨b, off, e, hlt, hc⟩ := h h0
  refine ⟨b, off, e, hlt, fun j hj => ?_⟩
  obtain ⟨aj, cj, h1, h2⟩ := hc j hj
  exact ⟨aj, cj, h1, h2.ints⟩
theorem ClsS.below {w w' : World} {ad : Option Addr} {cs : List (List Int)} (h : ClsS w ad cs) (hb : Below w.heap.size w w') : ClsS w' ad cs := by
  intro h0
  obtain ⟨b, off, e, hlt, hc⟩ := h h0
  refine ⟨b, off, e, Nat.lt_of_lt_of_le hlt hb.size, fun j hj => ?_⟩
  obtain ⟨aj, cj, h1, h2⟩ := hc j hj
  exact ⟨aj, cj, (hb.cell (p := ⟨b, off + j, none⟩) hlt).trans h1, h2.below hb⟩
/-- the slice of a lent clause in block g -/
def lv (cs : List (List Int)) (G : Nat → Nat) (j : Nat) : Value := .slice (some ⟨G j, 0, none⟩) (cs.getD j []).length ((cs.getD j []).length + 2)
def lvs (cs : List (List Int)) (G : Nat → Nat) (k : Nat) : List Value := (List.range k).map (lv cs G)
theorem lvs_succ (cs : List (List Int)) (G : Nat → Nat) (k : Nat) : lvs cs G (k + 1) = lvs cs G k ++ [lv cs G k] := by simp [lvs, List.range_succ]
theorem lvs_len (cs : List (List Int)) (G : Nat → Nat) (k : Nat) : (lvs cs G k).length = k := by simp [lvs]
theorem lvs_upd (cs : List (List Int)) (G : Nat → Nat) (k g : Nat) : lvs cs (fun j => if j = k then g else G j) k = lvs cs G k := by
  unfold lvs
  apply List.map_congr_left
  intro j hj
  have : j ≠ k := by have := List.mem_range.1 hj; omega
  simp [lv, this]
theorem lvs_get (cs : List (List Int)) (G : Nat → Nat) (k j : Nat) (h : j < k) : (lvs cs G k)[j]? = some (lv cs G j) := by simp [lvs, h]
/-- a formula that was lent -/
structure LentF (w : World) (g : Nat) (cs : List (List Int)) : Prop where
  ex : ∃ B G mk, w.ownsRow B 37 1 (.slice (some ⟨g, 0, none⟩) (cs.length + 1) (cs.length + 1)) (cs.length + 1) (lvs cs G cs.length ++ [.slice (some ⟨mk, 0, none⟩) 1 1]) ∧ (∀ j, j < cs.length → Lent w (G j) (cs.getD j [])) ∧ mk < w.heap.size ∧ w.cell? ⟨mk, 0, none⟩ = some (.int .i64 55555)
theorem LentF.below {w w' : World} {g : Nat} {cs : List (List Int)} (h : LentF w g cs) (hb : Below w.heap.size w w') : LentF w' g cs := by
  obtain ⟨B, G, mk, h1, h2, h3, h4⟩ := h.ex
  exact ⟨B, G, mk, row_below h1 hb, fun j hj => (h2 j hj).below hb, Nat.lt_of_lt_of_le h3 hb.size, (hb.cell (p := ⟨mk, 0, none⟩) h3).trans h4⟩
theorem LentF.cls {w : World} {g : Nat} {cs : List (List Int)} (h : LentF w g cs) : Cls w (some ⟨g, 0, none⟩) cs := by
  obtain ⟨B, G, mk, h1, h2, h3, h4⟩ := h.ex
  intro h0
  refine ⟨g, 0, rfl, (h1.lt g rfl).2, fun j hj => ⟨some ⟨G j, 0, none⟩, (cs.getD j []).length + 2, ?_, (h2 j hj).ints⟩⟩
  rw [Nat.zero_add, h1.cellAt j (by omega), List.getElem?_append_left (by rw [lvs_len]; exact hj), lvs_get cs G _ j hj]
  rfl
structure LSt (w wr : World) (vars : Int) (ad : Option Addr) (c : Nat) (cs : List (List Int)) (k : Nat) (G : Nat → Nat) : Prop where
  r1 : wr.heap[w.heap.size]? = some (.cells #[.int .i64 vars, .slice ad cs.length c] 24 (0, 0))
  r2 : wr.heap[w.heap.size + 1]? = some (.cells #[.int .i64 0, .slice none 0 0] 24 (0, 0))
  own : wr.ownsRow w.heap.size 37 1 (.slice (some ⟨w.heap.size + 2, 0, none⟩) k (cs.length + 1)) k (lvs cs G k)
  lent : ∀ j, j < k → Lent wr (G j) (cs.getD j [])
  below : Below w.heap.size w wr
  size : w.heap.size + 3 ≤ wr.heap.size
end Go.Proofs.YtnknbijbhidpnaaGreatDoor
