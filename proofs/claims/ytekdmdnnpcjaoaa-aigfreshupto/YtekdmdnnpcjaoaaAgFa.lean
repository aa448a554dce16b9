import Derived.Test.YtekdmdnnpcjaoaaAgUi
import Derived.Test.YtekdmdnnpcjaoaaAgO
namespace Go.Proofs.Ytekdmdnnpcjaoaa
open Go.ChangeShapes Go.WideShapes Go.ChangeAt Go.RowKit Go.Lib Go.Ag Go.WideMaps Go.Maps Go.ChangeMaps Go.Cn

/-- a type that no part of a graph has -/
def freeT (ty : TypeId) : Prop := ty = 3 ∨ ty = 4 ∨ ty = 43 ∨ ty = 44
theorem freeT_ne {ty : TypeId} (h : freeT ty) : ty ≠ 54 ∧ ty ≠ 100 ∧ ty ≠ 75 := by
  rcases h with rfl | rfl | rfl | rfl <;> decide
/-- what stands of a world through calls that make nothing but new memory, and graphs' own -/
structure STA (B : Nat) (w W : World) (ns : Nds) : Prop where
  gm : ∃ nb vb vg M D, GM W B B ns nb vb vg M D
  bel : Below B w W
  hB : B ≤ W.heap.size
/-- a row of a free type in a block of its own -/
def RW (W : World) (g : Nat) (ty : TypeId) (xs : List Value) : Prop := ∃ cur : Array Value, W.heap[g]? = some (.cells cur ty (0, 0)) ∧ cur.toList.take xs.length = xs
theorem RW.lt {W : World} {g : Nat} {ty : TypeId} {xs : List Value} (h : RW W g ty xs) : g < W.heap.size := by
  obtain ⟨cur, h1, _⟩ := h
  exact (Array.getElem?_eq_some_iff.1 h1).1
theorem RW.keep {W W' : World} {g : Nat} {ty : TypeId} {xs : List Value} (h : RW W g ty xs) (hk : W'.heap[g]? = W.heap[g]?) : RW W' g ty xs := by
  obtain ⟨cur, h1, h2⟩ := h
  exact ⟨cur, hk.trans h1, h2⟩
theorem RW.over {W W' : World} {g : Nat} {ty : TypeId} {xs : List Value} (h : RW W g ty xs) (hb : Below W.heap.size W W') : RW W' g ty xs := h.keep (hb.block g h.lt)
theorem RW.gk {W W' : World} {B R : Nat} {ns : Nds} {nb : Nat} {vb vg vb' vg' : Value} {M M' : Option Nat} {D : DataW Unit} (hg : GM W B R ns nb vb vg M D) (hk : GK W R vb vg M W' vb' vg' M') {g : Nat} {ty : TypeId} {xs : List Value} (h : RW W g ty xs) (ht : freeT ty) : RW W' g ty xs := by
  obtain ⟨cur, h1, h2⟩ := h
  have hn := freeT_ne ht
  exact ⟨cur, (hk.kp g (Array.getElem?_eq_some_iff.1 h1).1 (own_apart hg h1 hn.1 hn.2.1 hn.2.2)).trans h1, h2⟩
theorem RW.cell {W : World} {g : Nat} {ty : TypeId} {xs : List Value} (h : RW W g ty xs) {i : Nat} (hi : i < xs.length) : W.cell? ⟨g, i, none⟩ = xs[i]? := by
  obtain ⟨cur, h1, h2⟩ := h
  rw [ag_cell h1, ← h2, List.getElem?_take_of_lt hi, Array.getElem?_toList]
theorem rw_of {W : World} {H ty n : Nat} {g cap : Nat} {xs : List Value} (h : W.ownsRow H ty 1 (.slice (some ⟨g, 0, none⟩) n cap) n xs) : RW W g ty xs ∧ H ≤ g ∧ xs.length = n ∧ n ≤ cap := by
  have hl : xs.length = n := by have := h.1; omega
  rcases h.2 with ⟨e, _⟩ | ⟨g', cap', cur, e, h1, h2, h3, h4, h5, h6⟩
  · cases e
  · cases e
    refine ⟨⟨cur, h2, by rw [hl]; have := h6; rw [Nat.mul_one] at this; exact this⟩, h1, hl, h3⟩
end Go.Proofs.Ytekdmdnnpcjaoaa
