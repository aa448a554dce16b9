import Derived.Test.YtdoeggompochoaaAgE
namespace Go.Proofs.Ytdoeggompochoaa
open Go.ChangeShapes Go.WideShapes Go.ChangeAt Go.RowKit Go.Lib Go.Ag Go.WideMaps Go.Maps Go.ChangeMaps

/-- the blocks of memory that a graph owns -/
def ownG (R : Nat) (vb vg : Value) (M : Option Nat) (j : Nat) : Prop := j = R ∨ vb.ownBlock = some j ∨ vg.ownBlock = some j ∨ M = some j
/-- a graph on its way: its parts, and that all else stands since w0 -/
structure GX (w0 : World) (O : Nat → Prop) (w : World) (B R m nb : Nat) (bc : List Value) (gs : List (Nat × Nat)) (vb vg : Value) (M : Option Nat) (mn : Nat) (D : DataW Unit) : Prop where
  blk : w.heap[R]? = some (.cells #[.int .i64 (m : Int), vb, vg, .map M] 98 (0, 0))
  rb : w.ownsRow B 163 2 vb nb bc
  rg : w.ownsRow B 103 2 vg gs.length (gatesC gs)
  mo : MapO 103 w M mn D
  os : w.os = w0.os
  tape : w.tape = w0.tape
  output : w.output = w0.output
  size : w0.heap.size ≤ w.heap.size
  kp : ∀ j, j < w0.heap.size → ¬ O j → w.heap[j]? = w0.heap[j]?
  fr : ∀ j, ownG R vb vg M j → O j ∨ w0.heap.size ≤ j
  low : B ≤ w0.heap.size
theorem GX.lt {w0 : World} {O : Nat → Prop} {w : World} {B R m nb : Nat} {bc : List Value} {gs : List (Nat × Nat)} {vb vg : Value} {M : Option Nat} {mn : Nat} {D : DataW Unit} (h : GX w0 O w B R m nb bc gs vb vg M mn D) : R < w.heap.size := (Array.getElem?_eq_some_iff.1 h.blk).1
theorem GX.over {w0 : World} {O : Nat → Prop} {w w' : World} {B R m nb : Nat} {bc : List Value} {gs : List (Nat × Nat)} {vb vg : Value} {M : Option Nat} {mn : Nat} {D : DataW Unit} (h : GX w0 O w B R m nb bc gs vb vg M mn D) (hb : Below w.heap.size w w') : GX w0 O w' B R m nb bc gs vb vg M mn D :=
  ⟨(hb.block R h.lt).trans h.blk, ag_same h.rb (fun j hj => hb.block j (h.rb.lt j hj).2), ag_same h.rg (fun j hj => hb.block j (h.rg.lt j hj).2),
    h.mo.keep (fun m _ _ _ hm => (hb.block m (Array.getElem?_eq_some_iff.1 hm).1).trans hm), hb.os.trans h.os, hb.tape.trans h.tape, hb.output.trans h.output, Nat.le_trans h.size hb.size,
    fun j hj hO => (hb.block j (Nat.lt_of_lt_of_le hj h.size)).trans (h.kp j hj hO), h.fr, h.low⟩
/-- a cell of the graph's own block is set; the new parts stand already -/
theorem GX.setR {w0 : World} {O : Nat → Prop} {w : World} {B R m nb : Nat} {bc : List Value} {gs : List (Nat × Nat)} {vb vg : Value} {M : Option Nat} {mn : Nat} {D : DataW Unit} (h : GX w0 O w B R m nb bc gs vb vg M mn D) (i : Nat) (u : Value)
    {m' nb' : Nat} {bc' : List Value} {gs' : List (Nat × Nat)} {vb' vg' : Value} {M' : Option Nat} {mn' : Nat} {D' : DataW Unit}
    (hset : (#[Value.int .i64 (m : Int), vb, vg, .map M] : Array Value).setIfInBounds i u = #[.int .i64 (m' : Int), vb', vg', .map M'])
    (hb : w.ownsRow B 163 2 vb' nb' bc') (hg : w.ownsRow B 103 2 vg' gs'.length (gatesC gs')) (hm : MapO 103 w M' mn' D') (hf : ∀ j, ownG R vb' vg' M' j → O j ∨ w0.heap.size ≤ j) :
    GX w0 O (w.setCell ⟨R, i, none⟩ u) B R m' nb' bc' gs' vb' vg' M' mn' D' := by
  have ho : ∀ j, j ≠ R → (w.setCell ⟨R, i, none⟩ u).heap[j]? = w.heap[j]? := fun j hj => heap_setCell_other _ _ _ _ hj
  refine ⟨?_, ag_same hb (fun j hj => ho j (fun e => ag_ne hb h.blk (by decide) (by rw [hj, e]))), ag_same hg (fun j hj => ho j (fun e => ag_ne hg h.blk (by decide) (by rw [hj, e]))), hm.keep (fun x _ _ _ hx => (ho x (fun e => by rw [e, h.blk] at hx; cases hx)).trans hx), h.os, h.tape, h.output, by simp; exact h.size, fun j hj hO => ?_, hf, h.low⟩
  · rw [heap_setCell_same _ R i _ _ _ h.blk, hset]
  · rw [ho j (fun e => by
      rcases h.fr j (Or.inl e) with h1 | h1
      · exact hO h1
      · omega)]
    exact h.kp j hj hO
/-- what an append to a row of the graph leaves of the rest -/
theorem GX.grown {w0 : World} {O : Nat → Prop} {w w3 : World} {B R m nb : Nat} {bc : List Value} {gs : List (Nat × Nat)} {vb vg : Value} {M : Option Nat} {mn : Nat} {D : DataW Unit} (h : GX w0 O w B R m nb bc gs vb vg M mn D) {o : Obj} {v : Value} (hv : ∀ j, v.ownBlock = some j → ownG R vb vg M j) (hg : (w.alloc o).grownBy w3 v.ownBlock) :
    (∀ j, j < w.heap.size → v.ownBlock ≠ some j → w3.heap[j]? = w.heap[j]?) ∧ w3.os = w0.os ∧ w3.tape = w0.tape ∧ w3.output = w0.output ∧ w0.heap.size ≤ w3.heap.size ∧ (∀ j, j < w0.heap.size → ¬ O j → w3.heap[j]? = w0.heap[j]?) := by
  have hk : ∀ j, j < w.heap.size → v.ownBlock ≠ some j → w3.heap[j]? = w.heap[j]? := fun j hj hn => by
    rw [hg.block j (by simp; omega) (fun e => hn e.symm)]
    exact Below.heap_alloc _ _ j hj
  have hs := hg.size
  have hz := h.size
  refine ⟨hk, hg.os.trans h.os, hg.tape.trans h.tape, hg.output.trans h.output, by simp at hs; omega, fun j hj hO => ?_⟩
  rw [hk j (by omega) (fun e => by
    rcases h.fr j (hv j e) with h1 | h1
    · exact hO h1
    · omega)]
  exact h.kp j hj hO
/-- one block more -/
theorem GX.putB {w0 : World} {O : Nat → Prop} {w w3 : World} {B R m nb : Nat} {bc : List Value} {gs : List (Nat × Nat)} {vb vg : Value} {M : Option Nat} {mn : Nat} {D : DataW Unit} (h : GX w0 O w B R m nb bc gs vb vg M mn D) {o : Obj} {vb' : Value} {g : Nat} {new : List Value}
    (ho : w3.ownsRow B 163 2 vb' (nb + 1) (bc ++ new)) (hg : (w.alloc o).grownBy w3 vb.ownBlock) (hv : vb'.ownBlock = some g) (hat : vb.ownBlock = some g ∨ g = w.heap.size + 1) : GX w0 O (w3.setCell ⟨R, 1, none⟩ vb') B R m (nb + 1) (bc ++ new) gs vb' vg M mn D := by
  obtain ⟨hk, h1, h2, h3, h4, h5⟩ := h.grown (v := vb) (fun j hj => Or.inr (Or.inl hj)) hg
  have hbl : w3.heap[R]? = some (.cells #[.int .i64 (m : Int), vb, vg, .map M] 98 (0, 0)) := (hk R h.lt (ag_ne h.rb h.blk (by decide))).trans h.blk
  have hrg : w3.ownsRow B 103 2 vg gs.length (gatesC gs) := ag_same h.rg (fun j hj => hk j (h.rg.lt j hj).2 (fun e => by
    rcases h.rg.2 with ⟨e1, _⟩ | ⟨b, cap, cur, e1, _, hb2, _⟩
    · rw [e1] at hj; cases hj
    · rw [e1] at hj
      have e2 : b = j := by simpa [Value.ownBlock] using hj
      subst e2
      exact ag_ne h.rb hb2 (by decide) e))
  have hmo : MapO 103 w3 M mn D := h.mo.keep (fun x _ _ _ hx => (hk x (Array.getElem?_eq_some_iff.1 hx).1 (fun e => by
    rcases h.rb.2 with ⟨e1, _⟩ | ⟨b, cap, cur, e1, _, hb2, _⟩
    · rw [e1] at e; cases e
    · rw [e1] at e
      have e2 : b = x := by simpa [Value.ownBlock] using e
      subst e2
      rw [hb2] at hx
      cases hx)).trans hx)
  have ho2 : ∀ j, j ≠ R → (w3.setCell ⟨R, 1, none⟩ vb').heap[j]? = w3.heap[j]? := fun j hj => heap_setCell_other _ _ _ _ hj
  refine ⟨?_, ag_same ho (fun j hj => ho2 j (fun e => ag_ne ho hbl (by decide) (by rw [hj, e]))), ag_same hrg (fun j hj => ho2 j (fun e => ag_ne hrg hbl (by decide) (by rw [hj, e]))), hmo.keep (fun x _ _ _ hx => (ho2 x (fun e => by rw [e, hbl] at hx; cases hx)).trans hx), h1, h2, h3, by simp; exact h4, fun j hj hO => ?_, fun j hj => ?_, h.low⟩
  · rw [heap_setCell_same _ R 1 _ _ _ hbl]
    rfl
  · rw [ho2 j (fun e => by
      rcases h.fr j (Or.inl e) with h6 | h6
      · exact hO h6
      · omega)]
    exact h5 j hj hO
  · rcases hj with hj | hj | hj | hj
    · exact h.fr j (Or.inl hj)
    · rw [hv] at hj
      cases hj
      rcases hat with e | e
      · exact h.fr _ (Or.inr (Or.inl e))
      · right; have := h.size; omega
    · exact h.fr j (Or.inr (Or.inr (Or.inl hj)))
    · exact h.fr j (Or.inr (Or.inr (Or.inr hj)))
/-- one gate more -/
theorem GX.putG {w0 : World} {O : Nat → Prop} {w w3 : World} {B R m nb : Nat} {bc : List Value} {gs : List (Nat × Nat)} {vb vg : Value} {M : Option Nat} {mn : Nat} {D : DataW Unit} (h : GX w0 O w B R m nb bc gs vb vg M mn D) {o : Obj} {vg' : Value} {g : Nat} {x : Nat × Nat}
    (ho : w3.ownsRow B 103 2 vg' (gs.length + 1) (gatesC gs ++ gateC x)) (hg : (w.alloc o).grownBy w3 vg.ownBlock) (hv : vg'.ownBlock = some g) (hat : vg.ownBlock = some g ∨ g = w.heap.size + 1) : GX w0 O (w3.setCell ⟨R, 2, none⟩ vg') B R m nb bc (gs ++ [x]) vb vg' M mn D := by
  obtain ⟨hk, h1, h2, h3, h4, h5⟩ := h.grown (v := vg) (fun j hj => Or.inr (Or.inr (Or.inl hj))) hg
  have hbl : w3.heap[R]? = some (.cells #[.int .i64 (m : Int), vb, vg, .map M] 98 (0, 0)) := (hk R h.lt (ag_ne h.rg h.blk (by decide))).trans h.blk
  have hrb : w3.ownsRow B 163 2 vb nb bc := ag_same h.rb (fun j hj => hk j (h.rb.lt j hj).2 (fun e => by
    rcases h.rb.2 with ⟨e1, _⟩ | ⟨b, cap, cur, e1, _, hb2, _⟩
    · rw [e1] at hj; cases hj
    · rw [e1] at hj
      have e2 : b = j := by simpa [Value.ownBlock] using hj
      subst e2
      exact ag_ne h.rg hb2 (by decide) e))
  have ho' : w3.ownsRow B 103 2 vg' (gs ++ [x]).length (gatesC (gs ++ [x])) := by
    have e1 : gatesC (gs ++ [x]) = gatesC gs ++ gateC x := by simp [gatesC]
    rw [e1, List.length_append]
    exact ho
  have hmo : MapO 103 w3 M mn D := h.mo.keep (fun x _ _ _ hx => (hk x (Array.getElem?_eq_some_iff.1 hx).1 (fun e => by
    rcases h.rg.2 with ⟨e1, _⟩ | ⟨b, cap, cur, e1, _, hb2, _⟩
    · rw [e1] at e; cases e
    · rw [e1] at e
      have e2 : b = x := by simpa [Value.ownBlock] using e
      subst e2
      rw [hb2] at hx
      cases hx)).trans hx)
  have ho2 : ∀ j, j ≠ R → (w3.setCell ⟨R, 2, none⟩ vg').heap[j]? = w3.heap[j]? := fun j hj => heap_setCell_other _ _ _ _ hj
  refine ⟨?_, ag_same hrb (fun j hj => ho2 j (fun e => ag_ne hrb hbl (by decide) (by rw [hj, e]))), ag_same ho' (fun j hj => ho2 j (fun e => ag_ne ho' hbl (by decide) (by rw [hj, e]))), hmo.keep (fun x _ _ _ hx => (ho2 x (fun e => by rw [e, hbl] at hx; cases hx)).trans hx), h1, h2, h3, by simp; exact h4, fun j hj hO => ?_, fun j hj => ?_, h.low⟩
  · rw [heap_setCell_same _ R 2 _ _ _ hbl]
    rfl
  · rw [ho2 j (fun e => by
      rcases h.fr j (Or.inl e) with h6 | h6
      · exact hO h6
      · omega)]
    exact h5 j hj hO
  · rcases hj with hj | hj | hj | hj
    · exact h.fr j (Or.inl hj)
    · exact h.fr j (Or.inr (Or.inl hj))
    · rw [hv] at hj
      cases hj
      rcases hat with e | e
      · exact h.fr _ (Or.inr (Or.inr (Or.inl e)))
      · right; have := h.size; omega
    · exact h.fr j (Or.inr (Or.inr (Or.inr hj)))
/-- a cell of the row of blocks is set -/
theorem GX.setBit {w0 : World} {O : Nat → Prop} {w : World} {B R m nb : Nat} {bc : List Value} {gs : List (Nat × Nat)} {b cap : Nat} {vg : Value} {M : Option Nat} {mn : Nat} {D : DataW Unit} (h : GX w0 O w B R m nb bc gs (.slice (some ⟨b, 0, none⟩) nb cap) vg M mn D) (i : Nat) (u : Value) :
    GX w0 O (w.setCell ⟨b, i, none⟩ u) B R m nb (bc.set i u) gs (.slice (some ⟨b, 0, none⟩) nb cap) vg M mn D := by
  have ho : ∀ j, j ≠ b → (w.setCell ⟨b, i, none⟩ u).heap[j]? = w.heap[j]? := fun j hj => heap_setCell_other _ _ _ _ hj
  rcases h.rb.2 with ⟨e1, _⟩ | ⟨g, cap', cur, e1, hb1, hb2, hb3, hb4, hb5, hb6⟩
  · cases e1
  · cases e1
    refine ⟨?_, ?_, ?_, ?_, h.os, h.tape, h.output, by simp; exact h.size, fun j hj hO => ?_, h.fr, h.low⟩
    · rw [ho R (fun e => by have h1 := h.blk; rw [e, hb2] at h1; cases h1)]
      exact h.blk
    · refine ⟨by rw [List.length_set]; exact h.rb.1, Or.inr ⟨b, cap, cur.setIfInBounds i u, rfl, hb1, heap_setCell_same _ b i _ _ _ hb2, hb3, hb4, by rw [Array.size_setIfInBounds]; exact hb5, ?_⟩⟩
      rw [Array.toList_setIfInBounds, List.take_set, hb6]
    · refine ag_same h.rg (fun j hj => ho j (fun e => ?_))
      subst e
      exact ag_ne h.rg hb2 (by decide) hj
    · exact h.mo.keep (fun x _ _ _ hx => (ho x (fun e => by rw [e, hb2] at hx; cases hx)).trans hx)
    · rw [ho j (fun e => by
        rcases h.fr j (Or.inr (Or.inl (by rw [e]; rfl))) with h6 | h6
        · exact hO h6
        · omega)]
      exact h.kp j hj hO
end Go.Proofs.Ytdoeggompochoaa
