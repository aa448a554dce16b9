import Derived.Test.YtmfdcemfdkdalaaDoorDxE
namespace Go.Proofs.YtmfdcemfdkdalaaDoor
open Go.ChangeShapes Go.WideShapes Go.ChangeAt Go.RowKit Go.Lib Go.Tm Go.Bw Go.Bn Go.WideMaps Go.Maps Go.ChangeMaps

def intV (l : List Int) : List Value := l.map (Value.int .i64)
/-- the document's printer in memory -/
structure RD (H0 : Nat) (w0 : World) (ats : List Int) (txt : List UInt8) (vA vO : Value) (w : World) : Prop where
  al : w.ownsRow H0 3 1 vA ats.length (intV ats)
  ol : w.ownsRow H0 5 1 vO txt.length (Lib.byteCells txt)
  bel : Below H0 w0 w
  sz : H0 ≤ w.heap.size
theorem tyIB : (3 : TypeId) ≠ 5 := by decide
theorem row_ty {w : World} {B e n : Nat} {v : Value} {L : List Value} {g : Nat} (h : w.ownsRow B e 1 v n L) (hg : v.ownBlock = some g) : ∃ cur fr, w.heap[g]? = some (.cells cur e fr) := by
  rcases h.2 with ⟨e, _⟩ | ⟨g', cap, cur, e, _, h3, _⟩
  · rw [e] at hg; cases hg
  · rw [e] at hg
    have e2 : g' = g := by simpa [Value.ownBlock] using hg
    subst e2
    exact ⟨cur, _, h3⟩
theorem row_apart {w : World} {B B' n m : Nat} {v v' : Value} {L L' : List Value} (h : w.ownsRow B 3 1 v n L) (h' : w.ownsRow B' 5 1 v' m L') (g : Nat) (hg : v.ownBlock = some g) : v'.ownBlock ≠ some g := fun hg' => by
  obtain ⟨c1, f1, e1⟩ := row_ty h hg
  obtain ⟨c2, f2, e2⟩ := row_ty h' hg'
  rw [e1] at e2
  injection e2 with e2
  injection e2 with _ e3
  exact tyIB e3
theorem row_keep {w w' : World} {B e n : Nat} {v : Value} {L : List Value} {bk : Option Nat} (h : w.ownsRow B e 1 v n L) (hg : w.grownBy w' bk) (ha : ∀ g, v.ownBlock = some g → bk ≠ some g) : w'.ownsRow B e 1 v n L := by
  refine ⟨h.1, ?_⟩
  rcases h.2 with h0 | ⟨g, cap, cur, e, h2, h3, h4⟩
  · exact Or.inl h0
  · exact Or.inr ⟨g, cap, cur, e, h2, (hg.block g (Array.getElem?_eq_some_iff.1 h3).1 (fun e2 => ha g (by rw [e]; rfl) e2.symm)).trans h3, h4⟩
theorem RD.over {H0 : Nat} {w0 w w' : World} {ats : List Int} {txt : List UInt8} {vA vO : Value} (h : RD H0 w0 ats txt vA vO w) (hb : Below w.heap.size w w') : RD H0 w0 ats txt vA vO w' :=
  ⟨ownsRow_below h.al hb, ownsRow_below h.ol hb, h.bel.trans (below_le hb h.sz), Nat.le_trans h.sz hb.size⟩
theorem RD.str {H0 : Nat} {w0 w w' : World} {ats : List Int} {txt t2 : List UInt8} {vA vO v' : Value} (h : RD H0 w0 ats txt vA vO w) (hg : w.grownBy w' vO.ownBlock) (hr : w'.ownsRow H0 5 1 v' t2.length (Lib.byteCells t2)) : RD H0 w0 ats t2 vA v' w' :=
  ⟨row_keep h.al hg (fun g e => row_apart h.al h.ol g e), hr, h.bel.grown hg h.sz (fun k hk => (h.ol.lt k hk).1), by have := hg.size; have := h.sz; omega⟩
theorem RD.one {H0 : Nat} {w0 w w' : World} {ats : List Int} {txt t2 : List UInt8} {vA vO v' : Value} {ob : Obj} (h : RD H0 w0 ats txt vA vO w) (hg : (w.alloc ob).grownBy w' vO.ownBlock) (hr : w'.ownsRow H0 5 1 v' t2.length (Lib.byteCells t2)) : RD H0 w0 ats t2 vA v' w' :=
  (h.over ((Below.refl _ _).alloc (Nat.le_refl _) ob)).str hg hr
theorem RD.set {H0 : Nat} {w0 w : World} {ats : List Int} {txt : List UInt8} {g n cap : Nat} {vO : Value} (h : RD H0 w0 ats txt (.slice (some ⟨g, 0, none⟩) n cap) vO w) (hn : n = ats.length) {j : Nat} (x : Int) : RD H0 w0 (ats.set j x) txt (.slice (some ⟨g, 0, none⟩) n cap) vO (w.setCell ⟨g, j, none⟩ (.int .i64 x)) := by
  subst hn
  have hgl := h.al.lt g rfl
  refine ⟨?_, ownsRow_setCell_other h.ol (fun e => row_apart h.al h.ol g rfl e) _, below_set h.bel hgl.1 _, by simpa using h.sz⟩
  have := (h.al.stored j (.int .i64 x)).1
  rw [List.length_set]
  unfold intV at this ⊢
  rw [List.map_set]
  exact this
end Go.Proofs.YtmfdcemfdkdalaaDoor
