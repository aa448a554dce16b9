import Derived.Test.YtekdmdnnpcjaoaaAgFg
namespace Go.Proofs.Ytekdmdnnpcjaoaa
open Go.ChangeShapes Go.WideShapes Go.ChangeAt Go.RowKit Go.Lib Go.Ag Go.WideMaps Go.Maps Go.ChangeMaps Go.Cn

theorem FS.u_at2 {w0 : World} {S : Nat → Prop} {HA : Nat} {vA : Value} {c g12 g14 g16 c16 HX n : Nat} {EB : List Bool} {j : Nat} {W : World} (h : FS w0 S HA vA c g12 g14 g16 c16 HX n EB j W) {i : Nat} (hi : i < n + 1) (n1 : g12 ≠ g14) (v : Value) : (∃ x, (W.setCell ⟨g12, i, none⟩ v).cell? ⟨g14, i, none⟩ = some x) ∧ (W.setCell ⟨g12, i, none⟩ v).frozen? ⟨g14, i, none⟩ = false := by
  obtain ⟨cc, h0, h2, _⟩ := h.uu
  have h1 : (W.setCell ⟨g12, i, none⟩ v).heap[g14]? = some (.cells cc 43 (0, 0)) := by rw [heap_setCell_other _ _ _ _ (fun e => n1 e.symm)]; exact h0
  exact ⟨⟨_, (ag_cell h1 i).trans (Array.getElem?_eq_getElem (by omega))⟩, ag_fz h1 i⟩
theorem FS.x_at2 {w0 : World} {S : Nat → Prop} {HA : Nat} {vA : Value} {c g12 g14 g16 c16 HX n : Nat} {EB : List Bool} {j : Nat} {W : World} (h : FS w0 S HA vA c g12 g14 g16 c16 HX n EB j W) {i : Nat} (hi : i < n + 1) (n2 : g12 ≠ g16) (n3 : g14 ≠ g16) (v v' : Value) : (∃ x, ((W.setCell ⟨g12, i, none⟩ v).setCell ⟨g14, i, none⟩ v').cell? ⟨g16, i, none⟩ = some x) ∧ ((W.setCell ⟨g12, i, none⟩ v).setCell ⟨g14, i, none⟩ v').frozen? ⟨g16, i, none⟩ = false := by
  obtain ⟨xx, hx⟩ := h.x
  obtain ⟨⟨cur, h0, h2⟩, _, h3, _⟩ := rw_of hx
  have h6 := congrArg List.length h2
  rw [List.length_take, h3, Array.length_toList] at h6
  have h1 : ((W.setCell ⟨g12, i, none⟩ v).setCell ⟨g14, i, none⟩ v').heap[g16]? = some (.cells cur 44 (0, 0)) := by rw [heap_setCell_other _ _ _ _ (fun e => n3 e.symm), heap_setCell_other _ _ _ _ (fun e => n2 e.symm)]; exact h0
  exact ⟨⟨_, (ag_cell h1 i).trans (Array.getElem?_eq_getElem (by omega))⟩, ag_fz h1 i⟩
/-- what is appended to the first row -/
theorem FS.pusha {w0 : World} {S : Nat → Prop} {HA : Nat} {vA : Value} {c g12 g14 g16 c16 HX n : Nat} {EB : List Bool} {j : Nat} {W : World} (h : FS w0 S HA vA c g12 g14 g16 c16 HX n EB j W) {ob : Obj} {w' : World} (hg : (W.alloc ob).grownBy w' vA.ownBlock) {v' : Value} {c' : Nat} {xs' : List Value} (hown : w'.ownsRow HA 3 1 v' c' xs') (hA : ∀ g, vA.ownBlock = some g → g ≠ g12 ∧ g ≠ g14 ∧ g ≠ g16) (sA : ∀ g, vA.ownBlock = some g → S g) :
    FS w0 S HA v' c' g12 g14 g16 c16 HX n EB j w' := by
  have hk : ∀ k, k < W.heap.size → vA.ownBlock ≠ some k → w'.heap[k]? = W.heap[k]? := fun k hk hn => (hg.block k (by have := (ag_bel1 W ob).size; omega) (fun e => hn e.symm)).trans ((ag_bel1 W ob).block k hk)
  obtain ⟨cc, hc, hct⟩ := h.cc
  obtain ⟨cu, hu, hut⟩ := h.uu
  obtain ⟨xx, hx⟩ := h.x
  exact ⟨h.rs.grown (fun g e => Or.inl (sA g e)) hg, ⟨xs', hown⟩, ⟨cc, (hk g12 (Array.getElem?_eq_some_iff.1 hc).1 (fun e => (hA _ e).1 rfl)).trans hc, hct⟩, ⟨cu, (hk g14 (Array.getElem?_eq_some_iff.1 hu).1 (fun e => (hA _ e).2.1 rfl)).trans hu, hut⟩, ⟨xx, ag_same hx (fun k e => hk k (hx.lt k e).2 (fun e2 => (hA _ e2).2.2 (Option.some.inj e).symm))⟩⟩
/-- all is written over, and one more each is appended -/
structure FT (w0 : World) (S : Nat → Prop) (gA c gX g12 g14 n : Nat) (EB : List Bool) (W : World) : Prop where
  rs : RS w0 W S
  a : W.cell? ⟨gA, c, none⟩ = some (.int .i64 (-6)) ∧ gA < W.heap.size
  x : W.cell? ⟨gX, n + 1, none⟩ = some (.int .u32 7) ∧ gX < W.heap.size
  cc : ∀ i, i < n + 1 → W.cell? ⟨g12, i, none⟩ = some (.bool (!(EB.getD i false)))
  uu : ∀ i, i < n + 1 → W.cell? ⟨g14, i, none⟩ = some (.int .u64 85)
  l : g12 < W.heap.size ∧ g14 < W.heap.size
theorem FT.over {w0 : World} {S : Nat → Prop} {gA c gX g12 g14 n : Nat} {EB : List Bool} {W W' : World} (h : FT w0 S gA c gX g12 g14 n EB W) (hb : Below W.heap.size W W') : FT w0 S gA c gX g12 g14 n EB W' :=
  ⟨h.rs.over hb, ⟨(hb.cell (p := ⟨gA, c, none⟩) h.a.2).trans h.a.1, Nat.lt_of_lt_of_le h.a.2 hb.size⟩, ⟨(hb.cell (p := ⟨gX, n + 1, none⟩) h.x.2).trans h.x.1, Nat.lt_of_lt_of_le h.x.2 hb.size⟩, fun i hi => (hb.cell (p := ⟨g12, i, none⟩) h.l.1).trans (h.cc i hi), fun i hi => (hb.cell (p := ⟨g14, i, none⟩) h.l.2).trans (h.uu i hi), Nat.lt_of_lt_of_le h.l.1 hb.size, Nat.lt_of_lt_of_le h.l.2 hb.size⟩
theorem FS.pushx {w0 : World} {S : Nat → Prop} {HA gA c cA g12 g14 g16 c16 HX n : Nat} {EB : List Bool} {W : World} {xa : List Value} (h : FS w0 S HA (.slice (some ⟨gA, 0, none⟩) (c + 1) cA) (c + 1) g12 g14 g16 c16 HX n EB (n + 1) W) (hl : W.ownsRow HA 3 1 (.slice (some ⟨gA, 0, none⟩) (c + 1) cA) (c + 1) (xa ++ [.int .i64 (-6)])) (nA : gA ≠ g16) (n2 : g12 ≠ g16) (n3 : g14 ≠ g16) (s3 : S g16) {ob : Obj} {w' : World} (hg : (W.alloc ob).grownBy w' (some g16)) {gX cX : Nat} {xx : List Value} (hown : w'.ownsRow HX 44 1 (.slice (some ⟨gX, 0, none⟩) (n + 1 + 1) cX) (n + 1 + 1) (xx ++ [.int .u32 7])) :
    FT w0 S gA c gX g12 g14 n EB w' := by
  have hk : ∀ k, k < W.heap.size → g16 ≠ k → w'.heap[k]? = W.heap[k]? := fun k hk hn => (hg.block k (by have := (ag_bel1 W ob).size; omega) (fun e => hn (Option.some.inj e).symm)).trans ((ag_bel1 W ob).block k hk)
  have hsz : W.heap.size ≤ w'.heap.size := Nat.le_trans (ag_bel1 W ob).size hg.size
  obtain ⟨cc, hc, hct⟩ := h.cc
  obtain ⟨cu, hu, _, hut⟩ := h.uu
  obtain ⟨r1, _, r3, _⟩ := rw_of hl
  obtain ⟨q1, _, q3, _⟩ := rw_of hown
  have l1 := r1.lt
  have l2 := (Array.getElem?_eq_some_iff.1 hc).1
  have l3 := (Array.getElem?_eq_some_iff.1 hu).1
  have e1 : xa.length = c := by rw [List.length_append] at r3; simpa using r3
  have e2 : xx.length = n + 1 := by rw [List.length_append] at q3; simpa using q3
  have k2 := (hk g12 l2 (fun e => n2 e.symm)).trans hc
  have k3 := (hk g14 l3 (fun e => n3 e.symm)).trans hu
  refine ⟨h.rs.grown (v := .slice (some ⟨g16, 0, none⟩) 0 0) (fun g e => Or.inl (by cases e; exact s3)) hg, ⟨?_, by omega⟩, ⟨?_, q1.lt⟩, fun i hi => ?_, fun i hi => ?_, by omega, by omega⟩
  · rw [(r1.keep (hk gA l1 (fun e => nA e.symm))).cell (by omega), List.getElem?_append_right (by omega), e1, Nat.sub_self]
    rfl
  · rw [q1.cell (by omega), List.getElem?_append_right (by omega), e2, Nat.sub_self]
    rfl
  · rw [ag_cell k2, hct i hi, if_pos hi]
  · rw [ag_cell k3, hut i hi]
end Go.Proofs.Ytekdmdnnpcjaoaa
