import Derived.Test.YtekdmdnnpcjaoaaAgFd
namespace Go.Proofs.Ytekdmdnnpcjaoaa
open Go.ChangeShapes Go.WideShapes Go.ChangeAt Go.RowKit Go.Lib Go.Ag Go.WideMaps Go.Maps Go.ChangeMaps Go.Cn

/-- all but some blocks stand -/
structure RS (w0 W : World) (S : Nat → Prop) : Prop where
  os : W.os = w0.os
  tape : W.tape = w0.tape
  output : W.output = w0.output
  size : w0.heap.size ≤ W.heap.size
  kp : ∀ j, j < w0.heap.size → ¬ S j → W.heap[j]? = w0.heap[j]?
theorem RS.refl (w0 : World) (S : Nat → Prop) : RS w0 w0 S := ⟨rfl, rfl, rfl, Nat.le_refl _, fun _ _ _ => rfl⟩
theorem RS.set {w0 W : World} {S : Nat → Prop} (h : RS w0 W S) {g : Nat} (hg : S g) (i : Nat) (v : Value) : RS w0 (W.setCell ⟨g, i, none⟩ v) S :=
  ⟨h.os, h.tape, h.output, by simpa using h.size, fun j hj hn => (heap_setCell_other _ _ _ _ (fun e => hn (by have e' : j = g := e; rw [e']; exact hg))).trans (h.kp j hj hn)⟩
theorem RS.over {w0 W W' : World} {S : Nat → Prop} (h : RS w0 W S) (hb : Below W.heap.size W W') : RS w0 W' S :=
  ⟨hb.os.trans h.os, hb.tape.trans h.tape, hb.output.trans h.output, Nat.le_trans h.size hb.size, fun j hj hn => (hb.block j (Nat.lt_of_lt_of_le hj h.size)).trans (h.kp j hj hn)⟩
theorem RS.drewN {w0 W : World} {S : Nat → Prop} (h : RS w0 W S) (d : Nat) : RS w0 (W.drewN d) S := h.over (drw_bel _ _)
theorem RS.grown {w0 W W' : World} {S : Nat → Prop} (h : RS w0 W S) {ob : Obj} {v : Value} (hv : ∀ g, v.ownBlock = some g → S g ∨ w0.heap.size ≤ g) (hg : (W.alloc ob).grownBy W' v.ownBlock) : RS w0 W' S := by
  have h2 := h.over (ag_bel1 W ob)
  exact ⟨hg.os.trans h2.os, hg.tape.trans h2.tape, hg.output.trans h2.output, Nat.le_trans h2.size hg.size, fun j hj hn => (hg.block j (Nat.lt_of_lt_of_le hj h2.size) (fun e => by
    rcases hv j e.symm with e2 | e2
    · exact hn e2
    · omega)).trans (h2.kp j hj hn)⟩
theorem RS.row {w0 W : World} {S : Nat → Prop} (h : RS w0 W S) {H ty n : Nat} {v : Value} {xs : List Value} (hr : w0.ownsRow H ty 1 v n xs) (hv : ∀ g, v.ownBlock = some g → ¬ S g) : W.ownsRow H ty 1 v n xs := ag_same hr (fun k hk => h.kp k (hr.lt k hk).2 (hv k hk))
theorem RS.rw {w0 W : World} {S : Nat → Prop} (h : RS w0 W S) {g : Nat} {ty : TypeId} {xs : List Value} (hr : RW w0 g ty xs) (hv : ¬ S g) : RW W g ty xs := hr.keep (h.kp g hr.lt hv)
/-- what is written over -/
structure FS (w0 : World) (S : Nat → Prop) (HA : Nat) (vA : Value) (c : Nat) (g12 g14 g16 c16 HX n : Nat) (EB : List Bool) (j : Nat) (W : World) : Prop where
  rs : RS w0 W S
  a : ∃ xa, W.ownsRow HA 3 1 vA c xa
  cc : ∃ cur : Array Value, W.heap[g12]? = some (.cells cur 4 (0, 0)) ∧ ∀ i, i < n + 1 → cur[i]? = some (.bool (if i < j then !(EB.getD i false) else EB.getD i false))
  uu : ∃ cur : Array Value, W.heap[g14]? = some (.cells cur 43 (0, 0)) ∧ n + 1 ≤ cur.size ∧ ∀ i, i < j → cur[i]? = some (.int .u64 85)
  x : ∃ xx, W.ownsRow HX 44 1 (.slice (some ⟨g16, 0, none⟩) (n + 1) c16) (n + 1) xx
theorem FS.step {w0 : World} {S : Nat → Prop} {HA : Nat} {vA : Value} {c g12 g14 g16 c16 HX n : Nat} {EB : List Bool} {j : Nat} {W : World} (h : FS w0 S HA vA c g12 g14 g16 c16 HX n EB j W) (hj : j < n + 1) (s1 : S g12) (s2 : S g14) (s3 : S g16) (hA : ∀ g, vA.ownBlock = some g → g ≠ g12 ∧ g ≠ g14 ∧ g ≠ g16) (n1 : g12 ≠ g14) (n2 : g12 ≠ g16) (n3 : g14 ≠ g16) :
    FS w0 S HA vA c g12 g14 g16 c16 HX n EB (j + 1) (((W.setCell ⟨g12, j, none⟩ (.bool (!(EB.getD j false)))).setCell ⟨g14, j, none⟩ (.int .u64 85)).setCell ⟨g16, j, none⟩ (.int .u32 16777215)) := by
  obtain ⟨xa, ha⟩ := h.a
  obtain ⟨cc, hc, hct⟩ := h.cc
  obtain ⟨cu, hu, hus, hut⟩ := h.uu
  obtain ⟨xx, hx⟩ := h.x
  refine ⟨((h.rs.set s1 _ _).set s2 _ _).set s3 _ _, ⟨xa, ?_⟩, ⟨cc.setIfInBounds j (.bool (!(EB.getD j false))), ?_, fun i hi => ?_⟩, ⟨cu.setIfInBounds j (.int .u64 85), ?_, by simpa using hus, fun i hi => ?_⟩, ⟨xx.set j (.int .u32 16777215), ?_⟩⟩
  · refine ownsRow_setCell_other (ownsRow_setCell_other (ownsRow_setCell_other ha (fun e => (hA g12 e).1 rfl) _) (fun e => (hA g14 e).2.1 rfl) _) (fun e => (hA g16 e).2.2 rfl) _
  · rw [heap_setCell_other _ _ _ _ n2, heap_setCell_other _ _ _ _ n1]
    exact heap_setCell_same _ g12 j _ _ _ hc
  · by_cases e : i = j
    · subst e
      have hs : i < cc.size := by
        have := hct i hi
        exact (Array.getElem?_eq_some_iff.1 this).1
      rw [Array.getElem?_setIfInBounds_self_of_lt hs, if_pos (by omega)]
    · rw [Array.getElem?_setIfInBounds_ne (fun e2 => e e2.symm), hct i hi]
      by_cases e2 : i < j
      · rw [if_pos e2, if_pos (by omega)]
      · rw [if_neg e2, if_neg (by omega)]
  · rw [heap_setCell_other _ _ _ _ n3]
    refine heap_setCell_same _ g14 j _ _ _ ?_
    rw [heap_setCell_other _ _ _ _ (fun e => n1 e.symm)]
    exact hu
  · by_cases e : i = j
    · subst e
      rw [Array.getElem?_setIfInBounds_self_of_lt (by omega)]
    · rw [Array.getElem?_setIfInBounds_ne (fun e2 => e e2.symm)]
      exact hut i (by omega)
  · have h5 := ownsRow_setCell_other (ownsRow_setCell_other hx (a := ⟨g12, j, none⟩) (fun e => n2 (Option.some.inj e).symm) (.bool (!(EB.getD j false)))) (a := ⟨g14, j, none⟩) (fun e => n3 (Option.some.inj e).symm) (.int .u64 85)
    exact (h5.stored j (.int .u32 16777215)).1
end Go.Proofs.Ytekdmdnnpcjaoaa
