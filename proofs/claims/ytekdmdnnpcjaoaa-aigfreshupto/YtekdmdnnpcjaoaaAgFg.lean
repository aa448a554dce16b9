import Derived.Test.YtekdmdnnpcjaoaaAgFf
namespace Go.Proofs.Ytekdmdnnpcjaoaa
open Go.ChangeShapes Go.WideShapes Go.ChangeAt Go.RowKit Go.Lib Go.Ag Go.WideMaps Go.Maps Go.ChangeMaps Go.Cn

theorem FS.start {w0 : World} {S : Nat → Prop} {HA : Nat} {vA : Value} {c g12 g14 g16 c16 HX n : Nat} {EB : List Bool} {X : List Nat} {xa xx : List Value} (ha : w0.ownsRow HA 3 1 vA c xa) (hc : RW w0 g12 4 (blV EB)) (hEl : EB.length = n + 1) (hu : RW w0 g14 43 (wrdV X)) (hXl : X.length = n + 1) (hx : w0.ownsRow HX 44 1 (.slice (some ⟨g16, 0, none⟩) (n + 1) c16) (n + 1) xx) :
    FS w0 S HA vA c g12 g14 g16 c16 HX n EB 0 w0 := by
  obtain ⟨cc, h1, h2⟩ := hc
  obtain ⟨cu, h3, h4⟩ := hu
  have hl1 : (blV EB).length = n + 1 := by unfold blV; rw [List.length_map, hEl]
  have hl2 : (wrdV X).length = n + 1 := by unfold wrdV; rw [List.length_map, hXl]
  refine ⟨RS.refl _ _, ⟨xa, ha⟩, ⟨cc, h1, fun i hi => ?_⟩, ⟨cu, h3, ?_, fun i hi => by omega⟩, ⟨xx, hx⟩⟩
  · have h5 : (blV EB)[i]? = cc[i]? := by rw [← h2, List.getElem?_take_of_lt (by omega), Array.getElem?_toList]
    rw [← h5, if_neg (by omega)]
    unfold blV
    rw [List.getElem?_map, List.getD_eq_getElem?_getD, List.getElem?_eq_getElem (by omega)]
    rfl
  · have h6 := congrArg List.length h4
    rw [List.length_take, hl2, Array.length_toList] at h6
    omega
/-- the row is written over at its place -/
theorem FS.c_at {w0 : World} {S : Nat → Prop} {HA : Nat} {vA : Value} {c g12 g14 g16 c16 HX n : Nat} {EB : List Bool} {j : Nat} {W : World} (h : FS w0 S HA vA c g12 g14 g16 c16 HX n EB j W) {i : Nat} (hi : i < n + 1) : W.cell? ⟨g12, i, none⟩ = some (.bool (if i < j then !(EB.getD i false) else EB.getD i false)) ∧ W.frozen? ⟨g12, i, none⟩ = false := by
  obtain ⟨cc, h1, h2⟩ := h.cc
  exact ⟨(ag_cell h1 i).trans (h2 i hi), ag_fz h1 i⟩
theorem FS.u_at {w0 : World} {S : Nat → Prop} {HA : Nat} {vA : Value} {c g12 g14 g16 c16 HX n : Nat} {EB : List Bool} {j : Nat} {W : World} (h : FS w0 S HA vA c g12 g14 g16 c16 HX n EB j W) {i : Nat} (hi : i < n + 1) : (∃ x, W.cell? ⟨g14, i, none⟩ = some x) ∧ W.frozen? ⟨g14, i, none⟩ = false := by
  obtain ⟨cc, h1, h2, _⟩ := h.uu
  exact ⟨⟨_, (ag_cell h1 i).trans (Array.getElem?_eq_getElem (by omega))⟩, ag_fz h1 i⟩
theorem FS.x_at {w0 : World} {S : Nat → Prop} {HA : Nat} {vA : Value} {c g12 g14 g16 c16 HX n : Nat} {EB : List Bool} {j : Nat} {W : World} (h : FS w0 S HA vA c g12 g14 g16 c16 HX n EB j W) {i : Nat} (hi : i < n + 1) : (∃ x, W.cell? ⟨g16, i, none⟩ = some x) ∧ W.frozen? ⟨g16, i, none⟩ = false := by
  obtain ⟨xx, hx⟩ := h.x
  obtain ⟨⟨cur, h1, h2⟩, _, h3, _⟩ := rw_of hx
  have h6 := congrArg List.length h2
  rw [List.length_take, h3, Array.length_toList] at h6
  exact ⟨⟨_, (ag_cell h1 i).trans (Array.getElem?_eq_getElem (by omega))⟩, ag_fz h1 i⟩
theorem FS.a_at {w0 : World} {S : Nat → Prop} {HA : Nat} {gA cA : Nat} {c g12 g14 g16 c16 HX n : Nat} {EB : List Bool} {j : Nat} {W : World} (h : FS w0 S HA (.slice (some ⟨gA, 0, none⟩) c cA) c g12 g14 g16 c16 HX n EB j W) {i : Nat} (hi : i < c) : (∃ x, W.cell? ⟨gA, i, none⟩ = some x) ∧ W.frozen? ⟨gA, i, none⟩ = false := by
  obtain ⟨xx, hx⟩ := h.a
  obtain ⟨⟨cur, h1, h2⟩, _, h3, _⟩ := rw_of hx
  have h6 := congrArg List.length h2
  rw [List.length_take, h3, Array.length_toList] at h6
  exact ⟨⟨_, (ag_cell h1 i).trans (Array.getElem?_eq_getElem (by omega))⟩, ag_fz h1 i⟩
end Go.Proofs.Ytekdmdnnpcjaoaa
