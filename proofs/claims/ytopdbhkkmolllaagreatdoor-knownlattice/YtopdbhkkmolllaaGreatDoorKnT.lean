import Derived.Test.YtopdbhkkmolllaaGreatDoorKnS
import Derived.Deep.Cut
namespace Go.Proofs.YtopdbhkkmolllaaGreatDoor
open Go.ChangeShapes Go.WideShapes Go.ChangeAt Go.RowKit Go.Lib Go.Kn

theorem set5_o {W : World} {g g' : Nat} {f : Fc} (h : BX W g f) (hne : g ≠ g') (a b c d e : Value) : BX (set5 W g' a b c d e) g f := by
  have st : ∀ {W : World} (i : Nat) (v : Value), BX W g f → BX (W.setCell ⟨g', i, none⟩ v) g f := fun i v h => (heap_setCell_other _ _ _ _ (fun e => hne e)).trans h
  exact st _ _ (st _ _ (st _ _ (st _ _ (st _ _ h))))
theorem bx_set {W : World} {g g' : Nat} {f : Fc} (hne : g ≠ g') (i : Nat) (v : Value) (h : BX W g f) : BX (W.setCell ⟨g', i, none⟩ v) g f := (heap_setCell_other _ _ _ _ (fun e => hne e)).trans h
theorem bx_a {W : World} {g : Nat} {f : Fc} (h : BX W g f) (o : Obj) : (W.alloc o).cell? ⟨g, 0, none⟩ = some (.int .i64 f.w) ∧ (W.alloc o).cell? ⟨g, 1, none⟩ = some (uV f.one) ∧ (W.alloc o).cell? ⟨g, 2, none⟩ = some (uV f.zero) ∧ (W.alloc o).cell? ⟨g, 3, none⟩ = some (uV f.least) ∧ (W.alloc o).cell? ⟨g, 4, none⟩ = some (uV f.top) := (h.alloc o).c
theorem bx_b {W : World} {g : Nat} {f : Fc} (h : BX W g f) (o : Obj) : (W.drew.alloc o).cell? ⟨g, 0, none⟩ = some (.int .i64 f.w) ∧ (W.drew.alloc o).cell? ⟨g, 1, none⟩ = some (uV f.one) ∧ (W.drew.alloc o).cell? ⟨g, 2, none⟩ = some (uV f.zero) ∧ (W.drew.alloc o).cell? ⟨g, 3, none⟩ = some (uV f.least) ∧ (W.drew.alloc o).cell? ⟨g, 4, none⟩ = some (uV f.top) := (BX.alloc (W := W.drew) h o).c
end Go.Proofs.YtopdbhkkmolllaaGreatDoor
