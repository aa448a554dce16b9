import Derived.Test.YtcmknjocmpdicaaDoorFmD
import Derived.Laws.Rows
import Derived.Deep.AppendLies
import Derived.Lib.Walk
namespace Go.Proofs.YtcmknjocmpdicaaDoor
open Go.ChangeShapes Go.WideShapes Go.ChangeAt Go.RowKit Go.Bn Go.Lib

set_option maxHeartbeats 4000000 in
/-- the parts of an expression are laid to what is left -/
theorem lparts_any (base : Nat) (W : World) (ad : Option Addr) (n cap : Nat) (xs : List Value) (g o : Nat) (aS : Option Addr) (nS cS : Nat) (hO : W.ownsRow base 38 1 (.slice ad n cap) n xs) (hc : W.cell? ⟨g, o + 3, none⟩ = some (.slice aS nS cS)) (hn : n ≤ 100000000) (hb : base ≤ W.heap.size) :
    Calls Tryd.prog 32 #[.slice ad n cap, .pointer (some ⟨g, o, none⟩)] W fun e w' => ∃ ad' cap', e = .returned (.slice ad' (n + 1) cap') ∧ w'.ownsRow base 38 1 (.slice ad' (n + 1) cap') (n + 1) (xs ++ [.slice aS nS cS]) ∧ Below base W w' := by
  obtain ⟨i0, hi, hz0, hz1, hz2⟩ := info_parts (P := Tryd.prog) (e := 38) (z := .slice none 0 0) (size := 1) (bytes := 24) (by kernel_rfl)
  have HO : Hid (W.ownsRow base 38 1 (.slice ad n cap) n xs) := hO
  have HA : Hid (Below base W (W.alloc (.cells #[.slice aS nS cS] 38))) := (Below.refl _ _).alloc hb _
  clear hO
  go_enter Tryd.func32, Tryd.ntmps32
  go_wp2_with (at_builtin; refine wpList_append_lies _ rfl _ _ 68 rfl base 38 i0 (.slice none 0 0) 1 24 Tryd.underlying68 hi hz0 hz1 hz2 rfl (by omega) (.slice ad n cap) n xs rfl (HO.out.alloc _) ⟨W.heap.size, 0, none⟩ 1 1 [.slice aS nS cS] rfl rfl (cell_one_new _ _ _) (by intro u hu; simp at hu; subst hu; rfl) (by omega) (by unfold maxLen; omega) (by omega) (by simp; omega) (W.heap.size + 1) (by simp) ?_; intro gg cap7 w7 hown7 hgrow hat hlt7; have HK7 : Hid (w7.ownsRow base 38 1 (.slice (some ⟨gg, 0, none⟩) (n + 1) cap7) (n + 1) (xs ++ [.slice aS nS cS]) ∧ (W.alloc (.cells #[.slice aS nS cS] 38)).grownBy w7 (Value.slice ad n cap).ownBlock) := ⟨hown7, hgrow⟩; clear hown7 hgrow hat hlt7)
  go_ret
  exact ⟨some ⟨gg, 0, none⟩, cap7, rfl, HK7.out.1, HA.out.grown HK7.out.2 (by simp; omega) (fun i hi => (HO.out.lt i hi).1)⟩
end Go.Proofs.YtcmknjocmpdicaaDoor
