import Derived.Test.YtcmknjocmpdicaaDoorFmN
import Derived.Test.YtcmknjocmpdicaaDoorFmS
import Derived.Deep.Draws
import Derived.Deep.QuietTactic
namespace Go.Proofs.YtcmknjocmpdicaaDoor
open Go.ChangeShapes Go.WideShapes Go.ChangeAt Go.RowKit Go.Bn

/-- a word that may be used to call something -/
def nameB (s : ByteArray) : Bool := nmB s && !(resB s.toList)
theorem bnext {w w1 w2 : World} (h : Below w.heap.size w w1) (h2 : Below w1.heap.size w1 w2) : Below w.heap.size w w2 := h.trans (h2.mono h.size)
set_option maxHeartbeats 4000000 in
theorem isName_any (s : ByteArray) (w : World) (hs : s.size ≤ maxLen) : Calls Tryd.prog 6 #[.string s] w fun e w' => e = .returned (.bool (nameB s)) ∧ Below w.heap.size w w' := by
  have HN := name_any s w hs
  have HN2 : Hid (Calls Tryd.prog 12 #[.string s] w fun e w' => e = .returned (.bool (nmB s)) ∧ Below w.heap.size w w') := HN
  have HR : Hid (∀ W, Calls Tryd.prog 13 #[.string s] W fun e w' => e = .returned (.bool (resB s.toList)) ∧ w' = W) := fun W => lres_any s W
  clear HN
  unfold nameB
  generalize nmB s = a at *
  generalize resB s.toList = b at *
  cases a <;> cases b
  all_goals (go_enter Tryd.func6, Tryd.ntmps6)
  all_goals go_wp2_with fail
  all_goals refine HN2.out.mono ?_
  all_goals rintro e w1 ⟨rfl, hb⟩
  all_goals have HB : Hid (Below w.heap.size w w1) := hb
  all_goals clear hb
  all_goals go_wp2_with (refine (HR.out _).mono ?_; rintro e w' ⟨rfl, hw⟩; obtain rfl := hw.symm)
  all_goals try go_ret
  all_goals exact ⟨rfl, HB.out⟩
set_option maxHeartbeats 4000000 in
theorem rName_any (s : ByteArray) (w : World) (hs : s.size ≤ maxLen) : Calls Tryd.prog 9 #[.string s] w fun e w' => e = .returned (.bool (nameB s)) ∧ Below w.heap.size w w' := by
  have HN2 : Hid (Calls Tryd.prog 18 #[.string s] w fun e w' => e = .returned (.bool (nmB s)) ∧ w' = w) := rname_any s w hs
  have HR : Hid (Calls Tryd.prog 19 #[.string s] w fun e w' => e = .returned (.bool (resB s.toList)) ∧ Below w.heap.size w w') := rres_any s w
  unfold nameB
  generalize nmB s = a at *
  generalize resB s.toList = b at *
  cases a <;> cases b
  all_goals (go_enter Tryd.func9, Tryd.ntmps9)
  all_goals go_wp2_with fail
  all_goals refine HN2.out.mono ?_
  all_goals rintro e w1 ⟨rfl, rfl⟩
  all_goals go_wp2_with fail
  all_goals try (refine HR.out.mono ?_; rintro e w2 ⟨rfl, hb⟩; have HB : Hid (Below w1.heap.size w1 w2) := hb; clear hb; go_wp2)
  all_goals try go_ret
  all_goals first | exact ⟨rfl, HB.out⟩ | exact ⟨rfl, Below.refl _ _⟩
end Go.Proofs.YtcmknjocmpdicaaDoor
