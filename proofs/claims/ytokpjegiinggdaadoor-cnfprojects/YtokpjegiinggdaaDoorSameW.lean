import Derived.Test.YtokpjegiinggdaaDoorRowW
import Derived.Test.YtokpjegiinggdaaDoorUnder
import Derived.Test.YtokpjegiinggdaaDoorTidyA
import Derived.Test.YtokpjegiinggdaaDoorRChk
import Derived.Test.YtokpjegiinggdaaDoorAlike
import Derived.Test.YtokpjegiinggdaaDoorWhole
namespace Go.Proofs.YtokpjegiinggdaaDoor
open Go.ChangeShapes Go.WideShapes Go.ChangeAt Go.RowKit Go.Cn

theorem own_i8 {w : World} {B g n cap : Nat} {ms : List Int} (h : w.ownsRow B 43 1 (.slice (some ⟨g, 0, none⟩) n cap) n (ms.map (Value.int .i8))) (hl : ms.length = n) : I8 w (some ⟨g, 0, none⟩) ms := by
  intro h0
  refine ⟨g, 0, rfl, (h.lt g rfl).2, fun j hj => ?_⟩
  rw [Nat.zero_add, h.cellAt j (by omega), List.getElem?_map, List.getElem?_eq_getElem hj, List.getD_eq_getElem?_getD, List.getElem?_eq_getElem hj]
  rfl
theorem OwnL.clsS {w : World} {B n c : Nat} {ad : Option Addr} {L : List Value} {cs : List (List Int)} (h : OwnL w B (.slice ad n c) L cs) : ClsS w ad cs := by
  intro h0
  rcases h.row.2 with ⟨e, h1⟩ | ⟨g, cap, cur, e, hbg, hg, _⟩
  · omega
  · have hr := h.row
    cases e
    refine ⟨g, 0, rfl, (Array.getElem?_eq_some_iff.1 hg).1, fun j hj => ?_⟩
    obtain ⟨aj, cj, e2, hi⟩ := own_sl (h.each j hj)
    refine ⟨aj, cj, ?_, hi⟩
    rw [Nat.zero_add, hr.cellAt j (by omega), ← e2, List.getD_eq_getElem?_getD, List.getElem?_eq_getElem (by rw [h.len]; exact hj)]
    rfl
end Go.Proofs.YtokpjegiinggdaaDoor
