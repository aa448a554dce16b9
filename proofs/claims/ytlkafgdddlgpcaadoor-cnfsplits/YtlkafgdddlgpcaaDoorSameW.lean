import Derived.Test.YtlkafgdddlgpcaaDoorRowW
import Derived.Test.YtlkafgdddlgpcaaDoorUnder
import Derived.Test.YtlkafgdddlgpcaaDoorTidyA
import Derived.Test.YtlkafgdddlgpcaaDoorRChk
import Derived.Test.YtlkafgdddlgpcaaDoorAlike
import Derived.Test.YtlkafgdddlgpcaaDoorWhole
namespace Go.Proofs.YtlkafgdddlgpcaaDoor
open Go.ChangeShapes Go.WideShapes Go.ChangeAt Go.RowKit Go.Cn

theorem own_i8 {w : World} {B g n cap : Nat} {ms : List Int} (h : w.ownsRow B 41 1 (.slice (some ⟨g, 0, none⟩) n cap) n (ms.map (Value.int .i8))) (hl : ms.length = n) : I8 w (some ⟨g, 0, none⟩) ms := by
  intro h0
  refine ⟨g, 0, rfl, (h.lt g rfl).2, fun j hj => ?_⟩
  rw [Nat.zero_add, h.cellAt j (by omega), List.getElem?_map, List.getElem?_eq_getElem hj, List.getD_eq_getElem?_getD, List.getElem?_eq_getElem hj]
  rfl
theorem OwnL.clsS {w : World} {B n c : Nat} {ad : Option Addr} {L : List Value} {cs : List (List Int)} (h : OwnL w B (.slice ad n c) L cs) : ClsS w ad cs := by
  intro h0
  rcases h.row.2 with ⟨e, h1⟩ | ⟨g, cap, cur, e, hbg, hg, _⟩
  · omega
  · have hr := h.row
    cases e
    refine ⟨g, 0, rfl, (Array.getElem?_eq_some_iff.1 hg).1, fun j hj => ?_⟩
    obtain ⟨aj, cj, e2, hi⟩ := own_sl (h.each j hj)
    refine ⟨aj, cj, ?_, hi⟩
    rw [Nat.zero_add, hr.cellAt j (by omega), ← e2, List.getD_eq_getElem?_getD, List.getElem?_eq_getElem (by rw [h.len]; exact hj)]
    rfl
set_option maxHeartbeats 4000000 in
set_option maxRecDepth 100000 in
theorem may_any (vars most : Int) (ad : Option Addr) (cs : List (List Int)) (c : Nat) (w : World) (h : Cls w ad cs) (hl : cs.length ≤ 1000000000000000000) (hcl : ∀ j, j < cs.length → (cs.getD j []).length ≤ 1000000000000000000) :
    Calls Tryd.prog 15 #[.agg #[.int .i64 vars, .slice ad cs.length c], .int .i64 most] w fun e w' => e = .returned (.bool (decide ((ck vars cs).2 = 0) && decide (vars ≤ most))) ∧ Below w.heap.size w w' := by
  have HB0 : Aside (∀ o, Below w.heap.size w (w.alloc o)) := fun o => (Below.refl _ _).alloc (Nat.le_refl _) o
  have HC : Hid (∀ W, Below w.heap.size w W → Calls Tryd.prog 33 #[.agg #[.int .i64 vars, .slice ad cs.length c]] W fun e w' => e = .returned (.tuple #[.int .i64 (ck vars cs).1, .int .i64 (ck vars cs).2]) ∧ Below W.heap.size W w') := fun W hW => rcheck_any vars ad cs c W (h.below hW) hl hcl
  clear h hl hcl
  generalize (ck vars cs).1 = r1 at *
  generalize (ck vars cs).2 = r2 at *
  generalize cs.length = n at *
  generalize hR : (decide (r2 = 0) && decide (vars ≤ most)) = R
  have HR : Hid ((decide (r2 = 0) && decide (vars ≤ most)) = R) := hR
  clear hR
  go_enter Tryd.func15, Tryd.ntmps15
  go_wp2_with fail
  have y0 : (w.alloc (.cells #[.int .i64 vars, .slice ad n c] 24)).heap[w.heap.size]? = some (.cells #[.int .i64 vars, .slice ad n c] 24 (0, 0)) := heap_alloc_at _ _
  have HBa : Hid (Below w.heap.size w (w.alloc (.cells #[.int .i64 vars, .slice ad n c] 24))) := HB0.out _
  have HSa : Hid ((w.alloc (.cells #[.int .i64 vars, .slice ad n c] 24)).heap.size = w.heap.size + 1) := sz1 _ _
  generalize w.alloc (.cells #[.int .i64 vars, .slice ad n c] 24) = w1 at *
  refine (HC.out w1 HBa.out).mono ?_
  rintro e w2 ⟨rfl, hb2⟩
  have HB2 : Hid (Below w.heap.size w w2) := below_next HBa.out hb2
  have y1 : w2.heap[w.heap.size]? = some (.cells #[.int .i64 vars, .slice ad n c] 24 (0, 0)) := (hb2.block _ (by have := HSa.out; omega)).trans y0
  have z0 : w2.cell? ⟨w.heap.size, 0, none⟩ = some (.int .i64 vars) := blk_cell y1 0
  clear y0 y1 hb2 HSa HBa HB0 HC
  by_cases e0 : r2 = 0
  · by_cases e1 : vars ≤ most
    · have HR2 : Hid (R = true) := by have := HR.out; rw [decide_eq_true e0, decide_eq_true e1] at this; exact this.symm
      clear HR
      subst e0
      go_wp2
      go_ret
      exact ⟨by rw [HR2.out]; rfl, HB2.out⟩
    · have HR2 : Hid (R = false) := by have := HR.out; rw [decide_eq_true e0, decide_eq_false e1] at this; exact this.symm
      clear HR
      subst e0
      go_wp2
      go_ret
      exact ⟨by rw [HR2.out]; show Ending.returned (.bool (decide (vars ≤ most))) = _; rw [decide_eq_false (by omega)], HB2.out⟩
  · have HR2 : Hid (R = false) := by have := HR.out; rw [decide_eq_false e0] at this; exact this.symm
    clear HR
    have e2 : (r2 == 0) = false := by simpa using e0
    go_wp2
    go_ret
    exact ⟨by rw [HR2.out]; rfl, HB2.out⟩
end Go.Proofs.YtlkafgdddlgpcaaDoor
