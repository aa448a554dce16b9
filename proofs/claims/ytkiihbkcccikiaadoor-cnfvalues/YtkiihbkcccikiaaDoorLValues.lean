import Derived.Test.YtkiihbkcccikiaaDoorLend
import Derived.Test.YtkiihbkcccikiaaDoorRUnder
import Derived.Test.YtkiihbkcccikiaaDoorWhole
namespace Go.Proofs.YtkiihbkcccikiaaDoor
open Go.ChangeShapes Go.WideShapes Go.ChangeAt Go.RowKit Go.Cn

set_option maxHeartbeats 4000000 in
set_option maxRecDepth 100000 in
theorem values_walk (vars : Int) (ad bd ed : Option Addr) (cs : List (List Int)) (xs ms : List Int) (c d dd : Nat) (l : Int) (w : World) (hf : Fm w ad cs) (hs : Sl w ed dd xs) (hxl : xs.length ≤ 17592186044416) (hm : I8 w bd ms) (hml : ms.length ≤ 140737488355328) (hlv : LV w) :
    Calls Tryd.prog 5 #[.agg #[.int .i64 vars, .slice ad cs.length c], .slice ed xs.length dd, .int .i64 l, .slice bd ms.length d] w fun e w' => e = .returned (.bool true) ∧ Below w.heap.size w w' := by
  have HF : Hid (Fm w ad cs) := hf
  have HV : Hid (LV w) := hlv
  have HX : Hid (Ints w ed xs) := hs.ints
  have HM : Hid (I8 w bd ms) := hm
  have HN : Hid (∀ x W, Calls Tryd.prog 12 #[.int .i64 x] W fun e w' => e = .returned (.int .i64 x) ∧ w' = W) := fun x W => no_any x W
  have HB0 : Hid (∀ o, Below w.heap.size w (w.alloc o)) := fun o => (Below.refl _ _).alloc (Nat.le_refl _) o
  clear hf hlv hm hs
  go_enter Tryd.func5, Tryd.ntmps5
  go_wp2_with fail
  have y0 : (w.alloc (.cells #[.int .i64 vars, .slice ad cs.length c] 37)).heap[w.heap.size]? = some (.cells #[.int .i64 vars, .slice ad cs.length c] 37 (0, 0)) := heap_alloc_at _ _
  have HBa : Hid (Below w.heap.size w (w.alloc (.cells #[.int .i64 vars, .slice ad cs.length c] 37))) := HB0.out _
  have HSa : Hid ((w.alloc (.cells #[.int .i64 vars, .slice ad cs.length c] 37)).heap.size = w.heap.size + 1) := sz1 _ _
  generalize w.alloc (.cells #[.int .i64 vars, .slice ad cs.length c] 37) = w1 at *
  refine (lend_any vars ad cs c w1 (HF.out.cls.below HBa.out) HF.out.len HF.out.each).mono ?_
  generalize hg : w1.heap.size + 2 = g
  rintro e w2 ⟨rfl, hL, hb2⟩
  have HL2 : Hid (LentF w2 g cs) := hL
  have HB2 : Hid (Below w.heap.size w w2) := below_next HBa.out hb2
  have HF2 : Hid (w2.heap[w.heap.size]? = some (.cells #[.int .i64 vars, .slice ad cs.length c] 37 (0, 0))) := (hb2.block _ (by have := HSa.out; omega)).trans y0
  clear hL hb2 hg y0 HSa HBa
  go_wp2_with fail
  have HBb : Hid (Below w2.heap.size w2 (w2.alloc (.cells #[.int .i64 vars, .slice (some ⟨g, 0, none⟩) cs.length (cs.length + 1)] 37))) := (Below.refl _ _).alloc (Nat.le_refl _) _
  have HG3 : Hid ((w2.alloc (.cells #[.int .i64 vars, .slice (some ⟨g, 0, none⟩) cs.length (cs.length + 1)] 37)).heap[w2.heap.size]? = some (.cells #[.int .i64 vars, .slice (some ⟨g, 0, none⟩) cs.length (cs.length + 1)] 37 (0, 0))) := heap_alloc_at _ _
  have HW3 : Hid (w2.heap.size < (w2.alloc (.cells #[.int .i64 vars, .slice (some ⟨g, 0, none⟩) cs.length (cs.length + 1)] 37)).heap.size ∧ w.heap.size < w2.heap.size) := ⟨by rw [sz1]; omega, by
    have := HF2.out
    by_cases h : w.heap.size < w2.heap.size
    · exact h
    · rw [Array.getElem?_eq_none (by omega)] at this; cases this⟩
  generalize w2.alloc (.cells #[.int .i64 vars, .slice (some ⟨g, 0, none⟩) cs.length (cs.length + 1)] 37) = w3 at *
  have HF3 : Hid (w3.heap[w.heap.size]? = some (.cells #[.int .i64 vars, .slice ad cs.length c] 37 (0, 0))) := (HBb.out.block _ HW3.out.2).trans HF2.out
  have HL3 : Hid (LentF w3 g cs) := HL2.out.below HBb.out
  have HB3 : Hid (Below w.heap.size w w3) := below_next HB2.out HBb.out
  clear HL2 HF2 HB2
  refine (under_any vars (some ⟨g, 0, none⟩) bd cs ms (cs.length + 1) d w3 HL3.out.cls (HM.out.below HB3.out) (by have := HF.out.len; omega) (fun j hj => by have := HF.out.each j hj; omega) (by omega)).mono ?_
  generalize hR : un vars cs ms = R
  rintro e w4 ⟨rfl, hb4⟩
  have HB34 : Hid (Below w3.heap.size w3 w4) := hb4
  have HB4 : Hid (Below w.heap.size w w4) := below_next HB3.out hb4
  have y4 : w4.heap[w.heap.size]? = some (.cells #[.int .i64 vars, .slice ad cs.length c] 37 (0, 0)) := (hb4.block _ (by have := HW3.out; omega)).trans HF3.out
  have z0 : w4.cell? ⟨w.heap.size, 0, none⟩ = some (.int .i64 vars) := blk_cell y4 0
  have z1 : w4.cell? ⟨w.heap.size, 1, none⟩ = some (.slice ad cs.length c) := blk_cell y4 1
  clear hb4 y4
  go_wp2_with fail
  refine (runder_any vars ad bd cs ms c d w4 (HF.out.cls.below HB4.out).cls (HM.out.below HB4.out) (by have := HF.out.len; omega) (fun j hj => by have := HF.out.each j hj; omega) (by omega)).mono ?_
  rw [hR]
  rintro e w5 ⟨rfl, hb5⟩
  have HB35 : Hid (Below w3.heap.size w3 w5) := below_next HB34.out hb5
  have HB5 : Hid (Below w.heap.size w w5) := below_next HB4.out hb5
  clear z0 z1 hb5 HB34 HB4
  have y4 : w5.heap[w.heap.size]? = some (.cells #[.int .i64 vars, .slice ad cs.length c] 37 (0, 0)) := (HB35.out.block _ (by have := HW3.out; omega)).trans HF3.out
  have y5 : w5.heap[w2.heap.size]? = some (.cells #[.int .i64 vars, .slice (some ⟨g, 0, none⟩) cs.length (cs.length + 1)] 37 (0, 0)) := (HB35.out.block _ (by have := HW3.out; omega)).trans HG3.out
  have z0 : w5.cell? ⟨w.heap.size, 0, none⟩ = some (.int .i64 vars) := blk_cell y4 0
  have z1 : w5.cell? ⟨w.heap.size, 1, none⟩ = some (.slice ad cs.length c) := blk_cell y4 1
  have z2 : w5.cell? ⟨w2.heap.size, 0, none⟩ = some (.int .i64 vars) := blk_cell y5 0
  have z3 : w5.cell? ⟨w2.heap.size, 1, none⟩ = some (.slice (some ⟨g, 0, none⟩) cs.length (cs.length + 1)) := blk_cell y5 1
  clear y4 y5
  have HWh : Hid (Calls Tryd.prog 21 #[.agg #[.int .i64 vars, .slice (some ⟨g, 0, none⟩) cs.length (cs.length + 1)], .agg #[.int .i64 vars, .slice ad cs.length c]] w5 fun e w' => e = .returned (.bool true) ∧ Below w5.heap.size w5 w') := whole_any vars g ad cs c w5 (HL3.out.below HB35.out) (HF.out.cls.below HB5.out).cls HF.out.len HF.out.each
  have HO1 : Hid (Calls Tryd.prog 24 #[.slice bd ms.length d, .int .i64 l] w5 fun e w' => e = .returned (.int .i8 (ofB ms l)) ∧ w' = w5) := of_any bd ms d l w5 (HM.out.below HB5.out) (by omega)
  have HO2 : Hid (Calls Tryd.prog 25 #[.slice bd ms.length d, .int .i64 l] w5 fun e w' => e = .returned (.int .i8 (ofB ms l)) ∧ w' = w5) := rof_any bd ms d l w5 (HM.out.below HB5.out) (by omega)
  have HV1 : Hid (Calls Tryd.prog 26 #[.slice ed xs.length dd, .slice bd ms.length d] w5 fun e w' => e = .returned (.int .i8 (val ms xs)) ∧ w' = w5) := value_any ed bd xs ms dd d w5 (HX.out.below HB5.out) (HM.out.below HB5.out) (by omega) (by omega)
  have HV2 : Hid (Calls Tryd.prog 27 #[.slice ed xs.length dd, .slice bd ms.length d] w5 fun e w' => e = .returned (.int .i8 (val ms xs)) ∧ w' = w5) := rvalue_any ed bd xs ms dd d w5 (HX.out.below HB5.out) (HM.out.below HB5.out) (by omega) (by omega)
  clear hR
  obtain ⟨r1, r2, r3⟩ := R
  generalize ofB ms l = oo at *
  generalize val ms xs = vv at *
  generalize cs.length = n at *
  generalize ms.length = qm at *
  generalize xs.length = qx at *
  go_wp2_with fail
  refine (HN.out _ _).mono ?_
  rintro e w' ⟨rfl, hw⟩
  obtain rfl := hw.symm
  go_wp2_with fail
  refine HO1.out.mono ?_
  rintro e w' ⟨rfl, hw⟩
  obtain rfl := hw.symm
  go_wp2_with fail
  refine HO2.out.mono ?_
  rintro e w' ⟨rfl, hw⟩
  obtain rfl := hw.symm
  go_wp2_with fail
  refine HV1.out.mono ?_
  rintro e w' ⟨rfl, hw⟩
  obtain rfl := hw.symm
  go_wp2_with fail
  refine HV2.out.mono ?_
  rintro e w' ⟨rfl, hw⟩
  obtain rfl := hw.symm
  go_wp2_with fail
  refine HWh.out.mono ?_
  rintro e w6 ⟨rfl, hb6⟩
  have HB6 : Hid (Below w.heap.size w w6) := below_next HB5.out hb6
  clear hb6 HWh
  have HLv : Hid (Calls Tryd.prog 17 #[] w6 fun e w' => e = .returned (.bool true) ∧ Below w6.heap.size w6 w') := live_any w6 (HV.out.below HB6.out)
  go_wp2_with fail
  refine HLv.out.mono ?_
  rintro e w7 ⟨rfl, hb7⟩
  have HB7 : Hid (Below w.heap.size w w7) := below_next HB6.out hb7
  clear hb7
  go_wp2
  go_ret
  exact ⟨rfl, HB7.out⟩
end Go.Proofs.YtkiihbkcccikiaaDoor
