import Derived.Test.YtlkafgdddlgpcaaDoorLend
import Derived.Test.YtlkafgdddlgpcaaDoorRCount
import Derived.Test.YtlkafgdddlgpcaaDoorWhole
namespace Go.Proofs.YtlkafgdddlgpcaaDoor
open Go.ChangeShapes Go.WideShapes Go.ChangeAt Go.RowKit Go.Cn

theorem LentF.clsS {w : World} {g : Nat} {cs : List (List Int)} (h : LentF w g cs) : ClsS w (some ⟨g, 0, none⟩) cs := by
  intro h0
  obtain ⟨B, G, mk, hO, hE, hmk, hmc⟩ := h.ex
  obtain ⟨b, off, e, hb, hc⟩ := h.cls h0
  cases e
  refine ⟨g, 0, rfl, hb, fun j hj => ?_⟩
  have cg : w.cell? ⟨g, 0 + j, none⟩ = some (.slice (some ⟨G j, 0, none⟩) (cs.getD j []).length ((cs.getD j []).length + 2)) := by
    rw [Nat.zero_add, hO.cellAt j (by omega), List.getElem?_append_left (by rw [lvs_len]; exact hj), lvs_get cs G _ j hj]
    rfl
  exact ⟨_, _, cg, ⟨by omega, (fun e => by cases e), (hE j hj).ints⟩⟩
set_option maxHeartbeats 4000000 in
set_option maxRecDepth 100000 in
theorem counts_walk (vars : Int) (ad : Option Addr) (cs : List (List Int)) (c : Nat) (w : World) (hf : Fm w ad cs) (hlv : LV w) (hlt : LT w) :
    Calls Tryd.prog 6 #[.agg #[.int .i64 vars, .slice ad cs.length c]] w fun e w' => e = .returned (.bool true) ∧ Below w.heap.size w w' := by
  have HF : Hid (Fm w ad cs) := hf
  have HV : Hid (LV w) := hlv
  have HT : Hid (LT w) := hlt
  have HN : Hid (∀ x W, Calls Tryd.prog 11 #[.int .i64 x] W fun e w' => e = .returned (.int .i64 x) ∧ w' = W) := fun x W => no_any x W
  have HB0 : Hid (∀ o, Below w.heap.size w (w.alloc o)) := fun o => (Below.refl _ _).alloc (Nat.le_refl _) o
  clear hf hlv hlt
  go_enter Tryd.func6, Tryd.ntmps6
  go_wp2_with fail
  have y0 : (w.alloc (.cells #[.int .i64 vars, .slice ad cs.length c] 24)).heap[w.heap.size]? = some (.cells #[.int .i64 vars, .slice ad cs.length c] 24 (0, 0)) := heap_alloc_at _ _
  have HBa : Hid (Below w.heap.size w (w.alloc (.cells #[.int .i64 vars, .slice ad cs.length c] 24))) := HB0.out _
  have HSa : Hid ((w.alloc (.cells #[.int .i64 vars, .slice ad cs.length c] 24)).heap.size = w.heap.size + 1) := sz1 _ _
  generalize w.alloc (.cells #[.int .i64 vars, .slice ad cs.length c] 24) = w1 at *
  refine (lend_any vars ad cs c w1 (HF.out.cls.below HBa.out) HF.out.len HF.out.each).mono ?_
  generalize hg : w1.heap.size + 2 = g
  rintro e w2 ⟨rfl, hL, hb2⟩
  have HL2 : Hid (LentF w2 g cs) := hL
  have HB2 : Hid (Below w.heap.size w w2) := below_next HBa.out hb2
  have HF2 : Hid (w2.heap[w.heap.size]? = some (.cells #[.int .i64 vars, .slice ad cs.length c] 24 (0, 0))) := (hb2.block _ (by have := HSa.out; omega)).trans y0
  clear hL hb2 hg y0 HSa HBa
  go_wp2_with fail
  have HBb : Hid (Below w2.heap.size w2 (w2.alloc (.cells #[.int .i64 vars, .slice (some ⟨g, 0, none⟩) cs.length (cs.length + 1)] 24))) := (Below.refl _ _).alloc (Nat.le_refl _) _
  have HG3 : Hid ((w2.alloc (.cells #[.int .i64 vars, .slice (some ⟨g, 0, none⟩) cs.length (cs.length + 1)] 24)).heap[w2.heap.size]? = some (.cells #[.int .i64 vars, .slice (some ⟨g, 0, none⟩) cs.length (cs.length + 1)] 24 (0, 0))) := heap_alloc_at _ _
  have HW3 : Hid (w2.heap.size < (w2.alloc (.cells #[.int .i64 vars, .slice (some ⟨g, 0, none⟩) cs.length (cs.length + 1)] 24)).heap.size ∧ w.heap.size < w2.heap.size) := ⟨by rw [sz1]; omega, by
    have := HF2.out
    by_cases h : w.heap.size < w2.heap.size
    · exact h
    · rw [Array.getElem?_eq_none (by omega)] at this; cases this⟩
  generalize w2.alloc (.cells #[.int .i64 vars, .slice (some ⟨g, 0, none⟩) cs.length (cs.length + 1)] 24) = w3 at *
  have HF3 : Hid (w3.heap[w.heap.size]? = some (.cells #[.int .i64 vars, .slice ad cs.length c] 24 (0, 0))) := (HBb.out.block _ HW3.out.2).trans HF2.out
  have HL3 : Hid (LentF w3 g cs) := HL2.out.below HBb.out
  have HB3 : Hid (Below w.heap.size w w3) := below_next HB2.out HBb.out
  clear HL2 HF2 HB2
  have HA3 : Hid (Calls Tryd.prog 25 #[.agg #[.int .i64 vars, .slice (some ⟨g, 0, none⟩) cs.length (cs.length + 1)]] w3 fun e w' => e = .returned (.tuple #[.int .u64 (cnR vars cs : Nat), .int .i64 (cnE vars cs)]) ∧ Below w3.heap.size w3 w') := count_any vars (some ⟨g, 0, none⟩) cs (cs.length + 1) w3 HL3.out.clsS (by have := HF.out.len; omega) (fun j hj => by have := HF.out.each j hj; omega) (HV.out.below HB3.out) (HT.out.below HB3.out)
  refine HA3.out.mono ?_
  have HR4 : Hid (∀ W, Below w.heap.size w W → Calls Tryd.prog 26 #[.agg #[.int .i64 vars, .slice ad cs.length c]] W fun e w' => e = .returned (.tuple #[.int .u64 (cnR vars cs : Nat), .int .i64 (cnE vars cs)]) ∧ Below W.heap.size W w') := fun W hW => rcount_any vars ad cs c W (HF.out.cls.below hW).cls (by have := HF.out.len; omega) (fun j hj => by have := HF.out.each j hj; omega)
  clear HA3
  rintro e w4 ⟨rfl, hb4⟩
  generalize cnR vars cs = dr at *
  generalize cnE vars cs = de at *
  have HB34 : Hid (Below w3.heap.size w3 w4) := hb4
  have HB4 : Hid (Below w.heap.size w w4) := below_next HB3.out hb4
  clear hb4
  have hFa : w4.heap[w.heap.size]? = some (.cells #[.int .i64 vars, .slice ad cs.length c] 24 (0, 0)) := (HB34.out.block _ (by have := HW3.out; omega)).trans HF3.out
  have HF4 : Hid (w4.heap[w.heap.size]? = some (.cells #[.int .i64 vars, .slice ad cs.length c] 24 (0, 0))) := hFa
  have hG4 : w4.heap[w2.heap.size]? = some (.cells #[.int .i64 vars, .slice (some ⟨g, 0, none⟩) cs.length (cs.length + 1)] 24 (0, 0)) := (HB34.out.block _ (by have := HW3.out; omega)).trans HG3.out
  have HG4 : Hid (w4.heap[w2.heap.size]? = some (.cells #[.int .i64 vars, .slice (some ⟨g, 0, none⟩) cs.length (cs.length + 1)] 24 (0, 0))) := hG4
  have HL4 : Hid (LentF w4 g cs) := HL3.out.below HB34.out
  have hS4 : w2.heap.size < w4.heap.size ∧ w.heap.size < w2.heap.size := ⟨by have := HW3.out; have := HB34.out.size; omega, HW3.out.2⟩
  have t0 : w4.cell? ⟨w.heap.size, 0, none⟩ = some (.int .i64 vars) := blk_cell hFa 0
  have t1 : w4.cell? ⟨w.heap.size, 1, none⟩ = some (.slice ad cs.length c) := blk_cell hFa 1
  clear hFa hG4 HF3 HG3 HL3 HB34 HB3 HW3 HBb
  generalize hn : cs.length = n at *
  go_wp2_with fail
  refine (HR4.out w4 HB4.out).mono ?_
  rintro e w5 ⟨rfl, hb5⟩
  have HB45 : Hid (Below w4.heap.size w4 w5) := hb5
  have HB5 : Hid (Below w.heap.size w w5) := below_next HB4.out hb5
  clear hb5 t0 t1 HR4
  have y4 : w5.heap[w.heap.size]? = some (.cells #[.int .i64 vars, .slice ad n c] 24 (0, 0)) := (HB45.out.block _ (by omega)).trans HF4.out
  have y5 : w5.heap[w2.heap.size]? = some (.cells #[.int .i64 vars, .slice (some ⟨g, 0, none⟩) n (n + 1)] 24 (0, 0)) := (HB45.out.block _ (by omega)).trans HG4.out
  have z0 : w5.cell? ⟨w.heap.size, 0, none⟩ = some (.int .i64 vars) := blk_cell y4 0
  have z1 : w5.cell? ⟨w.heap.size, 1, none⟩ = some (.slice ad n c) := blk_cell y4 1
  have z2 : w5.cell? ⟨w2.heap.size, 0, none⟩ = some (.int .i64 vars) := blk_cell y5 0
  have z3 : w5.cell? ⟨w2.heap.size, 1, none⟩ = some (.slice (some ⟨g, 0, none⟩) n (n + 1)) := blk_cell y5 1
  have HWh : Hid (Calls Tryd.prog 12 #[.agg #[.int .i64 vars, .slice (some ⟨g, 0, none⟩) n (n + 1)], .agg #[.int .i64 vars, .slice ad n c]] w5 fun e w' => e = .returned (.bool true) ∧ Below w5.heap.size w5 w') := by
    have := whole_any vars g ad cs c w5 (HL4.out.below HB45.out) (HF.out.cls.below HB5.out).cls HF.out.len HF.out.each
    rw [hn] at this
    exact this
  clear y4 y5
  go_wp2_with fail
  refine (HN.out _ _).mono ?_
  rintro e w' ⟨rfl, hw⟩
  obtain rfl := hw.symm
  go_wp2_with fail
  refine HWh.out.mono ?_
  rintro e w9 ⟨rfl, hb9⟩
  have HB9 : Hid (Below w.heap.size w w9) := below_next HB5.out hb9
  clear hb9 HWh z0 z1 z2 z3
  have HLv : Hid (Calls Tryd.prog 13 #[] w9 fun e w' => e = .returned (.bool true) ∧ Below w9.heap.size w9 w') := live_any w9 (HV.out.below HB9.out)
  go_wp2_with fail
  refine HLv.out.mono ?_
  rintro e w10 ⟨rfl, hb10⟩
  have HB10 : Hid (Below w.heap.size w w10) := below_next HB9.out hb10
  clear hb10
  go_wp2
  go_ret
  exact ⟨rfl, HB10.out⟩
end Go.Proofs.YtlkafgdddlgpcaaDoor
