import Derived.Test.YtokpjegiinggdaaGreatDoorLend
import Derived.Test.YtokpjegiinggdaaGreatDoorElim10
import Derived.Test.YtokpjegiinggdaaGreatDoorAlike
import Derived.Test.YtokpjegiinggdaaGreatDoorWhole
namespace Go.Proofs.YtokpjegiinggdaaGreatDoor
open Go.ChangeShapes Go.WideShapes Go.ChangeAt Go.RowKit Go.Cn

theorem elE_zero {vars v : Int} {cs : List (List Int)} (h : elE vars cs v = 0) : (ck vars (td (elX v (td cs)))).2 = 0 := by
  unfold elE at h
  split at h
  · next h1 => exact absurd h h1
  · split at h
    · cases h
    · split at h
      · cases h
      · split at h
        · cases h
        · exact h
theorem el_small (vars v : Int) (cs : List (List Int)) : (elC vars cs v).length ≤ 1048576 ∧ ∀ j, j < (elC vars cs v).length → ((elC vars cs v).getD j []).length ≤ 65536 := by
  unfold elC
  split
  · next h0 =>
    have hz := ck_zero (elE_zero h0)
    refine ⟨hz.2.2.1, fun j hj => ?_⟩
    exact (hz.2.2.2.1 _ (by rw [getD_at _ _ _ hj]; exact List.getElem_mem _)).1
  · exact ⟨by simp, fun j hj => absurd hj (by simp)⟩
theorem LentF.clsS {w : World} {g : Nat} {cs : List (List Int)} (h : LentF w g cs) : ClsS w (some ⟨g, 0, none⟩) cs := by
  intro h0
  obtain ⟨B, G, mk, hO, hE, hmk, hmc⟩ := h.ex
  obtain ⟨b, off, e, hb, hc⟩ := h.cls h0
  cases e
  refine ⟨g, 0, rfl, hb, fun j hj => ?_⟩
  have cg : w.cell? ⟨g, 0 + j, none⟩ = some (.slice (some ⟨G j, 0, none⟩) (cs.getD j []).length ((cs.getD j []).length + 2)) := by
    rw [Nat.zero_add, hO.cellAt j (by omega), List.getElem?_append_left (by rw [lvs_len]; exact hj), lvs_get cs G _ j hj]
    rfl
  exact ⟨_, _, cg, ⟨by omega, (fun e => by cases e), (hE j hj).ints⟩⟩
set_option maxHeartbeats 4000000 in
set_option maxRecDepth 100000 in
theorem elims_walk (vars v : Int) (ad : Option Addr) (cs : List (List Int)) (c : Nat) (w : World) (hf : Fm w ad cs) (hv0 : -9223372036854775808 ≤ v) (hv1 : v ≤ 9223372036854775807) (hlv : LV w) :
    Calls Tryz.prog 3 #[.agg #[.int .i64 vars, .slice ad cs.length c], .int .i64 v] w fun e w' => e = .returned (.bool true) ∧ Below w.heap.size w w' := by
  have HF : Hid (Fm w ad cs) := hf
  have HV : Hid (LV w) := hlv
  have HN : Hid (∀ x W, Calls Tryz.prog 7 #[.int .i64 x] W fun e w' => e = .returned (.int .i64 x) ∧ w' = W) := fun x W => no_any x W
  have HB0 : Hid (∀ o, Below w.heap.size w (w.alloc o)) := fun o => (Below.refl _ _).alloc (Nat.le_refl _) o
  clear hf hlv
  go_enter Tryz.func3, Tryz.ntmps3
  go_wp2_with fail
  have y0 : (w.alloc (.cells #[.int .i64 vars, .slice ad cs.length c] 24)).heap[w.heap.size]? = some (.cells #[.int .i64 vars, .slice ad cs.length c] 24 (0, 0)) := heap_alloc_at _ _
  have HBa : Hid (Below w.heap.size w (w.alloc (.cells #[.int .i64 vars, .slice ad cs.length c] 24))) := HB0.out _
  have HSa : Hid ((w.alloc (.cells #[.int .i64 vars, .slice ad cs.length c] 24)).heap.size = w.heap.size + 1) := sz1 _ _
  generalize w.alloc (.cells #[.int .i64 vars, .slice ad cs.length c] 24) = w1 at *
  refine (lend_any vars ad cs c w1 (HF.out.cls.below HBa.out) HF.out.len HF.out.each).mono ?_
  generalize hg : w1.heap.size + 2 = g
  rintro e w2 ⟨rfl, hL, hb2⟩
  have HL2 : Hid (LentF w2 g cs) := hL
  have HB2 : Hid (Below w.heap.size w w2) := below_next HBa.out hb2
  have HF2 : Hid (w2.heap[w.heap.size]? = some (.cells #[.int .i64 vars, .slice ad cs.length c] 24 (0, 0))) := (hb2.block _ (by have := HSa.out; omega)).trans y0
  clear hL hb2 hg y0 HSa HBa
  go_wp2_with fail
  have HBb : Hid (Below w2.heap.size w2 (w2.alloc (.cells #[.int .i64 vars, .slice (some ⟨g, 0, none⟩) cs.length (cs.length + 1)] 24))) := (Below.refl _ _).alloc (Nat.le_refl _) _
  have HG3 : Hid ((w2.alloc (.cells #[.int .i64 vars, .slice (some ⟨g, 0, none⟩) cs.length (cs.length + 1)] 24)).heap[w2.heap.size]? = some (.cells #[.int .i64 vars, .slice (some ⟨g, 0, none⟩) cs.length (cs.length + 1)] 24 (0, 0))) := heap_alloc_at _ _
  have HW3 : Hid (w2.heap.size < (w2.alloc (.cells #[.int .i64 vars, .slice (some ⟨g, 0, none⟩) cs.length (cs.length + 1)] 24)).heap.size ∧ w.heap.size < w2.heap.size) := ⟨by rw [sz1]; omega, by
    have := HF2.out
    by_cases h : w.heap.size < w2.heap.size
    · exact h
    · rw [Array.getElem?_eq_none (by omega)] at this; cases this⟩
  generalize w2.alloc (.cells #[.int .i64 vars, .slice (some ⟨g, 0, none⟩) cs.length (cs.length + 1)] 24) = w3 at *
  have HF3 : Hid (w3.heap[w.heap.size]? = some (.cells #[.int .i64 vars, .slice ad cs.length c] 24 (0, 0))) := (HBb.out.block _ HW3.out.2).trans HF2.out
  have HL3 : Hid (LentF w3 g cs) := HL2.out.below HBb.out
  have HB3 : Hid (Below w.heap.size w w3) := below_next HB2.out HBb.out
  clear HL2 HF2 HB2
  have HA3 : Hid (Calls Tryz.prog 5 #[.agg #[.int .i64 vars, .slice (some ⟨g, 0, none⟩) cs.length (cs.length + 1)], .int .i64 v] w3 (ElPost vars cs v w3)) := elim_any vars v (some ⟨g, 0, none⟩) cs (cs.length + 1) w3 HL3.out.clsS (by have := HF.out.len; omega) (fun j hj => by have := HF.out.each j hj; omega) (HV.out.below HB3.out) hv0 hv1
  refine HA3.out.mono ?_
  have HR4 : Hid (∀ W, Below w.heap.size w W → Calls Tryz.prog 6 #[.agg #[.int .i64 vars, .slice ad cs.length c], .int .i64 v] W (ElPost vars cs v W)) := fun W hW => relim_any vars v ad cs c W (HF.out.cls.below hW).cls (by have := HF.out.len; omega) (fun j hj => by have := HF.out.each j hj; omega) hv0 hv1
  have HLe : Hid ((elC vars cs v).length ≤ 1048576 ∧ ∀ j, j < (elC vars cs v).length → ((elC vars cs v).getD j []).length ≤ 65536) := el_small vars v cs
  clear HA3
  rintro e w4 ⟨v4, L4, rfl, hO4, hb4⟩
  obtain ⟨ad4, cap4, rfl⟩ := own_shapeC hO4.row
  unfold ElPost at HR4
  generalize elC vars cs v = D at *
  generalize elV vars cs v = dv at *
  generalize elE vars cs v = de at *
  have HO4 : Hid (OwnL w4 w3.heap.size (.slice ad4 D.length cap4) L4 D) := hO4
  have HB34 : Hid (Below w3.heap.size w3 w4) := hb4
  have HB4 : Hid (Below w.heap.size w w4) := below_next HB3.out hb4
  clear hb4 hO4
  have hFa : w4.heap[w.heap.size]? = some (.cells #[.int .i64 vars, .slice ad cs.length c] 24 (0, 0)) := (HB34.out.block _ (by have := HW3.out; omega)).trans HF3.out
  have HF4 : Hid (w4.heap[w.heap.size]? = some (.cells #[.int .i64 vars, .slice ad cs.length c] 24 (0, 0))) := hFa
  have hG4 : w4.heap[w2.heap.size]? = some (.cells #[.int .i64 vars, .slice (some ⟨g, 0, none⟩) cs.length (cs.length + 1)] 24 (0, 0)) := (HB34.out.block _ (by have := HW3.out; omega)).trans HG3.out
  have HG4 : Hid (w4.heap[w2.heap.size]? = some (.cells #[.int .i64 vars, .slice (some ⟨g, 0, none⟩) cs.length (cs.length + 1)] 24 (0, 0))) := hG4
  have HL4 : Hid (LentF w4 g cs) := HL3.out.below HB34.out
  have hS4 : w2.heap.size < w4.heap.size ∧ w.heap.size < w2.heap.size := ⟨by have := HW3.out; have := HB34.out.size; omega, HW3.out.2⟩
  have t0 : ∀ o, (w4.alloc o).cell? ⟨w.heap.size, 0, none⟩ = some (.int .i64 vars) := fun o => blk_cell ((Below.heap_alloc _ _ _ (by omega)).trans hFa) 0
  have t1 : ∀ o, (w4.alloc o).cell? ⟨w.heap.size, 1, none⟩ = some (.slice ad cs.length c) := fun o => blk_cell ((Below.heap_alloc _ _ _ (by omega)).trans hFa) 1
  clear hFa hG4 HF3 HG3 HL3 HB34 HB3 HW3 HBb
  have HBo : Hid (∀ o, Below w4.heap.size w4 (w4.alloc o)) := fun o => (Below.refl _ _).alloc (Nat.le_refl _) o
  generalize hn : cs.length = n at *
  generalize hq : D.length = q at *
  go_wp2_with fail
  have HG5 : Hid ((w4.alloc (.cells #[.int .i64 dv, .slice ad4 q cap4] 24)).heap[w4.heap.size]? = some (.cells #[.int .i64 dv, .slice ad4 q cap4] 24 (0, 0))) := heap_alloc_at _ _
  have HB45 : Hid (Below w4.heap.size w4 (w4.alloc (.cells #[.int .i64 dv, .slice ad4 q cap4] 24))) := HBo.out _
  have hS5 : (w4.alloc (.cells #[.int .i64 dv, .slice ad4 q cap4] 24)).heap.size = w4.heap.size + 1 := sz1 _ _
  have HS5 : Hid ((w4.alloc (.cells #[.int .i64 dv, .slice ad4 q cap4] 24)).heap.size = w4.heap.size + 1) := hS5
  clear t0 t1 hS5
  generalize w4.alloc (.cells #[.int .i64 dv, .slice ad4 q cap4] 24) = w5 at *
  refine (HR4.out w5 (below_next HB4.out HB45.out)).mono ?_
  rintro e w6 ⟨v6, L6, rfl, hO6, hb6⟩
  have hO6' := hO6.row
  rw [hq] at hO6'
  obtain ⟨ad6, cap6, rfl⟩ := own_shapeC hO6'
  have HO6 : Hid (OwnL w6 w5.heap.size (.slice ad6 q cap6) L6 D) := hO6
  have HB46 : Hid (Below w4.heap.size w4 w6) := below_next HB45.out hb6
  have HG6 : Hid (w6.heap[w4.heap.size]? = some (.cells #[.int .i64 dv, .slice ad4 q cap4] 24 (0, 0))) := (hb6.block _ (by have := HS5.out; omega)).trans HG5.out
  have hS6 : w4.heap.size < w6.heap.size := by have := hb6.size; have := HS5.out; omega
  have u0 : ∀ o, (w6.alloc o).cell? ⟨w4.heap.size, 0, none⟩ = some (.int .i64 dv) := fun o => blk_cell ((Below.heap_alloc _ _ _ hS6).trans HG6.out) 0
  have u1 : ∀ o, (w6.alloc o).cell? ⟨w4.heap.size, 1, none⟩ = some (.slice ad4 q cap4) := fun o => blk_cell ((Below.heap_alloc _ _ _ hS6).trans HG6.out) 1
  have HAl : Hid (∀ o, Calls Tryz.prog 8 #[.agg #[.int .i64 dv, .slice ad4 q cap4], .agg #[.int .i64 dv, .slice ad6 q cap6]] (w6.alloc o) fun e w' => e = .returned (.bool true) ∧ Below (w6.alloc o).heap.size (w6.alloc o) w') := fun o => by
    have hbo : Below w6.heap.size w6 (w6.alloc o) := (Below.refl _ _).alloc (Nat.le_refl _) _
    have := alike_any dv ad4 ad6 D cap4 cap6 (w6.alloc o) ((HO4.out.cls.below HB46.out).below hbo) (HO6.out.cls.below hbo) (by have := HLe.out.1; omega) (fun j hj => by have := HLe.out.2 j (by rw [← hq]; exact hj); omega)
    rw [hq] at this
    exact this
  have HBo6 : Hid (∀ o, Below w6.heap.size w6 (w6.alloc o)) := fun o => (Below.refl _ _).alloc (Nat.le_refl _) o
  clear hO6 hO6' hb6 HG5 HB45 HS5 HR4
  go_wp2_with fail
  refine (HN.out _ _).mono ?_
  rintro e w' ⟨rfl, hw⟩
  obtain rfl := hw.symm
  go_wp2_with fail
  refine (HAl.out _).mono ?_
  rintro e w8 ⟨rfl, hb8⟩
  have HB48 : Hid (Below w4.heap.size w4 w8) := below_next HB46.out (below_next (HBo6.out _) hb8)
  have HB8 : Hid (Below w.heap.size w w8) := below_next HB4.out HB48.out
  have y4 : w8.heap[w.heap.size]? = some (.cells #[.int .i64 vars, .slice ad n c] 24 (0, 0)) := (HB48.out.block _ (by omega)).trans HF4.out
  have y5 : w8.heap[w2.heap.size]? = some (.cells #[.int .i64 vars, .slice (some ⟨g, 0, none⟩) n (n + 1)] 24 (0, 0)) := (HB48.out.block _ (by omega)).trans HG4.out
  have z0 : w8.cell? ⟨w.heap.size, 0, none⟩ = some (.int .i64 vars) := blk_cell y4 0
  have z1 : w8.cell? ⟨w.heap.size, 1, none⟩ = some (.slice ad n c) := blk_cell y4 1
  have z2 : w8.cell? ⟨w2.heap.size, 0, none⟩ = some (.int .i64 vars) := blk_cell y5 0
  have z3 : w8.cell? ⟨w2.heap.size, 1, none⟩ = some (.slice (some ⟨g, 0, none⟩) n (n + 1)) := blk_cell y5 1
  have HWh : Hid (Calls Tryz.prog 9 #[.agg #[.int .i64 vars, .slice (some ⟨g, 0, none⟩) n (n + 1)], .agg #[.int .i64 vars, .slice ad n c]] w8 fun e w' => e = .returned (.bool true) ∧ Below w8.heap.size w8 w') := by
    have := whole_any vars g ad cs c w8 (HL4.out.below HB48.out) (HF.out.cls.below HB8.out).cls HF.out.len HF.out.each
    rw [hn] at this
    exact this
  clear y4 y5 hb8 u0 u1
  go_wp2_with fail
  refine HWh.out.mono ?_
  rintro e w9 ⟨rfl, hb9⟩
  have HB9 : Hid (Below w.heap.size w w9) := below_next HB8.out hb9
  clear hb9 HWh z0 z1 z2 z3
  have HLv : Hid (Calls Tryz.prog 10 #[] w9 fun e w' => e = .returned (.bool true) ∧ Below w9.heap.size w9 w') := live_any w9 (HV.out.below HB9.out)
  go_wp2_with fail
  refine HLv.out.mono ?_
  rintro e w10 ⟨rfl, hb10⟩
  have HB10 : Hid (Below w.heap.size w w10) := below_next HB9.out hb10
  clear hb10
  go_wp2
  go_ret
  exact ⟨rfl, HB10.out⟩
end Go.Proofs.YtokpjegiinggdaaGreatDoor
