import Derived.Test.YtlkafgdddlgpcaaDoorSameW
import Derived.Test.YtlkafgdddlgpcaaDoorLive
namespace Go.Proofs.YtlkafgdddlgpcaaDoor
open Go.ChangeShapes Go.WideShapes Go.ChangeAt Go.RowKit Go.Cn

set_option maxHeartbeats 4000000 in
set_option maxRecDepth 100000 in
theorem same_walk (vars bits : Int) (ad : Option Addr) (cs : List (List Int)) (c : Nat) (w : World) (hf : Fm w ad cs) (hlv : LV w) :
    Calls Tryd.prog 4 #[.agg #[.int .i64 vars, .slice ad cs.length c], .int .u64 bits] w fun e w' => e = .returned (.bool true) ∧ Below w.heap.size w w' := by
  have HF : Hid (Fm w ad cs) := hf
  have HV : Hid (LV w) := hlv
  have HN : Hid (∀ x W, Calls Tryd.prog 11 #[.int .i64 x] W fun e w' => e = .returned (.int .i64 x) ∧ w' = W) := fun x W => no_any x W
  have HB0 : Hid (∀ o, Below w.heap.size w (w.alloc o)) := fun o => (Below.refl _ _).alloc (Nat.le_refl _) o
  have HLv : Hid (∀ W, Below w.heap.size w W → Calls Tryd.prog 13 #[] W fun e w' => e = .returned (.bool true) ∧ Below W.heap.size W w') := fun W hW => live_any W (hlv.below hW)
  have HTd : Hid (∀ W, Below w.heap.size w W → Calls Tryd.prog 14 #[.agg #[.int .i64 vars, .slice ad cs.length c]] W (TdPost vars cs W)) := fun W hW => tidy_any vars ad cs c W (hf.cls.below hW) (by have := hf.len; omega) (fun j hj => by have := hf.each j hj; omega) (hlv.below hW)
  have HMy : Hid (∀ W, Below w.heap.size w W → Calls Tryd.prog 15 #[.agg #[.int .i64 vars, .slice ad cs.length c], .int .i64 vars] W fun e w' => e = .returned (.bool (decide ((ck vars cs).2 = 0) && decide (vars ≤ vars))) ∧ Below W.heap.size W w') := fun W hW => may_any vars vars ad cs c W (hf.cls.below hW).cls (by have := hf.len; omega) (fun j hj => by have := hf.each j hj; omega)
  clear hf hlv
  by_cases h0 : (ck vars cs).2 = 0
  rotate_left
  · have HP : Hid (tdC vars cs = [] ∧ tdV vars cs = 0) := ⟨by unfold tdC; rw [if_neg h0], by unfold tdV; rw [if_neg h0]⟩
    unfold TdPost at HTd
    rw [HP.out.1, HP.out.2] at HTd
    rw [decide_eq_false h0] at HMy
    generalize (ck vars cs).2 = r2 at *
    have e1 : (r2 != 0) = true := by simpa using h0
    generalize cs.length = n at *
    go_enter Tryd.func4, Tryd.ntmps4
    go_wp2_with fail
    have y0 : (w.alloc (.cells #[.int .i64 vars, .slice ad n c] 24)).heap[w.heap.size]? = some (.cells #[.int .i64 vars, .slice ad n c] 24 (0, 0)) := heap_alloc_at _ _
    have HBa : Hid (Below w.heap.size w (w.alloc (.cells #[.int .i64 vars, .slice ad n c] 24))) := HB0.out _
    have HSa : Hid ((w.alloc (.cells #[.int .i64 vars, .slice ad n c] 24)).heap.size = w.heap.size + 1) := sz1 _ _
    generalize w.alloc (.cells #[.int .i64 vars, .slice ad n c] 24) = w1 at *
    refine (HLv.out w1 HBa.out).mono ?_
    rintro e w2 ⟨rfl, hb2⟩
    have HB2 : Hid (Below w.heap.size w w2) := below_next HBa.out hb2
    have y1 : w2.heap[w.heap.size]? = some (.cells #[.int .i64 vars, .slice ad n c] 24 (0, 0)) := (hb2.block _ (by have := HSa.out; omega)).trans y0
    have HS2 : Hid (w.heap.size < w2.heap.size) := by have := hb2.size; have := HSa.out; show _ < _; omega
    have z0 : w2.cell? ⟨w.heap.size, 0, none⟩ = some (.int .i64 vars) := blk_cell y1 0
    have z1 : w2.cell? ⟨w.heap.size, 1, none⟩ = some (.slice ad n c) := blk_cell y1 1
    have HY1 : Hid (w2.heap[w.heap.size]? = some (.cells #[.int .i64 vars, .slice ad n c] 24 (0, 0))) := y1
    clear y0 y1 hb2 HSa HBa
    go_wp2_with fail
    refine (HTd.out w2 HB2.out).mono ?_
    rintro e w3 ⟨v3, L3, rfl, hO3, hb3⟩
    obtain ⟨ad3, cap3, rfl⟩ := own_shapeC hO3.row
    have HB3 : Hid (Below w.heap.size w w3) := below_next HB2.out hb3
    have y3 : w3.heap[w.heap.size]? = some (.cells #[.int .i64 vars, .slice ad n c] 24 (0, 0)) := (hb3.block _ HS2.out).trans HY1.out
    have HS3 : Hid (w.heap.size < w3.heap.size) := by have := hb3.size; have := HS2.out; show _ < _; omega
    have HBo : Hid (∀ o, Below w.heap.size w (w3.alloc o)) := fun o => below_next HB3.out ((Below.refl _ _).alloc (Nat.le_refl _) o)
    have t0 : ∀ o, (w3.alloc o).cell? ⟨w.heap.size, 0, none⟩ = some (.int .i64 vars) := fun o => blk_cell ((Below.heap_alloc _ _ _ HS3.out).trans y3) 0
    have t1 : ∀ o, (w3.alloc o).cell? ⟨w.heap.size, 1, none⟩ = some (.slice ad n c) := fun o => blk_cell ((Below.heap_alloc _ _ _ HS3.out).trans y3) 1
    clear hb3 hO3 y3 z0 z1
    go_wp2_with fail
    refine (HN.out _ _).mono ?_
    rintro e w' ⟨rfl, hw⟩
    obtain rfl := hw.symm
    go_wp2_with fail
    refine (HMy.out _ (HBo.out _)).mono ?_
    rintro e w4 ⟨rfl, hb4⟩
    have HB4 : Hid (Below w.heap.size w w4) := below_next (HBo.out _) hb4
    clear hb4 t0 t1
    go_wp2
    go_ret
    exact ⟨rfl, HB4.out⟩
  · have hz := ck_zero h0
    obtain ⟨nv, rfl⟩ : ∃ nv : Nat, vars = nv := ⟨vars.toNat, by omega⟩
    have hnv : nv ≤ 1048576 := by omega
    have HP : Hid (tdC (nv : Int) cs = td cs ∧ tdV (nv : Int) cs = nv) := ⟨by unfold tdC; rw [if_pos h0], by unfold tdV; rw [if_pos h0]⟩
    have hk2 : (ck (nv : Int) (td cs)).2 = 0 := ck_td h0
    have hlt : (td cs).length ≤ cs.length := td_len cs
    have hcl : cs.length ≤ 1048576 := hz.2.2.1
    have HTl : Hid (∀ j, j < (td cs).length → ((td cs).getD j []).length ≤ 65536) := fun j hj => by
      have hm : (td cs).getD j [] ∈ td cs := by rw [List.getD_eq_getElem?_getD, List.getElem?_eq_getElem hj]; exact List.getElem_mem _
      exact (td_am hz.2.2.2.1 _ hm).1
    have HT2 : Hid (∀ W a5 c5, ClsS W a5 (td cs) → LV W → Calls Tryd.prog 14 #[.agg #[.int .i64 (nv : Int), .slice a5 (td cs).length c5]] W fun e w' => ∃ v L, e = .returned (.tuple #[.agg #[.int .i64 nv, v], .int .i64 0]) ∧ OwnL w' W.heap.size v L (td cs) ∧ Below W.heap.size W w') := fun W a5 c5 hc hv => by
      have := tidy_any nv a5 (td cs) c5 W hc (by omega) (fun j hj => by have := HTl.out j hj; omega) hv
      unfold TdPost at this
      rw [hk2, show tdC (nv : Int) (td cs) = td cs by unfold tdC; rw [if_pos hk2, td_td], show tdV (nv : Int) (td cs) = nv by unfold tdV; rw [if_pos hk2]] at this
      exact this
    have HAl : Hid (∀ W a5 a6 c5 c6, Cls W a5 (td cs) → Cls W a6 (td cs) → Calls Tryd.prog 16 #[.agg #[.int .i64 (nv : Int), .slice a5 (td cs).length c5], .agg #[.int .i64 (nv : Int), .slice a6 (td cs).length c6]] W fun e w' => e = .returned (.bool true) ∧ Below W.heap.size W w') := fun W a5 a6 c5 c6 h5 h6 => alike_any nv a5 a6 (td cs) c5 c6 W h5 h6 (by omega) (fun j hj => by have := HTl.out j hj; omega)
    have HRw : Hid (∀ W, Calls Tryd.prog 17 #[.int .i64 nv, .int .u64 bits] W (RowPost nv W)) := fun W => row_any nv bits W hnv
    have HU1 : Hid (∀ W bd ms, Below w.heap.size w W → I8 W bd ms → Full nv ms → Calls Tryd.prog 18 #[.agg #[.int .i64 (nv : Int), .slice ad cs.length c], .slice bd nv nv] W fun e w' => ∃ p, e = .returned (.tuple #[.int .i8 (fVal ms cs), .int .i64 p, .int .i64 0]) ∧ Below W.heap.size W w') := fun W bd ms hW hm hfu => by
      have hl : ms.length = nv := by have := hfu.1; omega
      have := under_any nv ad bd cs ms c nv W (HF.out.cls.below hW).cls hm (by omega) (fun j hj => by have := HF.out.each j hj; omega) (by omega)
      rw [(un_val h0).1, (un_val h0).2, hl] at this
      exact this.mono fun e w' h => ⟨_, h.1, h.2⟩
    have HU2 : Hid (∀ W a5 c5 bd ms, Cls W a5 (td cs) → I8 W bd ms → Full nv ms → Calls Tryd.prog 18 #[.agg #[.int .i64 (nv : Int), .slice a5 (td cs).length c5], .slice bd nv nv] W fun e w' => ∃ p, e = .returned (.tuple #[.int .i8 (fVal ms cs), .int .i64 p, .int .i64 0]) ∧ Below W.heap.size W w') := fun W a5 c5 bd ms hc hm hfu => by
      have hl : ms.length = nv := by have := hfu.1; omega
      have := under_any nv a5 bd (td cs) ms c5 nv W hc hm (by omega) (fun j hj => by have := HTl.out j hj; omega) (by omega)
      rw [(un_val hk2).1, (un_val hk2).2, hl, full_td hfu (fun c hc x hx => (hz.2.2.2.1 c hc).2 x hx)] at this
      exact this.mono fun e w' h => ⟨_, h.1, h.2⟩
    have HFv : Hid (∀ ms, Full nv ms → fVal ms cs = 1 ∨ fVal ms cs = -1) := fun ms hfu => full_fVal hfu (fun c hc x hx => (hz.2.2.2.1 c hc).2 x hx)
    unfold TdPost at HTd
    rw [HP.out.1, HP.out.2, h0] at HTd
    clear hz hk2 h0 HMy HTl
    generalize td cs = T at *
    generalize hfv : (fun ms => fVal ms cs) = fv
    have HE : Hid (∀ ms, fVal ms cs = fv ms) := fun ms => by rw [← hfv]
    clear hfv
    simp only [HE.out] at HU1 HU2 HFv
    generalize hn : cs.length = n at *
    generalize hq : T.length = q at *
    go_enter Tryd.func4, Tryd.ntmps4
    go_wp2_with fail
    have y0 : (w.alloc (.cells #[.int .i64 nv, .slice ad n c] 24)).heap[w.heap.size]? = some (.cells #[.int .i64 nv, .slice ad n c] 24 (0, 0)) := heap_alloc_at _ _
    have HBa : Hid (Below w.heap.size w (w.alloc (.cells #[.int .i64 nv, .slice ad n c] 24))) := HB0.out _
    have HSa : Hid ((w.alloc (.cells #[.int .i64 nv, .slice ad n c] 24)).heap.size = w.heap.size + 1) := sz1 _ _
    generalize w.alloc (.cells #[.int .i64 nv, .slice ad n c] 24) = w1 at *
    refine (HLv.out w1 HBa.out).mono ?_
    rintro e w2 ⟨rfl, hb2⟩
    have HB2 : Hid (Below w.heap.size w w2) := below_next HBa.out hb2
    have y1 : w2.heap[w.heap.size]? = some (.cells #[.int .i64 nv, .slice ad n c] 24 (0, 0)) := (hb2.block _ (by have := HSa.out; omega)).trans y0
    have HS2 : Hid (w.heap.size < w2.heap.size) := by have := hb2.size; have := HSa.out; show _ < _; omega
    have z0 : w2.cell? ⟨w.heap.size, 0, none⟩ = some (.int .i64 nv) := blk_cell y1 0
    have z1 : w2.cell? ⟨w.heap.size, 1, none⟩ = some (.slice ad n c) := blk_cell y1 1
    have HY1 : Hid (w2.heap[w.heap.size]? = some (.cells #[.int .i64 nv, .slice ad n c] 24 (0, 0))) := y1
    clear y0 y1 hb2 HSa HBa HLv HB0
    go_wp2_with fail
    refine (HTd.out w2 HB2.out).mono ?_
    rintro e w3 ⟨v3, L3, rfl, hO3, hb3⟩
    have hO3' := hO3.row
    rw [hq] at hO3'
    obtain ⟨ad3, cap3, rfl⟩ := own_shapeC hO3'
    have HO3 : Hid (OwnL w3 w2.heap.size (.slice ad3 q cap3) L3 T) := hO3
    have HB3 : Hid (Below w.heap.size w w3) := below_next HB2.out hb3
    have HY3 : Hid (w3.heap[w.heap.size]? = some (.cells #[.int .i64 nv, .slice ad n c] 24 (0, 0))) := (hb3.block _ HS2.out).trans HY1.out
    have HS3 : Hid (w.heap.size < w3.heap.size) := by have := hb3.size; have := HS2.out; show _ < _; omega
    clear hb3 hO3 hO3' z0 z1 HY1 HB2 HS2 HTd
    go_wp2_with fail
    have hG4 : (w3.alloc (.cells #[.int .i64 nv, .slice ad3 q cap3] 24)).heap[w3.heap.size]? = some (.cells #[.int .i64 nv, .slice ad3 q cap3] 24 (0, 0)) := heap_alloc_at _ _
    have hS4 : (w3.alloc (.cells #[.int .i64 nv, .slice ad3 q cap3] 24)).heap.size = w3.heap.size + 1 := sz1 _ _
    have hB4 : Below w3.heap.size w3 (w3.alloc (.cells #[.int .i64 nv, .slice ad3 q cap3] 24)) := (Below.refl _ _).alloc (Nat.le_refl _) _
    generalize w3.alloc (.cells #[.int .i64 nv, .slice ad3 q cap3] 24) = w4 at *
    have hF4 : w4.heap[w.heap.size]? = some (.cells #[.int .i64 nv, .slice ad n c] 24 (0, 0)) := (hB4.block _ HS3.out).trans HY3.out
    have HYc : Hid (∀ W, Below w4.heap.size w4 W → (W.cell? ⟨w.heap.size, 0, none⟩ = some (.int .i64 nv) ∧ W.cell? ⟨w.heap.size, 1, none⟩ = some (.slice ad n c)) ∧ W.cell? ⟨w3.heap.size, 0, none⟩ = some (.int .i64 nv) ∧ W.cell? ⟨w3.heap.size, 1, none⟩ = some (.slice ad3 q cap3)) := fun W hW => by
      have a1 := (hW.block w.heap.size (by have := HS3.out; omega)).trans hF4
      have a2 := (hW.block w3.heap.size (by omega)).trans hG4
      exact ⟨⟨blk_cell a1 0, blk_cell a1 1⟩, blk_cell a2 0, blk_cell a2 1⟩
    have HO4 : Hid (OwnL w4 w2.heap.size (.slice ad3 q cap3) L3 T) := HO3.out.below hB4
    have HB4 : Hid (Below w.heap.size w w4) := below_next HB3.out hB4
    clear hG4 hS4 hB4 hF4 HO3 HB3 HY3
    refine (HN.out _ _).mono ?_
    rintro e w' ⟨rfl, hw⟩
    obtain rfl := hw.symm
    obtain ⟨⟨f0, f1⟩, g0, g1⟩ := HYc.out w4 (Below.refl _ _)
    go_wp2_with fail
    refine (HT2.out w4 ad3 cap3 HO4.out.clsS (HV.out.below HB4.out)).mono ?_
    rintro e w5 ⟨v5, L5, rfl, hO5, hb5⟩
    have hO5' := hO5.row
    rw [hq] at hO5'
    obtain ⟨ad5, cap5, rfl⟩ := own_shapeC hO5'
    have HO5 : Hid (OwnL w5 w4.heap.size (.slice ad5 q cap5) L5 T) := hO5
    have HB45 : Hid (Below w4.heap.size w4 w5) := hb5
    clear hO5 hO5' hb5 f0 f1 g0 g1 HT2
    go_wp2_with fail
    have hG6 : (w5.alloc (.cells #[.int .i64 nv, .slice ad5 q cap5] 24)).heap[w5.heap.size]? = some (.cells #[.int .i64 nv, .slice ad5 q cap5] 24 (0, 0)) := heap_alloc_at _ _
    have hB6 : Below w5.heap.size w5 (w5.alloc (.cells #[.int .i64 nv, .slice ad5 q cap5] 24)) := (Below.refl _ _).alloc (Nat.le_refl _) _
    generalize w5.alloc (.cells #[.int .i64 nv, .slice ad5 q cap5] 24) = w6 at *
    have HB46 : Hid (Below w4.heap.size w4 w6) := below_next HB45.out hB6
    obtain ⟨⟨f0, f1⟩, g0, g1⟩ := HYc.out w6 HB46.out
    have k0 : w6.cell? ⟨w5.heap.size, 0, none⟩ = some (.int .i64 nv) := blk_cell hG6 0
    have k1 : w6.cell? ⟨w5.heap.size, 1, none⟩ = some (.slice ad5 q cap5) := blk_cell hG6 1
    have HAl6 : Hid (Calls Tryd.prog 16 #[.agg #[.int .i64 (nv : Int), .slice ad3 q cap3], .agg #[.int .i64 (nv : Int), .slice ad5 q cap5]] w6 fun e w' => e = .returned (.bool true) ∧ Below w6.heap.size w6 w') := HAl.out w6 ad3 ad5 cap3 cap5 (HO4.out.cls.below HB46.out) (HO5.out.cls.below hB6)
    clear hG6 hB6 HO5 HB45 HAl
    refine (HN.out _ _).mono ?_
    rintro e w' ⟨rfl, hw⟩
    obtain rfl := hw.symm
    go_wp2_with fail
    refine HAl6.out.mono ?_
    rintro e w7 ⟨rfl, hb7⟩
    have HB47 : Hid (Below w4.heap.size w4 w7) := below_next HB46.out hb7
    clear hb7 f0 f1 g0 g1 k0 k1 HAl6 HB46
    obtain ⟨⟨f0, f1⟩, g0, g1⟩ := HYc.out w7 HB47.out
    have q0 : decide (n < q) = false := by simp; omega
    go_wp2_with fail
    refine (HRw.out w7).mono ?_
    rintro e w8 ⟨g8, ms, rfl, hl8, hpm, hO8, hb8⟩
    have HFu : Hid (Full nv ms) := ⟨by rw [hl8], hpm⟩
    have HI8 : Hid (I8 w8 (some ⟨g8, 0, none⟩) ms) := own_i8 hO8 hl8
    have HB48 : Hid (Below w4.heap.size w4 w8) := below_next HB47.out hb8
    clear hl8 hpm hO8 hb8 f0 f1 g0 g1 HB47 q0 HRw
    obtain ⟨⟨f0, f1⟩, g0, g1⟩ := HYc.out w8 HB48.out
    go_wp2_with fail
    refine (HU1.out w8 _ ms (below_next HB4.out HB48.out) HI8.out HFu.out).mono ?_
    rintro e w9 ⟨p9, rfl, hb9⟩
    have HB49 : Hid (Below w4.heap.size w4 w9) := below_next HB48.out hb9
    have HI9 : Hid (I8 w9 (some ⟨g8, 0, none⟩) ms) := HI8.out.below hb9
    clear hb9 f0 f1 g0 g1 HB48 HI8 HU1
    obtain ⟨⟨f0, f1⟩, g0, g1⟩ := HYc.out w9 HB49.out
    go_wp2_with fail
    refine (HU2.out w9 ad3 cap3 _ ms (HO4.out.cls.below HB49.out) HI9.out HFu.out).mono ?_
    rintro e w10 ⟨p10, rfl, hb10⟩
    have HBz : Hid (Below w.heap.size w w10) := below_next (below_next HB4.out HB49.out) hb10
    have hval := HFv.out ms HFu.out
    clear hb10 f0 f1 g0 g1 HB49 HI9 HU2 HFv HYc HE
    generalize fv ms = x at *
    go_wp2_with fail
    refine (HN.out _ _).mono ?_
    rintro e w' ⟨rfl, hw⟩
    obtain rfl := hw.symm
    go_wp2_with fail
    refine (HN.out _ _).mono ?_
    rintro e w' ⟨rfl, hw⟩
    obtain rfl := hw.symm
    have hx0 : (x != 0) = true := by rcases hval with h | h <;> rw [h] <;> rfl
    go_wp2
    go_ret
    exact ⟨rfl, HBz.out⟩
end Go.Proofs.YtlkafgdddlgpcaaDoor
