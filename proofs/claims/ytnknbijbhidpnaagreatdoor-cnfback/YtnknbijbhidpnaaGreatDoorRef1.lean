import Derived.Test.YtnknbijbhidpnaaGreatDoorOne
import Derived.Test.YtnknbijbhidpnaaGreatDoorRes
namespace Go.Proofs.YtnknbijbhidpnaaGreatDoor
open Go.ChangeShapes Go.WideShapes Go.ChangeAt Go.RowKit Go.Cn

theorem bt1 : bits .andNot .u64 18446744073709551615 12297829382473034410 = 6148914691236517205 := by decide
theorem bt2 : bits .andNot .u64 6148914691236517205 14757395258967641292 = 1229782938247303441 := by decide
theorem bt3 : bits .or .u64 0 1229782938247303441 = 1229782938247303441 := by decide
theorem bt4 : bits .or .i64 0 0 = 0 := by decide
set_option maxHeartbeats 4000000 in
set_option maxRecDepth 100000 in
theorem refute_one (R b off c : Nat) (w : World) (hR : w.heap[R]? = some (.cells #[.int .u64 0] 42 (0, 0))) (hI : Ints w (some ⟨b, off, none⟩) [1, 2])
    (h0 : w.cell? ⟨0, 0, none⟩ = some (.int .u64 12297829382473034410)) (h1 : w.cell? ⟨0, 1, none⟩ = some (.int .u64 14757395258967641292)) :
    Calls Tryz.prog 29 #[.slice (some ⟨R, 0, none⟩) 1 1, .slice (some ⟨b, off, none⟩) 2 c] w fun e w' => e = .returned (.tuple #[]) ∧ w' = w.setCell ⟨R, 0, none⟩ (.int .u64 1229782938247303441) := by
  obtain ⟨b', off', e, hlt, hc⟩ := hI (by decide)
  cases e
  have c0 : w.cell? ⟨b, off, none⟩ = some (.int .i64 1) := by simpa using hc 0 (by decide)
  have c1 : w.cell? ⟨b, off + 1, none⟩ = some (.int .i64 2) := by simpa using hc 1 (by decide)
  have r0 : w.cell? ⟨R, 0, none⟩ = some (.int .u64 0) := blk_cell hR 0
  have f0 : w.frozen? ⟨R, 0, none⟩ = false := blk_frozen hR 0
  have H1 : Hid (∀ W, Calls Tryz.prog 51 #[.int .i64 1] W fun e w' => e = .returned (.int .i64 1) ∧ w' = W) := fun W => var_any 1 W (by decide)
  have H2 : Hid (∀ W, Calls Tryz.prog 51 #[.int .i64 2] W fun e w' => e = .returned (.int .i64 2) ∧ w' = W) := fun W => var_any 2 W (by decide)
  have e1 := bt1
  have e2 := bt2
  have e3 := bt3
  have e4 := bt4
  clear hc hR
  go_enter Tryz.func29, Tryz.ntmps29
  go_wp2
  refine wp_loop_rounds 3 ?_
  rw [rounds_succ]
  go_wp2_with fail
  refine (H1.out _).mono ?_
  rintro e w' ⟨rfl, hw⟩
  obtain rfl := hw.symm
  go_wp2
  rw [rounds_succ]
  go_wp2_with fail
  refine (H2.out _).mono ?_
  rintro e w' ⟨rfl, hw⟩
  obtain rfl := hw.symm
  go_wp2
  rw [rounds_succ]
  go_wp2
  refine wp_loop_rounds 1 ?_
  rw [rounds_succ]
  go_wp2
  (try simp only [Exit.inBlock, Exit.then])
  refine bodyPost_ret (results_none rfl _ _ _) rfl ?_
  exact ⟨rfl, rfl⟩
theorem Tryz.info42 : (Tryz.prog.info? 42).map (fun i => (i.zero, i.size, i.bytes)) = some (some (.int .u64 0), 1, 8) := by kernel_rfl
set_option maxRecDepth 100000 in
theorem ones_one (w : World) : Calls Tryz.prog 30 #[.int .u64 16140901064495857664] w fun e w' => e = .returned (.int .i64 3) ∧ w' = w := by
  go_enter Tryz.func30, Tryz.ntmps30
  go_wp2
  go_ret
  exact ⟨ret_int (by kernel_rfl), rfl⟩
theorem mx1 : max (-4 : Int) 0 = 0 := by decide
theorem mx2 : wrap64 (2 ^ (0 : Int).toNat) = 1 := by kernel_rfl
theorem mn1 : min (2 : Int) 6 = 2 := by decide
theorem blk_one {w : World} {B g : Nat} {x : Value} (h : w.ownsRow B 42 1 (.slice (some ⟨g, 0, none⟩) 1 1) 1 [x]) : w.heap[g]? = some (.cells #[x] 42 (0, 0)) := by
  rcases h.2 with ⟨e, _⟩ | ⟨g', cap, cur, e, _, hg, _, _, h3, h4⟩
  · cases e
  · cases e
    rw [hg]
    have : cur = #[x] := by
      apply Array.toList_inj.1
      have hl : cur.toList.length = 1 := by simpa using h3
      rw [← h4, Nat.mul_one, List.take_of_length_le (by omega)]
    rw [this]
theorem bt6 : IntKind.u64.wrap (bits BinOp.xor IntKind.u64 IntKind.u64.max 1229782938247303441 * 1152921504606846976) = 16140901064495857664 := by kernel_rfl
theorem bt5 : bits .xor .u64 1229782938247303441 18446744073709551615 = 17216961135462248174 := by decide
set_option maxHeartbeats 4000000 in
set_option maxRecDepth 100000 in
theorem count_one (ad : Option Addr) (c : Nat) (w : World) (h : Cls w ad [[1, 2]]) (htab : PowT w.heap.size w)
    (h0 : w.cell? ⟨0, 0, none⟩ = some (.int .u64 12297829382473034410)) (h1 : w.cell? ⟨0, 1, none⟩ = some (.int .u64 14757395258967641292)) :
    Calls Tryz.prog 12 #[.agg #[.int .i64 2, .slice ad 1 c]] w fun e w' => e = .returned (.tuple #[.int .u64 3, .int .i64 0]) ∧ Below w.heap.size w w' := by
  have HT : Hid (∀ o, Calls Tryz.prog 28 #[.agg #[.int .i64 2, .slice ad 1 c]] (w.alloc o) fun e w' => ∃ ad' c', e = .returned (.tuple #[.agg #[.int .i64 2, .slice ad' 1 c'], .int .i64 0]) ∧ Cls w' ad' [[1, 2]] ∧ Below (w.alloc o).heap.size (w.alloc o) w') := fun o =>
    tidy_one ad c (w.alloc o) (h.below ((Below.refl _ _).alloc (Nat.le_refl _) o)) (fun W hW => htab W (((Below.refl _ _).alloc (Nat.le_refl _) o).trans (hW.mono (by rw [sz1]; omega))))
  have g0 : 0 < w.heap.size := block_lt_of_cell h0
  have HB0 : Hid (∀ o, Below w.heap.size w (w.alloc o)) := fun o => (Below.refl _ _).alloc (Nat.le_refl _) o
  have HV : Hid (∀ W, Below w.heap.size w W → W.cell? ⟨0, 0, none⟩ = some (.int .u64 12297829382473034410) ∧ W.cell? ⟨0, 1, none⟩ = some (.int .u64 14757395258967641292)) := fun W hW => ⟨(hW.cell (p := ⟨0, 0, none⟩) g0).trans h0, (hW.cell (p := ⟨0, 1, none⟩) g0).trans h1⟩
  clear h htab h0 h1
  go_enter Tryz.func12, Tryz.ntmps12
  go_wp2_with fail
  refine (HT.out _).mono ?_
  rintro e w1 ⟨ad1, c1, rfl, hcls, hb1⟩
  have hs1 : w.heap.size + 1 ≤ w1.heap.size := by have := hb1.size; rw [sz1] at this; exact this
  have HB1 : Hid (Below w.heap.size w w1) := (HB0.out _).trans (hb1.mono (by rw [sz1]; omega))
  have x0 : w1.heap[w.heap.size]? = some (.cells #[.int .i64 2, .slice ad 1 c] 24 (0, 0)) := by
    rw [hb1.block w.heap.size (by rw [sz1]; omega)]; exact heap_alloc_at _ _
  have y0 : ∀ o, (w1.alloc o).cell? ⟨w.heap.size, 0, none⟩ = some (.int .i64 2) := fun o => by
    rw [World.cell?_of_block (w := w1) (Below.heap_alloc _ _ _ (by show w.heap.size < _; omega))]; exact blk_cell x0 0
  have HX : Hid (w1.heap[w.heap.size]? = some (.cells #[.int .i64 2, .slice ad 1 c] 24 (0, 0))) := x0
  have HCl : Hid (Cls w1 ad1 [[1, 2]]) := hcls
  clear hb1 x0 hcls
  obtain ⟨i0, hi, hz0, hz1, hz2⟩ := info_parts Tryz.info42
  have m1 := mx1
  have m2 := mx2
  go_wp2_with (at_make; refine wpList_make_full _ rfl _ _ 68 rfl w1.heap.size 42 i0 (.int .u64 0) 1 Tryz.underlying68 hi hz0 hz1 .i64 .i64 _ _ 1 rfl rfl (by first | rfl | (rw [mx1]; exact mx2) | exact mx2) (by first | rfl | (rw [mx1]; exact mx2) | exact mx2) (by rw [hz2]; omega) (by unfold maxLen; omega) (by simp) ?_; intro w2 hown2 hgrow2; refine Hid.out ?_)
  refine Lib.hid ?_
  rw [sz1] at hown2
  have hmc : (madeCells (Value.int .u64 0).cells (1 * 1)).toList = [.int .u64 0] := by simp [madeCells, Value.cells]
  rw [hmc] at hown2
  have hR := blk_one (x := .int .u64 0) hown2
  clear hmc
  have hb2 : Below w1.heap.size w1 w2 := ((Below.refl _ _).alloc (Nat.le_refl _) _).grown hgrow2 (by rw [sz1]; omega) (fun k hk => by cases hk)
  have hs2 : w1.heap.size + 1 ≤ w2.heap.size := by have := hgrow2.size; rw [sz1] at this; exact this
  have hT2 : w2.heap[w1.heap.size]? = some (.cells #[.int .i64 2, .slice ad1 1 c1] 24 (0, 0)) := (hgrow2.block w1.heap.size (by rw [sz1]; omega) (by simp)).trans (heap_alloc_at _ _)
  have HB2 : Hid (Below w.heap.size w w2) := below_next HB1.out hb2
  have hX2 : w2.heap[w.heap.size]? = some (.cells #[.int .i64 2, .slice ad 1 c] 24 (0, 0)) := (hb2.block _ (by omega)).trans HX.out
  obtain ⟨b, off, rfl, hb, hc⟩ := (HCl.out.below hb2) (by decide)
  obtain ⟨aj, cj, cc0, hI⟩ := hc 0 (by decide)
  have cc : w2.cell? ⟨b, off, none⟩ = some (.slice aj 2 cj) := by simpa using cc0
  obtain ⟨b3, off3, rfl, hb3, _⟩ := hI (by decide)
  have HRf : Hid (Calls Tryz.prog 29 #[.slice (some ⟨w1.heap.size + 1, 0, none⟩) 1 1, .slice (some ⟨b3, off3, none⟩) 2 cj] w2 fun e w' => e = .returned (.tuple #[]) ∧ w' = w2.setCell ⟨w1.heap.size + 1, 0, none⟩ (.int .u64 1229782938247303441)) :=
    refute_one (w1.heap.size + 1) b3 off3 cj w2 hR hI (HV.out w2 HB2.out).1 (HV.out w2 HB2.out).2
  have t1 : w2.cell? ⟨w1.heap.size, 1, none⟩ = some (.slice (some ⟨b, off, none⟩) 1 c1) := blk_cell hT2 1
  have t0 : w2.cell? ⟨w.heap.size, 0, none⟩ = some (.int .i64 2) := blk_cell hX2 0
  have HS : Hid (w2.heap[w1.heap.size + 1]? = some (.cells #[.int .u64 0] 42 (0, 0)) ∧ w2.heap[w.heap.size]? = some (.cells #[.int .i64 2, .slice ad 1 c] 24 (0, 0))) := ⟨hR, hX2⟩
  clear hown2 hgrow2 hR hb2 hT2 hX2 hc cc0 hI y0
  go_wp2
  refine wp_loop_rounds 2 ?_
  rw [rounds_succ]
  go_wp2_with fail
  refine HRf.out.mono ?_
  rintro e w3 ⟨rfl, hw3⟩
  have hR3 : w3.heap[w1.heap.size + 1]? = some (.cells #[.int .u64 1229782938247303441] 42 (0, 0)) := by
    rw [hw3, heap_setCell_same _ (w1.heap.size + 1) 0 _ _ _ HS.out.1]; rfl
  have hX3 : w3.heap[w.heap.size]? = some (.cells #[.int .i64 2, .slice ad 1 c] 24 (0, 0)) := by
    rw [hw3, heap_setCell_other _ _ _ _ (by show w.heap.size ≠ w1.heap.size + 1; omega)]; exact HS.out.2
  have HB3 : Hid (Below w.heap.size w w3) := by rw [hw3]; exact HB2.out.setCell (by show w.heap.size ≤ w1.heap.size + 1; omega) _
  have r3 : w3.cell? ⟨w1.heap.size + 1, 0, none⟩ = some (.int .u64 1229782938247303441) := blk_cell hR3 0
  have u3 : w3.cell? ⟨w.heap.size, 0, none⟩ = some (.int .i64 2) := blk_cell hX3 0
  clear hw3 hR3 hX3 t0 t1 cc
  have n1 := mn1
  have n5 := bt5
  go_wp2
  rw [rounds_succ]
  go_wp2
  refine wp_loop_rounds 2 ?_
  rw [rounds_succ]
  go_wp2_with fail
  have hO : ∀ W, Calls Tryz.prog 30 #[.int .u64 (IntKind.u64.wrap (bits BinOp.xor IntKind.u64 IntKind.u64.max 1229782938247303441 * 1152921504606846976))] W fun e w' => e = .returned (.int .i64 3) ∧ w' = W := fun W => by rw [bt6]; exact ones_one W
  refine (hO _).mono ?_
  clear hO
  rintro e w4 ⟨rfl, hw4⟩
  obtain rfl := hw4.symm
  go_wp2
  rw [rounds_succ]
  go_wp2
  go_ret2
  exact ⟨rfl, HB3.out⟩
end Go.Proofs.YtnknbijbhidpnaaGreatDoor
