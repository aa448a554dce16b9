import Derived.Test.YtkiihbkcccikiaaDoorTidyA
import Derived.Test.YtkiihbkcccikiaaDoorRTidy
import Derived.Test.YtkiihbkcccikiaaDoorRChk
import Derived.Deep.RegionLaw
namespace Go.Proofs.YtkiihbkcccikiaaDoor
open Go.ChangeShapes Go.WideShapes Go.ChangeAt Go.RowKit Go.Cn

set_option maxHeartbeats 4000000 in
set_option maxRecDepth 100000 in
theorem rtidy_any (vars : Int) (ad : Option Addr) (cs : List (List Int)) (c : Nat) (w : World) (h : Cls w ad cs) (hl : cs.length ≤ 1000000000000000000) (hcl : ∀ j, j < cs.length → (cs.getD j []).length ≤ 1000000000000000000) :
    Calls Tryd.prog 36 #[.agg #[.int .i64 vars, .slice ad cs.length c]] w (TdPost vars cs w) := by
  have HB0 : Aside (∀ o, Below w.heap.size w (w.alloc o)) := fun o => (Below.refl _ _).alloc (Nat.le_refl _) o
  have HC : Hid (∀ W, Below w.heap.size w W → Calls Tryd.prog 20 #[.agg #[.int .i64 vars, .slice ad cs.length c]] W fun e w' => e = .returned (.tuple #[.int .i64 (ck vars cs).1, .int .i64 (ck vars cs).2]) ∧ Below W.heap.size W w') := fun W hW => rcheck_any vars ad cs c W (h.below hW) hl hcl
  by_cases h0 : (ck vars cs).2 = 0
  · have HC2 : Hid (∀ W, Below w.heap.size w W → Calls Tryd.prog 20 #[.agg #[.int .i64 vars, .slice ad cs.length c]] W fun e w' => e = .returned (.tuple #[.int .i64 (ck vars cs).1, .int .i64 0]) ∧ Below W.heap.size W w') := by intro W hW; have := HC.out W hW; rw [h0] at this; exact this
    have hz := ck_zero h0
    have HT : Hid (∀ W, Below w.heap.size w W → Calls Tryd.prog 54 #[.slice ad cs.length c] W fun e w' => ∃ v L, e = .returned v ∧ OwnL w' W.heap.size v L (td cs) ∧ Below W.heap.size W w') := fun W hW => rtidyL_any ad cs c W (h.below hW) (by omega) (fun d hd => ⟨(hz.2.2.2.1 d hd).1, fun x hx => by have := (hz.2.2.2.1 d hd).2 x hx; unfold amB at this; simp at this; exact this.1⟩)
    have HP : Hid ((ck vars cs).2 = 0 ∧ tdV vars cs = vars ∧ tdC vars cs = td cs) := ⟨h0, by unfold tdV; rw [if_pos h0], by unfold tdC; rw [if_pos h0]⟩
    clear HC hz h0 h hcl
    generalize hpp : TdPost vars cs w = PP
    have HPP : Hid (∀ e w', TdPost vars cs w e w' → PP e w') := fun e w' hh => by rw [← hpp]; exact hh
    clear hpp
    generalize (ck vars cs).1 = r1 at *
    generalize hn : cs.length = n at *
    clear hn
    go_enter Tryd.func36, Tryd.ntmps36
    go_wp2_with fail
    have y0 : ((w.alloc (.cells #[.int .i64 vars, .slice ad n c] 37)).alloc (.cells #[.int .i64 0, .slice none 0 0] 37)).heap[w.heap.size]? = some (.cells #[.int .i64 vars, .slice ad n c] 37 (0, 0)) := heap_alloc2_old _ _ _
    have y1 : ((w.alloc (.cells #[.int .i64 vars, .slice ad n c] 37)).alloc (.cells #[.int .i64 0, .slice none 0 0] 37)).heap[w.heap.size + 1]? = some (.cells #[.int .i64 0, .slice none 0 0] 37 (0, 0)) := heap_alloc2_new _ _ _
    have HBa : Hid (Below w.heap.size w ((w.alloc (.cells #[.int .i64 vars, .slice ad n c] 37)).alloc (.cells #[.int .i64 0, .slice none 0 0] 37))) := (HB0.out _).alloc (by rw [sz1]; omega) _
    have HSa : Hid (((w.alloc (.cells #[.int .i64 vars, .slice ad n c] 37)).alloc (.cells #[.int .i64 0, .slice none 0 0] 37)).heap.size = w.heap.size + 2) := sz2 _ _ _
    generalize (w.alloc (.cells #[.int .i64 vars, .slice ad n c] 37)).alloc (.cells #[.int .i64 0, .slice none 0 0] 37) = w1 at *
    refine (HC2.out w1 HBa.out).mono ?_
    rintro e w2 ⟨rfl, hb2⟩
    have HB2 : Hid (Below w.heap.size w w2) := below_next HBa.out hb2
    have HR2 : Hid (w2.heap[w.heap.size]? = some (.cells #[.int .i64 vars, .slice ad n c] 37 (0, 0)) ∧ w2.heap[w.heap.size + 1]? = some (.cells #[.int .i64 0, .slice none 0 0] 37 (0, 0))) := ⟨(hb2.block _ (by have := HSa.out; omega)).trans y0, (hb2.block _ (by have := HSa.out; omega)).trans y1⟩
    have hs2 : w.heap.size + 2 ≤ w2.heap.size := by have := hb2.size; have := HSa.out; omega
    have z0 : w2.cell? ⟨w.heap.size, 0, none⟩ = some (.int .i64 vars) := blk_cell HR2.out.1 0
    have z1 : w2.cell? ⟨w.heap.size, 1, none⟩ = some (.slice ad n c) := blk_cell HR2.out.1 1
    clear y0 y1 hb2 HSa HBa HB0 HC2
    have HT2 : Hid (Calls Tryd.prog 54 #[.slice ad n c] w2.drew fun e w' => ∃ v L, e = .returned v ∧ OwnL w' w2.heap.size v L (td cs) ∧ Below w2.heap.size w2.drew w') := HT.out w2.drew HB2.out.drew
    clear HT
    go_wp2_with fail
    go_region_law (first
      | (go_simp; go_at_call 54; refine HT2.out.mono ?_; rintro e w6 ⟨v6, L6, rfl, ho6, hb6⟩; obtain ⟨ad6, cap6, rfl⟩ := own_shapeC ho6.row; have k0 : w6.heap[w.heap.size]? = some (.cells #[.int .i64 vars, .slice ad n c] 37 (0, 0)) := (hb6.block _ (by omega)).trans HR2.out.1; have k1 : w6.heap[w.heap.size + 1]? = some (.cells #[.int .i64 0, .slice none 0 0] 37 (0, 0)) := (hb6.block _ (by omega)).trans HR2.out.2; have g0 := blk_cell k0 0; have f1 := blk_cell k1 0; have f2 := blk_cell k1 1; have f3 := blk_frozen k1 0; have f4 := blk_frozen k1 1; have HK : Hid (OwnL w6 w2.heap.size (.slice ad6 (td cs).length cap6) L6 (td cs) ∧ Below w.heap.size w w6 ∧ w6.heap[w.heap.size + 1]? = some (.cells #[.int .i64 0, .slice none 0 0] 37 (0, 0))) := ⟨ho6, below_next HB2.out.drew hb6, k1⟩; clear ho6 hb6 k0 k1))
    all_goals go_wp2
    all_goals
      have hfin : ((w6.setCell ⟨w.heap.size + 1, 0, none⟩ (.int .i64 vars)).setCell ⟨w.heap.size + 1, 1, none⟩ (.slice ad6 (td cs).length cap6)).heap[w.heap.size + 1]? = some (.cells #[.int .i64 vars, .slice ad6 (td cs).length cap6] 37 (0, 0)) := by
        rw [heap_setCell_same _ (w.heap.size + 1) 1 _ _ _ (heap_setCell_same _ (w.heap.size + 1) 0 _ _ _ HK.out.2.2)]; rfl
      refine bodyPost_ret (v := .tuple #[.agg #[.int .i64 vars, .slice ad6 (td cs).length cap6], .int .i64 0]) (res_ct (p := 2) (u := 3) rfl _ _ (w.heap.size + 1) 37 _ (0, 0) _ rfl hfin Tryd.underlying37 rfl (by kernel_rfl)) rfl ?_
      have hle : w.heap.size ≤ w.heap.size + 1 := by omega
      have hle2 : w.heap.size ≤ w2.heap.size := by omega
      have hh : (w6.setCell ⟨w.heap.size + 1, 0, none⟩ (.int .i64 vars)).heap[w.heap.size + 1]? = some (.cells (#[.int .i64 0, .slice none 0 0].set! 0 (.int .i64 vars)) 37 (0, 0)) := heap_setCell_same _ (w.heap.size + 1) 0 _ _ _ HK.out.2.2
      exact HPP.out _ _ ⟨.slice ad6 (td cs).length cap6, L6, by rw [HP.out.1, HP.out.2.1], by rw [HP.out.2.2]; exact ((HK.out.1.up hle2).set (w.heap.size + 1) 0 _ HK.out.2.2 (by decide) (by decide)).set (w.heap.size + 1) 1 _ hh (by decide) (by decide), (HK.out.2.1.setCell hle _).setCell hle _⟩
  · have HP : Hid (tdV vars cs = 0 ∧ tdC vars cs = []) := ⟨by unfold tdV; rw [if_neg h0], by unfold tdC; rw [if_neg h0]⟩
    clear h hcl
    generalize hpp : TdPost vars cs w = PP
    have HPP : Hid (∀ e w', TdPost vars cs w e w' → PP e w') := fun e w' hh => by rw [← hpp]; exact hh
    clear hpp
    unfold TdPost at HPP
    generalize (ck vars cs).1 = r1 at *
    generalize (ck vars cs).2 = r2 at *
    have e1 : (r2 != 0) = true := by simpa using h0
    generalize hn : cs.length = n at *
    clear hn
    go_enter Tryd.func36, Tryd.ntmps36
    go_wp2_with fail
    have y1 : ((w.alloc (.cells #[.int .i64 vars, .slice ad n c] 37)).alloc (.cells #[.int .i64 0, .slice none 0 0] 37)).heap[w.heap.size + 1]? = some (.cells #[.int .i64 0, .slice none 0 0] 37 (0, 0)) := heap_alloc2_new _ _ _
    have HBa : Hid (Below w.heap.size w ((w.alloc (.cells #[.int .i64 vars, .slice ad n c] 37)).alloc (.cells #[.int .i64 0, .slice none 0 0] 37))) := (HB0.out _).alloc (by rw [sz1]; omega) _
    have HSa : Hid (((w.alloc (.cells #[.int .i64 vars, .slice ad n c] 37)).alloc (.cells #[.int .i64 0, .slice none 0 0] 37)).heap.size = w.heap.size + 2) := sz2 _ _ _
    generalize (w.alloc (.cells #[.int .i64 vars, .slice ad n c] 37)).alloc (.cells #[.int .i64 0, .slice none 0 0] 37) = w1 at *
    refine (HC.out w1 HBa.out).mono ?_
    rintro e w2 ⟨rfl, hb2⟩
    have HB2 : Hid (Below w.heap.size w w2) := below_next HBa.out hb2
    have HR1 : Hid (w2.heap[w.heap.size + 1]? = some (.cells #[.int .i64 0, .slice none 0 0] 37 (0, 0))) := (hb2.block _ (by have := HSa.out; omega)).trans y1
    have f1 : w2.cell? ⟨w.heap.size + 1, 0, none⟩ = some (.int .i64 0) := blk_cell HR1.out 0
    have f2 : w2.cell? ⟨w.heap.size + 1, 1, none⟩ = some (.slice none 0 0) := blk_cell HR1.out 1
    have f3 : w2.frozen? ⟨w.heap.size + 1, 0, none⟩ = false := blk_frozen HR1.out 0
    have f4 : w2.frozen? ⟨w.heap.size + 1, 1, none⟩ = false := blk_frozen HR1.out 1
    clear y1 hb2 HSa HBa HB0
    go_wp2
    have hfin : ((w2.setCell ⟨w.heap.size + 1, 0, none⟩ (.int .i64 0)).setCell ⟨w.heap.size + 1, 1, none⟩ (.slice none 0 0)).heap[w.heap.size + 1]? = some (.cells #[.int .i64 0, .slice none 0 0] 37 (0, 0)) := by
      rw [heap_setCell_same _ (w.heap.size + 1) 1 _ _ _ (heap_setCell_same _ (w.heap.size + 1) 0 _ _ _ HR1.out)]; rfl
    refine bodyPost_ret (v := .tuple #[.agg #[.int .i64 0, .slice none 0 0], .int .i64 r2]) (res_ct (p := 2) (u := 3) rfl _ _ (w.heap.size + 1) 37 _ (0, 0) _ rfl hfin Tryd.underlying37 rfl (by kernel_rfl)) rfl ?_
    have hle : w.heap.size ≤ w.heap.size + 1 := by omega
    exact HPP.out _ _ ⟨.slice none 0 0, [], by rw [HP.out.1], by rw [HP.out.2]; exact OwnL.nil _ _, (HB2.out.setCell hle _).setCell hle _⟩
end Go.Proofs.YtkiihbkcccikiaaDoor
