import Derived.Test.YtkiihbkcccikiaaDoorAssign
import Derived.Test.YtkiihbkcccikiaaDoorRChk
namespace Go.Proofs.YtkiihbkcccikiaaDoor
open Go.ChangeShapes Go.WideShapes Go.ChangeAt Go.RowKit Go.Cn

set_option maxHeartbeats 4000000 in
set_option maxRecDepth 100000 in
theorem rassign_any (vars : Int) (ad : Option Addr) (cs : List (List Int)) (c : Nat) (l : Int) (w : World) (h : Cls w ad cs) (hl : cs.length ≤ 1000000000000000000) (hcl : ∀ j, j < cs.length → (cs.getD j []).length ≤ 1000000000000000000) :
    Calls Tryd.prog 33 #[.agg #[.int .i64 vars, .slice ad cs.length c], .int .i64 l] w (AsPost vars cs l w) := by
  obtain ⟨i0, hi, hz0, hz1, hz2⟩ := info_parts Tryd.info23
  obtain ⟨j0, hj0, hy0, hy1, hy2⟩ := info_parts Tryd.info3
  have HB0 : Aside (∀ o, Below w.heap.size w (w.alloc o)) := fun o => (Below.refl _ _).alloc (Nat.le_refl _) o
  have HC : Hid (∀ W, Below w.heap.size w W → Calls Tryd.prog 20 #[.agg #[.int .i64 vars, .slice ad cs.length c]] W fun e w' => e = .returned (.tuple #[.int .i64 (ck vars cs).1, .int .i64 (ck vars cs).2]) ∧ Below W.heap.size W w') := fun W hW => rcheck_any vars ad cs c W (h.below hW) hl hcl
  have HI : Hid (Cls w ad cs) := h
  have HCl : Hid (∀ j, j < cs.length → (cs.getD j []).length ≤ 1000000000000000000) := hcl
  clear h hcl
  by_cases h0 : (ck vars cs).2 = 0
  · have HC2 : Hid (∀ W, Below w.heap.size w W → Calls Tryd.prog 20 #[.agg #[.int .i64 vars, .slice ad cs.length c]] W fun e w' => e = .returned (.tuple #[.int .i64 (ck vars cs).1, .int .i64 0]) ∧ Below W.heap.size W w') := by intro W hW; have := HC.out W hW; rw [h0] at this; exact this
    have hz := ck_zero h0
    have HZ : Hid (∀ c ∈ cs, c.length ≤ 65536 ∧ ∀ x ∈ c, amB vars x = true) := hz.2.2.2.1
    have hzl : cs.length ≤ 1048576 := hz.2.2.1
    clear HC hz
    have HAm : Hid (∀ W, Calls Tryd.prog 43 #[.int .i64 l, .int .i64 vars] W fun e w' => e = .returned (.bool (amB vars l)) ∧ w' = W) := fun W => among_any l vars W
    cases ha : amB vars l with
    | false =>
      have hE : asE vars cs l = 20 := by unfold asE; rw [if_pos h0, if_neg (by rw [ha]; decide)]
      have HP : Hid (asE vars cs l = 20 ∧ asV vars cs l = 0 ∧ asC vars cs l = []) := ⟨hE, by unfold asV; rw [if_neg (by rw [hE]; decide)], by unfold asC; rw [if_neg (by rw [hE]; decide)]⟩
      have HAx : Hid (amB vars l = false) := ha
      clear hE ha h0 HZ HI HCl HAm
      generalize hpp : AsPost vars cs l w = PP
      have HPP : Hid (∀ e w', AsPost vars cs l w e w' → PP e w') := fun e w' hh => by rw [← hpp]; exact hh
      clear hpp
      generalize (ck vars cs).1 = r1 at *
      generalize hn : cs.length = n at *
      clear hn
      go_enter Tryd.func33, Tryd.ntmps33
      go_wp2_with fail
      have y0 : ((w.alloc (.cells #[.int .i64 vars, .slice ad n c] 37)).alloc (.cells #[.int .i64 0, .slice none 0 0] 37)).heap[w.heap.size]? = some (.cells #[.int .i64 vars, .slice ad n c] 37 (0, 0)) := heap_alloc2_old _ _ _
      have y1 : ((w.alloc (.cells #[.int .i64 vars, .slice ad n c] 37)).alloc (.cells #[.int .i64 0, .slice none 0 0] 37)).heap[w.heap.size + 1]? = some (.cells #[.int .i64 0, .slice none 0 0] 37 (0, 0)) := heap_alloc2_new _ _ _
      have HBa : Hid (Below w.heap.size w ((w.alloc (.cells #[.int .i64 vars, .slice ad n c] 37)).alloc (.cells #[.int .i64 0, .slice none 0 0] 37))) := (HB0.out _).alloc (by rw [sz1]; omega) _
      have HSa : Hid (((w.alloc (.cells #[.int .i64 vars, .slice ad n c] 37)).alloc (.cells #[.int .i64 0, .slice none 0 0] 37)).heap.size = w.heap.size + 2) := sz2 _ _ _
      generalize (w.alloc (.cells #[.int .i64 vars, .slice ad n c] 37)).alloc (.cells #[.int .i64 0, .slice none 0 0] 37) = w1 at *
      refine (HC2.out w1 HBa.out).mono ?_
      rintro e w2 ⟨rfl, hb2⟩
      have HB2 : Hid (Below w.heap.size w w2) := below_next HBa.out hb2
      have HR0 : Hid (w2.heap[w.heap.size]? = some (.cells #[.int .i64 vars, .slice ad n c] 37 (0, 0))) := (hb2.block _ (by have := HSa.out; omega)).trans y0
      have HR1 : Hid (w2.heap[w.heap.size + 1]? = some (.cells #[.int .i64 0, .slice none 0 0] 37 (0, 0))) := (hb2.block _ (by have := HSa.out; omega)).trans y1
      have hs2 : w.heap.size + 2 ≤ w2.heap.size := by have := hb2.size; have := HSa.out; omega
      have z0 : w2.cell? ⟨w.heap.size, 0, none⟩ = some (.int .i64 vars) := blk_cell HR0.out 0
      have f1 : w2.cell? ⟨w.heap.size + 1, 0, none⟩ = some (.int .i64 0) := blk_cell HR1.out 0
      have f2 : w2.cell? ⟨w.heap.size + 1, 1, none⟩ = some (.slice none 0 0) := blk_cell HR1.out 1
      have f3 : w2.frozen? ⟨w.heap.size + 1, 0, none⟩ = false := blk_frozen HR1.out 0
      have f4 : w2.frozen? ⟨w.heap.size + 1, 1, none⟩ = false := blk_frozen HR1.out 1
      clear y0 y1 hb2 HSa HBa HB0
      go_wp2_with fail
      cases hlit : litB l with
      | false =>
        have HC1 : Hid (∀ W, Calls Tryd.prog 15 #[.int .i64 l] W fun e w' => e = .returned (.bool false) ∧ w' = W) := by intro W; have := rlit_any l W; rw [hlit] at this; exact this
        go_quiet ((go_at_call 15; exact Calls.quiet_of_same (HC1.out _)))
        have g1 : (w2.drewN nq).cell? ⟨w.heap.size + 1, 0, none⟩ = some (.int .i64 0) := f1
        have g2 : (w2.drewN nq).cell? ⟨w.heap.size + 1, 1, none⟩ = some (.slice none 0 0) := f2
        have g3 : (w2.drewN nq).frozen? ⟨w.heap.size + 1, 0, none⟩ = false := f3
        have g4 : (w2.drewN nq).frozen? ⟨w.heap.size + 1, 1, none⟩ = false := f4
        have HB3 : Hid (Below w.heap.size w (w2.drewN nq)) := below_dn HB2.out nq
        have HR3 : Hid ((w2.drewN nq).heap[w.heap.size + 1]? = some (.cells #[.int .i64 0, .slice none 0 0] 37 (0, 0))) := HR1.out
        clear f1 f2 f3 f4 HB2 HR1
        generalize w2.drewN nq = w3 at *
        go_wp2
        have hfin : ((w3.setCell ⟨w.heap.size + 1, 0, none⟩ (.int .i64 0)).setCell ⟨w.heap.size + 1, 1, none⟩ (.slice none 0 0)).heap[w.heap.size + 1]? = some (.cells #[.int .i64 0, .slice none 0 0] 37 (0, 0)) := by
          rw [heap_setCell_same _ (w.heap.size + 1) 1 _ _ _ (heap_setCell_same _ (w.heap.size + 1) 0 _ _ _ HR3.out)]; rfl
        refine bodyPost_ret (v := .tuple #[.agg #[.int .i64 0, .slice none 0 0], .int .i64 20]) (res_ct (p := 4) (u := 5) rfl _ _ (w.heap.size + 1) 37 _ (0, 0) _ rfl hfin Tryd.underlying37 rfl (by kernel_rfl)) rfl ?_
        have hle : w.heap.size ≤ w.heap.size + 1 := by omega
        exact HPP.out _ _ ⟨.slice none 0 0, [], by rw [HP.out.1, HP.out.2.1], by rw [HP.out.2.2]; exact OwnL.nil _ _, (HB3.out.setCell hle _).setCell hle _⟩
      | true =>
        have HC1 : Hid (∀ W, Calls Tryd.prog 15 #[.int .i64 l] W fun e w' => e = .returned (.bool true) ∧ w' = W) := by intro W; have := rlit_any l W; rw [hlit] at this; exact this
        have HC2 : Hid (∀ W, Calls Tryd.prog 44 #[.int .i64 l] W fun e w' => e = .returned (.int .i64 (vr l)) ∧ w' = W) := fun W => rvar_any l W hlit
        have hvr : vars < vr l := by have := HAx.out; unfold amB at this; rw [hlit] at this; simp at this; exact this
        generalize vr l = p at *
        have hdec : decide (vars < p) = true := by simp; omega
        go_quiet (first | ((go_at_call 15; exact Calls.quiet_of_same (HC1.out _))) | ((go_at_call 44; exact Calls.quiet_of_same (HC2.out _))))
        have g1 : (w2.drewN nq).cell? ⟨w.heap.size + 1, 0, none⟩ = some (.int .i64 0) := f1
        have g2 : (w2.drewN nq).cell? ⟨w.heap.size + 1, 1, none⟩ = some (.slice none 0 0) := f2
        have g3 : (w2.drewN nq).frozen? ⟨w.heap.size + 1, 0, none⟩ = false := f3
        have g4 : (w2.drewN nq).frozen? ⟨w.heap.size + 1, 1, none⟩ = false := f4
        have HB3 : Hid (Below w.heap.size w (w2.drewN nq)) := below_dn HB2.out nq
        have HR3 : Hid ((w2.drewN nq).heap[w.heap.size + 1]? = some (.cells #[.int .i64 0, .slice none 0 0] 37 (0, 0))) := HR1.out
        clear f1 f2 f3 f4 HB2 HR1
        generalize w2.drewN nq = w3 at *
        go_wp2
        have hfin : ((w3.setCell ⟨w.heap.size + 1, 0, none⟩ (.int .i64 0)).setCell ⟨w.heap.size + 1, 1, none⟩ (.slice none 0 0)).heap[w.heap.size + 1]? = some (.cells #[.int .i64 0, .slice none 0 0] 37 (0, 0)) := by
          rw [heap_setCell_same _ (w.heap.size + 1) 1 _ _ _ (heap_setCell_same _ (w.heap.size + 1) 0 _ _ _ HR3.out)]; rfl
        refine bodyPost_ret (v := .tuple #[.agg #[.int .i64 0, .slice none 0 0], .int .i64 20]) (res_ct (p := 4) (u := 5) rfl _ _ (w.heap.size + 1) 37 _ (0, 0) _ rfl hfin Tryd.underlying37 rfl (by kernel_rfl)) rfl ?_
        have hle : w.heap.size ≤ w.heap.size + 1 := by omega
        exact HPP.out _ _ ⟨.slice none 0 0, [], by rw [HP.out.1, HP.out.2.1], by rw [HP.out.2.2]; exact OwnL.nil _ _, (HB3.out.setCell hle _).setCell hle _⟩
    | true =>
      have hE : asE vars cs l = 0 := by unfold asE; rw [if_pos h0, if_pos ha]
      have HP : Hid (asE vars cs l = 0 ∧ asV vars cs l = vars ∧ asC vars cs l = asg l (cs.take cs.length)) := ⟨hE, by unfold asV; rw [if_pos hE], by unfold asC; rw [if_pos hE, List.take_length]⟩
      have hlit : litB l = true := by unfold amB at ha; simp at ha; exact ha.1
      have hvr : vr l ≤ vars := by unfold amB at ha; simp at ha; exact ha.2
      have HC1 : Hid (∀ W, Calls Tryd.prog 15 #[.int .i64 l] W fun e w' => e = .returned (.bool true) ∧ w' = W) := by intro W; have := rlit_any l W; rw [hlit] at this; exact this
      have HC3 : Hid (∀ W, Calls Tryd.prog 44 #[.int .i64 l] W fun e w' => e = .returned (.int .i64 (vr l)) ∧ w' = W) := fun W => rvar_any l W hlit
      generalize vr l = p at *
      have hdec : decide (vars < p) = false := by simp; omega
      have hlb := litB_iff.1 hlit
      clear hE ha h0 hlit HAm
      generalize hpp : AsPost vars cs l w = PP
      have HPP : Hid (∀ e w', AsPost vars cs l w e w' → PP e w') := fun e w' hh => by rw [← hpp]; exact hh
      clear hpp
      generalize (ck vars cs).1 = r1 at *
      generalize hn : cs.length = n at *
      have HL : Aside (cs.length = n) := hn
      clear hn
      go_enter Tryd.func33, Tryd.ntmps33
      go_wp2_with fail
      have y0 : ((w.alloc (.cells #[.int .i64 vars, .slice ad n c] 37)).alloc (.cells #[.int .i64 0, .slice none 0 0] 37)).heap[w.heap.size]? = some (.cells #[.int .i64 vars, .slice ad n c] 37 (0, 0)) := heap_alloc2_old _ _ _
      have y1 : ((w.alloc (.cells #[.int .i64 vars, .slice ad n c] 37)).alloc (.cells #[.int .i64 0, .slice none 0 0] 37)).heap[w.heap.size + 1]? = some (.cells #[.int .i64 0, .slice none 0 0] 37 (0, 0)) := heap_alloc2_new _ _ _
      have HBa : Hid (Below w.heap.size w ((w.alloc (.cells #[.int .i64 vars, .slice ad n c] 37)).alloc (.cells #[.int .i64 0, .slice none 0 0] 37))) := (HB0.out _).alloc (by rw [sz1]; omega) _
      have HSa : Hid (((w.alloc (.cells #[.int .i64 vars, .slice ad n c] 37)).alloc (.cells #[.int .i64 0, .slice none 0 0] 37)).heap.size = w.heap.size + 2) := sz2 _ _ _
      generalize (w.alloc (.cells #[.int .i64 vars, .slice ad n c] 37)).alloc (.cells #[.int .i64 0, .slice none 0 0] 37) = w1 at *
      refine (HC2.out w1 HBa.out).mono ?_
      rintro e w2 ⟨rfl, hb2⟩
      have HB2 : Hid (Below w.heap.size w w2) := below_next HBa.out hb2
      have HR0 : Hid (w2.heap[w.heap.size]? = some (.cells #[.int .i64 vars, .slice ad n c] 37 (0, 0))) := (hb2.block _ (by have := HSa.out; omega)).trans y0
      have HR1 : Hid (w2.heap[w.heap.size + 1]? = some (.cells #[.int .i64 0, .slice none 0 0] 37 (0, 0))) := (hb2.block _ (by have := HSa.out; omega)).trans y1
      have hs2 : w.heap.size + 2 ≤ w2.heap.size := by have := hb2.size; have := HSa.out; omega
      have z0 : w2.cell? ⟨w.heap.size, 0, none⟩ = some (.int .i64 vars) := blk_cell HR0.out 0
      have z1 : w2.cell? ⟨w.heap.size, 1, none⟩ = some (.slice ad n c) := blk_cell HR0.out 1
      have zo : ∀ o, (w2.alloc o).cell? ⟨w.heap.size, 1, none⟩ = some (.slice ad n c) := fun o => by
        rw [World.cell?_of_block (w := w2) (Below.heap_alloc _ _ _ (by show w.heap.size < _; omega))]; exact z1
      clear y0 y1 hb2 HSa HBa HB0 HC2
      go_wp2_with fail
      go_quiet (first | ((go_at_call 15; exact Calls.quiet_of_same (HC1.out _))) | ((go_at_call 44; exact Calls.quiet_of_same (HC3.out _))))
      have g0 : (w2.drewN nq).cell? ⟨w.heap.size, 0, none⟩ = some (.int .i64 vars) := z0
      have g1 : (w2.drewN nq).cell? ⟨w.heap.size, 1, none⟩ = some (.slice ad n c) := z1
      have HB3 : Hid (Below w.heap.size w (w2.drewN nq)) := below_dn HB2.out nq
      have HR3 : Hid ((w2.drewN nq).heap[w.heap.size + 1]? = some (.cells #[.int .i64 0, .slice none 0 0] 37 (0, 0))) := HR1.out
      have HR2 : Hid ((w2.drewN nq).heap[w.heap.size]? = some (.cells #[.int .i64 vars, .slice ad n c] 37 (0, 0))) := HR0.out
      have hs3 : w.heap.size + 2 ≤ (w2.drewN nq).heap.size := hs2
      clear z0 z1 zo HB2 HR1 HR0 hs2
      generalize w2.drewN nq = w3 at *
      go_wp2
      go_loopg [9] n (fun gk i wr => ∃ (k : Nat) (v5 : Value) (L : List Value), i = .int .i64 k ∧ k + gk = n ∧ Aside (ASt w w3 wr vars v5 L (asg l (cs.take k))) ∧ Aside (wr.heap[w.heap.size]? = some (.cells #[.int .i64 vars, .slice ad n c] 37 (0, 0))))
      case atStart =>
        refine ⟨0, .slice none 0 0, [], rfl, by omega, ⟨?_, heap_alloc_at _ _, OwnL.nil _ _, HB3.out.alloc (by omega) _, by rw [sz1]; omega⟩, ?_⟩
        · rw [Below.heap_alloc _ _ _ (by omega)]; exact HR3.out
        · show (w3.alloc _).heap[w.heap.size]? = _
          rw [Below.heap_alloc _ _ _ (by omega)]; exact HR2.out
      case round =>
        clear g0 g1
        obtain ⟨k, v5, L, rfl, hk, H, HF0⟩ := hrel
        obtain ⟨ad5, cap5, rfl⟩ := own_shapeC H.out.own.row
        have x0 : wr.cell? ⟨w.heap.size, 1, none⟩ = some (.slice ad n c) := blk_cell HF0.out 1
        by_cases hlt : k < n
        · obtain ⟨b, off, rfl, hb, hc⟩ := HI.out.below H.out.below (by rw [HL.out]; omega)
          obtain ⟨aj, cj, ck1, hij⟩ := hc k (by rw [HL.out]; omega)
          have hC := HZ.out (cs.getD k []) (by rw [List.getD_eq_getElem?_getD, List.getElem?_eq_getElem (by rw [HL.out]; exact hlt)]; exact List.getElem_mem _)
          have HT : Aside (cs.take (k + 1) = cs.take k ++ [cs.getD k []]) := take_succ1 cs k (by rw [HL.out]; exact hlt)
          have HM : Aside ((asg l (cs.take k)).length ≤ k) := Nat.le_trans (asg_len _ _) (by rw [List.length_take]; exact Nat.min_le_left _ _)
          have hc1 := hC.1
          clear hc hC
          generalize cs.getD k [] = C at *
          have q1 : (k : Int) < (n : Int) := by omega
          have HCo : Hid (Calls Tryd.prog 49 #[.slice aj C.length cj, .int .i64 l] wr fun e w' => e = .returned (.bool (decide (l ∈ C))) ∧ w' = wr) := rhas_any aj C cj l wr hij (by omega)
          go_wp2_with fail
          refine HCo.out.mono ?_
          rintro e w' ⟨rfl, hw⟩
          obtain rfl := hw.symm
          by_cases hin : l ∈ C
          · have HA : Aside (asg l (cs.take (k + 1)) = asg l (cs.take k)) := by show _ = _; rw [HT.out, asg_in _ _ _ hin]
            have hd : decide (l ∈ C) = true := by simpa using hin
            go_wp2
            go_roundg (gk - 1)
            case measure => omega
            case rel => exact ⟨k + 1, _, L, by simp, by omega, by rw [HA.out]; exact H, HF0⟩
          · have HA : Aside (asg l (cs.take (k + 1)) = asg l (cs.take k) ++ [woC C (-l)]) := by show _ = _; rw [HT.out, asg_out _ _ _ hin]
            have hd : decide (l ∈ C) = false := by simpa using hin
            have hm := HM.out
            have s5 := H.out.size
            have hbs := H.out.below.size
            have hls : w.heap.size < wr.heap.size := by omega
            have HJ : Hid (Ints wr aj C) := hij
            have HX : Hid (wr.cell? ⟨w.heap.size, 1, none⟩ = some (.slice (some ⟨b, off, none⟩) n c) ∧ wr.cell? ⟨b, off + k, none⟩ = some (.slice aj C.length cj)) := ⟨x0, ck1⟩
            clear hij
            obtain ⟨W5, hW5⟩ : ∃ W, W = wr := ⟨_, rfl⟩
            subst hW5
            go_wp2
            go_loopg [10, 11] C.length (fun gj s10 s11 ws => ∃ j : Nat, s11 = .int .i64 j ∧ j + gj = C.length ∧ Aside (ws.ownsRow W5.heap.size 3 1 s10 (wo (C.take j) (-l)).length ((wo (C.take j) (-l)).map (Value.int .i64))) ∧ Aside (Below W5.heap.size W5 ws))
            case atStart => exact ⟨0, rfl, by omega, World.ownsRow_nil _ _ _ _, Below.refl _ _⟩
            case round =>
              clear x0 ck1
              obtain ⟨j, rfl, hj, HO, HBl⟩ := hrel
              have x0 : wr.cell? ⟨w.heap.size, 1, none⟩ = some (.slice (some ⟨b, off, none⟩) n c) := (HBl.out.cell (p := ⟨w.heap.size, 1, none⟩) hls).trans HX.out.1
              have x1 : wr.cell? ⟨b, off + k, none⟩ = some (.slice aj C.length cj) := (HBl.out.cell (p := ⟨b, off + k, none⟩) hb).trans HX.out.2
              have hWl : (wo (C.take j) (-l)).length ≤ 65536 := Nat.le_trans (wo_len _ _) (by rw [List.length_take]; omega)
              have hszr := HBl.out.size
              by_cases hjq : j < C.length
              · obtain ⟨b2, off2, rfl, hb2, hc2⟩ := HJ.out.below HBl.out (by omega)
                have ck := hc2 j hjq
                have HX0 : Aside (C.take (j + 1) = C.take j ++ [C.getD j 0]) := take_succ_getD C j hjq
                generalize C.getD j 0 = x at *
                have q2 : (j : Int) < (C.length : Int) := by omega
                clear hc2
                by_cases he : x = -l
                · have HS : Aside (wo (C.take (j + 1)) (-l) = wo (C.take j) (-l)) := by
                    show wo (C.take (j + 1)) (-l) = _
                    rw [HX0.out, he]; exact wo_snoc_eq _ _
                  subst he
                  go_wp2
                  go_roundg (C.length - j - 1)
                  case measure => omega
                  case rel => exact ⟨j + 1, by simp, by omega, by rw [HS.out]; exact HO, HBl⟩
                · have heb : (x == -l) = false := by simpa using he
                  have HS : Aside (wo (C.take (j + 1)) (-l) = wo (C.take j) (-l) ++ [x]) := by
                    show wo (C.take (j + 1)) (-l) = _
                    rw [HX0.out]; exact wo_snoc_ne _ he
                  clear he
                  go_wp2_with (at_builtin; refine wpList_append_own _ rfl _ _ 23 rfl W5.heap.size 3 j0 (.int .i64 0) 1 8 Tryd.underlying23 hj0 hy0 hy1 hy2 rfl (by decide) _ _ _ rfl (HO.out.alloc _) ⟨wr.heap.size, 0, none⟩ 1 1 [.int .i64 x] rfl rfl (cell_one_new _ _ _) (ints_oneCell .i64 [x]) (by unfold maxLen; omega) (by omega) (by simp; omega) ?_; intro v4 w4 hown4 hgrow4 hnil4; have HO4 : Aside (w4.ownsRow W5.heap.size 3 1 v4 ((wo (C.take j) (-l)).length + 1) ((wo (C.take j) (-l)).map (Value.int .i64) ++ [.int .i64 x])) := hown4; have HB4 : Aside (Below W5.heap.size W5 w4) := below_append HBl.out hszr HO.out hgrow4; clear hown4 hgrow4 hnil4)
                  go_roundg (C.length - j - 1)
                  case measure => omega
                  case rel =>
                    refine ⟨j + 1, by simp, by omega, ?_, HB4⟩
                    rw [HS.out, List.map_append, List.length_append]
                    exact HO4
              · obtain rfl : j = C.length := by omega
                obtain ⟨a6, c6, hv6, hi6⟩ := own_ints HO.out
                rw [List.take_length] at hv6
                subst hv6
                have HO6 : Hid (wr.ownsRow W5.heap.size 3 1 (.slice a6 (wo C (-l)).length c6) (wo C (-l)).length ((wo C (-l)).map (Value.int .i64))) := by have := HO.out; rw [List.take_length] at this; exact this
                clear hi6 HO
                have HOL := H.out.own
                have HR5 := H.out.r5
                generalize hms : (asg l (cs.take k)).length = m at *
                have HOr : W5.ownsRow w.heap.size 23 1 (.slice ad5 m cap5) m L := by have := HOL.row; rw [hms] at this; exact this
                have hr5 : wr.heap[w3.heap.size]? = some (.cells #[.int .i64 vars, .slice ad5 m cap5] 37 (0, 0)) := (HBl.out.block _ (by omega)).trans HR5
                have z1 : wr.cell? ⟨w3.heap.size, 1, none⟩ = some (.slice ad5 m cap5) := blk_cell hr5 1
                have hne5 : (Value.slice ad5 m cap5).ownBlock ≠ some w3.heap.size := row_ne_blk HOr HR5 (by decide)
                go_wp2_with (at_builtin; refine wpList_append_lies _ rfl _ _ 35 rfl w.heap.size 23 i0 (.slice none 0 0) 1 24 Tryd.underlying35 hi hz0 hz1 hz2 rfl (by omega) (.slice ad5 m cap5) m L rfl ((row_below HOr HBl.out).alloc _) ⟨wr.heap.size, 0, none⟩ 1 1 [.slice a6 (wo C (-l)).length c6] rfl rfl (cell_one_new _ _ _) (by intro u hu; simp at hu; subst hu; rfl) (by omega) (by unfold maxLen; omega) (by omega) (by simp; omega) (wr.heap.size + 1) (by simp) ?_; intro gg cap7 w7 hown7 hgrow hat hlt7; have k7 : w7.heap[w3.heap.size]? = some (.cells #[.int .i64 vars, .slice ad5 m cap5] 37 (0, 0)) := ((hgrow.block w3.heap.size (by simp; omega) (fun e => hne5 e.symm)).trans ((Below.heap_alloc _ _ _ (by omega)).trans hr5)); have k8 := blk_cell k7 1; have k9 := blk_frozen k7 1; have HK7 : Hid (w7.ownsRow w.heap.size 23 1 (.slice (some ⟨gg, 0, none⟩) (m + 1) cap7) (m + 1) (L ++ [.slice a6 (wo C (-l)).length c6]) ∧ (wr.alloc (.cells #[.slice a6 (wo C (-l)).length c6] 23)).grownBy w7 (Value.slice ad5 m cap5).ownBlock ∧ w7.heap[w3.heap.size]? = some (.cells #[.int .i64 vars, .slice ad5 m cap5] 37 (0, 0))) := ⟨hown7, hgrow, k7⟩; clear hown7 hgrow hat k7)
                go_roundg (n - k - 1)
                case measure => omega
                case rel =>
                  have b6 : Below W5.heap.size W5.drew wr := ⟨HBl.out.os, HBl.out.tape, HBl.out.output, HBl.out.size, HBl.out.block⟩
                  have hne0 : (Value.slice ad5 m cap5).ownBlock ≠ some w.heap.size := row_ne_blk HOr HF0.out (by decide)
                  refine ⟨k + 1, .slice (some ⟨gg, 0, none⟩) (m + 1) cap7, L ++ [.slice a6 (wo C (-l)).length c6], by simp, by omega, by rw [HA.out]; exact H.out.step hms hs3 b6 HO6.out HK7.out.1 HK7.out.2.1 HK7.out.2.2, ?_⟩
                  show (w7.setCell ⟨w3.heap.size, 1, none⟩ (.slice (some ⟨gg, 0, none⟩) (m + 1) cap7)).heap[w.heap.size]? = _
                  rw [heap_setCell_other _ _ _ _ (by show w.heap.size ≠ w3.heap.size; omega), HK7.out.2.1.block w.heap.size (by rw [sz1]; omega) (fun e => hne0 e.symm), Below.heap_alloc _ _ _ (by omega), HBl.out.block _ hls]
                  exact HF0.out
        · obtain rfl : k = n := by omega
          have y5 := H.out.r5
          have z0 : wr.cell? ⟨w3.heap.size, 0, none⟩ = some (.int .i64 vars) := blk_cell y5 0
          have z1 : wr.cell? ⟨w3.heap.size, 1, none⟩ = some (.slice ad5 (asg l (cs.take k)).length cap5) := blk_cell y5 1
          have f1 : wr.cell? ⟨w.heap.size + 1, 0, none⟩ = some (.int .i64 0) := blk_cell H.out.r1 0
          have f2 : wr.cell? ⟨w.heap.size + 1, 1, none⟩ = some (.slice none 0 0) := blk_cell H.out.r1 1
          have f3 : wr.frozen? ⟨w.heap.size + 1, 0, none⟩ = false := blk_frozen H.out.r1 0
          have f4 : wr.frozen? ⟨w.heap.size + 1, 1, none⟩ = false := blk_frozen H.out.r1 1
          have HH : Hid (ASt w w3 wr vars (.slice ad5 (asg l (cs.take k)).length cap5) L (asg l (cs.take k))) := H.out
          generalize (asg l (cs.take k)).length = m at z1 HH ⊢
          clear y5
          go_wp2
          have hfin : ((wr.setCell ⟨w.heap.size + 1, 0, none⟩ (.int .i64 vars)).setCell ⟨w.heap.size + 1, 1, none⟩ (.slice ad5 m cap5)).heap[w.heap.size + 1]? = some (.cells #[.int .i64 vars, .slice ad5 m cap5] 37 (0, 0)) := by
            rw [heap_setCell_same _ (w.heap.size + 1) 1 _ _ _ (heap_setCell_same _ (w.heap.size + 1) 0 _ _ _ HH.out.r1)]; rfl
          refine bodyPost_ret (v := .tuple #[.agg #[.int .i64 vars, .slice ad5 m cap5], .int .i64 0]) (res_ct (p := 4) (u := 5) rfl _ _ (w.heap.size + 1) 37 _ (0, 0) _ rfl hfin Tryd.underlying37 rfl (by kernel_rfl)) rfl ?_
          refine HPP.out _ _ ⟨.slice ad5 m cap5, L, by rw [HP.out.1, HP.out.2.1], ?_, ?_⟩
          · rw [HP.out.2.2]
            have hh : (wr.setCell ⟨w.heap.size + 1, 0, none⟩ (.int .i64 vars)).heap[w.heap.size + 1]? = some (.cells (#[.int .i64 0, .slice none 0 0].set! 0 (.int .i64 vars)) 37 (0, 0)) := heap_setCell_same _ (w.heap.size + 1) 0 _ _ _ HH.out.r1
            exact (HH.out.own.set (w.heap.size + 1) 0 _ HH.out.r1 (by decide) (by decide)).set (w.heap.size + 1) 1 _ hh (by decide) (by decide)
          · have hle : w.heap.size ≤ w.heap.size + 1 := by omega
            exact (HH.out.below.setCell hle _).setCell hle _
  · have hE : asE vars cs l = (ck vars cs).2 := by unfold asE; rw [if_neg h0]
    have HP : Hid (asE vars cs l = (ck vars cs).2 ∧ asV vars cs l = 0 ∧ asC vars cs l = []) := ⟨hE, by unfold asV; rw [if_neg (by rw [hE]; exact h0)], by unfold asC; rw [if_neg (by rw [hE]; exact h0)]⟩
    clear hE HI HCl
    ·
      generalize hpp : AsPost vars cs l w = PP
      have HPP : Hid (∀ e w', AsPost vars cs l w e w' → PP e w') := fun e w' hh => by rw [← hpp]; exact hh
      clear hpp
      generalize (ck vars cs).1 = r1 at *
      generalize (ck vars cs).2 = r2 at *
      have e1 : (r2 != 0) = true := by simpa using h0
      generalize hn : cs.length = n at *
      clear hn
      go_enter Tryd.func33, Tryd.ntmps33
      go_wp2_with fail
      have y0 : ((w.alloc (.cells #[.int .i64 vars, .slice ad n c] 37)).alloc (.cells #[.int .i64 0, .slice none 0 0] 37)).heap[w.heap.size]? = some (.cells #[.int .i64 vars, .slice ad n c] 37 (0, 0)) := heap_alloc2_old _ _ _
      have y1 : ((w.alloc (.cells #[.int .i64 vars, .slice ad n c] 37)).alloc (.cells #[.int .i64 0, .slice none 0 0] 37)).heap[w.heap.size + 1]? = some (.cells #[.int .i64 0, .slice none 0 0] 37 (0, 0)) := heap_alloc2_new _ _ _
      have HBa : Hid (Below w.heap.size w ((w.alloc (.cells #[.int .i64 vars, .slice ad n c] 37)).alloc (.cells #[.int .i64 0, .slice none 0 0] 37))) := (HB0.out _).alloc (by rw [sz1]; omega) _
      have HSa : Hid (((w.alloc (.cells #[.int .i64 vars, .slice ad n c] 37)).alloc (.cells #[.int .i64 0, .slice none 0 0] 37)).heap.size = w.heap.size + 2) := sz2 _ _ _
      generalize (w.alloc (.cells #[.int .i64 vars, .slice ad n c] 37)).alloc (.cells #[.int .i64 0, .slice none 0 0] 37) = w1 at *
      refine (HC.out w1 HBa.out).mono ?_
      rintro e w2 ⟨rfl, hb2⟩
      have HB2 : Hid (Below w.heap.size w w2) := below_next HBa.out hb2
      have HR0 : Hid (w2.heap[w.heap.size]? = some (.cells #[.int .i64 vars, .slice ad n c] 37 (0, 0))) := (hb2.block _ (by have := HSa.out; omega)).trans y0
      have HR1 : Hid (w2.heap[w.heap.size + 1]? = some (.cells #[.int .i64 0, .slice none 0 0] 37 (0, 0))) := (hb2.block _ (by have := HSa.out; omega)).trans y1
      have hs2 : w.heap.size + 2 ≤ w2.heap.size := by have := hb2.size; have := HSa.out; omega
      have z0 : w2.cell? ⟨w.heap.size, 0, none⟩ = some (.int .i64 vars) := blk_cell HR0.out 0
      have f1 : w2.cell? ⟨w.heap.size + 1, 0, none⟩ = some (.int .i64 0) := blk_cell HR1.out 0
      have f2 : w2.cell? ⟨w.heap.size + 1, 1, none⟩ = some (.slice none 0 0) := blk_cell HR1.out 1
      have f3 : w2.frozen? ⟨w.heap.size + 1, 0, none⟩ = false := blk_frozen HR1.out 0
      have f4 : w2.frozen? ⟨w.heap.size + 1, 1, none⟩ = false := blk_frozen HR1.out 1
      clear y0 y1 hb2 HSa HBa HB0
      go_wp2
      have hfin : ((w2.setCell ⟨w.heap.size + 1, 0, none⟩ (.int .i64 0)).setCell ⟨w.heap.size + 1, 1, none⟩ (.slice none 0 0)).heap[w.heap.size + 1]? = some (.cells #[.int .i64 0, .slice none 0 0] 37 (0, 0)) := by
        rw [heap_setCell_same _ (w.heap.size + 1) 1 _ _ _ (heap_setCell_same _ (w.heap.size + 1) 0 _ _ _ HR1.out)]; rfl
      refine bodyPost_ret (v := .tuple #[.agg #[.int .i64 0, .slice none 0 0], .int .i64 r2]) (res_ct (p := 4) (u := 5) rfl _ _ (w.heap.size + 1) 37 _ (0, 0) _ rfl hfin Tryd.underlying37 rfl (by kernel_rfl)) rfl ?_
      have hle : w.heap.size ≤ w.heap.size + 1 := by omega
      exact HPP.out _ _ ⟨.slice none 0 0, [], by rw [HP.out.1, HP.out.2.1], by rw [HP.out.2.2]; exact OwnL.nil _ _, (HB2.out.setCell hle _).setCell hle _⟩
end Go.Proofs.YtkiihbkcccikiaaDoor
