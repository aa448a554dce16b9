import Derived.Test.YtokpjegiinggdaaDoorTStep
import Derived.Test.YtokpjegiinggdaaDoorAssign
namespace Go.Proofs.YtokpjegiinggdaaDoor
open Go.ChangeShapes Go.WideShapes Go.ChangeAt Go.RowKit Go.Cn Go.WideMaps Go.Maps

set_option maxHeartbeats 4000000 in
set_option maxRecDepth 100000 in
theorem tidy_any (vars : Int) (ad : Option Addr) (cs : List (List Int)) (c : Nat) (w : World) (h : ClsS w ad cs) (hl : cs.length ≤ 1000000000000000000) (hcl : ∀ j, j < cs.length → (cs.getD j []).length ≤ 1000000000000000000) (hlv : LV w) :
    Calls Tryd.prog 20 #[.agg #[.int .i64 vars, .slice ad cs.length c]] w (TdPost vars cs w) := by
  have HB0 : Aside (∀ o, Below w.heap.size w (w.alloc o)) := fun o => (Below.refl _ _).alloc (Nat.le_refl _) o
  have HC : Hid (∀ W, Below w.heap.size w W → Calls Tryd.prog 22 #[.agg #[.int .i64 vars, .slice ad cs.length c]] W fun e w' => e = .returned (.tuple #[.int .i64 (ck vars cs).1, .int .i64 (ck vars cs).2]) ∧ Below W.heap.size W w') := fun W hW => check_any vars ad cs c W (h.cls.below hW) hl hcl
  have HI : Hid (ClsS w ad cs) := h
  have HV : Hid (LV w) := hlv
  clear h hcl hlv
  by_cases h0 : (ck vars cs).2 = 0
  · have HC2 : Hid (∀ W, Below w.heap.size w W → Calls Tryd.prog 22 #[.agg #[.int .i64 vars, .slice ad cs.length c]] W fun e w' => e = .returned (.tuple #[.int .i64 (ck vars cs).1, .int .i64 0]) ∧ Below W.heap.size W w') := by intro W hW; have := HC.out W hW; rw [h0] at this; exact this
    have hz := ck_zero h0
    have HZ : Hid (∀ c ∈ cs, c.length ≤ 65536 ∧ ∀ x ∈ c, litB x = true) := fun c hc => ⟨(hz.2.2.2.1 c hc).1, fun x hx => by have := (hz.2.2.2.1 c hc).2 x hx; unfold amB at this; simp at this; exact this.1⟩
    have hzl : cs.length ≤ 1048576 := hz.2.2.1
    have HSum : Hid (∀ k, ((td (cs.take k)).map List.length).sum ≤ 4194304) := fun k => Nat.le_trans (td_sum _) (Nat.le_trans (sum_take cs k) hz.2.2.2.2)
    have HTl : Hid (∀ k, (td (cs.take k)).length ≤ k) := fun k => Nat.le_trans (td_len _) (by rw [List.length_take]; exact Nat.min_le_left _ _)
    have HP : Hid ((ck vars cs).2 = 0 ∧ tdV vars cs = vars ∧ tdC vars cs = td (cs.take cs.length)) := ⟨h0, by unfold tdV; rw [if_pos h0], by unfold tdC; rw [if_pos h0, List.take_length]⟩
    clear HC hz h0
    generalize hpp : TdPost vars cs w = PP
    have HPP : Hid (∀ e w', TdPost vars cs w e w' → PP e w') := fun e w' hh => by rw [← hpp]; exact hh
    clear hpp
    generalize (ck vars cs).1 = r1 at *
    generalize hn : cs.length = n at *
    have HL : Aside (cs.length = n) := hn
    clear hn
    go_enter Tryd.func20, Tryd.ntmps20
    go_wp2_with fail
    have y0 : ((w.alloc (.cells #[.int .i64 vars, .slice ad n c] 24)).alloc (.cells #[.int .i64 0, .slice none 0 0] 24)).heap[w.heap.size]? = some (.cells #[.int .i64 vars, .slice ad n c] 24 (0, 0)) := heap_alloc2_old _ _ _
    have y1 : ((w.alloc (.cells #[.int .i64 vars, .slice ad n c] 24)).alloc (.cells #[.int .i64 0, .slice none 0 0] 24)).heap[w.heap.size + 1]? = some (.cells #[.int .i64 0, .slice none 0 0] 24 (0, 0)) := heap_alloc2_new _ _ _
    have HBa : Hid (Below w.heap.size w ((w.alloc (.cells #[.int .i64 vars, .slice ad n c] 24)).alloc (.cells #[.int .i64 0, .slice none 0 0] 24))) := (HB0.out _).alloc (by rw [sz1]; omega) _
    have HSa : Hid (((w.alloc (.cells #[.int .i64 vars, .slice ad n c] 24)).alloc (.cells #[.int .i64 0, .slice none 0 0] 24)).heap.size = w.heap.size + 2) := sz2 _ _ _
    generalize (w.alloc (.cells #[.int .i64 vars, .slice ad n c] 24)).alloc (.cells #[.int .i64 0, .slice none 0 0] 24) = w1 at *
    refine (HC2.out w1 HBa.out).mono ?_
    rintro e w2 ⟨rfl, hb2⟩
    have HB2 : Hid (Below w.heap.size w w2) := below_next HBa.out hb2
    have HR2 : Hid (w2.heap[w.heap.size]? = some (.cells #[.int .i64 vars, .slice ad n c] 24 (0, 0)) ∧ w2.heap[w.heap.size + 1]? = some (.cells #[.int .i64 0, .slice none 0 0] 24 (0, 0))) := ⟨(hb2.block _ (by have := HSa.out; omega)).trans y0, (hb2.block _ (by have := HSa.out; omega)).trans y1⟩
    have hs2 : w.heap.size + 2 ≤ w2.heap.size := by have := hb2.size; have := HSa.out; omega
    clear y0 y1 hb2 HSa HBa HB0 HC2
    go_wp2_with fail
    refine (newG_any w2).mono ?_
    rintro e w3 ⟨G, M, rfl, hG, hb3⟩
    have HG : Hid (Gath w3 w2.heap.size G M (.slice none 0 0) [] 0 false 0 (.map [])) := hG
    have HB3 : Hid (Below w.heap.size w w3) := below_next HB2.out hb3
    have HR3 : Hid (w3.heap[w.heap.size]? = some (.cells #[.int .i64 vars, .slice ad n c] 24 (0, 0)) ∧ w3.heap[w.heap.size + 1]? = some (.cells #[.int .i64 0, .slice none 0 0] 24 (0, 0))) := ⟨(hb3.block _ (by omega)).trans HR2.out.1, (hb3.block _ (by omega)).trans HR2.out.2⟩
    have hs3 : w2.heap.size ≤ w3.heap.size := hb3.size
    have e1 : w3.cell? ⟨w.heap.size, 1, none⟩ = some (.slice ad n c) := blk_cell HR3.out.1 1
    have HRa : Hid (w2.heap[w.heap.size]? = some (.cells #[.int .i64 vars, .slice ad n c] 24 (0, 0)) ∧ w2.heap[w.heap.size + 1]? = some (.cells #[.int .i64 0, .slice none 0 0] 24 (0, 0))) := HR2.out
    have HB23 : Hid (Below w2.heap.size w2 w3) := hb3
    clear hG hb3 HR2 HR3
    have HR2 : Hid (∀ W, Below w2.heap.size w2 W → W.heap[w.heap.size]? = some (.cells #[.int .i64 vars, .slice ad n c] 24 (0, 0)) ∧ W.heap[w.heap.size + 1]? = some (.cells #[.int .i64 0, .slice none 0 0] 24 (0, 0))) := fun W hW => ⟨(hW.block _ (by omega)).trans HRa.out.1, (hW.block _ (by omega)).trans HRa.out.2⟩
    clear HRa
    go_wp2
    go_loopg [23] n (fun gk i wr => ∃ (k : Nat) (v : Value) (pl : List Pl) (D : DataW Unit), i = .int .i64 k ∧ k + gk = n ∧ Aside (TSt wr w2.heap.size G M v pl (td (cs.take k)) k D) ∧ Aside (Below w2.heap.size w2 wr))
    case atStart => exact ⟨0, .slice none 0 0, [], .map [], rfl, by omega, ⟨HG.out, rfl, fun j hj => absurd hj (Nat.not_lt_zero _), List.Pairwise.nil, fun p hp => absurd hp (by simp), TMap.nil⟩, HB23.out⟩
    case round =>
      clear e1
      obtain ⟨k, v, pl, D, rfl, hk, H, HB⟩ := hrel
      have hbs := HB.out.size
      by_cases hlt : k < n
      · obtain ⟨b, off, rfl, hb, hc⟩ := HI.out.below (below_next HB2.out HB.out) (by rw [HL.out]; omega)
        obtain ⟨aj, cj, ck1, hsl⟩ := hc k (by rw [HL.out]; omega)
        have hC := HZ.out (cs.getD k []) (by rw [List.getD_eq_getElem?_getD, List.getElem?_eq_getElem (by rw [HL.out]; exact hlt)]; exact List.getElem_mem _)
        have HT : Aside (cs.take (k + 1) = cs.take k ++ [cs.getD k []]) := take_succ1 cs k (by rw [HL.out]; exact hlt)
        have hm := HTl.out k
        have hsm := HSum.out (k + 1)
        have hc1 := hC.1
        clear hc
        generalize cs.getD k [] = C at *
        have q1 : (k : Int) < (n : Int) := by omega
        have HSe : Hid (Calls Tryd.prog 37 #[.slice aj C.length cj] wr fun e w' => ∃ v, e = .returned v ∧ w'.ownsRow wr.heap.size 3 1 v (setL C).length ((setL C).map (Value.int .i64)) ∧ Below wr.heap.size wr w') := setOf_sl aj C cj wr hsl (by omega) hC.2
        have hSl : (setL C).length ≤ 65536 := Nat.le_trans (setL_len C) hc1
        have HSlit : Hid ((∀ x ∈ setL C, litB x = true) ∧ SetC (setL C)) := ⟨fun x hx => hC.2 x ((mem_setL x C).1 hx), setC_setL C⟩
        have HOld : Hid (two (setL C) = true ∨ setL C ∈ td (cs.take k) → td (cs.take (k + 1)) = td (cs.take k)) := fun hh => by rw [HT.out]; exact td_old hh
        have HNew : Hid (¬ (two (setL C) = true ∨ setL C ∈ td (cs.take k)) → td (cs.take (k + 1)) = td (cs.take k) ++ [setL C]) := fun hh => by rw [HT.out]; exact td_new hh
        clear hsl hC HT
        generalize setL C = S at *
        go_wp2_with fail
        refine HSe.out.mono ?_
        rintro e w4 ⟨v4, rfl, ho4, hb4⟩
        obtain ⟨a4, c4, rfl, hi4⟩ := own_ints ho4
        have HTw : Hid (Calls Tryd.prog 38 #[.slice a4 S.length c4] w4 fun e w' => e = .returned (.bool (two S)) ∧ ∃ m, w' = w4.drewN m) := twofold_any a4 S c4 w4 hi4 (by omega) HSlit.out.1 HSlit.out.2
        have HX4 : Hid (w4.ownsRow w2.heap.size 3 1 (.slice a4 S.length c4) S.length (S.map (Value.int .i64)) ∧ Ints w4 a4 S) := ⟨own_up ho4 hbs, hi4⟩
        have HH4 : Hid (TSt w4 w2.heap.size G M v pl (td (cs.take k)) k D) := H.out.below hb4
        have HB4 : Hid (Below w2.heap.size w2 w4) := below_next HB.out hb4
        clear ho4 hb4 hi4 HSe H HB hbs
        go_wp2_with fail
        refine HTw.out.mono ?_
        rintro e w5 ⟨rfl, m5, hw5⟩
        have hd5 : Below w4.heap.size w4 w5 := by rw [hw5]; exact below_dn (Below.refl _ _) m5
        have HX5 : Hid (w5.ownsRow w2.heap.size 3 1 (.slice a4 S.length c4) S.length (S.map (Value.int .i64)) ∧ Ints w5 a4 S) := ⟨own_below HX4.out.1 hd5, HX4.out.2.below hd5⟩
        have HH5 : Hid (TSt w5 w2.heap.size G M v pl (td (cs.take k)) k D) := HH4.out.below hd5
        have HB5 : Hid (Below w2.heap.size w2 w5) := below_next HB4.out hd5
        have HP5 : Hid (PowT w5.heap.size w5) := (HV.out.below (below_next HB2.out HB5.out)).pow
        clear hw5 hd5 HX4 HH4 HB4 HTw
        cases htw : two S with
        | true =>
          have HE : Aside (td (cs.take (k + 1)) = td (cs.take k)) := HOld.out (Or.inl htw)
          clear htw
          go_wp2
          go_roundg (gk - 1)
          case measure => omega
          case rel => exact ⟨k + 1, v, pl, D, by simp, by omega, by rw [HE.out]; exact HH5.out.more, HB5⟩
        | false =>
          by_cases hin : S ∈ td (cs.take k)
          · have HE : Aside (td (cs.take (k + 1)) = td (cs.take k)) := HOld.out (Or.inr hin)
            have HA : Hid (Calls Tryd.prog 32 #[.pointer (some ⟨G, 0, none⟩), .slice a4 S.length c4, .int .i64 k] w5 fun e w' => e = .returned (.tuple #[]) ∧ Gath w' w2.heap.size G M v (pl.map slP) ((((td (cs.take k)).map List.length).sum : Nat) : Int) false (td (cs.take k)).length D ∧ GKept w5 w' G M v) := by
              obtain ⟨i, hi, ei⟩ := List.getElem_of_mem hin
              have hip : i < pl.length := by rw [HH5.out.len]; exact hi
              have eg : (td (cs.take k)).getD i [] = S := by rw [List.getD_eq_getElem?_getD, List.getElem?_eq_getElem hi, ei]; rfl
              refine add_old w2.heap.size G M _ v (pl.map slP) _ k false D a4 S c4 i (slV pl[i]) (pl[i].2.val : Int) w5 HH5.out.gath HX5.out.2 HSlit.out.1 hSl HP5.out (by rw [HH5.out.tm.has S]; simpa using hin) (fun zd => by have := HH5.out.tm.val i hi zd; rw [eg] at this; exact this) (by rw [List.getElem?_map, List.getElem?_eq_getElem hip]; rfl) ?_
              have := HH5.out.bound pl[i] (List.getElem_mem _)
              omega
            clear htw
            go_wp2_with fail
            refine HA.out.mono ?_
            rintro e w6 ⟨rfl, hg6, hk6⟩
            have HH6 : Hid (TSt w6 w2.heap.size G M v pl (td (cs.take k)) (k + 1) D) := ⟨hg6, HH5.out.len, fun j hj => row_gkept (HH5.out.each j hj) hk6 HH5.out.gath, HH5.out.rise, fun p hp => Nat.lt_succ_of_lt (HH5.out.bound p hp), HH5.out.tm⟩
            have HB6 : Hid (Below w2.heap.size w2 w6) := hk6.below HH5.out.gath HB5.out HB5.out.size
            clear hg6 hk6
            go_wp2
            go_roundg (gk - 1)
            case measure => omega
            case rel => exact ⟨k + 1, v, pl, D, by simp, by omega, by rw [HE.out]; exact HH6.out, HB6⟩
          · have HE : Aside (td (cs.take (k + 1)) = td (cs.take k) ++ [S]) := HNew.out (fun hh => hh.elim (fun h1 => by rw [htw] at h1; cases h1) hin)
            have hsum : (((td (cs.take k)).map List.length).sum : Nat) + S.length ≤ 4194304 := by
              have := hsm
              rw [HE.out] at this
              simpa using this
            have HA : Hid (Calls Tryd.prog 32 #[.pointer (some ⟨G, 0, none⟩), .slice a4 S.length c4, .int .i64 k] w5 fun e w' => e = .returned (.tuple #[]) ∧ ∃ v', Gath w' w2.heap.size G M v' (pl.map slP ++ [(.slice a4 S.length c4, (k : Int))]) (((((td (cs.take k)).map List.length).sum : Nat) : Int) + S.length) false ((td (cs.take k)).length + 1) (D.put (.string (txtL S)) (.lit (.int .i64 ((pl.map slP).length : Nat)))) ∧ GKept w5 w' G M v) :=
              add_new w2.heap.size G M _ v (pl.map slP) _ k false D a4 S c4 w5 HH5.out.gath HX5.out.2 HSlit.out.1 hSl HP5.out HB5.out.size (by rw [HH5.out.tm.has S]; simpa using hin) (by rw [List.length_map, HH5.out.len]; omega) (by omega) (by omega) (by omega)
            clear htw
            go_wp2_with fail
            refine HA.out.mono ?_
            rintro e w6 ⟨rfl, v6, hg6, hk6⟩
            have HH6 : Hid (TSt w6 w2.heap.size G M v6 (pl ++ [((a4, S.length, c4), ⟨k, by omega⟩)]) (td (cs.take k) ++ [S]) (k + 1) (D.put (.string (txtL S)) (.lit (.int .i64 ((td (cs.take k)).length : Nat))))) := HH5.out.new (by omega) hin HX5.out.1 hg6 hk6
            have HB6 : Hid (Below w2.heap.size w2 w6) := hk6.below HH5.out.gath HB5.out HB5.out.size
            clear hg6 hk6
            go_wp2
            go_roundg (gk - 1)
            case measure => omega
            case rel => exact ⟨k + 1, v6, _, _, by simp, by omega, by rw [HE.out]; exact HH6.out, HB6⟩
      · obtain rfl : k = n := by omega
        have hm := HTl.out k
        have hR := HR2.out wr HB.out
        have z0 : wr.cell? ⟨w.heap.size, 0, none⟩ = some (.int .i64 vars) := blk_cell hR.1 0
        have HR9 : Hid (wr.heap[w.heap.size + 1]? = some (.cells #[.int .i64 0, .slice none 0 0] 24 (0, 0))) := hR.2
        have HBw : Hid (Below w.heap.size w wr) := below_next HB2.out HB.out
        have HF : Hid (Calls Tryd.prog 34 #[.pointer (some ⟨G, 0, none⟩), .int .i64 vars] wr fun e w' => ∃ v', e = .returned (.agg #[.int .i64 vars, v']) ∧ w'.ownsRow wr.heap.size 40 1 v' pl.length (pl.map slV) ∧ Below wr.heap.size wr w') :=
          formula_of w2.heap.size G M _ v pl _ vars false D wr H.out.gath (by rw [H.out.len]; omega) (hsort_all H.out.gath (by rw [H.out.len]; omega) H.out.rise)
        have hbs2 := HBw.out.size
        clear hR
        go_wp2_with fail
        refine HF.out.mono ?_
        rintro e w6 ⟨v6, rfl, ho6, hb6⟩
        obtain ⟨ad6, cap6, rfl⟩ := own_shapeC ho6
        have hle6 : w.heap.size ≤ w2.heap.size := by omega
        have HO6 : Hid (OwnL w6 w.heap.size (.slice ad6 pl.length cap6) (pl.map slV) (td (cs.take k))) := ⟨by rw [List.length_map, H.out.len], by rw [← H.out.len]; exact own_up ho6 hbs2, fun j hj => own_up (own_below (H.out.each j hj) hb6) hle6⟩
        have HB6 : Hid (Below w.heap.size w w6) := below_next HBw.out hb6
        have HR6 : Hid (w6.heap[w.heap.size + 1]? = some (.cells #[.int .i64 0, .slice none 0 0] 24 (0, 0))) := (hb6.block _ (by omega)).trans HR9.out
        have f1 : w6.cell? ⟨w.heap.size + 1, 0, none⟩ = some (.int .i64 0) := blk_cell HR6.out 0
        have f2 : w6.cell? ⟨w.heap.size + 1, 1, none⟩ = some (.slice none 0 0) := blk_cell HR6.out 1
        have f3 : w6.frozen? ⟨w.heap.size + 1, 0, none⟩ = false := blk_frozen HR6.out 0
        have f4 : w6.frozen? ⟨w.heap.size + 1, 1, none⟩ = false := blk_frozen HR6.out 1
        clear ho6 hb6 H
        generalize pl.length = pn at *
        go_wp2
        have hfin : ((w6.setCell ⟨w.heap.size + 1, 0, none⟩ (.int .i64 vars)).setCell ⟨w.heap.size + 1, 1, none⟩ (.slice ad6 pn cap6)).heap[w.heap.size + 1]? = some (.cells #[.int .i64 vars, .slice ad6 pn cap6] 24 (0, 0)) := by
          rw [heap_setCell_same _ (w.heap.size + 1) 1 _ _ _ (heap_setCell_same _ (w.heap.size + 1) 0 _ _ _ HR6.out)]; rfl
        refine bodyPost_ret (v := .tuple #[.agg #[.int .i64 vars, .slice ad6 pn cap6], .int .i64 0]) (res_ct (p := 2) (u := 3) rfl _ _ (w.heap.size + 1) 24 _ (0, 0) _ rfl hfin Tryd.underlying24 rfl (by kernel_rfl)) rfl ?_
        refine HPP.out _ _ ⟨.slice ad6 pn cap6, pl.map slV, by rw [HP.out.1, HP.out.2.1], ?_, ?_⟩
        · rw [HP.out.2.2]
          have hh : (w6.setCell ⟨w.heap.size + 1, 0, none⟩ (.int .i64 vars)).heap[w.heap.size + 1]? = some (.cells (#[.int .i64 0, .slice none 0 0].set! 0 (.int .i64 vars)) 24 (0, 0)) := heap_setCell_same _ (w.heap.size + 1) 0 _ _ _ HR6.out
          exact (HO6.out.set (w.heap.size + 1) 0 _ HR6.out (by decide) (by decide)).set (w.heap.size + 1) 1 _ hh (by decide) (by decide)
        · have hle : w.heap.size ≤ w.heap.size + 1 := by omega
          exact (HB6.out.setCell hle _).setCell hle _
  · have HP : Hid (tdV vars cs = 0 ∧ tdC vars cs = []) := ⟨by unfold tdV; rw [if_neg h0], by unfold tdC; rw [if_neg h0]⟩
    clear HI HV
    generalize hpp : TdPost vars cs w = PP
    have HPP : Hid (∀ e w', TdPost vars cs w e w' → PP e w') := fun e w' hh => by rw [← hpp]; exact hh
    clear hpp
    unfold TdPost at HPP
    generalize (ck vars cs).1 = r1 at *
    generalize (ck vars cs).2 = r2 at *
    have e1 : (r2 != 0) = true := by simpa using h0
    generalize hn : cs.length = n at *
    clear hn
    go_enter Tryd.func20, Tryd.ntmps20
    go_wp2_with fail
    have y1 : ((w.alloc (.cells #[.int .i64 vars, .slice ad n c] 24)).alloc (.cells #[.int .i64 0, .slice none 0 0] 24)).heap[w.heap.size + 1]? = some (.cells #[.int .i64 0, .slice none 0 0] 24 (0, 0)) := heap_alloc2_new _ _ _
    have HBa : Hid (Below w.heap.size w ((w.alloc (.cells #[.int .i64 vars, .slice ad n c] 24)).alloc (.cells #[.int .i64 0, .slice none 0 0] 24))) := (HB0.out _).alloc (by rw [sz1]; omega) _
    have HSa : Hid (((w.alloc (.cells #[.int .i64 vars, .slice ad n c] 24)).alloc (.cells #[.int .i64 0, .slice none 0 0] 24)).heap.size = w.heap.size + 2) := sz2 _ _ _
    generalize (w.alloc (.cells #[.int .i64 vars, .slice ad n c] 24)).alloc (.cells #[.int .i64 0, .slice none 0 0] 24) = w1 at *
    refine (HC.out w1 HBa.out).mono ?_
    rintro e w2 ⟨rfl, hb2⟩
    have HB2 : Hid (Below w.heap.size w w2) := below_next HBa.out hb2
    have HR1 : Hid (w2.heap[w.heap.size + 1]? = some (.cells #[.int .i64 0, .slice none 0 0] 24 (0, 0))) := (hb2.block _ (by have := HSa.out; omega)).trans y1
    have f1 : w2.cell? ⟨w.heap.size + 1, 0, none⟩ = some (.int .i64 0) := blk_cell HR1.out 0
    have f2 : w2.cell? ⟨w.heap.size + 1, 1, none⟩ = some (.slice none 0 0) := blk_cell HR1.out 1
    have f3 : w2.frozen? ⟨w.heap.size + 1, 0, none⟩ = false := blk_frozen HR1.out 0
    have f4 : w2.frozen? ⟨w.heap.size + 1, 1, none⟩ = false := blk_frozen HR1.out 1
    clear y1 hb2 HSa HBa HB0
    go_wp2
    have hfin : ((w2.setCell ⟨w.heap.size + 1, 0, none⟩ (.int .i64 0)).setCell ⟨w.heap.size + 1, 1, none⟩ (.slice none 0 0)).heap[w.heap.size + 1]? = some (.cells #[.int .i64 0, .slice none 0 0] 24 (0, 0)) := by
      rw [heap_setCell_same _ (w.heap.size + 1) 1 _ _ _ (heap_setCell_same _ (w.heap.size + 1) 0 _ _ _ HR1.out)]; rfl
    refine bodyPost_ret (v := .tuple #[.agg #[.int .i64 0, .slice none 0 0], .int .i64 r2]) (res_ct (p := 2) (u := 3) rfl _ _ (w.heap.size + 1) 24 _ (0, 0) _ rfl hfin Tryd.underlying24 rfl (by kernel_rfl)) rfl ?_
    have hle : w.heap.size ≤ w.heap.size + 1 := by omega
    exact HPP.out _ _ ⟨.slice none 0 0, [], by rw [HP.out.1], by rw [HP.out.2]; exact OwnL.nil _ _, (HB2.out.setCell hle _).setCell hle _⟩
end Go.Proofs.YtokpjegiinggdaaDoor
