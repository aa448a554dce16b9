import Derived.Test.YtokpjegiinggdaaDoorOwn
import Derived.Test.YtokpjegiinggdaaDoorOne
import Derived.Deep.RegionLaw
import Derived.Deep.AppendLies
namespace Go.Proofs.YtokpjegiinggdaaDoor
open Go.ChangeShapes Go.WideShapes Go.ChangeAt Go.RowKit Go.Cn

def AsPost (vars : Int) (cs : List (List Int)) (l : Int) (w : World) : Ending → World → Prop := fun e w' =>
  ∃ v L, e = .returned (.tuple #[.agg #[.int .i64 (asV vars cs l), v], .int .i64 (asE vars cs l)]) ∧ OwnL w' w.heap.size v L (asC vars cs l) ∧ Below w.heap.size w w'
structure ASt (w w2 wr : World) (vars : Int) (v5 : Value) (L : List Value) (cs : List (List Int)) : Prop where
  r1 : wr.heap[w.heap.size + 1]? = some (.cells #[.int .i64 0, .slice none 0 0] 24 (0, 0))
  r5 : wr.heap[w2.heap.size]? = some (.cells #[.int .i64 vars, v5] 24 (0, 0))
  own : OwnL wr w.heap.size v5 L cs
  below : Below w.heap.size w wr
  size : w2.heap.size + 1 ≤ wr.heap.size
theorem ASt.step {w w2 wr w6 w7 : World} {vars : Int} {ad5 : Option Addr} {m cap5 gg cap7 : Nat} {L : List Value} {cs : List (List Int)} {x : Value} {D : List Int} (H : ASt w w2 wr vars (.slice ad5 m cap5) L cs) (hm : cs.length = m) (hs2 : w.heap.size + 2 ≤ w2.heap.size)
    (hb6 : Below wr.heap.size wr.drew w6) (ho6 : w6.ownsRow wr.heap.size 3 1 x D.length (D.map (Value.int .i64))) (ho7 : w7.ownsRow w.heap.size 40 1 (.slice (some ⟨gg, 0, none⟩) (m + 1) cap7) (m + 1) (L ++ [x]))
    (hg : (w6.alloc (.cells #[x] 40)).grownBy w7 (Value.slice ad5 m cap5).ownBlock) (h7 : w7.heap[w2.heap.size]? = some (.cells #[.int .i64 vars, .slice ad5 m cap5] 24 (0, 0))) :
    ASt w w2 (w7.setCell ⟨w2.heap.size, 1, none⟩ (.slice (some ⟨gg, 0, none⟩) (m + 1) cap7)) vars (.slice (some ⟨gg, 0, none⟩) (m + 1) cap7) (L ++ [x]) (cs ++ [D]) := by
  subst hm
  have b6 : Below wr.heap.size wr w6 := ⟨hb6.os, hb6.tape, hb6.output, hb6.size, hb6.block⟩
  have hs5 := H.size
  have hb5 := H.below.size
  have hs6 := b6.size
  have hal : Below w6.heap.size w6 (w6.alloc (.cells #[x] 40)) := (Below.refl _ _).alloc (Nat.le_refl _) _
  have hne1 : (Value.slice ad5 cs.length cap5).ownBlock ≠ some (w.heap.size + 1) := row_ne_blk H.own.row H.r1 (by decide)
  have hsn : OwnL w7 w.heap.size (.slice (some ⟨gg, 0, none⟩) (cs.length + 1) cap7) (L ++ [x]) (cs ++ [D]) := OwnL.snoc ((H.own.below b6).below hal) (own_below (own_up ho6 hb5) hal) ho7 hg
  have hsz := hg.size
  rw [sz1] at hsz
  refine ⟨?_, ?_, ?_, ?_, ?_⟩
  · rw [heap_setCell_other _ _ _ _ (by show w.heap.size + 1 ≠ w2.heap.size; omega), hg.block (w.heap.size + 1) (by rw [sz1]; omega) (fun e => hne1 e.symm), Below.heap_alloc _ _ _ (by omega), b6.block _ (by omega)]
    exact H.r1
  · rw [heap_setCell_same _ w2.heap.size 1 _ _ _ h7]; rfl
  · exact hsn.set w2.heap.size 1 _ h7 (by decide) (by decide)
  · have b1 : Below w.heap.size w w7 := (below_next (below_next H.below b6) hal).grown hg (by rw [sz1]; omega) (fun j hj => (H.own.row.lt j hj).1)
    exact b1.setCell (by show w.heap.size ≤ w2.heap.size; omega) _
  · simp
    omega
set_option maxHeartbeats 4000000 in
set_option maxRecDepth 100000 in
theorem assign_any (vars : Int) (ad : Option Addr) (cs : List (List Int)) (c : Nat) (l : Int) (w : World) (h : Cls w ad cs) (hl : cs.length ≤ 1000000000000000000) (hcl : ∀ j, j < cs.length → (cs.getD j []).length ≤ 1000000000000000000) :
    Calls Tryd.prog 19 #[.agg #[.int .i64 vars, .slice ad cs.length c], .int .i64 l] w (AsPost vars cs l w) := by
  obtain ⟨i0, hi, hz0, hz1, hz2⟩ := info_parts Tryd.info40
  have HB0 : Aside (∀ o, Below w.heap.size w (w.alloc o)) := fun o => (Below.refl _ _).alloc (Nat.le_refl _) o
  have HC : Hid (∀ W, Below w.heap.size w W → Calls Tryd.prog 22 #[.agg #[.int .i64 vars, .slice ad cs.length c]] W fun e w' => e = .returned (.tuple #[.int .i64 (ck vars cs).1, .int .i64 (ck vars cs).2]) ∧ Below W.heap.size W w') := fun W hW => check_any vars ad cs c W (h.below hW) hl hcl
  have HI : Hid (Cls w ad cs) := h
  have HCl : Hid (∀ j, j < cs.length → (cs.getD j []).length ≤ 1000000000000000000) := hcl
  clear h hcl
  by_cases h0 : (ck vars cs).2 = 0
  · have HC2 : Hid (∀ W, Below w.heap.size w W → Calls Tryd.prog 22 #[.agg #[.int .i64 vars, .slice ad cs.length c]] W fun e w' => e = .returned (.tuple #[.int .i64 (ck vars cs).1, .int .i64 0]) ∧ Below W.heap.size W w') := by intro W hW; have := HC.out W hW; rw [h0] at this; exact this
    have hz := ck_zero h0
    have HZ : Hid (∀ c ∈ cs, c.length ≤ 65536 ∧ ∀ x ∈ c, amB vars x = true) := hz.2.2.2.1
    have hzl : cs.length ≤ 1048576 := hz.2.2.1
    clear HC hz
    have HAm : Hid (∀ W, Calls Tryd.prog 40 #[.int .i64 l, .int .i64 vars] W fun e w' => e = .returned (.bool (amB vars l)) ∧ w' = W) := fun W => among_any l vars W
    cases ha : amB vars l with
    | false =>
      have hE : asE vars cs l = 20 := by unfold asE; rw [if_pos h0, if_neg (by rw [ha]; decide)]
      have HP : Hid (asE vars cs l = 20 ∧ asV vars cs l = 0 ∧ asC vars cs l = []) := ⟨hE, by unfold asV; rw [if_neg (by rw [hE]; decide)], by unfold asC; rw [if_neg (by rw [hE]; decide)]⟩
      rw [ha] at HAm
      clear hE ha h0 HZ HI HCl
      generalize hpp : AsPost vars cs l w = PP
      have HPP : Hid (∀ e w', AsPost vars cs l w e w' → PP e w') := fun e w' hh => by rw [← hpp]; exact hh
      clear hpp
      generalize (ck vars cs).1 = r1 at *
      generalize hn : cs.length = n at *
      clear hn
      go_enter Tryd.func19, Tryd.ntmps19
      go_wp2_with fail
      have y0 : ((w.alloc (.cells #[.int .i64 vars, .slice ad n c] 24)).alloc (.cells #[.int .i64 0, .slice none 0 0] 24)).heap[w.heap.size]? = some (.cells #[.int .i64 vars, .slice ad n c] 24 (0, 0)) := heap_alloc2_old _ _ _
      have y1 : ((w.alloc (.cells #[.int .i64 vars, .slice ad n c] 24)).alloc (.cells #[.int .i64 0, .slice none 0 0] 24)).heap[w.heap.size + 1]? = some (.cells #[.int .i64 0, .slice none 0 0] 24 (0, 0)) := heap_alloc2_new _ _ _
      have HBa : Hid (Below w.heap.size w ((w.alloc (.cells #[.int .i64 vars, .slice ad n c] 24)).alloc (.cells #[.int .i64 0, .slice none 0 0] 24))) := (HB0.out _).alloc (by rw [sz1]; omega) _
      have HSa : Hid (((w.alloc (.cells #[.int .i64 vars, .slice ad n c] 24)).alloc (.cells #[.int .i64 0, .slice none 0 0] 24)).heap.size = w.heap.size + 2) := sz2 _ _ _
      generalize (w.alloc (.cells #[.int .i64 vars, .slice ad n c] 24)).alloc (.cells #[.int .i64 0, .slice none 0 0] 24) = w1 at *
      refine (HC2.out w1 HBa.out).mono ?_
      rintro e w2 ⟨rfl, hb2⟩
      have HB2 : Hid (Below w.heap.size w w2) := below_next HBa.out hb2
      have HR0 : Hid (w2.heap[w.heap.size]? = some (.cells #[.int .i64 vars, .slice ad n c] 24 (0, 0))) := (hb2.block _ (by have := HSa.out; omega)).trans y0
      have HR1 : Hid (w2.heap[w.heap.size + 1]? = some (.cells #[.int .i64 0, .slice none 0 0] 24 (0, 0))) := (hb2.block _ (by have := HSa.out; omega)).trans y1
      have hs2 : w.heap.size + 2 ≤ w2.heap.size := by have := hb2.size; have := HSa.out; omega
      have z0 : w2.cell? ⟨w.heap.size, 0, none⟩ = some (.int .i64 vars) := blk_cell HR0.out 0
      have f1 : w2.cell? ⟨w.heap.size + 1, 0, none⟩ = some (.int .i64 0) := blk_cell HR1.out 0
      have f2 : w2.cell? ⟨w.heap.size + 1, 1, none⟩ = some (.slice none 0 0) := blk_cell HR1.out 1
      have f3 : w2.frozen? ⟨w.heap.size + 1, 0, none⟩ = false := blk_frozen HR1.out 0
      have f4 : w2.frozen? ⟨w.heap.size + 1, 1, none⟩ = false := blk_frozen HR1.out 1
      clear y0 y1 hb2 HSa HBa HB0
      go_wp2_with fail
      refine (HAm.out _).mono ?_
      rintro e w' ⟨rfl, hw⟩
      obtain rfl := hw.symm
      go_wp2
      have hfin : ((w2.setCell ⟨w.heap.size + 1, 0, none⟩ (.int .i64 0)).setCell ⟨w.heap.size + 1, 1, none⟩ (.slice none 0 0)).heap[w.heap.size + 1]? = some (.cells #[.int .i64 0, .slice none 0 0] 24 (0, 0)) := by
        rw [heap_setCell_same _ (w.heap.size + 1) 1 _ _ _ (heap_setCell_same _ (w.heap.size + 1) 0 _ _ _ HR1.out)]; rfl
      refine bodyPost_ret (v := .tuple #[.agg #[.int .i64 0, .slice none 0 0], .int .i64 20]) (res_ct (p := 4) (u := 5) rfl _ _ (w.heap.size + 1) 24 _ (0, 0) _ rfl hfin Tryd.underlying24 rfl (by kernel_rfl)) rfl ?_
      have hle : w.heap.size ≤ w.heap.size + 1 := by omega
      exact HPP.out _ _ ⟨.slice none 0 0, [], by rw [HP.out.1, HP.out.2.1], by rw [HP.out.2.2]; exact OwnL.nil _ _, (HB2.out.setCell hle _).setCell hle _⟩
    | true =>
      have hE : asE vars cs l = 0 := by unfold asE; rw [if_pos h0, if_pos ha]
      have HP : Hid (asE vars cs l = 0 ∧ asV vars cs l = vars ∧ asC vars cs l = asg l (cs.take cs.length)) := ⟨hE, by unfold asV; rw [if_pos hE], by unfold asC; rw [if_pos hE, List.take_length]⟩
      have hlit : litB l = true := by unfold amB at ha; simp at ha; exact ha.1
      have hlb := litB_iff.1 hlit
      rw [ha] at HAm
      clear hE ha h0 hlit
      generalize hpp : AsPost vars cs l w = PP
      have HPP : Hid (∀ e w', AsPost vars cs l w e w' → PP e w') := fun e w' hh => by rw [← hpp]; exact hh
      clear hpp
      generalize (ck vars cs).1 = r1 at *
      generalize hn : cs.length = n at *
      have HL : Aside (cs.length = n) := hn
      clear hn
      go_enter Tryd.func19, Tryd.ntmps19
      go_wp2_with fail
      have y0 : ((w.alloc (.cells #[.int .i64 vars, .slice ad n c] 24)).alloc (.cells #[.int .i64 0, .slice none 0 0] 24)).heap[w.heap.size]? = some (.cells #[.int .i64 vars, .slice ad n c] 24 (0, 0)) := heap_alloc2_old _ _ _
      have y1 : ((w.alloc (.cells #[.int .i64 vars, .slice ad n c] 24)).alloc (.cells #[.int .i64 0, .slice none 0 0] 24)).heap[w.heap.size + 1]? = some (.cells #[.int .i64 0, .slice none 0 0] 24 (0, 0)) := heap_alloc2_new _ _ _
      have HBa : Hid (Below w.heap.size w ((w.alloc (.cells #[.int .i64 vars, .slice ad n c] 24)).alloc (.cells #[.int .i64 0, .slice none 0 0] 24))) := (HB0.out _).alloc (by rw [sz1]; omega) _
      have HSa : Hid (((w.alloc (.cells #[.int .i64 vars, .slice ad n c] 24)).alloc (.cells #[.int .i64 0, .slice none 0 0] 24)).heap.size = w.heap.size + 2) := sz2 _ _ _
      generalize (w.alloc (.cells #[.int .i64 vars, .slice ad n c] 24)).alloc (.cells #[.int .i64 0, .slice none 0 0] 24) = w1 at *
      refine (HC2.out w1 HBa.out).mono ?_
      rintro e w2 ⟨rfl, hb2⟩
      have HB2 : Hid (Below w.heap.size w w2) := below_next HBa.out hb2
      have HR0 : Hid (w2.heap[w.heap.size]? = some (.cells #[.int .i64 vars, .slice ad n c] 24 (0, 0))) := (hb2.block _ (by have := HSa.out; omega)).trans y0
      have HR1 : Hid (w2.heap[w.heap.size + 1]? = some (.cells #[.int .i64 0, .slice none 0 0] 24 (0, 0))) := (hb2.block _ (by have := HSa.out; omega)).trans y1
      have hs2 : w.heap.size + 2 ≤ w2.heap.size := by have := hb2.size; have := HSa.out; omega
      have z0 : w2.cell? ⟨w.heap.size, 0, none⟩ = some (.int .i64 vars) := blk_cell HR0.out 0
      have z1 : w2.cell? ⟨w.heap.size, 1, none⟩ = some (.slice ad n c) := blk_cell HR0.out 1
      have zo : ∀ o, (w2.alloc o).cell? ⟨w.heap.size, 1, none⟩ = some (.slice ad n c) := fun o => by
        rw [World.cell?_of_block (w := w2) (Below.heap_alloc _ _ _ (by show w.heap.size < _; omega))]; exact z1
      clear y0 y1 hb2 HSa HBa HB0 HC2
      go_wp2_with fail
      refine (HAm.out _).mono ?_
      rintro e w' ⟨rfl, hw⟩
      obtain rfl := hw.symm
      go_wp2
      go_loopg [32] n (fun gk i wr => ∃ (k : Nat) (v5 : Value) (L : List Value), i = .int .i64 k ∧ k + gk = n ∧ Aside (ASt w w2 wr vars v5 L (asg l (cs.take k))))
      case atStart =>
        refine ⟨0, .slice none 0 0, [], rfl, by omega, ⟨?_, heap_alloc_at _ _, OwnL.nil _ _, HB2.out.alloc (by omega) _, by rw [sz1]; omega⟩⟩
        rw [Below.heap_alloc _ _ _ (by omega)]; exact HR1.out
      case round =>
        clear z0 z1 zo
        obtain ⟨k, v5, L, rfl, hk, H⟩ := hrel
        obtain ⟨ad5, cap5, rfl⟩ := own_shapeC H.out.own.row
        by_cases hlt : k < n
        · obtain ⟨b, off, rfl, hb, hc⟩ := HI.out.below H.out.below (by rw [HL.out]; omega)
          obtain ⟨aj, cj, ck1, hij⟩ := hc k (by rw [HL.out]; omega)
          have hC := HZ.out (cs.getD k []) (by rw [List.getD_eq_getElem?_getD, List.getElem?_eq_getElem (by rw [HL.out]; exact hlt)]; exact List.getElem_mem _)
          have HT : Aside (cs.take (k + 1) = cs.take k ++ [cs.getD k []]) := take_succ1 cs k (by rw [HL.out]; exact hlt)
          have HM : Aside ((asg l (cs.take k)).length ≤ k) := Nat.le_trans (asg_len _ _) (by rw [List.length_take]; exact Nat.min_le_left _ _)
          have hc1 := hC.1
          clear hc hC
          generalize cs.getD k [] = C at *
          have q1 : (k : Int) < (n : Int) := by omega
          have HCo : Hid (Calls Tryd.prog 41 #[.slice aj C.length cj, .int .i64 l] wr fun e w' => e = .returned (.bool (decide (l ∈ C))) ∧ w' = wr) := contains_any aj C cj l wr hij (by omega)
          have hng : IntKind.i64.wrap (-l) = -l := wr64 (by omega) (by omega)
          have HWo : Hid (Calls Tryd.prog 31 #[.slice aj C.length cj, .int .i64 (IntKind.i64.wrap (-l))] wr.drew fun e w' => ∃ v, e = .returned v ∧ w'.ownsRow wr.heap.size 3 1 v (woC C (-l)).length ((woC C (-l)).map (Value.int .i64)) ∧ v ≠ .slice none 0 0 ∧ Below wr.heap.size wr.drew w') := by
            rw [hng]
            exact without_any aj C cj (-l) wr.drew hij (by omega)
          clear hng
          go_wp2_with fail
          refine HCo.out.mono ?_
          rintro e w' ⟨rfl, hw⟩
          obtain rfl := hw.symm
          by_cases hin : l ∈ C
          · have HA : Aside (asg l (cs.take (k + 1)) = asg l (cs.take k)) := by show _ = _; rw [HT.out, asg_in _ _ _ hin]
            have hd : decide (l ∈ C) = true := by simpa using hin
            go_wp2
            go_roundg (gk - 1)
            case measure => omega
            case rel => exact ⟨k + 1, _, L, by simp, by omega, by rw [HA.out]; exact H⟩
          · have HA : Aside (asg l (cs.take (k + 1)) = asg l (cs.take k) ++ [woC C (-l)]) := by show _ = _; rw [HT.out, asg_out _ _ _ hin]
            have hd : decide (l ∈ C) = false := by simpa using hin
            have hm := HM.out
            have HO := H.out.own
            have s5 := H.out.size
            have x1 : wr.cell? ⟨w2.heap.size, 1, none⟩ = some (.slice ad5 (asg l (cs.take k)).length cap5) := blk_cell H.out.r5 1
            have x2 : wr.frozen? ⟨w2.heap.size, 1, none⟩ = false := blk_frozen H.out.r5 1
            generalize hms : (asg l (cs.take k)).length = m at *
            go_wp2
            have hne5 : (Value.slice ad5 m cap5).ownBlock ≠ some w2.heap.size := row_ne_blk HO.row H.out.r5 (by decide)
            have HOr : wr.ownsRow w.heap.size 40 1 (.slice ad5 m cap5) m L := by have := HO.row; rw [hms] at this; exact this
            have hbs := H.out.below.size
            go_region_law
              (first
                | (go_simp; go_at_call 31; refine HWo.out.mono ?_; rintro e w6 ⟨v6, rfl, ho6, hn6, hb6⟩; obtain ⟨a6, c6, rfl, hi6⟩ := own_ints ho6; have hs6 : wr.heap.size ≤ w6.heap.size := hb6.size; have k1 : w6.heap[w2.heap.size]? = some (.cells #[.int .i64 vars, .slice ad5 m cap5] 24 (0, 0)) := (hb6.block _ (by omega)).trans H.out.r5; have k2 := blk_cell k1 1; have k3 := blk_frozen k1 1; have k4 : ∀ o, (w6.alloc o).cell? ⟨w2.heap.size, 1, none⟩ = some (.slice ad5 m cap5) := (fun o => (World.cell?_of_block (w := w6) (Below.heap_alloc _ _ _ (by show w2.heap.size < _; omega))).trans k2); have k5 : ∀ o, (w6.alloc o).frozen? ⟨w2.heap.size, 1, none⟩ = false := (fun o => blk_frozen ((Below.heap_alloc _ _ _ (by omega)).trans k1) 1); have HK6 : Hid (Below wr.heap.size wr.drew w6 ∧ w6.ownsRow wr.heap.size 3 1 (.slice a6 (woC C (-l)).length c6) (woC C (-l)).length ((woC C (-l)).map (Value.int .i64))) := ⟨hb6, ho6⟩; have HK1 : Hid (w6.heap[w2.heap.size]? = some (.cells #[.int .i64 vars, .slice ad5 m cap5] 24 (0, 0))) := k1; clear ho6 hb6 hi6 k1)
                | (refine step_append_lies _ (by rfl) _ _ _ (by rfl) w.heap.size 40 i0 _ 1 24 Tryd.underlying22 hi hz0 hz1 hz2 rfl (by omega) (.slice ad5 m cap5) m L (by rfl) ((((row_below (w := wr.drew) HOr HK6.out.1)).alloc _).drew) ⟨w6.heap.size, 0, none⟩ 1 1 [.slice a6 (woC C (-l)).length c6] (by rfl) (by rfl) (World.news_of_block (cs := #[.slice a6 (woC C (-l)).length c6]) (t := 40) (fr := (0, 0)) (heap_alloc_new w6 _)) (by intro u hu; simp at hu; subst hu; rfl) (by omega) (by unfold maxLen; omega) (by omega) (by simp; omega) (w6.heap.size + 1) (by simp) ?_; intro gg cap7 w7 hown7 hgrow hat hlt7; have k7 : w7.heap[w2.heap.size]? = some (.cells #[.int .i64 vars, .slice ad5 m cap5] 24 (0, 0)) := ((hgrow.block w2.heap.size (by simp; omega) (fun e => hne5 e.symm)).trans ((Below.heap_alloc _ _ _ (by omega)).trans HK1.out)); have k8 := blk_cell k7 1; have k9 := blk_frozen k7 1; have HK7 : Hid (w7.ownsRow w.heap.size 40 1 (.slice (some ⟨gg, 0, none⟩) (m + 1) cap7) (m + 1) (L ++ [.slice a6 (woC C (-l)).length c6]) ∧ (w6.alloc (.cells #[.slice a6 (woC C (-l)).length c6] 40)).grownBy w7 (Value.slice ad5 m cap5).ownBlock ∧ w7.heap[w2.heap.size]? = some (.cells #[.int .i64 vars, .slice ad5 m cap5] 24 (0, 0))) := ⟨hown7, hgrow, k7⟩; clear hown7 hgrow hat k7))
            all_goals go_wp2
            all_goals (go_roundg (gk - 1); (case measure => omega); (case rel => exact ⟨k + 1, .slice (some ⟨gg, 0, none⟩) (m + 1) cap7, L ++ [.slice a6 (woC C (-l)).length c6], by simp, by omega, by rw [HA.out]; exact H.out.step hms hs2 HK6.out.1 HK6.out.2 HK7.out.1 HK7.out.2.1 HK7.out.2.2⟩))
        · obtain rfl : k = n := by omega
          have y5 := H.out.r5
          have z0 : wr.cell? ⟨w2.heap.size, 0, none⟩ = some (.int .i64 vars) := blk_cell y5 0
          have z1 : wr.cell? ⟨w2.heap.size, 1, none⟩ = some (.slice ad5 (asg l (cs.take k)).length cap5) := blk_cell y5 1
          have f1 : wr.cell? ⟨w.heap.size + 1, 0, none⟩ = some (.int .i64 0) := blk_cell H.out.r1 0
          have f2 : wr.cell? ⟨w.heap.size + 1, 1, none⟩ = some (.slice none 0 0) := blk_cell H.out.r1 1
          have f3 : wr.frozen? ⟨w.heap.size + 1, 0, none⟩ = false := blk_frozen H.out.r1 0
          have f4 : wr.frozen? ⟨w.heap.size + 1, 1, none⟩ = false := blk_frozen H.out.r1 1
          have HH : Hid (ASt w w2 wr vars (.slice ad5 (asg l (cs.take k)).length cap5) L (asg l (cs.take k))) := H.out
          generalize (asg l (cs.take k)).length = m at z1 HH ⊢
          clear y5
          go_wp2
          have hfin : ((wr.setCell ⟨w.heap.size + 1, 0, none⟩ (.int .i64 vars)).setCell ⟨w.heap.size + 1, 1, none⟩ (.slice ad5 m cap5)).heap[w.heap.size + 1]? = some (.cells #[.int .i64 vars, .slice ad5 m cap5] 24 (0, 0)) := by
            rw [heap_setCell_same _ (w.heap.size + 1) 1 _ _ _ (heap_setCell_same _ (w.heap.size + 1) 0 _ _ _ HH.out.r1)]; rfl
          refine bodyPost_ret (v := .tuple #[.agg #[.int .i64 vars, .slice ad5 m cap5], .int .i64 0]) (res_ct (p := 4) (u := 5) rfl _ _ (w.heap.size + 1) 24 _ (0, 0) _ rfl hfin Tryd.underlying24 rfl (by kernel_rfl)) rfl ?_
          refine HPP.out _ _ ⟨.slice ad5 m cap5, L, by rw [HP.out.1, HP.out.2.1], ?_, ?_⟩
          · rw [HP.out.2.2]
            have hh : (wr.setCell ⟨w.heap.size + 1, 0, none⟩ (.int .i64 vars)).heap[w.heap.size + 1]? = some (.cells (#[.int .i64 0, .slice none 0 0].set! 0 (.int .i64 vars)) 24 (0, 0)) := heap_setCell_same _ (w.heap.size + 1) 0 _ _ _ HH.out.r1
            exact (HH.out.own.set (w.heap.size + 1) 0 _ HH.out.r1 (by decide) (by decide)).set (w.heap.size + 1) 1 _ hh (by decide) (by decide)
          · have hle : w.heap.size ≤ w.heap.size + 1 := by omega
            exact (HH.out.below.setCell hle _).setCell hle _
  · have hE : asE vars cs l = (ck vars cs).2 := by unfold asE; rw [if_neg h0]
    have HP : Hid (asE vars cs l = (ck vars cs).2 ∧ asV vars cs l = 0 ∧ asC vars cs l = []) := ⟨hE, by unfold asV; rw [if_neg (by rw [hE]; exact h0)], by unfold asC; rw [if_neg (by rw [hE]; exact h0)]⟩
    clear hE HI HCl
    ·
      generalize hpp : AsPost vars cs l w = PP
      have HPP : Hid (∀ e w', AsPost vars cs l w e w' → PP e w') := fun e w' hh => by rw [← hpp]; exact hh
      clear hpp
      generalize (ck vars cs).1 = r1 at *
      generalize (ck vars cs).2 = r2 at *
      have e1 : (r2 != 0) = true := by simpa using h0
      generalize hn : cs.length = n at *
      clear hn
      go_enter Tryd.func19, Tryd.ntmps19
      go_wp2_with fail
      have y0 : ((w.alloc (.cells #[.int .i64 vars, .slice ad n c] 24)).alloc (.cells #[.int .i64 0, .slice none 0 0] 24)).heap[w.heap.size]? = some (.cells #[.int .i64 vars, .slice ad n c] 24 (0, 0)) := heap_alloc2_old _ _ _
      have y1 : ((w.alloc (.cells #[.int .i64 vars, .slice ad n c] 24)).alloc (.cells #[.int .i64 0, .slice none 0 0] 24)).heap[w.heap.size + 1]? = some (.cells #[.int .i64 0, .slice none 0 0] 24 (0, 0)) := heap_alloc2_new _ _ _
      have HBa : Hid (Below w.heap.size w ((w.alloc (.cells #[.int .i64 vars, .slice ad n c] 24)).alloc (.cells #[.int .i64 0, .slice none 0 0] 24))) := (HB0.out _).alloc (by rw [sz1]; omega) _
      have HSa : Hid (((w.alloc (.cells #[.int .i64 vars, .slice ad n c] 24)).alloc (.cells #[.int .i64 0, .slice none 0 0] 24)).heap.size = w.heap.size + 2) := sz2 _ _ _
      generalize (w.alloc (.cells #[.int .i64 vars, .slice ad n c] 24)).alloc (.cells #[.int .i64 0, .slice none 0 0] 24) = w1 at *
      refine (HC.out w1 HBa.out).mono ?_
      rintro e w2 ⟨rfl, hb2⟩
      have HB2 : Hid (Below w.heap.size w w2) := below_next HBa.out hb2
      have HR0 : Hid (w2.heap[w.heap.size]? = some (.cells #[.int .i64 vars, .slice ad n c] 24 (0, 0))) := (hb2.block _ (by have := HSa.out; omega)).trans y0
      have HR1 : Hid (w2.heap[w.heap.size + 1]? = some (.cells #[.int .i64 0, .slice none 0 0] 24 (0, 0))) := (hb2.block _ (by have := HSa.out; omega)).trans y1
      have hs2 : w.heap.size + 2 ≤ w2.heap.size := by have := hb2.size; have := HSa.out; omega
      have z0 : w2.cell? ⟨w.heap.size, 0, none⟩ = some (.int .i64 vars) := blk_cell HR0.out 0
      have f1 : w2.cell? ⟨w.heap.size + 1, 0, none⟩ = some (.int .i64 0) := blk_cell HR1.out 0
      have f2 : w2.cell? ⟨w.heap.size + 1, 1, none⟩ = some (.slice none 0 0) := blk_cell HR1.out 1
      have f3 : w2.frozen? ⟨w.heap.size + 1, 0, none⟩ = false := blk_frozen HR1.out 0
      have f4 : w2.frozen? ⟨w.heap.size + 1, 1, none⟩ = false := blk_frozen HR1.out 1
      clear y0 y1 hb2 HSa HBa HB0
      go_wp2
      have hfin : ((w2.setCell ⟨w.heap.size + 1, 0, none⟩ (.int .i64 0)).setCell ⟨w.heap.size + 1, 1, none⟩ (.slice none 0 0)).heap[w.heap.size + 1]? = some (.cells #[.int .i64 0, .slice none 0 0] 24 (0, 0)) := by
        rw [heap_setCell_same _ (w.heap.size + 1) 1 _ _ _ (heap_setCell_same _ (w.heap.size + 1) 0 _ _ _ HR1.out)]; rfl
      refine bodyPost_ret (v := .tuple #[.agg #[.int .i64 0, .slice none 0 0], .int .i64 r2]) (res_ct (p := 4) (u := 5) rfl _ _ (w.heap.size + 1) 24 _ (0, 0) _ rfl hfin Tryd.underlying24 rfl (by kernel_rfl)) rfl ?_
      have hle : w.heap.size ≤ w.heap.size + 1 := by omega
      exact HPP.out _ _ ⟨.slice none 0 0, [], by rw [HP.out.1, HP.out.2.1], by rw [HP.out.2.2]; exact OwnL.nil _ _, (HB2.out.setCell hle _).setCell hle _⟩
end Go.Proofs.YtokpjegiinggdaaDoor
