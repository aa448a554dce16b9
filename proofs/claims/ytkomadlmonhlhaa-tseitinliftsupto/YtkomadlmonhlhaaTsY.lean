import Derived.Test.YtkomadlmonhlhaaTsX
import Derived.Test.YtkomadlmonhlhaaTsL
import Derived.Test.YtkomadlmonhlhaaTsP
namespace Go.Proofs.Ytkomadlmonhlhaa
open Go.ChangeShapes Go.WideShapes Go.ChangeAt Go.RowKit Go.Lib Go.Ag Go.WideMaps Go.Maps Go.ChangeMaps Go.Cn

abbrev lsc : List S3 := [(1, 0, 0), (1, 0, 0), (0, 1, 2), (0, -4, 1)]
abbrev ns4 : Nds := [none, none, some (2, 4), some (7, 2)]
theorem lv_made : madeM [] [0] lsc = some (ns4, [0, 2, 4, 6, 8]) := by decide
theorem lv_cone : (coneS ns4 [8]).2 = [1, 2, 3, 4] := by rfl
theorem lv_enc : (clsE ns4 [8]).length = 7 := by decide
theorem lv_pol : (clsP ns4 [8]).length = 4 := by decide
theorem lv_fill : fillN ns4 [true, false] [1, 2, 3, 4] = [1, -1, -1, 1] := by decide
theorem TT.lo {w0 w1 w : World} {Rg Rr : Nat} {nsg nsr : Nds} {L : List Nat} {vL : Value} (h : TT w1 w Rg Rr nsg nsr L vL) (hb : Below w0.heap.size w0 w1) : Below w0.heap.size w0 w := ag_next hb h.bel
/-- what Encode, Polar and Fill want of both graphs -/
theorem enc_tt {w0 w : World} {Rg Rr : Nat} {ns nsr : Nds} {L : List Nat} {vL : Value} (h : TT w0 w Rg Rr ns nsr L vL) (hgs : GS ns) (aR : Option Addr) (ls : List Nat) (cR : Nat) (hR : U32s w aR ls) (hbd : ∀ l ∈ ls, l / 2 ≤ ns.length) (hns : ns.length ≤ 1048576) (hrn : ls.length ≤ 1000000000000) (hc : (coneS ns ls).2.length ≤ 1048576) (hcl : (clsE ns ls).length ≤ 1048576) :
    Calls Try.prog 9 #[.pointer (some ⟨Rg, 0, none⟩), .slice aR ls.length cR] w fun e w' => ∃ aL cL aC cC, e = .returned (.tuple #[.agg #[.int .i64 ((coneS ns ls).2.length : Int), .slice aL (clsE ns ls).length cL], .slice aC (coneS ns ls).2.length cC, .int .i64 0]) ∧ ENC w w' (coneS ns ls).2 (clsE ns ls) (.slice aL (clsE ns ls).length cL) (.slice aC (coneS ns ls).2.length cC) ∧ TT w0 w' Rg Rr ns nsr L vL := by
  obtain ⟨nb, vb, vg, M, D, hg, hlo⟩ := h.g
  refine (Encode_ok w hg hgs aR ls cR hR (fun l hl => by have := hbd l hl; omega) hbd hrn hc hcl).mono ?_
  rintro e w' ⟨v1, v2, rfl, he⟩
  obtain ⟨ads, bk, hr2, hc2⟩ := he.cl
  obtain ⟨aL, cL, rfl, _, _⟩ := row_form hr2
  obtain ⟨aC, cC, rfl, _, _⟩ := row_form he.cone
  exact ⟨aL, cL, aC, cC, rfl, he, h.over he.bel⟩
theorem pol_tt {w0 w : World} {Rg Rr : Nat} {ns nsr : Nds} {L : List Nat} {vL : Value} (h : TT w0 w Rg Rr ns nsr L vL) (hgs : GS ns) (aR : Option Addr) (ls : List Nat) (cR : Nat) (hR : U32s w aR ls) (hbd : ∀ l ∈ ls, l / 2 ≤ ns.length) (hns : ns.length ≤ 1048576) (hrn : ls.length ≤ 1000000000000) (hc : (coneS ns ls).2.length ≤ 1048576) (hcl : (clsP ns ls).length ≤ 1048576) :
    Calls Try.prog 14 #[.pointer (some ⟨Rg, 0, none⟩), .slice aR ls.length cR] w fun e w' => ∃ aL cL aC cC, e = .returned (.tuple #[.agg #[.int .i64 ((coneS ns ls).2.length : Int), .slice aL (clsP ns ls).length cL], .slice aC (coneS ns ls).2.length cC, .int .i64 0]) ∧ ENC w w' (coneS ns ls).2 (clsP ns ls) (.slice aL (clsP ns ls).length cL) (.slice aC (coneS ns ls).2.length cC) ∧ TT w0 w' Rg Rr ns nsr L vL := by
  obtain ⟨nb, vb, vg, M, D, hg, hlo⟩ := h.g
  refine (Polar_ok w hg hgs aR ls cR hR (fun l hl => by have := hbd l hl; omega) hbd hrn hc hcl).mono ?_
  rintro e w' ⟨v1, v2, rfl, he⟩
  obtain ⟨ads, bk, hr2, hc2⟩ := he.cl
  obtain ⟨aL, cL, rfl, _, _⟩ := row_form hr2
  obtain ⟨aC, cC, rfl, _, _⟩ := row_form he.cone
  exact ⟨aL, cL, aC, cC, rfl, he, h.over he.bel⟩
theorem i8s_of {w : World} {B n : Nat} {ad : Option Addr} {cp : Nat} {ls : List Int} (h : w.ownsRow B 76 1 (.slice ad n cp) n (i8V ls)) : I8s w ad ls := fun h0 => by
  have hn : ls.length = n := by have := h.1; unfold i8V at this; rw [List.length_map] at this; omega
  obtain ⟨a2, c2, e, _, h3⟩ := row_form h
  cases e
  obtain ⟨g, rfl⟩ := h3 (by omega)
  refine ⟨g, 0, rfl, (h.lt g rfl).2, fun j hj => ?_⟩
  rw [Nat.zero_add, h.cellAt j (by omega)]
  unfold i8V
  rw [List.getElem?_map, List.getD_eq_getElem?_getD, List.getElem?_eq_getElem hj]
  rfl
theorem one_lit (w : World) (l : Nat) : U32s (w.alloc (.cells #[.int .u32 (l : Int)] 42)) (some ⟨w.heap.size, 0, none⟩) [l] := fun _ => ⟨w.heap.size, 0, rfl, by simp, fun j hj => by
  have hj2 : j < 1 := hj
  rw [ag_cell (heap_alloc_new w _)]
  match j, hj2 with
  | 0, _ => rfl⟩
set_option maxHeartbeats 16000000 in
set_option maxRecDepth 100000 in
theorem live_any (w : World) : Calls Try.prog 7 #[] w fun e w' => e = .returned (.bool true) ∧ Below w.heap.size w w' := by
  obtain ⟨w1, hw1⟩ : ∃ w1, w.alloc (.cells #[.int .i64 1, .int .i64 0, .int .i64 0, .int .i64 1, .int .i64 0, .int .i64 0, .int .i64 0, .int .i64 1, .int .i64 2, .int .i64 0, .int .i64 (-4), .int .i64 1] 68) = w1 := ⟨_, rfl⟩
  have HB1 : Hid (Below w.heap.size w w1 ∧ w1.heap[w.heap.size]? = some (.cells #[.int .i64 1, .int .i64 0, .int .i64 0, .int .i64 1, .int .i64 0, .int .i64 0, .int .i64 0, .int .i64 1, .int .i64 2, .int .i64 0, .int .i64 (-4), .int .i64 1] 68 (0, 0))) := by rw [← hw1]; exact ⟨ag_bel1 _ _, heap_alloc_new _ _⟩
  have hmd : MD3 w1 (some ⟨w.heap.size, 0, none⟩) lsc := fun _ => ⟨w.heap.size, 0, rfl, (Array.getElem?_eq_some_iff.1 HB1.out.2).1, fun j hj => by
    have hj2 : j < 4 := hj
    rw [ag_cell HB1.out.2, ag_cell HB1.out.2, ag_cell HB1.out.2]
    match j, hj2 with
    | 0, _ => exact ⟨rfl, rfl, rfl⟩
    | 1, _ => exact ⟨rfl, rfl, rfl⟩
    | 2, _ => exact ⟨rfl, rfl, rfl⟩
    | 3, _ => exact ⟨rfl, rfl, rfl⟩⟩
  have HMk : Hid (Calls Try.prog 6 #[.slice (some ⟨w.heap.size, 0, none⟩) 4 4] w1 fun e w' => ∃ Rg Rr vL, e = .returned (.tuple #[.pointer (some ⟨Rg, 0, none⟩), .pointer (some ⟨Rr, 0, none⟩), vL, .bool true]) ∧ TT w1 w' Rg Rr ns4 ns4 [0, 2, 4, 6, 8] vL ∧ GS ns4) := by
    refine (made_two w1 (some ⟨w.heap.size, 0, none⟩) lsc 4 hmd (by intro s hs; simp [lsc] at hs; rcases hs with rfl | rfl | rfl <;> exact ⟨by decide, by decide⟩) (by decide)).mono ?_
    rintro e w' ⟨Rg, Rr, ns, L, vL, rfl, h1, h2, h3⟩
    rw [lv_made] at h1
    cases h1
    exact ⟨Rg, Rr, vL, rfl, h3, h2.gs⟩
  clear hmd
  go_enter Try.func7, Try.ntmps7
  go_wp2_with fail
  try rw [hw1]
  refine HMk.out.mono ?_
  rintro e w2 ⟨Rg, Rr, vL, rfl, ht2, hgs⟩
  obtain ⟨aL, cL, rfl, _, haL⟩ := row_form ht2.row
  have HT2 : Hid (TT w1 w2 Rg Rr ns4 ns4 [0, 2, 4, 6, 8] (.slice aL 5 cL)) := ht2
  have HGS : Hid (GS ns4) := hgs
  obtain ⟨gL, rfl⟩ := haL (by decide)
  have c4 : w2.cell? ⟨gL, 4, none⟩ = some (.int .u32 8) := ht2.row.cellAt 4 (by decide)
  clear ht2 hgs HMk haL
  have HE1 : Hid (Calls Try.prog 9 #[.pointer (some ⟨Rg, 0, none⟩), .slice (some ⟨w2.heap.size, 0, none⟩) 1 1] (w2.alloc (.cells #[.int .u32 8] 42)) fun e w' => ∃ aF cF aC cC, e = .returned (.tuple #[.agg #[.int .i64 4, .slice aF 7 cF], .slice aC 4 cC, .int .i64 0]) ∧ Nts w' aC [1, 2, 3, 4] ∧ TT w1 w' Rg Rr ns4 ns4 [0, 2, 4, 6, 8] (.slice (some ⟨gL, 0, none⟩) 5 cL)) := by
    have h5 := enc_tt (HT2.out.over (ag_bel1 w2 (.cells #[.int .u32 8] 42))) HGS.out (some ⟨w2.heap.size, 0, none⟩) [8] 1 (one_lit w2 8) (by intro l hl; simp at hl; subst hl; decide) (by decide) (by decide) (by rw [lv_cone]; decide) (by rw [lv_enc]; decide)
    rw [lv_cone, lv_enc] at h5
    refine h5.mono ?_
    rintro e w' ⟨aF, cF, aC, cC, rfl, he, ht⟩
    exact ⟨aF, cF, aC, cC, rfl, nts_of he.cone, ht⟩
  go_wp2_with fail
  refine HE1.out.mono ?_
  rintro e w3 ⟨aF, cF, aC, cC, rfl, hn3, ht3⟩
  obtain ⟨w3', hw3'⟩ : ∃ w3', w3.alloc (.cells #[.int .i64 4, .slice aF 7 cF] 33) = w3' := ⟨_, rfl⟩
  have HT3 : Hid (TT w1 w3' Rg Rr ns4 ns4 [0, 2, 4, 6, 8] (.slice (some ⟨gL, 0, none⟩) 5 cL) ∧ Nts w3' aC [1, 2, 3, 4] ∧ w3'.heap[w3.heap.size]? = some (.cells #[.int .i64 4, .slice aF 7 cF] 33 (0, 0))) := by rw [← hw3']; exact ⟨ht3.over (ag_bel1 _ _), hn3.below (ag_bel1 _ _), heap_alloc_new _ _⟩
  have HW3e : Hid (w3.alloc (.cells #[.int .i64 4, .slice aF 7 cF] 33) = w3') := hw3'
  clear hn3 ht3 HE1 HT2 c4 hw3'
  have hs3 : w3'.heap.size = w3.heap.size + 1 := by rw [← HW3e.out]; simp
  have HE2 : Hid (Calls Try.prog 14 #[.pointer (some ⟨Rg, 0, none⟩), .slice (some ⟨w3.heap.size + 1, 0, none⟩) 1 1] (w3'.alloc (.cells #[.int .u32 8] 42)) fun e w' => ∃ aF cF aC cC, e = .returned (.tuple #[.agg #[.int .i64 4, .slice aF 4 cF], .slice aC 4 cC, .int .i64 0]) ∧ Below w3'.heap.size w3' w' ∧ TT w1 w' Rg Rr ns4 ns4 [0, 2, 4, 6, 8] (.slice (some ⟨gL, 0, none⟩) 5 cL)) := by
    have h5 := pol_tt (HT3.out.1.over (ag_bel1 w3' (.cells #[.int .u32 8] 42))) HGS.out (some ⟨w3'.heap.size, 0, none⟩) [8] 1 (one_lit w3' 8) (by intro l hl; simp at hl; subst hl; decide) (by decide) (by decide) (by rw [lv_cone]; decide) (by rw [lv_pol]; decide)
    rw [lv_cone, lv_pol, hs3] at h5
    refine h5.mono ?_
    rintro e w' ⟨aF, cF, aC, cC, rfl, he, ht⟩
    exact ⟨aF, cF, aC, cC, rfl, ag_next (ag_bel1 _ _) he.bel, ht⟩
  go_wp2_with fail
  rw [HW3e.out]
  refine HE2.out.mono ?_
  rintro e w4 ⟨aP, cP, aC2, cC2, rfl, hb4, ht4⟩
  obtain ⟨w4', hw4'⟩ : ∃ w4', w4.alloc (.cells #[.int .i64 4, .slice aP 4 cP] 33) = w4' := ⟨_, rfl⟩
  have HT4 : Hid (TT w1 w4' Rg Rr ns4 ns4 [0, 2, 4, 6, 8] (.slice (some ⟨gL, 0, none⟩) 5 cL) ∧ Nts w4' aC [1, 2, 3, 4] ∧ w4'.heap[w3.heap.size]? = some (.cells #[.int .i64 4, .slice aF 7 cF] 33 (0, 0)) ∧ w4'.heap[w4.heap.size]? = some (.cells #[.int .i64 4, .slice aP 4 cP] 33 (0, 0))) := by
    rw [← hw4']
    have hb := ag_next hb4 (ag_bel1 w4 (.cells #[.int .i64 4, .slice aP 4 cP] 33))
    exact ⟨ht4.over (ag_bel1 _ _), HT3.out.2.1.below hb, (hb.block _ (Array.getElem?_eq_some_iff.1 HT3.out.2.2).1).trans HT3.out.2.2, heap_alloc_new _ _⟩
  have HW4e : Hid (w4.alloc (.cells #[.int .i64 4, .slice aP 4 cP] 33) = w4') := hw4'
  have hs4 : w4'.heap.size = w4.heap.size + 1 := by rw [← hw4']; simp
  clear hb4 ht4 HE2 HT3 HW3e hw4' hs3
  have HFi : Hid (Calls Try.prog 21 #[.pointer (some ⟨Rg, 0, none⟩), .slice (some ⟨w4.heap.size + 1, 0, none⟩) 1 1, .slice (some ⟨w4.heap.size + 1 + 1, 0, none⟩) 2 2] ((w4'.alloc (.cells #[.int .u32 8] 42)).alloc (.cells #[.bool true, .bool false] 4)) fun e w' => ∃ aM cM, e = .returned (.tuple #[.slice aM 4 cM, .int .i64 0]) ∧ Below w4'.heap.size w4' w' ∧ I8s w' aM [1, -1, -1, 1]) := by
    obtain ⟨nb, vb, vg, M, D, hg, hlo⟩ := HT4.out.1.g
    have s1 : (w4'.alloc (.cells #[.int .u32 8] 42)).heap.size = w4.heap.size + 1 + 1 := by simp [hs4]
    have bb := ag_next (ag_bel1 w4' (.cells #[.int .u32 8] 42)) (ag_bel1 (w4'.alloc (.cells #[.int .u32 8] 42)) (.cells #[.bool true, .bool false] 4))
    have n2 := heap_alloc_new (w4'.alloc (.cells #[.int .u32 8] 42)) (.cells #[.bool true, .bool false] 4)
    rw [s1] at n2
    have h1 := (one_lit w4' 8).below (ag_bel1 _ (.cells #[.bool true, .bool false] 4))
    have h5 := Fill_ok _ (hg.over bb) HGS.out (some ⟨w4'.heap.size, 0, none⟩) [8] 1 h1 (by intro l hl; simp at hl; subst hl; decide) (by intro l hl; simp at hl; subst hl; decide) (by decide) (by rw [lv_cone]; decide) (some ⟨w4.heap.size + 1 + 1, 0, none⟩) [true, false] 2 (fun _ => ⟨w4.heap.size + 1 + 1, 0, rfl, (Array.getElem?_eq_some_iff.1 n2).1, fun j hj => by
      have hj2 : j < 2 := hj
      rw [ag_cell n2]
      match j, hj2 with
      | 0, _ => rfl
      | 1, _ => rfl⟩) (by decide)
    rw [lv_cone, lv_fill, hs4] at h5
    refine h5.mono ?_
    rintro e w' ⟨v, rfl, hb, hr⟩
    obtain ⟨aM, cM, rfl, _, _⟩ := row_form hr
    exact ⟨aM, cM, rfl, ag_next bb hb, i8s_of hr⟩
  go_wp2_with fail
  rw [HW4e.out]
  refine HFi.out.mono ?_
  rintro e w5 ⟨aM, cM, rfl, hb5, hi5⟩
  have HT5 : Hid (Below w.heap.size w w5 ∧ Nts w5 aC [1, 2, 3, 4] ∧ I8s w5 aM [1, -1, -1, 1]) := ⟨ag_next (HT4.out.1.lo HB1.out.1) hb5, HT4.out.2.1.below hb5, hi5⟩
  have k1 : w5.heap[w3.heap.size]? = some (.cells #[.int .i64 4, .slice aF 7 cF] 33 (0, 0)) := (hb5.block _ (Array.getElem?_eq_some_iff.1 HT4.out.2.2.1).1).trans HT4.out.2.2.1
  have k2 : w5.heap[w4.heap.size]? = some (.cells #[.int .i64 4, .slice aP 4 cP] 33 (0, 0)) := (hb5.block _ (Array.getElem?_eq_some_iff.1 HT4.out.2.2.2).1).trans HT4.out.2.2.2
  clear hb5 hi5 HFi HT4 HW4e hs4
  have HNo : Hid (∀ W, Calls Try.prog 11 #[.int .i64 0] W fun e w' => e = .returned (.int .i64 0) ∧ w' = W) := fun W => no_any 0 W
  have HSI : Hid (Calls Try.prog 13 #[.slice aC 4 cC, .slice (some ⟨w5.heap.size, 0, none⟩) 4 4] (w5.alloc (.cells #[.int .i64 1, .int .i64 2, .int .i64 3, .int .i64 4] 3)) fun e w' => e = .returned (.bool true) ∧ Below w5.heap.size w5 w' ∧ w'.cell? ⟨w3.heap.size, 1, none⟩ = some (.slice aF 7 cF) ∧ w'.cell? ⟨w4.heap.size, 1, none⟩ = some (.slice aP 4 cP)) := by
    have h7 := sameInts_eq (w5.alloc (.cells #[.int .i64 1, .int .i64 2, .int .i64 3, .int .i64 4] 3)) aC (some ⟨w5.heap.size, 0, none⟩) cC 4 [1, 2, 3, 4] (HT5.out.2.1.below (ag_bel1 _ _)) (fun _ => ⟨w5.heap.size, 0, rfl, by simp, fun j hj => by
      have hj2 : j < 4 := hj
      rw [ag_cell (heap_alloc_new w5 _)]
      match j, hj2 with
      | 0, _ => rfl
      | 1, _ => rfl
      | 2, _ => rfl
      | 3, _ => rfl⟩) (by simp)
    refine h7.mono ?_
    rintro e w' ⟨rfl, d, rfl⟩
    have hb := ag_next (ag_bel1 w5 (.cells #[.int .i64 1, .int .i64 2, .int .i64 3, .int .i64 4] 3)) (drw_bel _ d)
    exact ⟨rfl, hb, ag_cell ((hb.block _ (Array.getElem?_eq_some_iff.1 k1).1).trans k1) 1, ag_cell ((hb.block _ (Array.getElem?_eq_some_iff.1 k2).1).trans k2) 1⟩
  have HSR : Hid (∀ W, Below w5.heap.size w5 W → Calls Try.prog 23 #[.slice aM 4 cM, .slice (some ⟨W.heap.size, 0, none⟩) 4 4] (W.alloc (.cells #[.int .i8 1, .int .i8 (-1), .int .i8 (-1), .int .i8 1] 76)) fun e w' => e = .returned (.bool true) ∧ Below w.heap.size w w') := fun W hW => by
    have h7 := sameRow_eq (W.alloc (.cells #[.int .i8 1, .int .i8 (-1), .int .i8 (-1), .int .i8 1] 76)) aM (some ⟨W.heap.size, 0, none⟩) cM 4 [1, -1, -1, 1] ((HT5.out.2.2.below hW).below (ag_bel1 _ _)) (fun _ => ⟨W.heap.size, 0, rfl, by simp, fun j hj => by
      have hj2 : j < 4 := hj
      rw [ag_cell (heap_alloc_new W _)]
      match j, hj2 with
      | 0, _ => rfl
      | 1, _ => rfl
      | 2, _ => rfl
      | 3, _ => rfl⟩) (by simp)
    refine h7.mono ?_
    rintro e w' ⟨rfl, d, rfl⟩
    exact ⟨rfl, ag_next HT5.out.1 (ag_next (ag_next hW (ag_bel1 _ _)) (drw_bel _ _))⟩
  clear k1 k2
  go_wp2_with (go_at_call 11; refine (HNo.out _).mono ?_; rintro e w' ⟨rfl, hw⟩; obtain rfl := hw.symm)
  refine HSI.out.mono ?_
  rintro e w8 ⟨rfl, hb8, k1, k2⟩
  go_wp2_with fail
  refine (HSR.out w8 hb8).mono ?_
  rintro e w9 ⟨rfl, hb9⟩
  go_wp2_with fail
  first | exact ⟨rfl, hb9⟩ | (go_ret; exact ⟨rfl, hb9⟩)
end Go.Proofs.Ytkomadlmonhlhaa
