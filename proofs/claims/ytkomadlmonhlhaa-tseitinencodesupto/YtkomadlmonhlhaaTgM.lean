import Derived.Test.YtkomadlmonhlhaaTgL
import Derived.OrdersHeld
namespace Go.Proofs.Ytkomadlmonhlhaa
open Go.ChangeShapes Go.WideShapes Go.ChangeAt Go.RowKit Go.Lib Go.Ag Go.WideMaps Go.Maps Go.ChangeMaps Go.Cn

theorem set2_other (w : World) (b j : Nat) (u v : Value) (h : j ≠ b) : ((w.setCell ⟨b, 0, none⟩ u).setCell ⟨b, 1, none⟩ v).heap[j]? = w.heap[j]? := by
  rw [heap_setCell_other _ _ j _ h, heap_setCell_other _ _ j _ h]
theorem set2_same (w : World) (b : Nat) (x y u v : Value) (t : TypeId) (h : w.heap[b]? = some (.cells #[x, y] t (0, 0))) : ((w.setCell ⟨b, 0, none⟩ u).setCell ⟨b, 1, none⟩ v).heap[b]? = some (.cells #[u, v] t (0, 0)) := by
  have h1 := heap_setCell_same w b 0 _ _ u h
  exact (heap_setCell_same _ b 1 _ _ v h1).trans (by simp)
set_option maxHeartbeats 32000000 in
set_option maxRecDepth 100000 in
theorem encodes_walk (w : World) (ad : Option Addr) (sc : List S3) (cp : Nat) (hsc : MD3 w ad sc) (hbd : bd3 sc) (aW : Option Addr) (ws : List Int) (cW : Nat) (hW : Is w aW ws) (hbW : ∀ x ∈ ws, -9223372036854775808 ≤ x ∧ x ≤ 9223372036854775807) (aQ : Option Addr) (os : List Nat) (cQ : Nat) (hQ : U32s w aQ os) (hQ32 : ∀ l ∈ os, l < 4294967296) (hn : 3 * sc.length + ws.length + os.length ≤ 1048576) :
    Calls Try.prog 3 #[.slice ad sc.length cp, .slice aW ws.length cW, .slice aQ os.length cQ] w fun e w' => e = .returned (.bool true) ∧ Below w.heap.size w w' := by
  have HMk : Hid (Calls Try.prog 6 #[.slice ad sc.length cp] w fun e w' => ∃ Rg Rr ns L vL, e = .returned (.tuple #[.pointer (some ⟨Rg, 0, none⟩), .pointer (some ⟨Rr, 0, none⟩), vL, .bool true]) ∧ madeM [] [0] sc = some (ns, L) ∧ MJ ns L sc.length ∧ TT w w' Rg Rr ns ns L vL) := made_two w ad sc cp hsc hbd (by omega)
  have HW : Hid ((Is w aW ws ∧ ∀ x ∈ ws, -9223372036854775808 ≤ x ∧ x ≤ 9223372036854775807) ∧ U32s w aQ os ∧ ∀ l ∈ os, l < 4294967296) := ⟨⟨hW, hbW⟩, hQ, hQ32⟩
  clear hsc hbd hW hbW hQ hQ32
  generalize hN1 : sc.length = n1 at *
  generalize hN2 : ws.length = n2 at *
  generalize hN3 : os.length = n3 at *
  have HN2 : Hid (ws.length = n2 ∧ os.length = n3) := ⟨hN2, hN3⟩
  clear hN1 hN2 hN3
  go_enter Try.func3, Try.ntmps3
  go_wp2_with fail
  refine HMk.out.mono ?_
  rintro e w1 ⟨Rg, Rr, ns, L, vL, rfl, _, hmj, ht1⟩
  obtain ⟨aL, cL, rfl, _, _⟩ := row_form ht1.row
  have HT1 : Hid (TT w w1 Rg Rr ns ns L (.slice aL L.length cL) ∧ MJ ns L n1) := ⟨ht1, hmj⟩
  clear ht1 hmj HMk
  go_wp2_with fail
  refine (live_any w1).mono ?_
  rintro e w2 ⟨rfl, hb2⟩
  have HT2 : Hid (TT w w2 Rg Rr ns ns L (.slice aL L.length cL) ∧ MJ ns L n1) := ⟨HT1.out.1.over hb2, HT1.out.2⟩
  clear hb2 HT1
  have HSm : Hid (Calls Try.prog 8 #[.slice aL L.length cL, .slice aW n2 cW, .slice aQ n3 cQ] w2 fun e w' => ∃ v, e = .returned v ∧ SR w2 w' (ws.map (pickN L) ++ os) v) := by
    have h5 := some_odd w2 aL L cL (u32s_of HT2.out.1.row) (by rw [HT2.out.2.len]; omega) (by rw [HT2.out.2.len]; omega) (fun l hl => by have h1 := HT2.out.2.lit l hl; have h2 := HT2.out.2.few; omega) aW ws cW (HW.out.1.1.below HT2.out.1.bel) HW.out.1.2 aQ os cQ (HW.out.2.1.below HT2.out.1.bel) (by rw [HN2.out.1, HN2.out.2]; omega)
    rw [HN2.out.1, HN2.out.2] at h5
    exact h5
  go_wp2_with fail
  refine HSm.out.mono ?_
  rintro e w3 ⟨vR, rfl, hs3⟩
  have hrl : (ws.map (pickN L) ++ os).length = n2 + n3 := by rw [List.length_append, List.length_map, HN2.out.1, HN2.out.2]
  obtain ⟨aR, cR, rfl, _, _⟩ := row_form hs3.row
  have hL0 : 0 < L.length := by rw [HT2.out.2.len]; omega
  have hns : ns.length ≤ n1 := HT2.out.2.few
  have H32 : Hid (∀ l ∈ ws.map (pickN L) ++ os, l < 4294967296) := fun l hl => by
    rcases List.mem_append.1 hl with h1 | h1
    · obtain ⟨x, _, rfl⟩ := List.mem_map.1 h1
      have := pickN_le (i := x) HT2.out.2.lit hL0
      omega
    · exact HW.out.2.2 l h1
  have HGS : Hid (GS ns) := HT2.out.2.gs
  have HT3 : Hid (TT w w3 Rg Rr ns ns L (.slice aL L.length cL) ∧ U32s w3 aR (ws.map (pickN L) ++ os)) := ⟨HT2.out.1.over hs3.bel, u32s_of hs3.row⟩
  clear hs3 HT2 HSm HW HN2 hL0
  generalize ws.map (pickN L) ++ os = ls at *
  rw [hrl]
  have hn' : 3 * n1 + (n2 + n3) ≤ 1048576 := by omega
  clear hn
  generalize n2 + n3 = n at *
  have HU1 : Hid (U32s (w3.alloc (.cells #[] 42)) aR ls) := HT3.out.2.below (ag_bel1 _ _)
  have HE0 : Hid ((w3.alloc (.cells #[] 42)).heap[w3.heap.size]? = some (.cells #[] 42 (0, 0))) := heap_alloc_new _ _
  have HOu : Hid (∀ aO cO w4, Below w3.heap.size w3 w4 → U32s w4 aO ls → ∃ vars FE FP cn E, ((∀ c ∈ FE, c.length ≤ 3) ∧ (∀ c ∈ FP, c.length ≤ 3) ∧ FE.length ≤ 1048576 ∧ FP.length ≤ 1048576 ∧ cn.length ≤ 1048576) ∧ ∀ W, Below w4.heap.size w4 W → FOUR W Rg Rr aO cO aR cR n vars FE FP cn E) := fun aO cO w4 h4 hO => by
    have h5 := outs (HT3.out.1.over h4) HGS.out aO cO aR cR ls hO (HT3.out.2.below h4) H32.out (by omega)
    rw [hrl] at h5
    exact h5
  obtain ⟨aG, cG, HRr⟩ : ∃ aG cG, Hid (∀ X, Below w3.heap.size w3 X → X.cell? ⟨Rr, 0, none⟩ = some (.slice aG (ns.length + 1) cG)) := by
    obtain ⟨vR, hr⟩ := HT3.out.1.r
    obtain ⟨aG, cG, rfl, _, _⟩ := row_form hr.row
    exact ⟨aG, cG, fun X hX => ag_cell ((hX.block _ (Array.getElem?_eq_some_iff.1 hr.blk).1).trans hr.blk) 0⟩
  have HNd : Hid (∀ X, Below w3.heap.size w3 X → Calls Try.prog 16 #[.pointer (some ⟨Rg, 0, none⟩)] X fun e w' => e = .returned (.int .i64 ((ns.length : Int) + 1)) ∧ w' = X) := fun X hX => by
    obtain ⟨nb, vb, vg, M, D, hG, _⟩ := (HT3.out.1.over hX).g
    exact Nodes_any X hG
  have HRo : Hid (∀ X, Below w3.heap.size w3 X → U32s X aR ls) := fun X hX => HT3.out.2.below hX
  have HB3 : Hid (Below w.heap.size w w3) := HT3.out.1.bel
  have HLs : Hid (ls.length = n) := hrl
  generalize hnl : ns.length = nl at *
  clear hnl
  go_wp2_with (at_builtin; refine wpList_copy rfl _ _ rfl _ w3.heap.size HE0.out rfl aR ls n cR hrl rfl HU1.out (by omega) ?_; intro aO cO w4 hO4 hb4; have HO4 : Hid (U32s w4 aO ls ∧ Below w3.heap.size w3 w4) := ⟨hO4, (ag_bel1 _ _).trans hb4⟩; clear hO4 hb4 HU1 HE0; refine Hid.out ?_)
  refine Lib.hid ?_
  obtain ⟨vars, FE, FP, cn, E, hfew, h4⟩ := HOu.out aO cO w4 HO4.out.2 HO4.out.1
  have H4 : Hid (∀ W, Below w4.heap.size w4 W → FOUR W Rg Rr aO cO aR cR n vars FE FP cn E) := h4
  have HFew : Hid ((∀ c ∈ FE, c.length ≤ 3) ∧ (∀ c ∈ FP, c.length ≤ 3) ∧ FE.length ≤ 1048576 ∧ FP.length ≤ 1048576 ∧ cn.length ≤ 1048576) := hfew
  clear h4 hfew HOu
  go_wp2_with fail
  refine (H4.out w4 (Below.refl _ _)).ge.mono ?_
  rintro e w5 ⟨aF, cF, aC, cC, rfl, hq5, hc5, hb5⟩
  have HO5 : Hid (QL w5 w4.heap.size FE (.slice aF FE.length cF) ∧ w5.ownsRow w4.heap.size 3 1 (.slice aC cn.length cC) cn.length (natV cn) ∧ Below w4.heap.size w4 w5) := ⟨hq5, hc5, hb5⟩
  clear hq5 hc5 hb5
  have HNo : Hid (∀ W, Calls Try.prog 11 #[.int .i64 E] W fun e w' => e = .returned (.int .i64 E) ∧ w' = W) := fun W => no_any E W
  have HN2 : Hid (∀ W, Calls Try.prog 11 #[.int .i64 2] W fun e w' => e = .returned (.int .i64 2) ∧ w' = W) := fun W => no_any 2 W
  have HEn : Hid (∀ W, Calls Try.prog 9 #[.pointer none, .slice aO n cO] W fun e w' => e = .returned (.tuple #[.agg #[.int .i64 0, .slice none 0 0], .slice none 0 0, .int .i64 2]) ∧ Below W.heap.size W w') := fun W => Encode_e W none aO n cO 2 (by decide) (fun X _ => refusal_nil X aO n cO)
  have HPn : Hid (∀ W, Calls Try.prog 14 #[.pointer none, .slice aO n cO] W fun e w' => e = .returned (.tuple #[.agg #[.int .i64 0, .slice none 0 0], .slice none 0 0, .int .i64 2]) ∧ Below W.heap.size W w') := fun W => Polar_e W none aO n cO 2 (by decide) (fun X _ => refusal_nil X aO n cO)
  have HAl : Hid (∀ (F : List (List Int)) X B1 B2 a1 a2 c1 c2, F = FE ∨ F = FP → QL X B1 F (.slice a1 F.length c1) → QL X B2 F (.slice a2 F.length c2) → Calls Try.prog 12 #[.agg #[.int .i64 vars, .slice a1 F.length c1], .agg #[.int .i64 vars, .slice a2 F.length c2]] X fun e w' => e = .returned (.bool true) ∧ Below X.heap.size X w') := fun F X B1 B2 a1 a2 c1 c2 hF h1 h2 => by
    rcases hF with rfl | rfl
    · exact alike_eq X _ _ _ _ a1 a2 c1 c2 _ rfl h1 h2 HFew.out.1 HFew.out.2.2.1
    · exact alike_eq X _ _ _ _ a1 a2 c1 c2 _ rfl h1 h2 HFew.out.2.1 HFew.out.2.2.2.1
  have HSi : Hid (∀ X a1 a2 c1 c2, Nts X a1 cn → Nts X a2 cn → Calls Try.prog 13 #[.slice a1 cn.length c1, .slice a2 cn.length c2] X fun e w' => e = .returned (.bool true) ∧ ∃ d, w' = X.drewN d) := fun X a1 a2 c1 c2 h1 h2 => sameInts_eq X a1 a2 c1 c2 cn h1 h2 (by have := HFew.out.2.2.2.2; omega)
  generalize hnE : FE.length = nE at *
  generalize hcc : cn.length = cc at *
  have HLE : Hid (FE.length = nE ∧ cn.length = cc) := ⟨hnE, hcc⟩
  clear hnE hcc
  obtain ⟨w5', hw5'⟩ : ∃ w5', w5.alloc (.cells #[.int .i64 vars, .slice aF nE cF] 33) = w5' := ⟨_, rfl⟩
  obtain ⟨Fb, hFb⟩ : ∃ Fb, w5.heap.size = Fb := ⟨_, rfl⟩
  have HT5 : Hid (w5'.heap[Fb]? = some (.cells #[.int .i64 vars, .slice aF nE cF] 33 (0, 0)) ∧ Below w5.heap.size w5 w5' ∧ w5'.heap.size = w5.heap.size + 1 ∧ Below w4.heap.size w4 w5') := by rw [← hw5', ← hFb]; exact ⟨heap_alloc_new _ _, ag_bel1 _ _, by simp, ag_next HO5.out.2.2 (ag_bel1 _ _)⟩
  have HW5e : Hid (w5.alloc (.cells #[.int .i64 vars, .slice aF nE cF] 33) = w5') := hw5'
  have HFb : Hid (w5.heap.size = Fb) := hFb
  clear hw5' hFb
  go_wp2_with fail
  rw [HW5e.out]
  rw [HFb.out]
  clear HW5e
  have hre := (H4.out w5' HT5.out.2.2.2).re
  refine hre.mono ?_
  clear hre
  rintro e w6 ⟨aH, cH, aD, cD, rfl, hq6, hc6, hb6⟩
  rw [HLE.out.1, HLE.out.2]
  obtain ⟨w6', hw6'⟩ : ∃ w6', w6.alloc (.cells #[.int .i64 vars, .slice aH nE cH] 33) = w6' := ⟨_, rfl⟩
  obtain ⟨Hb, hHb⟩ : ∃ Hb, w6.heap.size = Hb := ⟨_, rfl⟩
  have hne : ¬ Fb = Hb ∧ Fb < w6.heap.size ∧ w4.heap.size ≤ Fb := by
    have h1 := hb6.size
    have h2 := HT5.out.2.2.1
    have h3 := HFb.out
    have h4 := HO5.out.2.2.size
    refine ⟨?_, ?_, ?_⟩ <;> omega
  have HT6 : Hid (w6'.heap[Fb]? = some (.cells #[.int .i64 vars, .slice aF nE cF] 33 (0, 0)) ∧ w6'.heap[Hb]? = some (.cells #[.int .i64 vars, .slice aH nE cH] 33 (0, 0)) ∧ (QL w6' w4.heap.size FE (.slice aF FE.length cF) ∧ QL w6' w5'.heap.size FE (.slice aH FE.length cH)) ∧ (Nts w6' aC cn ∧ Nts w6' aD cn) ∧ Below w4.heap.size w4 w6') := by
    have hb7 : Below w6.heap.size w6 w6' := by rw [← hw6']; exact ag_bel1 _ _
    have hb8 : Below w5'.heap.size w5' w6' := ag_next hb6 hb7
    have hb9 : Below w5.heap.size w5 w6' := ag_next HT5.out.2.1 hb8
    refine ⟨(hb8.block _ (Array.getElem?_eq_some_iff.1 HT5.out.1).1).trans HT5.out.1, by rw [← hw6', ← hHb]; exact heap_alloc_new _ _, ⟨by have h5 := HO5.out.1; rw [← HLE.out.1] at h5; exact h5.over hb9, hq6.over hb7⟩, ⟨?_, ?_⟩, ag_next HT5.out.2.2.2 hb8⟩
    · exact nts_of (ag_same HO5.out.2.1 (fun j hj => hb9.block j (HO5.out.2.1.lt j hj).2))
    · exact nts_of (ag_same hc6 (fun j hj => hb7.block j (hc6.lt j hj).2))
  have HNe : Hid (¬ Fb = Hb ∧ Fb < w6'.heap.size ∧ Hb < w6'.heap.size ∧ w4.heap.size ≤ Fb ∧ w4.heap.size ≤ Hb) := by
    have h1 := (Array.getElem?_eq_some_iff.1 HT6.out.1).1
    have h2 := (Array.getElem?_eq_some_iff.1 HT6.out.2.1).1
    exact ⟨hne.1, h1, h2, hne.2.2, by omega⟩
  have HW6e : Hid (w6.alloc (.cells #[.int .i64 vars, .slice aH nE cH] 33) = w6') := hw6'
  have HHb : Hid (w6.heap.size = Hb) := hHb
  clear hw6' hHb hq6 hc6 hb6 HT5 hne HO5 HFb
  have c0 : w6'.cell? ⟨Fb, 0, none⟩ = some (.int .i64 vars) := ag_cell HT6.out.1 0
  have c1 : w6'.cell? ⟨Fb, 1, none⟩ = some (.slice aF nE cF) := ag_cell HT6.out.1 1
  have c2 : w6'.cell? ⟨Hb, 0, none⟩ = some (.int .i64 vars) := ag_cell HT6.out.2.1 0
  have c3 : w6'.cell? ⟨Hb, 1, none⟩ = some (.slice aH nE cH) := ag_cell HT6.out.2.1 1
  have HAl1 : Hid (Calls Try.prog 12 #[.agg #[.int .i64 vars, .slice aF nE cF], .agg #[.int .i64 vars, .slice aH nE cH]] w6' fun e w' => e = .returned (.bool true) ∧ Below w6'.heap.size w6' w') := by
    have h5 := HAl.out FE w6' _ _ aF aH cF cH (Or.inl rfl) HT6.out.2.2.1.1 HT6.out.2.2.1.2
    rw [HLE.out.1] at h5
    exact h5
  have HSi1 : Hid (∀ X, Below w6'.heap.size w6' X → Calls Try.prog 13 #[.slice aC cc cC, .slice aD cc cD] X fun e w' => e = .returned (.bool true) ∧ ∃ d, w' = X.drewN d) := fun X hX => HSi.out X aC aD cC cD (HT6.out.2.2.2.1.1.below hX) (HT6.out.2.2.2.1.2.below hX)
  have qe : (E != E) = false := by simp
  go_upto_region 8 with fail
  rw [HW6e.out]
  rw [HHb.out]
  clear HW6e HHb
  go_wp2_with fail
  refine (HNo.out w6').mono ?_
  rintro e w7 ⟨rfl, hw7⟩
  subst w7
  go_wp2_with fail
  refine HAl1.out.mono ?_
  rintro e w7 ⟨rfl, hb7⟩
  have HB7 : Hid (Below w6'.heap.size w6' w7) := hb7
  clear hb7 HAl1 c0 c1 c2 c3
  go_wp2_with fail
  refine (HSi1.out w7 HB7.out).mono ?_
  rintro e w8 ⟨rfl, d, hd8⟩
  have HB8 : Hid (Below w6'.heap.size w6' w8) := by rw [hd8]; exact ag_next HB7.out (drw_bel _ _)
  clear hd8 HSi1 HB7
  generalize hnP : FP.length = nP at *
  have HLP : Hid (FP.length = nP) := hnP
  clear hnP
  have hgp := (H4.out w8 (ag_next HT6.out.2.2.2.2 HB8.out)).gp
  go_wp2_with fail
  refine hgp.mono ?_
  clear hgp
  rintro e w9 ⟨aP, cP, aC2, cC2, rfl, hq9, hc9, hb9⟩
  rw [HLP.out, HLE.out.2]
  have hF9 : w9.heap[Fb]? = some (.cells #[.int .i64 vars, .slice aF nE cF] 33 (0, 0)) := ((ag_next HB8.out hb9).block _ HNe.out.2.1).trans HT6.out.1
  have c0 := ag_cell hF9 0
  have c1 := ag_cell hF9 1
  have f0 := ag_fz hF9 0
  have f1 := ag_fz hF9 1
  have hH9 : w9.heap[Hb]? = some (.cells #[.int .i64 vars, .slice aH nE cH] 33 (0, 0)) := ((ag_next HB8.out hb9).block _ HNe.out.2.2.1).trans HT6.out.2.1
  obtain ⟨w9', hw9'⟩ : ∃ w9', (w9.setCell ⟨Fb, 0, none⟩ (.int .i64 vars)).setCell ⟨Fb, 1, none⟩ (.slice aP nP cP) = w9' := ⟨_, rfl⟩
  have HT9 : Hid (w9'.heap[Fb]? = some (.cells #[.int .i64 vars, .slice aP nP cP] 33 (0, 0)) ∧ w9'.heap[Hb]? = some (.cells #[.int .i64 vars, .slice aH nE cH] 33 (0, 0)) ∧ QL w9' w8.heap.size FP (.slice aP FP.length cP) ∧ w9'.ownsRow w8.heap.size 3 1 (.slice aC2 cn.length cC2) cn.length (natV cn) ∧ Below w4.heap.size w4 w9' ∧ w8.heap.size ≤ w9'.heap.size) := by
    rw [← hw9']
    have h0 := HB8.out.size
    have h1 := HNe.out
    have ho : ∀ j, w8.heap.size ≤ j → ((w9.setCell ⟨Fb, 0, none⟩ (.int .i64 vars)).setCell ⟨Fb, 1, none⟩ (.slice aP nP cP)).heap[j]? = w9.heap[j]? := fun j hj => set2_other w9 Fb j _ _ (by omega)
    refine ⟨set2_same w9 Fb _ _ _ _ _ hF9, (set2_other w9 Fb Hb _ _ (fun e => h1.1 e.symm)).trans hH9, hq9.keep (fun j hj _ => ho j hj) (fun j _ hj _ => ho j hj), ag_same hc9 (fun j hj => ho j (hc9.lt j hj).1), ?_, ?_⟩
    · exact ((ag_next (ag_next HT6.out.2.2.2.2 HB8.out) hb9).setCell (p := ⟨Fb, 0, none⟩) h1.2.2.2.1 _).setCell (p := ⟨Fb, 1, none⟩) h1.2.2.2.1 _
    · simp
      exact hb9.size
  have HW9e : Hid ((w9.setCell ⟨Fb, 0, none⟩ (.int .i64 vars)).setCell ⟨Fb, 1, none⟩ (.slice aP nP cP) = w9') := hw9'
  clear hw9' hq9 hc9 hb9 hF9 hH9
  go_upto_region 11 with fail
  rw [HW9e.out]
  clear HW9e c0 c1 f0 f1
  have hrp := (H4.out w9' HT9.out.2.2.2.2.1).rp
  go_wp2_with fail
  refine hrp.mono ?_
  clear hrp
  rintro e w10 ⟨aQ9, cQ9, aD2, cD2, rfl, hq10, hc10, hb10⟩
  rw [HLP.out, HLE.out.2]
  have hF10 : w10.heap[Fb]? = some (.cells #[.int .i64 vars, .slice aP nP cP] 33 (0, 0)) := (hb10.block _ (Array.getElem?_eq_some_iff.1 HT9.out.1).1).trans HT9.out.1
  have hH10 : w10.heap[Hb]? = some (.cells #[.int .i64 vars, .slice aH nE cH] 33 (0, 0)) := (hb10.block _ (Array.getElem?_eq_some_iff.1 HT9.out.2.1).1).trans HT9.out.2.1
  have c0 := ag_cell hH10 0
  have c1 := ag_cell hH10 1
  have f0 := ag_fz hH10 0
  have f1 := ag_fz hH10 1
  obtain ⟨w10', hw10'⟩ : ∃ w10', (w10.setCell ⟨Hb, 0, none⟩ (.int .i64 vars)).setCell ⟨Hb, 1, none⟩ (.slice aQ9 nP cQ9) = w10' := ⟨_, rfl⟩
  have HT10 : Hid (w10'.heap[Fb]? = some (.cells #[.int .i64 vars, .slice aP nP cP] 33 (0, 0)) ∧ w10'.heap[Hb]? = some (.cells #[.int .i64 vars, .slice aQ9 nP cQ9] 33 (0, 0)) ∧ (QL w10' w8.heap.size FP (.slice aP FP.length cP) ∧ QL w10' w9'.heap.size FP (.slice aQ9 FP.length cQ9)) ∧ (Nts w10' aC2 cn ∧ Nts w10' aD2 cn) ∧ Below w4.heap.size w4 w10') := by
    rw [← hw10']
    have h0 := HB8.out.size
    have h1 := HNe.out
    have h2 := HT9.out.2.2.2.2.2
    have ho : ∀ j, w8.heap.size ≤ j → ((w10.setCell ⟨Hb, 0, none⟩ (.int .i64 vars)).setCell ⟨Hb, 1, none⟩ (.slice aQ9 nP cQ9)).heap[j]? = w10.heap[j]? := fun j hj => set2_other w10 Hb j _ _ (by omega)
    have hc9 := ag_same HT9.out.2.2.2.1 (fun j hj => hb10.block j (HT9.out.2.2.2.1.lt j hj).2)
    refine ⟨(set2_other w10 Hb Fb _ _ h1.1).trans hF10, set2_same w10 Hb _ _ _ _ _ hH10, ⟨(HT9.out.2.2.1.over hb10).keep (fun j hj _ => ho j hj) (fun j _ hj _ => ho j hj), hq10.keep (fun j hj _ => ho j (by omega)) (fun j _ hj _ => ho j (by omega))⟩, ⟨nts_of (ag_same hc9 (fun j hj => ho j (hc9.lt j hj).1)), nts_of (ag_same hc10 (fun j hj => ho j (by have := (hc10.lt j hj).1; omega)))⟩, ?_⟩
    exact ((ag_next HT9.out.2.2.2.2.1 hb10).setCell (p := ⟨Hb, 0, none⟩) h1.2.2.2.2 _).setCell (p := ⟨Hb, 1, none⟩) h1.2.2.2.2 _
  have HW10e : Hid ((w10.setCell ⟨Hb, 0, none⟩ (.int .i64 vars)).setCell ⟨Hb, 1, none⟩ (.slice aQ9 nP cQ9) = w10') := hw10'
  clear hw10' hq10 hc10 hb10 hF10 hH10 HT9 HT6 HB8 HNe H4
  go_upto_region 12 with fail
  rw [HW10e.out]
  clear HW10e c0 c1 f0 f1
  have HX : Hid (∀ X, Below w10'.heap.size w10' X → X.cell? ⟨Fb, 0, none⟩ = some (.int .i64 vars) ∧ X.cell? ⟨Fb, 1, none⟩ = some (.slice aP nP cP) ∧ X.cell? ⟨Hb, 0, none⟩ = some (.int .i64 vars) ∧ X.cell? ⟨Hb, 1, none⟩ = some (.slice aQ9 nP cQ9) ∧ X.cell? ⟨Rr, 0, none⟩ = some (.slice aG (nl + 1) cG)) := fun X hX => by
    have hF := (hX.block _ (Array.getElem?_eq_some_iff.1 HT10.out.1).1).trans HT10.out.1
    have hH := (hX.block _ (Array.getElem?_eq_some_iff.1 HT10.out.2.1).1).trans HT10.out.2.1
    exact ⟨ag_cell hF 0, ag_cell hF 1, ag_cell hH 0, ag_cell hH 1, HRr.out X (ag_next HO4.out.2 (ag_next HT10.out.2.2.2.2 hX))⟩
  have HXb : Hid (∀ X, Below w10'.heap.size w10' X → Below w3.heap.size w3 X ∧ Below w4.heap.size w4 X) := fun X hX => ⟨ag_next HO4.out.2 (ag_next HT10.out.2.2.2.2 hX), ag_next HT10.out.2.2.2.2 hX⟩
  have HAl1 : Hid (∀ X, Below w10'.heap.size w10' X → Calls Try.prog 12 #[.agg #[.int .i64 vars, .slice aP nP cP], .agg #[.int .i64 vars, .slice aQ9 nP cQ9]] X fun e w' => e = .returned (.bool true) ∧ Below X.heap.size X w') := fun X hX => by
    have h5 := HAl.out FP X _ _ aP aQ9 cP cQ9 (Or.inr rfl) (HT10.out.2.2.1.1.over hX) (HT10.out.2.2.1.2.over hX)
    rw [HLP.out] at h5
    exact h5
  have HSi1 : Hid (∀ X, Below w10'.heap.size w10' X → Calls Try.prog 13 #[.slice aC2 cc cC2, .slice aD2 cc cD2] X fun e w' => e = .returned (.bool true) ∧ ∃ d, w' = X.drewN d) := fun X hX => HSi.out X aC2 aD2 cC2 cD2 (HT10.out.2.2.2.1.1.below hX) (HT10.out.2.2.2.1.2.below hX)
  clear HAl HSi HT10 HLP HLE HFew HRr
  go_wp2_with fail
  refine (HEn.out w10').mono ?_
  rintro e w11 ⟨rfl, hb11⟩
  have HB11 : Hid (∀ o, Below w10'.heap.size w10' (w11.alloc o)) := fun o => ag_next hb11 (ag_bel1 _ _)
  clear hb11 HEn
  go_wp2_with fail
  refine (HPn.out _).mono ?_
  rintro e w12 ⟨rfl, hb12⟩
  obtain ⟨w13, hw13⟩ : ∃ w13, w12.alloc (.cells #[.int .i64 0, .slice none 0 0] 33) = w13 := ⟨_, rfl⟩
  have HB13 : Hid (Below w10'.heap.size w10' w13) := by rw [← hw13]; exact ag_next (ag_next (HB11.out _) hb12) (ag_bel1 _ _)
  have HW13 : Hid (w12.alloc (.cells #[.int .i64 0, .slice none 0 0] 33) = w13) := hw13
  clear hw13 hb12 HPn HB11
  go_upto_region 14 with fail
  rw [HW13.out]
  clear HW13
  have HUo : Hid (U32s w13 aO ls ∧ U32s w13 aR ls) := ⟨HO4.out.1.below (HXb.out w13 HB13.out).2, HRo.out w13 (HXb.out w13 HB13.out).1⟩
  clear HRo HO4
  go_wp2_with fail
  go_loopg [25] n (fun gk v25 wr => ∃ k d : Nat, v25 = .int .i64 (k : Int) ∧ k + gk = n ∧ wr = w13.drewN d)
  case atStart => exact ⟨0, 0, rfl, by omega, rfl⟩
  case round =>
    obtain ⟨k, d, rfl, hk, rfl⟩ := hrel
    by_cases hlt : k < n
    · obtain ⟨b1, o1, rfl, hb1, hc1⟩ := HUo.out.1 (by rw [HLs.out]; omega)
      obtain ⟨b2, o2, rfl, hb2, hc2⟩ := HUo.out.2 (by rw [HLs.out]; omega)
      have y1 : (w13.drewN d).cell? ⟨b1, o1 + k, none⟩ = some (.int .u32 ((ls.getD k 0 : Nat) : Int)) := hc1 k (by rw [HLs.out]; exact hlt)
      have y2 : (w13.drewN d).cell? ⟨b2, o2 + k, none⟩ = some (.int .u32 ((ls.getD k 0 : Nat) : Int)) := hc2 k (by rw [HLs.out]; exact hlt)
      have q1 : (k : Int) < (n : Int) := by omega
      have HDN : Hid (∀ q, ∃ z, (w13.drewN d).drewN q = w13.drewN z) := fun q => ⟨d + q, by rw [World.drewN_drewN]⟩
      generalize ls.getD k 0 = x at *
      clear hc1 hc2
      generalize w13.drewN d = WQ at *
      go_wp2_with fail
      first | (go_quiet (fail)) | fail
      go_wp2_with fail
      go_roundg (n - (k + 1))
      case measure => omega
      case rel =>
        obtain ⟨z, hz⟩ := HDN.out _
        exact ⟨k + 1, z, by simp, by omega, hz⟩
    · obtain rfl : k = n := by omega
      have q1 : ¬ (k : Int) < (k : Int) := by omega
      have HBd : Hid (Below w10'.heap.size w10' (w13.drewN d)) := ag_next HB13.out (drw_bel _ _)
      generalize w13.drewN d = WQ at *
      clear HUo HB13 HLs
      go_wp2_with fail
      refine wp_region_held_drew (S := (fun W => Aside (Below w10'.heap.size w10' W) ∧ W.cell? ⟨Fb, 0, none⟩ = some (.int .i64 vars) ∧ W.cell? ⟨Fb, 1, none⟩ = some (.slice aP nP cP) ∧ W.cell? ⟨Hb, 0, none⟩ = some (.int .i64 vars) ∧ W.cell? ⟨Hb, 1, none⟩ = some (.slice aQ9 nP cQ9) ∧ W.cell? ⟨Rr, 0, none⟩ = some (.slice aG (nl + 1) cG))) (by kernel_rfl) ?_ (fun hHeld => ?_)
      · exact ⟨HBd.out.drew, HX.out _ HBd.out.drew⟩
      clear HBd
      refine wpAnyH_take (i := 0) (oi := { dst := some 117, op := Op.move (Operand.tmp 15), type := 34, pos := "law.go:151", after := #[], guard := none }) (v := ?vz0) rfl (by kernel_rfl) (by kernel_rfl) (by kernel_rfl) (fun _ _ _ h => h) (Or.inl ⟨by kernel_rfl, ?hz0⟩) (by assumption) ?rz0
      case hz0 => (intro w hSw; (try dsimp only at hSw); go_simp <;> with_reducible rfl)
      try simp only [Act.put, List.setIfInBounds_toArray, List.set_cons_zero, List.set_cons_succ]
      refine wpAnyH_take (i := 2) (oi := { dst := some 119, op := Op.move (Operand.tmp 18), type := 3, pos := "law.go:151", after := #[], guard := none }) (v := ?vz2) rfl (by kernel_rfl) (by kernel_rfl) (by kernel_rfl) (fun _ _ _ h => h) (Or.inl ⟨by kernel_rfl, ?hz2⟩) (by assumption) ?rz2
      case hz2 => (intro w hSw; (try dsimp only at hSw); go_simp <;> with_reducible rfl)
      try simp only [Act.put, List.setIfInBounds_toArray, List.set_cons_zero, List.set_cons_succ]
      refine wpAnyH_ready (rs := [1]) (by kernel_rfl) (by simp) ?_
      refine AllReadyH.cons (o := { dst := some 118, op := Op.call { callee := Callee.value (Operand.func 11), args := #[Operand.tmp 117], argTypes := #[34] }, type := 3, pos := "law.go:151", after := #[{ on := 0, ground := Ground.data }], guard := none }) rfl (fun K hK => ?_) AllReadyH.nil
      go_simp
      go_at_call 11; refine (HNo.out _).mono ?_; rintro e w' ⟨rfl, hw'⟩; subst w'
      refine hK.out _ _ hHeld (fun hHeld => ?_)
      clear hK K
      try simp only [Act.put, List.setIfInBounds_toArray, List.set_cons_zero, List.set_cons_succ]
      refine wpAnyH_take (i := 3) (oi := { dst := some 120, op := Op.binOp BinOp.eql 3 (Operand.tmp 118) (Operand.tmp 119) 3, type := 4, pos := "law.go:151", after := #[{ on := 1, ground := Ground.data }, { on := 2, ground := Ground.data }], guard := none }) (v := ?vz3) rfl (by kernel_rfl) (by kernel_rfl) (by kernel_rfl) (fun _ _ _ h => h) (Or.inl ⟨by kernel_rfl, ?hz3⟩) (by assumption) ?rz3
      case hz3 => (intro w hSw; (try dsimp only at hSw); go_simp <;> with_reducible rfl)
      try simp only [Act.put, List.setIfInBounds_toArray, List.set_cons_zero, List.set_cons_succ]
      refine wpAnyH_take (i := 4) (oi := { dst := some 121, op := Op.move (Operand.tmp 120), type := 4, pos := "law.go:151", after := #[{ on := 3, ground := Ground.data }, { on := 1, ground := Ground.chain }], guard := none }) (v := ?vz4) rfl (by kernel_rfl) (by kernel_rfl) (by kernel_rfl) (fun _ _ _ h => h) (Or.inl ⟨by kernel_rfl, ?hz4⟩) (by assumption) ?rz4
      case hz4 => (intro w hSw; (try dsimp only at hSw); go_simp <;> with_reducible rfl)
      try simp only [Act.put, List.setIfInBounds_toArray, List.set_cons_zero, List.set_cons_succ]
      refine wpAnyH_take (i := 5) (oi := { dst := some 122, op := Op.load 33 (Operand.tmp 13), type := 33, pos := "law.go:151", after := #[{ on := 4, ground := Ground.guard }], guard := some (4, true) }) (v := ?vz5) rfl (by kernel_rfl) (by kernel_rfl) (by kernel_rfl) (fun _ _ _ h => h) (Or.inl ⟨by kernel_rfl, ?hz5⟩) (by assumption) ?rz5
      case hz5 => (intro w hSw; (try dsimp only at hSw); go_simp <;> with_reducible rfl)
      try simp only [Act.put, List.setIfInBounds_toArray, List.set_cons_zero, List.set_cons_succ]
      refine wpAnyH_take (i := 6) (oi := { dst := some 123, op := Op.load 33 (Operand.tmp 16), type := 33, pos := "law.go:151", after := #[{ on := 4, ground := Ground.guard }], guard := some (4, true) }) (v := ?vz6) rfl (by kernel_rfl) (by kernel_rfl) (by kernel_rfl) (fun _ _ _ h => h) (Or.inl ⟨by kernel_rfl, ?hz6⟩) (by assumption) ?rz6
      case hz6 => (intro w hSw; (try dsimp only at hSw); go_simp <;> with_reducible rfl)
      try simp only [Act.put, List.setIfInBounds_toArray, List.set_cons_zero, List.set_cons_succ]
      refine wpAnyH_ready (rs := [7]) (by kernel_rfl) (by simp) ?_
      refine AllReadyH.cons (o := { dst := some 124, op := Op.call { callee := Callee.value (Operand.func 12), args := #[Operand.tmp 122, Operand.tmp 123], argTypes := #[33, 33] }, type := 4, pos := "law.go:151", after := #[{ on := 5, ground := Ground.data }, { on := 6, ground := Ground.data }, { on := 4, ground := Ground.chain }, { on := 4, ground := Ground.guard }], guard := some (4, true) }) rfl (fun K hK => ?_) AllReadyH.nil
      go_simp
      go_at_call 12; refine (HAl1.out _ hHeld.1.out).mono ?_; rintro e wa ⟨rfl, hba⟩
      have hq9 : Below w10'.heap.size w10' wa := ag_next hHeld.1.out hba
      clear hHeld hba
      refine hK.out _ _ ⟨hq9, HX.out _ hq9⟩ (fun hHeld => ?_)
      clear hK K hq9
      try simp only [Act.put, List.setIfInBounds_toArray, List.set_cons_zero, List.set_cons_succ]
      refine wpAnyH_take (i := 8) (oi := { dst := some 125, op := Op.pick (Operand.tmp 121) (Operand.tmp 124) (Operand.const (Value.bool false)), type := 4, pos := "law.go:151", after := #[{ on := 4, ground := Ground.data }, { on := 7, ground := Ground.data }], guard := none }) (v := ?vz8) rfl (by kernel_rfl) (by kernel_rfl) (by kernel_rfl) (fun _ _ _ h => h) (Or.inl ⟨by kernel_rfl, ?hz8⟩) (by assumption) ?rz8
      case hz8 => (intro w hSw; (try dsimp only at hSw); go_simp <;> with_reducible rfl)
      try simp only [Act.put, List.setIfInBounds_toArray, List.set_cons_zero, List.set_cons_succ]
      refine wpAnyH_take (i := 9) (oi := { dst := some 126, op := Op.move (Operand.tmp 125), type := 4, pos := "law.go:151", after := #[{ on := 8, ground := Ground.data }, { on := 7, ground := Ground.chain }], guard := none }) (v := ?vz9) rfl (by kernel_rfl) (by kernel_rfl) (by kernel_rfl) (fun _ _ _ h => h) (Or.inl ⟨by kernel_rfl, ?hz9⟩) (by assumption) ?rz9
      case hz9 => (intro w hSw; (try dsimp only at hSw); go_simp <;> with_reducible rfl)
      try simp only [Act.put, List.setIfInBounds_toArray, List.set_cons_zero, List.set_cons_succ]
      refine wpAnyH_take (i := 10) (oi := { dst := some 127, op := Op.move (Operand.tmp 14), type := 23, pos := "law.go:151", after := #[{ on := 9, ground := Ground.guard }], guard := some (9, true) }) (v := ?vz10) rfl (by kernel_rfl) (by kernel_rfl) (by kernel_rfl) (fun _ _ _ h => h) (Or.inl ⟨by kernel_rfl, ?hz10⟩) (by assumption) ?rz10
      case hz10 => (intro w hSw; (try dsimp only at hSw); go_simp <;> with_reducible rfl)
      try simp only [Act.put, List.setIfInBounds_toArray, List.set_cons_zero, List.set_cons_succ]
      refine wpAnyH_take (i := 11) (oi := { dst := some 128, op := Op.move (Operand.tmp 17), type := 23, pos := "law.go:151", after := #[{ on := 9, ground := Ground.guard }], guard := some (9, true) }) (v := ?vz11) rfl (by kernel_rfl) (by kernel_rfl) (by kernel_rfl) (fun _ _ _ h => h) (Or.inl ⟨by kernel_rfl, ?hz11⟩) (by assumption) ?rz11
      case hz11 => (intro w hSw; (try dsimp only at hSw); go_simp <;> with_reducible rfl)
      try simp only [Act.put, List.setIfInBounds_toArray, List.set_cons_zero, List.set_cons_succ]
      refine wpAnyH_ready (rs := [12]) (by kernel_rfl) (by simp) ?_
      refine AllReadyH.cons (o := { dst := some 129, op := Op.call { callee := Callee.value (Operand.func 13), args := #[Operand.tmp 127, Operand.tmp 128], argTypes := #[23, 23] }, type := 4, pos := "law.go:151", after := #[{ on := 10, ground := Ground.data }, { on := 11, ground := Ground.data }, { on := 9, ground := Ground.chain }, { on := 9, ground := Ground.guard }], guard := some (9, true) }) rfl (fun K hK => ?_) AllReadyH.nil
      go_simp
      go_at_call 13; refine (HSi1.out _ hHeld.1.out).mono ?_; rintro e wb ⟨rfl, d9, hd9⟩
      have hq9 : Below w10'.heap.size w10' wb := by rw [hd9]; exact ag_next hHeld.1.out (drw_bel _ _)
      clear hHeld hd9
      refine hK.out _ _ ⟨hq9, HX.out _ hq9⟩ (fun hHeld => ?_)
      clear hK K hq9
      try simp only [Act.put, List.setIfInBounds_toArray, List.set_cons_zero, List.set_cons_succ]
      refine wpAnyH_take (i := 13) (oi := { dst := some 130, op := Op.pick (Operand.tmp 126) (Operand.tmp 129) (Operand.const (Value.bool false)), type := 4, pos := "law.go:151", after := #[{ on := 9, ground := Ground.data }, { on := 12, ground := Ground.data }], guard := none }) (v := ?vz13) rfl (by kernel_rfl) (by kernel_rfl) (by kernel_rfl) (fun _ _ _ h => h) (Or.inl ⟨by kernel_rfl, ?hz13⟩) (by assumption) ?rz13
      case hz13 => (intro w hSw; (try dsimp only at hSw); go_simp <;> with_reducible rfl)
      try simp only [Act.put, List.setIfInBounds_toArray, List.set_cons_zero, List.set_cons_succ]
      refine wpAnyH_take (i := 14) (oi := { dst := some 131, op := Op.move (Operand.tmp 130), type := 4, pos := "law.go:151", after := #[{ on := 13, ground := Ground.data }, { on := 12, ground := Ground.chain }], guard := none }) (v := ?vz14) rfl (by kernel_rfl) (by kernel_rfl) (by kernel_rfl) (fun _ _ _ h => h) (Or.inl ⟨by kernel_rfl, ?hz14⟩) (by assumption) ?rz14
      case hz14 => (intro w hSw; (try dsimp only at hSw); go_simp <;> with_reducible rfl)
      try simp only [Act.put, List.setIfInBounds_toArray, List.set_cons_zero, List.set_cons_succ]
      refine wpAnyH_take (i := 15) (oi := { dst := some 132, op := Op.move (Operand.tmp 21), type := 34, pos := "law.go:151", after := #[{ on := 14, ground := Ground.guard }], guard := some (14, true) }) (v := ?vz15) rfl (by kernel_rfl) (by kernel_rfl) (by kernel_rfl) (fun _ _ _ h => h) (Or.inl ⟨by kernel_rfl, ?hz15⟩) (by assumption) ?rz15
      case hz15 => (intro w hSw; (try dsimp only at hSw); go_simp <;> with_reducible rfl)
      try simp only [Act.put, List.setIfInBounds_toArray, List.set_cons_zero, List.set_cons_succ]
      refine wpAnyH_ready (rs := [16]) (by kernel_rfl) (by simp) ?_
      refine AllReadyH.cons (o := { dst := some 133, op := Op.call { callee := Callee.value (Operand.func 11), args := #[Operand.tmp 132], argTypes := #[34] }, type := 3, pos := "law.go:151", after := #[{ on := 15, ground := Ground.data }, { on := 14, ground := Ground.chain }, { on := 14, ground := Ground.guard }], guard := some (14, true) }) rfl (fun K hK => ?_) AllReadyH.nil
      go_simp
      go_at_call 11; refine (HN2.out _).mono ?_; rintro e w' ⟨rfl, hw'⟩; subst w'
      refine hK.out _ _ hHeld (fun hHeld => ?_)
      clear hK K
      try simp only [Act.put, List.setIfInBounds_toArray, List.set_cons_zero, List.set_cons_succ]
      refine wpAnyH_take (i := 17) (oi := { dst := some 134, op := Op.binOp BinOp.eql 3 (Operand.tmp 133) (Operand.const (Value.int IntKind.i64 2)) 3, type := 4, pos := "law.go:151", after := #[{ on := 16, ground := Ground.data }, { on := 14, ground := Ground.guard }], guard := some (14, true) }) (v := ?vz17) rfl (by kernel_rfl) (by kernel_rfl) (by kernel_rfl) (fun _ _ _ h => h) (Or.inl ⟨by kernel_rfl, ?hz17⟩) (by assumption) ?rz17
      case hz17 => (intro w hSw; (try dsimp only at hSw); go_simp <;> with_reducible rfl)
      try simp only [Act.put, List.setIfInBounds_toArray, List.set_cons_zero, List.set_cons_succ]
      refine wpAnyH_take (i := 18) (oi := { dst := some 135, op := Op.pick (Operand.tmp 131) (Operand.tmp 134) (Operand.const (Value.bool false)), type := 4, pos := "law.go:151", after := #[{ on := 14, ground := Ground.data }, { on := 17, ground := Ground.data }], guard := none }) (v := ?vz18) rfl (by kernel_rfl) (by kernel_rfl) (by kernel_rfl) (fun _ _ _ h => h) (Or.inl ⟨by kernel_rfl, ?hz18⟩) (by assumption) ?rz18
      case hz18 => (intro w hSw; (try dsimp only at hSw); go_simp <;> with_reducible rfl)
      try simp only [Act.put, List.setIfInBounds_toArray, List.set_cons_zero, List.set_cons_succ]
      refine wpAnyH_take (i := 19) (oi := { dst := some 136, op := Op.move (Operand.tmp 135), type := 4, pos := "law.go:151", after := #[{ on := 18, ground := Ground.data }, { on := 16, ground := Ground.chain }], guard := none }) (v := ?vz19) rfl (by kernel_rfl) (by kernel_rfl) (by kernel_rfl) (fun _ _ _ h => h) (Or.inl ⟨by kernel_rfl, ?hz19⟩) (by assumption) ?rz19
      case hz19 => (intro w hSw; (try dsimp only at hSw); go_simp <;> with_reducible rfl)
      try simp only [Act.put, List.setIfInBounds_toArray, List.set_cons_zero, List.set_cons_succ]
      refine wpAnyH_take (i := 20) (oi := { dst := some 137, op := Op.move (Operand.tmp 24), type := 34, pos := "law.go:151", after := #[{ on := 19, ground := Ground.guard }], guard := some (19, true) }) (v := ?vz20) rfl (by kernel_rfl) (by kernel_rfl) (by kernel_rfl) (fun _ _ _ h => h) (Or.inl ⟨by kernel_rfl, ?hz20⟩) (by assumption) ?rz20
      case hz20 => (intro w hSw; (try dsimp only at hSw); go_simp <;> with_reducible rfl)
      try simp only [Act.put, List.setIfInBounds_toArray, List.set_cons_zero, List.set_cons_succ]
      refine wpAnyH_ready (rs := [21]) (by kernel_rfl) (by simp) ?_
      refine AllReadyH.cons (o := { dst := some 138, op := Op.call { callee := Callee.value (Operand.func 11), args := #[Operand.tmp 137], argTypes := #[34] }, type := 3, pos := "law.go:151", after := #[{ on := 20, ground := Ground.data }, { on := 19, ground := Ground.chain }, { on := 19, ground := Ground.guard }], guard := some (19, true) }) rfl (fun K hK => ?_) AllReadyH.nil
      go_simp
      go_at_call 11; refine (HN2.out _).mono ?_; rintro e w' ⟨rfl, hw'⟩; subst w'
      refine hK.out _ _ hHeld (fun hHeld => ?_)
      clear hK K
      try simp only [Act.put, List.setIfInBounds_toArray, List.set_cons_zero, List.set_cons_succ]
      refine wpAnyH_take (i := 22) (oi := { dst := some 139, op := Op.binOp BinOp.eql 3 (Operand.tmp 138) (Operand.const (Value.int IntKind.i64 2)) 3, type := 4, pos := "law.go:151", after := #[{ on := 21, ground := Ground.data }, { on := 19, ground := Ground.guard }], guard := some (19, true) }) (v := ?vz22) rfl (by kernel_rfl) (by kernel_rfl) (by kernel_rfl) (fun _ _ _ h => h) (Or.inl ⟨by kernel_rfl, ?hz22⟩) (by assumption) ?rz22
      case hz22 => (intro w hSw; (try dsimp only at hSw); go_simp <;> with_reducible rfl)
      try simp only [Act.put, List.setIfInBounds_toArray, List.set_cons_zero, List.set_cons_succ]
      refine wpAnyH_take (i := 23) (oi := { dst := some 140, op := Op.pick (Operand.tmp 136) (Operand.tmp 139) (Operand.const (Value.bool false)), type := 4, pos := "law.go:151", after := #[{ on := 19, ground := Ground.data }, { on := 22, ground := Ground.data }], guard := none }) (v := ?vz23) rfl (by kernel_rfl) (by kernel_rfl) (by kernel_rfl) (fun _ _ _ h => h) (Or.inl ⟨by kernel_rfl, ?hz23⟩) (by assumption) ?rz23
      case hz23 => (intro w hSw; (try dsimp only at hSw); go_simp <;> with_reducible rfl)
      try simp only [Act.put, List.setIfInBounds_toArray, List.set_cons_zero, List.set_cons_succ]
      refine wpAnyH_take (i := 24) (oi := { dst := some 141, op := Op.move (Operand.tmp 140), type := 4, pos := "law.go:151", after := #[{ on := 23, ground := Ground.data }, { on := 21, ground := Ground.chain }], guard := none }) (v := ?vz24) rfl (by kernel_rfl) (by kernel_rfl) (by kernel_rfl) (fun _ _ _ h => h) (Or.inl ⟨by kernel_rfl, ?hz24⟩) (by assumption) ?rz24
      case hz24 => (intro w hSw; (try dsimp only at hSw); go_simp <;> with_reducible rfl)
      try simp only [Act.put, List.setIfInBounds_toArray, List.set_cons_zero, List.set_cons_succ]
      refine wpAnyH_take (i := 25) (oi := { dst := some 142, op := Op.move (Operand.tmp 7), type := 25, pos := "law.go:151", after := #[{ on := 24, ground := Ground.guard }], guard := some (24, true) }) (v := ?vz25) rfl (by kernel_rfl) (by kernel_rfl) (by kernel_rfl) (fun _ _ _ h => h) (Or.inl ⟨by kernel_rfl, ?hz25⟩) (by assumption) ?rz25
      case hz25 => (intro w hSw; (try dsimp only at hSw); go_simp <;> with_reducible rfl)
      try simp only [Act.put, List.setIfInBounds_toArray, List.set_cons_zero, List.set_cons_succ]
      refine wpAnyH_take (i := 27) (oi := { dst := some 144, op := Op.move (Operand.tmp 8), type := 26, pos := "law.go:151", after := #[{ on := 24, ground := Ground.guard }], guard := some (24, true) }) (v := ?vz27) rfl (by kernel_rfl) (by kernel_rfl) (by kernel_rfl) (fun _ _ _ h => h) (Or.inl ⟨by kernel_rfl, ?hz27⟩) (by assumption) ?rz27
      case hz27 => (intro w hSw; (try dsimp only at hSw); go_simp <;> with_reducible rfl)
      try simp only [Act.put, List.setIfInBounds_toArray, List.set_cons_zero, List.set_cons_succ]
      refine wpAnyH_take (i := 28) (oi := { dst := some 145, op := Op.nilCheck (Operand.tmp 144), type := 0, pos := "law.go:151", after := #[{ on := 27, ground := Ground.data }, { on := 24, ground := Ground.guard }], guard := some (24, true) }) (v := ?vz28) rfl (by kernel_rfl) (by kernel_rfl) (by kernel_rfl) (fun _ _ _ h => h) (Or.inl ⟨by kernel_rfl, ?hz28⟩) (by assumption) ?rz28
      case hz28 => (intro w hSw; (try dsimp only at hSw); go_simp <;> with_reducible rfl)
      try simp only [Act.put, List.setIfInBounds_toArray, List.set_cons_zero, List.set_cons_succ]
      refine wpAnyH_take (i := 29) (oi := { dst := some 146, op := Op.fieldAddr 46 (Operand.tmp 145) 0, type := 0, pos := "law.go:151", after := #[{ on := 28, ground := Ground.data }, { on := 24, ground := Ground.guard }], guard := some (24, true) }) (v := ?vz29) rfl (by kernel_rfl) (by kernel_rfl) (by kernel_rfl) (fun _ _ _ h => h) (Or.inl ⟨by kernel_rfl, ?hz29⟩) (by assumption) ?rz29
      case hz29 => (intro w hSw; (try dsimp only at hSw); go_simp <;> with_reducible rfl)
      try simp only [Act.put, List.setIfInBounds_toArray, List.set_cons_zero, List.set_cons_succ]
      refine wpAnyH_take (i := 30) (oi := { dst := some 147, op := Op.load 44 (Operand.tmp 146), type := 44, pos := "law.go:151", after := #[{ on := 29, ground := Ground.data }, { on := 24, ground := Ground.guard }], guard := some (24, true) }) (v := ?vz30) rfl (by kernel_rfl) (by kernel_rfl) (by kernel_rfl) (fun _ _ _ h => h) (Or.inl ⟨by kernel_rfl, ?hz30⟩) (by assumption) ?rz30
      case hz30 => (intro w hSw; (try dsimp only at hSw); go_simp <;> with_reducible rfl)
      try simp only [Act.put, List.setIfInBounds_toArray, List.set_cons_zero, List.set_cons_succ]
      refine wpAnyH_take (i := 31) (oi := { dst := some 148, op := Op.call { callee := Callee.builtin Builtin.len, args := #[Operand.tmp 147], argTypes := #[44] }, type := 3, pos := "law.go:151", after := #[{ on := 30, ground := Ground.data }, { on := 24, ground := Ground.guard }], guard := some (24, true) }) (v := ?vz31) rfl (by kernel_rfl) (by kernel_rfl) (by kernel_rfl) (fun _ _ _ h => h) (Or.inl ⟨by kernel_rfl, ?hz31⟩) (by assumption) ?rz31
      case hz31 => (intro w hSw; (try dsimp only at hSw); go_simp <;> with_reducible rfl)
      try simp only [Act.put, List.setIfInBounds_toArray, List.set_cons_zero, List.set_cons_succ]
      refine wpAnyH_ready (rs := [26]) (by kernel_rfl) (by simp) ?_
      refine AllReadyH.cons (o := { dst := some 143, op := Op.call { callee := Callee.value (Operand.func 16), args := #[Operand.tmp 142], argTypes := #[25] }, type := 3, pos := "law.go:151", after := #[{ on := 25, ground := Ground.data }, { on := 24, ground := Ground.chain }, { on := 24, ground := Ground.guard }], guard := some (24, true) }) rfl (fun K hK => ?_) AllReadyH.nil
      go_simp
      go_at_call 16; refine (HNd.out _ (HXb.out _ hHeld.1.out).1).mono ?_; rintro e w' ⟨rfl, hw'⟩; subst w'
      refine hK.out _ _ hHeld (fun hHeld => ?_)
      clear hK K
      try simp only [Act.put, List.setIfInBounds_toArray, List.set_cons_zero, List.set_cons_succ]
      refine wpAnyH_take (i := 32) (oi := { dst := some 149, op := Op.binOp BinOp.eql 3 (Operand.tmp 143) (Operand.tmp 148) 3, type := 4, pos := "law.go:151", after := #[{ on := 26, ground := Ground.data }, { on := 31, ground := Ground.data }, { on := 24, ground := Ground.guard }], guard := some (24, true) }) (v := ?vz32) rfl (by kernel_rfl) (by kernel_rfl) (by kernel_rfl) (fun _ _ _ h => h) (Or.inl ⟨by kernel_rfl, ?hz32⟩) (by assumption) ?rz32
      case hz32 => (intro w hSw; (try dsimp only at hSw); go_simp <;> with_reducible rfl)
      try simp only [Act.put, List.setIfInBounds_toArray, List.set_cons_zero, List.set_cons_succ]
      refine wpAnyH_take (i := 33) (oi := { dst := some 150, op := Op.pick (Operand.tmp 141) (Operand.tmp 149) (Operand.const (Value.bool false)), type := 4, pos := "law.go:151", after := #[{ on := 24, ground := Ground.data }, { on := 32, ground := Ground.data }], guard := none }) (v := ?vz33) rfl (by kernel_rfl) (by kernel_rfl) (by kernel_rfl) (fun _ _ _ h => h) (Or.inl ⟨by kernel_rfl, ?hz33⟩) (by assumption) ?rz33
      case hz33 => (intro w hSw; (try dsimp only at hSw); go_simp <;> with_reducible rfl)
      try simp only [Act.put, List.setIfInBounds_toArray, List.set_cons_zero, List.set_cons_succ]
      refine wpAnyH_take (i := 34) (oi := { dst := some 6, op := Op.assign (Operand.tmp 150), type := 4, pos := "law.go:151", after := #[{ on := 33, ground := Ground.data }, { on := 26, ground := Ground.chain }, { on := 0, ground := Ground.phase }, { on := 1, ground := Ground.phase }, { on := 2, ground := Ground.phase }, { on := 3, ground := Ground.phase }, { on := 4, ground := Ground.phase }, { on := 5, ground := Ground.phase }, { on := 6, ground := Ground.phase }, { on := 7, ground := Ground.phase }, { on := 8, ground := Ground.phase }, { on := 9, ground := Ground.phase }, { on := 10, ground := Ground.phase }, { on := 11, ground := Ground.phase }, { on := 12, ground := Ground.phase }, { on := 13, ground := Ground.phase }, { on := 14, ground := Ground.phase }, { on := 15, ground := Ground.phase }, { on := 16, ground := Ground.phase }, { on := 17, ground := Ground.phase }, { on := 18, ground := Ground.phase }, { on := 19, ground := Ground.phase }, { on := 20, ground := Ground.phase }, { on := 21, ground := Ground.phase }, { on := 22, ground := Ground.phase }, { on := 23, ground := Ground.phase }, { on := 24, ground := Ground.phase }, { on := 25, ground := Ground.phase }, { on := 26, ground := Ground.phase }, { on := 27, ground := Ground.phase }, { on := 28, ground := Ground.phase }, { on := 29, ground := Ground.phase }, { on := 30, ground := Ground.phase }, { on := 31, ground := Ground.phase }, { on := 32, ground := Ground.phase }, { on := 33, ground := Ground.phase }], guard := none }) (v := ?vz34) rfl (by kernel_rfl) (by kernel_rfl) (by kernel_rfl) (fun _ _ _ h => h) (Or.inl ⟨by kernel_rfl, ?hz34⟩) (by assumption) ?rz34
      case hz34 => (intro w hSw; (try dsimp only at hSw); go_simp <;> with_reducible rfl)
      try simp only [Act.put, List.setIfInBounds_toArray, List.set_cons_zero, List.set_cons_succ]
      refine wpAnyH_done (by kernel_rfl) ?_ _
      go_wp2_with fail
      go_ret
      exact ⟨rfl, ag_next HB3.out (HXb.out _ hHeld.1.out).1⟩
end Go.Proofs.Ytkomadlmonhlhaa
