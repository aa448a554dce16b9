import Derived.Test.YtkomadlmonhlhaaTfI
namespace Go.Proofs.Ytkomadlmonhlhaa
open Go.ChangeShapes Go.WideShapes Go.ChangeAt Go.RowKit Go.Lib Go.Ag Go.WideMaps Go.Maps Go.ChangeMaps Go.Cn

theorem rws_own {W : World} {b n B : Nat} (h : RWs W b n) (hB : B ≤ b) (hn : n ≤ 1000) : ∃ xs, W.ownsRow B 3 1 (.slice (some ⟨b, 0, none⟩) n n) n xs := by
  obtain ⟨cur, h1, h2⟩ := h
  exact ⟨cur.toList, by simp [h2], Or.inr ⟨b, n, cur, rfl, hB, h1, Nat.le_refl _, by unfold maxLen; omega, by omega, List.take_of_length_le (by simp [h2])⟩⟩
theorem alloc_size (w : World) (o : Obj) : (w.alloc o).heap.size = w.heap.size + 1 := by simp
set_option maxHeartbeats 32000000 in
set_option maxRecDepth 100000 in
theorem fresh_walk (w : World) (ad : Option Addr) (sc : List S3) (cp : Nat) (hsc : MD3 w ad sc) (hbd : bd3 sc) (aW : Option Addr) (ws : List Int) (cW : Nat) (hW : Is w aW ws) (hbW : ∀ x ∈ ws, -9223372036854775808 ≤ x ∧ x ≤ 9223372036854775807) (hn : 3 * sc.length + ws.length ≤ 1048576) :
    Calls Try.prog 5 #[.slice ad sc.length cp, .slice aW ws.length cW] w fun e w' => e = .returned (.bool true) ∧ Below w.heap.size w w' := by
  have HMk : Hid (Calls Try.prog 6 #[.slice ad sc.length cp] w fun e w' => ∃ Rg Rr ns L vL, e = .returned (.tuple #[.pointer (some ⟨Rg, 0, none⟩), .pointer (some ⟨Rr, 0, none⟩), vL, .bool true]) ∧ madeM [] [0] sc = some (ns, L) ∧ MJ ns L sc.length ∧ TT w w' Rg Rr ns ns L vL) := made_two w ad sc cp hsc hbd (by omega)
  have HW : Hid (Is w aW ws ∧ ∀ x ∈ ws, -9223372036854775808 ≤ x ∧ x ≤ 9223372036854775807) := ⟨hW, hbW⟩
  clear hsc hbd hW hbW
  generalize hN1 : sc.length = n1 at *
  generalize hN2 : ws.length = n2 at *
  have HN2 : Hid (ws.length = n2) := hN2
  clear hN1 hN2
  go_enter Try.func5, Try.ntmps5
  go_wp2_with fail
  refine HMk.out.mono ?_
  rintro e w1 ⟨Rg, Rr, ns, L, vL, rfl, _, hmj, ht1⟩
  obtain ⟨aL, cL, rfl, _, _⟩ := row_form ht1.row
  have HT1 : Hid (TT w w1 Rg Rr ns ns L (.slice aL L.length cL) ∧ MJ ns L n1) := ⟨ht1, hmj⟩
  clear ht1 hmj HMk
  go_wp2_with fail
  refine (live_any w1).mono ?_
  rintro e w2 ⟨rfl, hb2⟩
  have HT2 : Hid (TT w w2 Rg Rr ns ns L (.slice aL L.length cL) ∧ MJ ns L n1) := ⟨HT1.out.1.over hb2, HT1.out.2⟩
  clear hb2 HT1
  have HSm : Hid (Calls Try.prog 8 #[.slice aL L.length cL, .slice aW n2 cW, .slice none 0 0] w2 fun e w' => ∃ v, e = .returned v ∧ SR w2 w' (ws.map (pickN L)) v) := by
    have h5 := some_any w2 aL L cL (u32s_of HT2.out.1.row) (by rw [HT2.out.2.len]; omega) (by rw [HT2.out.2.len]; omega) (fun l hl => by have h1 := HT2.out.2.lit l hl; have h2 := HT2.out.2.few; omega) aW ws cW (HW.out.1.below HT2.out.1.bel) HW.out.2 (by rw [HN2.out]; omega)
    rw [HN2.out] at h5
    exact h5
  go_wp2_with fail
  refine HSm.out.mono ?_
  rintro e w3 ⟨vR, rfl, hs3⟩
  have hrl : (ws.map (pickN L)).length = n2 := by rw [List.length_map]; exact HN2.out
  obtain ⟨aR, cR, rfl, _, _⟩ := row_form hs3.row
  have hL0 : 0 < L.length := by rw [HT2.out.2.len]; omega
  have hrb : ∀ l ∈ ws.map (pickN L), l / 2 ≤ ns.length := fun l hl => by
    obtain ⟨x, _, rfl⟩ := List.mem_map.1 hl
    exact pickN_le HT2.out.2.lit hL0
  have hns : ns.length ≤ n1 := HT2.out.2.few
  have HGS : Hid (GS ns) := HT2.out.2.gs
  have HRB : Hid (∀ l ∈ ws.map (pickN L), l / 2 ≤ ns.length) := hrb
  have HT3 : Hid (TT w w3 Rg Rr ns ns L (.slice aL L.length cL) ∧ U32s w3 aR (ws.map (pickN L))) := ⟨HT2.out.1.over hs3.bel, u32s_of hs3.row⟩
  clear hs3 HT2 HSm hrb
  generalize ws.map (pickN L) = ls at *
  have HCF : Hid ((coneS ns ls).2.length ≤ 1048576) := by have := cone_few HGS.out HRB.out; show _ ≤ _; omega
  have HFE : Hid ((clsE ns ls).length ≤ 1048576 ∧ (∀ c ∈ clsE ns ls, c.length ≤ 3)) := ⟨by have h1 : (clsE ns ls).length ≤ _ := cls_few HGS.out HRB.out allM; omega, cls_len3⟩
  have HFP : Hid ((clsP ns ls).length ≤ 1048576 ∧ (∀ c ∈ clsP ns ls, c.length ≤ 3)) := ⟨by have h1 : (clsP ns ls).length ≤ _ := cls_few HGS.out HRB.out _; omega, cls_len3⟩
  have HE1 : Hid (∀ W, Below w3.heap.size w3 W → Calls Try.prog 9 #[.pointer (some ⟨Rg, 0, none⟩), .slice aR n2 cR] W fun e w' => ∃ aF cF aC cC, e = .returned (.tuple #[.agg #[.int .i64 ((coneS ns ls).2.length : Int), .slice aF (clsE ns ls).length cF], .slice aC (coneS ns ls).2.length cC, .int .i64 0]) ∧ ENC W w' (coneS ns ls).2 (clsE ns ls) (.slice aF (clsE ns ls).length cF) (.slice aC (coneS ns ls).2.length cC)) := fun W hW => by
    have h5 := enc_tt (HT3.out.1.over hW) HGS.out aR ls cR (HT3.out.2.below hW) HRB.out (by omega) (by omega) HCF.out HFE.out.1
    rw [hrl] at h5
    refine h5.mono ?_
    rintro e w' ⟨a1, a2, a3, a4, e1, e2, _⟩
    exact ⟨a1, a2, a3, a4, e1, e2⟩
  have HE2 : Hid (∀ W, Below w3.heap.size w3 W → Calls Try.prog 14 #[.pointer (some ⟨Rg, 0, none⟩), .slice aR n2 cR] W fun e w' => ∃ aF cF aC cC, e = .returned (.tuple #[.agg #[.int .i64 ((coneS ns ls).2.length : Int), .slice aF (clsP ns ls).length cF], .slice aC (coneS ns ls).2.length cC, .int .i64 0]) ∧ ENC W w' (coneS ns ls).2 (clsP ns ls) (.slice aF (clsP ns ls).length cF) (.slice aC (coneS ns ls).2.length cC)) := fun W hW => by
    have h5 := pol_tt (HT3.out.1.over hW) HGS.out aR ls cR (HT3.out.2.below hW) HRB.out (by omega) (by omega) HCF.out HFP.out.1
    rw [hrl] at h5
    refine h5.mono ?_
    rintro e w' ⟨a1, a2, a3, a4, e1, e2, _⟩
    exact ⟨a1, a2, a3, a4, e1, e2⟩
  have HRf : Hid (∀ W, Below w3.heap.size w3 W → Calls Try.prog 10 #[.pointer (some ⟨Rr, 0, none⟩), .slice aR n2 cR] W fun e w' => ∃ aF cF aC cC, e = .returned (.tuple #[.agg #[.int .i64 ((coneS ns ls).2.length : Int), .slice aF (clsE ns ls).length cF], .slice aC (coneS ns ls).2.length cC, .int .i64 0]) ∧ (QL w' W.heap.size (clsE ns ls) (.slice aF (clsE ns ls).length cF) ∧ w'.ownsRow W.heap.size 3 1 (.slice aC (coneS ns ls).2.length cC) (coneS ns ls).2.length (natV (coneS ns ls).2) ∧ Below W.heap.size W w')) := fun W hW => by
    obtain ⟨vR, hr⟩ := (HT3.out.1.over hW).r
    have h5 := rEncode_ok W hr HGS.out (by omega) aR ls cR (HT3.out.2.below hW) HRB.out (by omega) HCF.out HFE.out.1
    rw [hrl] at h5
    refine h5.mono ?_
    rintro e w' ⟨a1, a2, a3, a4, e1, e2⟩
    exact ⟨a1, a2, a3, a4, e1, e2.ql, e2.cone, e2.bel⟩
  have HB3 : Hid (Below w.heap.size w w3) := HT3.out.1.bel
  clear HT3 HRB HGS hL0 hns
  generalize (coneS ns ls).2 = cn at *
  generalize clsE ns ls = FF at *
  generalize clsP ns ls = PPc at *
  generalize hcc : cn.length = cc at *
  generalize hnF : FF.length = nF at *
  generalize hnP : PPc.length = nP at *
  have HLF : Hid (FF.length = nF ∧ PPc.length = nP ∧ cn.length = cc) := ⟨hnF, hnP, hcc⟩
  have hF9 : nF ≤ 1048576 := HFE.out.1
  have hP9 : nP ≤ 1048576 := HFP.out.1
  have hC9 : cc ≤ 1048576 := HCF.out
  clear hnF hnP hcc HCF
  have HNo : Hid (∀ W, Calls Try.prog 11 #[.int .i64 0] W fun e w' => e = .returned (.int .i64 0) ∧ w' = W) := fun W => no_any 0 W
  go_wp2_with fail
  refine (HE1.out w3 (Below.refl _ _)).mono ?_
  rintro e w4 ⟨aF, cF, aC, cC, rfl, he4⟩
  obtain ⟨w4', hw4'⟩ : ∃ w4', w4.alloc (.cells #[.int .i64 (cc : Int), .slice aF nF cF] 33) = w4' := ⟨_, rfl⟩
  obtain ⟨Fb, hFb⟩ : ∃ Fb, w4.heap.size = Fb := ⟨_, rfl⟩
  have HT4 : Hid (Below w3.heap.size w3 w4' ∧ ENC w3 w4 cn FF (.slice aF nF cF) (.slice aC cc cC) ∧ w4'.heap[Fb]? = some (.cells #[.int .i64 (cc : Int), .slice aF nF cF] 33 (0, 0)) ∧ Below w4.heap.size w4 w4' ∧ w4'.heap.size = w4.heap.size + 1) := by rw [← hw4', ← hFb]; exact ⟨ag_next he4.bel (ag_bel1 _ _), he4, heap_alloc_new _ _, ag_bel1 _ _, alloc_size _ _⟩
  have HW4e : Hid (w4.alloc (.cells #[.int .i64 (cc : Int), .slice aF nF cF] 33) = w4') := hw4'
  clear he4 hw4'
  go_wp2_with fail
  rw [HW4e.out]
  clear HW4e
  refine (HE1.out w4' HT4.out.1).mono ?_
  rintro e w5 ⟨aH, cH, aD, cD, rfl, he5⟩
  obtain ⟨w5', hw5'⟩ : ∃ w5', w5.alloc (.cells #[.int .i64 (cc : Int), .slice aH nF cH] 33) = w5' := ⟨_, rfl⟩
  obtain ⟨Hb, hHb⟩ : ∃ Hb, w5.heap.size = Hb := ⟨_, rfl⟩
  have HT5 : Hid (Below w4'.heap.size w4' w5' ∧ ENC w4' w5 cn FF (.slice aH nF cH) (.slice aD cc cD) ∧ w5'.heap[Hb]? = some (.cells #[.int .i64 (cc : Int), .slice aH nF cH] 33 (0, 0)) ∧ Below w5.heap.size w5 w5' ∧ w5'.heap.size = w5.heap.size + 1) := by rw [← hw5', ← hHb]; exact ⟨ag_next he5.bel (ag_bel1 _ _), he5, heap_alloc_new _ _, ag_bel1 _ _, alloc_size _ _⟩
  have HW5e : Hid (w5.alloc (.cells #[.int .i64 (cc : Int), .slice aH nF cH] 33) = w5') := hw5'
  clear he5 hw5'
  go_wp2_with fail
  rw [HW5e.out]
  clear HW5e
  refine (HE2.out w5' (ag_next HT4.out.1 HT5.out.1)).mono ?_
  rintro e w6 ⟨aP, cP, aQ, cQ, rfl, he6⟩
  obtain ⟨w6', hw6'⟩ : ∃ w6', w6.alloc (.cells #[.int .i64 (cc : Int), .slice aP nP cP] 33) = w6' := ⟨_, rfl⟩
  obtain ⟨Pb, hPb⟩ : ∃ Pb, w6.heap.size = Pb := ⟨_, rfl⟩
  have HT6 : Hid (Below w5'.heap.size w5' w6' ∧ ENC w5' w6 cn PPc (.slice aP nP cP) (.slice aQ cc cQ) ∧ w6'.heap[Pb]? = some (.cells #[.int .i64 (cc : Int), .slice aP nP cP] 33 (0, 0)) ∧ Below w6.heap.size w6 w6' ∧ w6'.heap.size = w6.heap.size + 1) := by rw [← hw6', ← hPb]; exact ⟨ag_next he6.bel (ag_bel1 _ _), he6, heap_alloc_new _ _, ag_bel1 _ _, alloc_size _ _⟩
  have HW6e : Hid (w6.alloc (.cells #[.int .i64 (cc : Int), .slice aP nP cP] 33) = w6') := hw6'
  clear he6 hw6' HE2
  go_wp2_with fail
  rw [HW6e.out]
  clear HW6e
  refine (HRf.out w6' (ag_next (ag_next HT4.out.1 HT5.out.1) HT6.out.1)).mono ?_
  rintro e w7 ⟨aW9, cW9, aK, cK, rfl, hq7, hr7, hb7⟩
  obtain ⟨w7', hw7'⟩ : ∃ w7', w7.alloc (.cells #[.int .i64 (cc : Int), .slice aW9 nF cW9] 33) = w7' := ⟨_, rfl⟩
  obtain ⟨Wb, hWb⟩ : ∃ Wb, w7.heap.size = Wb := ⟨_, rfl⟩
  have HT7 : Hid (Below w6'.heap.size w6' w7' ∧ (QL w7 w6'.heap.size FF (.slice aW9 nF cW9) ∧ w7.ownsRow w6'.heap.size 3 1 (.slice aK cc cK) cc (natV cn)) ∧ w7'.heap[Wb]? = some (.cells #[.int .i64 (cc : Int), .slice aW9 nF cW9] 33 (0, 0)) ∧ Below w7.heap.size w7 w7' ∧ w7'.heap.size = w7.heap.size + 1 ∧ w6'.heap.size ≤ w7.heap.size) := by rw [← hw7', ← hWb]; exact ⟨ag_next hb7 (ag_bel1 _ _), ⟨hq7, hr7⟩, heap_alloc_new _ _, ag_bel1 _ _, alloc_size _ _, hb7.size⟩
  have HW7e : Hid (w7.alloc (.cells #[.int .i64 (cc : Int), .slice aW9 nF cW9] 33) = w7') := hw7'
  clear hq7 hr7 hb7 hw7' HRf
  -- what stands behind it all
  have hs4 := HT4.out.2.1.bel.size
  have hs5 := HT5.out.2.1.bel.size
  have hs6 := HT6.out.2.1.bel.size
  have hs7 := HT7.out.2.2.2.2.2
  have hz4 := HT4.out.2.2.2.2
  have hz5 := HT5.out.2.2.2.2
  have hz6 := HT6.out.2.2.2.2
  have hz7 := HT7.out.2.2.2.2.1
  have HFZ0 : Hid (FZ w3 w5' w7' w4.heap.size w6.heap.size w7') := ⟨ag_next (ag_next (ag_next HT4.out.1 HT5.out.1) HT6.out.1) HT7.out.1, fun j _ h2 => (ag_next HT6.out.1 HT7.out.1).block j h2, fun j _ _ => rfl, Nat.le_refl _, by omega⟩
  have HST : Hid (∀ W, FZ w3 w5' w7' w4.heap.size w6.heap.size W → (W.heap[Fb]? = some (.cells #[.int .i64 (cc : Int), .slice aF nF cF] 33 (0, 0)) ∧ W.heap[Hb]? = some (.cells #[.int .i64 (cc : Int), .slice aH nF cH] 33 (0, 0)) ∧ W.heap[Pb]? = some (.cells #[.int .i64 (cc : Int), .slice aP nP cP] 33 (0, 0)) ∧ W.heap[Wb]? = some (.cells #[.int .i64 (cc : Int), .slice aW9 nF cW9] 33 (0, 0))) ∧ QL W w4'.heap.size FF (.slice aH nF cH) ∧ QL W w6'.heap.size FF (.slice aW9 nF cW9) ∧ Nts W aD cn ∧ Nts W aK cn) := fun W hZ => by
    have k5 : ∀ j, w4.heap.size ≤ j → j < w5'.heap.size → W.heap[j]? = w5'.heap[j]? := hZ.r1
    have k7 : ∀ j, w6.heap.size ≤ j → j < w7'.heap.size → W.heap[j]? = w7'.heap[j]? := hZ.r2
    have e5 := HT5.out.2.1
    have d5 : ∀ j, w4'.heap.size ≤ j → j < w5.heap.size → W.heap[j]? = w5.heap[j]? := fun j h1 h2 => (k5 j (by omega) (by omega)).trans (HT5.out.2.2.2.1.block j h2)
    have d7 : ∀ j, w6'.heap.size ≤ j → j < w7.heap.size → W.heap[j]? = w7.heap[j]? := fun j h1 h2 => (k7 j (by omega) (by omega)).trans (HT7.out.2.2.2.1.block j h2)
    have hq5 := e5.ql
    have hq5' := hq5
    obtain ⟨ads5, hr5, _⟩ := hq5'
    have hq7 := HT7.out.2.1.1
    have hq7' := hq7
    obtain ⟨ads7, hr7, _⟩ := hq7'
    have hc7 := HT7.out.2.1.2
    have hc5 := e5.cone
    rw [HLF.out.2.2] at hc5
    refine ⟨⟨?_, ?_, ?_, ?_⟩, ?_, ?_, ?_, ?_⟩
    · rw [k5 Fb (by omega) (by omega)]
      exact (HT5.out.1.block _ (Array.getElem?_eq_some_iff.1 HT4.out.2.2.1).1).trans HT4.out.2.2.1
    · rw [k5 Hb (by omega) (by omega)]
      exact HT5.out.2.2.1
    · rw [k7 Pb (by omega) (by omega)]
      exact (HT7.out.1.block _ (Array.getElem?_eq_some_iff.1 HT6.out.2.2.1).1).trans HT6.out.2.2.1
    · rw [k7 Wb (by omega) (by omega)]
      exact HT7.out.2.2.1
    · exact hq5.keep (fun j h1 hj => d5 j h1 (hr5.lt j hj).2) (fun j _ h1 hj => d5 j h1 (Array.getElem?_eq_some_iff.1 hj).1)
    · exact hq7.keep (fun j h1 hj => d7 j h1 (hr7.lt j hj).2) (fun j _ h1 hj => d7 j h1 (Array.getElem?_eq_some_iff.1 hj).1)
    · exact nts_of (ag_same hc5 (fun j hj => d5 j (hc5.lt j hj).1 (hc5.lt j hj).2))
    · exact nts_of (ag_same hc7 (fun j hj => d7 j (hc7.lt j hj).1 (hc7.lt j hj).2))
  have HFf : Hid (∀ j, w3.heap.size ≤ j → j < w4.heap.size → Fre w3.heap.size w4.heap.size w5'.heap.size w6.heap.size w7'.heap.size j) := fun j h1 h2 => ⟨h1, fun h => by omega, fun h => by omega⟩
  have HFp : Hid (∀ j, w5'.heap.size ≤ j → j < w6.heap.size → Fre w3.heap.size w4.heap.size w5'.heap.size w6.heap.size w7'.heap.size j) := fun j h1 h2 => ⟨by omega, fun h => by omega, fun h => by omega⟩
  have HFn : Hid (∀ j, w7'.heap.size ≤ j → Fre w3.heap.size w4.heap.size w5'.heap.size w6.heap.size w7'.heap.size j) := fun j h1 => ⟨by omega, fun h => by omega, fun h => by omega⟩
  -- the rows that are written over
  have HCw : Hid (0 < cc → ∃ b k, aC = some ⟨b, 0, none⟩ ∧ w3.heap.size ≤ b ∧ b < w4.heap.size ∧ RWs w7' b k ∧ cc ≤ k) := fun h0 => by
    have hc4 := HT4.out.2.1.cone
    rw [HLF.out.2.2] at hc4
    obtain ⟨b, k, e, h1, h2, ⟨cur, h3, h4⟩, h5⟩ := row_rws hc4 rfl h0
    refine ⟨b, k, e, h1, h2, ⟨cur, ?_, h4⟩, h5⟩
    exact ((ag_next (ag_next (ag_next HT4.out.2.2.2.1 HT5.out.1) HT6.out.1) HT7.out.1).block b h2).trans h3
  have HWf : Hid (0 < nF → ∃ g ads bk, aF = some ⟨g, 0, none⟩ ∧ WA FF bk ads ∧ WS w3.heap.size w4.heap.size FF bk ads g 0 w7' ∧ ∀ i, i < nF → ∃ v, ads[i]? = some v) := fun h0 => by
    have h4 := HT4.out.2.1
    rw [← HLF.out.1] at h4
    obtain ⟨g, ads, bk, e1, e2, e3, e4⟩ := h4.ws (by rw [HLF.out.1]; exact h0)
    exact ⟨g, ads, bk, e1, e2, e3.over (fun j h1 h2 => (ag_next (ag_next (ag_next HT4.out.2.2.2.1 HT5.out.1) HT6.out.1) HT7.out.1).block j h2), fun i hi => e4 i (by rw [HLF.out.1]; exact hi)⟩
  have HWp : Hid (0 < nP → ∃ g ads bk, aP = some ⟨g, 0, none⟩ ∧ WA PPc bk ads ∧ WS w5'.heap.size w6.heap.size PPc bk ads g 0 w7' ∧ ∀ i, i < nP → ∃ v, ads[i]? = some v) := fun h0 => by
    have h6 := HT6.out.2.1
    rw [← HLF.out.2.1] at h6
    obtain ⟨g, ads, bk, e1, e2, e3, e4⟩ := h6.ws (by rw [HLF.out.2.1]; exact h0)
    exact ⟨g, ads, bk, e1, e2, e3.over (fun j h1 h2 => (ag_next HT6.out.2.2.2.1 HT7.out.1).block j h2), fun i hi => e4 i (by rw [HLF.out.2.1]; exact hi)⟩
  clear HT4 HT5 HT6 HT7
  obtain ⟨bC, kC, HC0⟩ : ∃ b k, Hid (0 < cc → aC = some ⟨b, 0, none⟩ ∧ (Fre w3.heap.size w4.heap.size w5'.heap.size w6.heap.size w7'.heap.size b ∧ RWs w7' b k ∧ cc ≤ k)) := by
    by_cases h0 : 0 < cc
    · obtain ⟨b, k, e1, e2, e3, e4, e5⟩ := HCw.out h0
      exact ⟨b, k, fun _ => ⟨e1, HFf.out b e2 e3, e4, e5⟩⟩
    · exact ⟨0, 0, fun h => absurd h h0⟩
  obtain ⟨gF, adsF, bkF, HF0⟩ : ∃ g ads bk, Hid (0 < nF → aF = some ⟨g, 0, none⟩ ∧ WA FF bk ads ∧ WS w3.heap.size w4.heap.size FF bk ads g 0 w7' ∧ ∀ i, i < nF → ∃ v, ads[i]? = some v) := by
    by_cases h0 : 0 < nF
    · obtain ⟨g, ads, bk, e⟩ := HWf.out h0
      exact ⟨g, ads, bk, fun _ => e⟩
    · exact ⟨0, [], fun _ => 0, fun h => absurd h h0⟩
  obtain ⟨gP, adsP, bkP, HP0⟩ : ∃ g ads bk, Hid (0 < nP → aP = some ⟨g, 0, none⟩ ∧ WA PPc bk ads ∧ WS w5'.heap.size w6.heap.size PPc bk ads g 0 w7' ∧ ∀ i, i < nP → ∃ v, ads[i]? = some v) := by
    by_cases h0 : 0 < nP
    · obtain ⟨g, ads, bk, e⟩ := HWp.out h0
      exact ⟨g, ads, bk, fun _ => e⟩
    · exact ⟨0, [], fun _ => 0, fun h => absurd h h0⟩
  obtain ⟨ST, hST⟩ : ∃ ST : Nat → Nat → World → Prop, ST = fun kf kp W => FZ w3 w5' w7' w4.heap.size w6.heap.size W ∧ (0 < nF → WS w3.heap.size w4.heap.size FF bkF adsF gF kf W) ∧ (0 < nP → WS w5'.heap.size w6.heap.size PPc bkP adsP gP kp W) := ⟨_, rfl⟩
  obtain ⟨FQ, hFQ⟩ : ∃ FQ : Nat → Prop, FQ = Fre w3.heap.size w4.heap.size w5'.heap.size w6.heap.size w7'.heap.size := ⟨_, rfl⟩
  have HS0 : Hid (ST 0 0 w7') := by rw [hST]; exact ⟨HFZ0.out, fun h => (HF0.out h).2.2.1, fun h => (HP0.out h).2.2.1⟩
  have HC1 : Hid (0 < cc → aC = some ⟨bC, 0, none⟩ ∧ FQ bC ∧ cc ≤ kC) := fun h => ⟨(HC0.out h).1, by rw [hFQ]; exact (HC0.out h).2.1, (HC0.out h).2.2.2⟩
  have HC2 : Hid (0 < cc → RWs w7' bC kC) := fun h => (HC0.out h).2.2.1
  have HSet : Hid (∀ kf kp W b n j x, ST kf kp W → FQ b → RWs W b n → ST kf kp (W.setCell ⟨b, j, none⟩ (.int .i64 x))) := fun kf kp W b n j x h hb hr => by
    rw [hST] at h ⊢
    rw [hFQ] at hb
    exact ⟨h.1.set hb j _, fun h0 => (h.2.1 h0).set hr j x, fun h0 => (h.2.2 h0).set hr j x⟩
  have HRdF : Hid (∀ kf kp W, ST kf kp W → kf < nF → aF = some ⟨gF, 0, none⟩ ∧ ((FF.getD kf []).length = 0 ∧ W.cell? ⟨gF, kf, none⟩ = some (.slice none 0 0) ∧ adsF[kf]? = some (.slice none 0 0) ∨ (W.cell? ⟨gF, kf, none⟩ = some (.slice (some ⟨bkF kf, 0, none⟩) (FF.getD kf []).length (FF.getD kf []).length) ∧ adsF[kf]? = some (.slice (some ⟨bkF kf, 0, none⟩) (FF.getD kf []).length (FF.getD kf []).length) ∧ FQ (bkF kf) ∧ w3.heap.size ≤ bkF kf ∧ RWs W (bkF kf) (FF.getD kf []).length)) ∧ W.frozen? ⟨gF, kf, none⟩ = false) := fun kf kp W h hk => by
    rw [hST] at h
    obtain ⟨e1, hA, _, _⟩ := HF0.out (by omega)
    have hw := h.2.1 (by omega)
    have hk' : kf < FF.length := by rw [HLF.out.1]; exact hk
    refine ⟨e1, ?_⟩
    by_cases he : FF.getD kf [] = []
    · have h9 := hA.nil kf hk' he
      exact ⟨Or.inl ⟨by rw [he]; rfl, (hw.cell hk' h9).1, h9⟩, (hw.cell hk' h9).2⟩
    · have h9 := hA.row kf hk' he
      obtain ⟨k1, k2, k3⟩ := hw.sh kf (Nat.le_refl _) hk' he
      exact ⟨Or.inr ⟨(hw.cell hk' h9).1, h9, by rw [hFQ]; exact HFf.out _ k1 k2, k1, k3⟩, (hw.cell hk' h9).2⟩
  have HRdP : Hid (∀ kf kp W, ST kf kp W → kp < nP → aP = some ⟨gP, 0, none⟩ ∧ ((PPc.getD kp []).length = 0 ∧ W.cell? ⟨gP, kp, none⟩ = some (.slice none 0 0) ∨ (W.cell? ⟨gP, kp, none⟩ = some (.slice (some ⟨bkP kp, 0, none⟩) (PPc.getD kp []).length (PPc.getD kp []).length) ∧ FQ (bkP kp) ∧ RWs W (bkP kp) (PPc.getD kp []).length))) := fun kf kp W h hk => by
    rw [hST] at h
    obtain ⟨e1, hA, _, _⟩ := HP0.out (by omega)
    have hw := h.2.2 (by omega)
    have hk' : kp < PPc.length := by rw [HLF.out.2.1]; exact hk
    refine ⟨e1, ?_⟩
    by_cases he : PPc.getD kp [] = []
    · have h9 := hA.nil kp hk' he
      exact Or.inl ⟨by rw [he]; rfl, (hw.cell hk' h9).1⟩
    · have h9 := hA.row kp hk' he
      obtain ⟨k1, k2, k3⟩ := hw.sh kp (Nat.le_refl _) hk' he
      exact Or.inr ⟨(hw.cell hk' h9).1, by rw [hFQ]; exact HFp.out _ k1 k2, k3⟩
  have HNxP : Hid (∀ kf kp W, ST kf kp W → ST kf (kp + 1) W) := fun kf kp W h => by rw [hST] at h ⊢; exact ⟨h.1, h.2.1, fun h0 => (h.2.2 h0).next⟩
  have HApF : Hid (∀ kf kp W W1 W7 v v', ST kf kp W → kf < nF → adsF[kf]? = some v → Below W.heap.size W W1 → W1.grownBy W7 v.ownBlock → ST (kf + 1) kp (W7.setCell ⟨gF, kf, none⟩ v') ∧ W7.cell? ⟨gF, kf, none⟩ = some v ∧ W7.frozen? ⟨gF, kf, none⟩ = false ∧ W7.cell? ⟨Fb, 1, none⟩ = some (.slice aF nF cF)) := fun kf kp W W1 W7 v v' h hk hv hb hg => by
    rw [hST] at h ⊢
    obtain ⟨e1, hA, _, _⟩ := HF0.out (by omega)
    have hw := h.2.1 (by omega)
    have hk' : kf < FF.length := by rw [HLF.out.1]; exact hk
    obtain ⟨h1, h2, h3⟩ := hw.app hA hk' hv hb hg (v' := v')
    have hvb : ∀ j, v.ownBlock = some j → w3.heap.size ≤ j ∧ j < w4.heap.size := fun j hj => by
      by_cases he : FF.getD kf [] = []
      · rw [hA.nil kf hk' he] at hv
        cases hv
        cases hj
      · rw [hA.row kf hk' he] at hv
        cases hv
        have e2 : bkF kf = j := by simpa [Value.ownBlock] using hj
        subst e2
        obtain ⟨k1, k2, _⟩ := hw.sh kf (Nat.le_refl _) hk' he
        exact ⟨k1, k2⟩
    have hz := hg.size
    have hz1 := hb.size
    have hkk : ∀ j, j < W.heap.size → ¬ (w3.heap.size ≤ j ∧ j < w4.heap.size) → W7.heap[j]? = W.heap[j]? := fun j hj hn => (hg.block j (by omega) (fun e => hn (hvb j e.symm))).trans (hb.block j hj)
    have hZ7 : FZ w3 w5' w7' w4.heap.size w6.heap.size W7 := h.1.keep ⟨hg.os.trans hb.os, hg.tape.trans hb.tape, hg.output.trans hb.output, by omega⟩ (fun j hj hn => hkk j hj (fun e => hn (HFf.out j e.1 e.2)))
    have hgF := hw.og
    refine ⟨⟨hZ7.set (HFf.out gF hgF.1 hgF.2) kf v', fun _ => h1, fun h0 => ?_⟩, h2, h3, ag_cell (HST.out W7 hZ7).1.1 1⟩
    have hwp := h.2.2 h0
    have hsz := h.1.z
    refine hwp.over (fun j hj1 hj2 => ?_)
    have hne : j ≠ gF := fun e => by omega
    rw [heap_setCell_other _ _ _ _ hne]
    exact hkk j (by omega) (fun e => by omega)
  have HOv : Hid (∀ kf kp W W2, ST kf kp W → Below W.heap.size W W2 → ST kf kp W2) := fun kf kp W W2 h hb => by
    rw [hST] at h ⊢
    have hsz := h.1.z
    exact ⟨h.1.over hb, fun h0 => (h.2.1 h0).over (fun j _ h2 => hb.block j (by omega)), fun h0 => (h.2.2 h0).over (fun j _ h2 => hb.block j (by omega))⟩
  have HL3 : Hid (∀ k, (FF.getD k []).length ≤ 3 ∧ (PPc.getD k []).length ≤ 3) := fun k => by
    have hh : ∀ (cl : List (List Int)), (∀ c ∈ cl, c.length ≤ 3) → (cl.getD k []).length ≤ 3 := fun cl hc => by
      by_cases hi : k < cl.length
      · exact hc _ (by rw [List.getD_eq_getElem?_getD, List.getElem?_eq_getElem hi]; exact List.getElem_mem _)
      · rw [List.getD_eq_getElem?_getD, List.getElem?_eq_none (by omega)]
        simp
    exact ⟨hh FF HFE.out.2, hh PPc HFP.out.2⟩
  have HFn2 : Hid (∀ kf kp W, ST kf kp W → (W.cell? ⟨Fb, 1, none⟩ = some (.slice aF nF cF) ∧ W.cell? ⟨Pb, 1, none⟩ = some (.slice aP nP cP)) ∧ Below w3.heap.size w3 W) := fun kf kp W h => by
    rw [hST] at h
    have h9 := HST.out W h.1
    exact ⟨⟨ag_cell h9.1.1 1, ag_cell h9.1.2.2.1 1⟩, h.1.b⟩
  have HEnd : Hid (∀ kf kp W W2, ST kf kp W → Below W.heap.size W W2 → (W2.heap[Hb]? = some (.cells #[.int .i64 (cc : Int), .slice aH nF cH] 33 (0, 0)) ∧ W2.heap[Wb]? = some (.cells #[.int .i64 (cc : Int), .slice aW9 nF cW9] 33 (0, 0))) ∧ QL W2 w4'.heap.size FF (.slice aH nF cH) ∧ QL W2 w6'.heap.size FF (.slice aW9 nF cW9) ∧ Nts W2 aD cn ∧ Nts W2 aK cn) := fun kf kp W W2 h hb => by
    rw [hST] at h
    have h9 := HST.out W2 (h.1.over hb)
    exact ⟨⟨h9.1.2.1, h9.1.2.2.2⟩, h9.2⟩
  clear HST HFf HFp HFn HCw HWf HWp HC0 HF0 HP0 HFZ0 hST hFQ hs4 hs5 hs6 hs7 hz4 hz5 hz6 hz7
  go_wp2_with fail
  rw [HW7e.out]
  clear HW7e hWb hPb hHb hFb
  generalize w7' = W0 at *
  go_loopg [22] cc (fun gk v22 wr => ∃ k : Nat, v22 = .int .i64 (k : Int) ∧ k + gk = cc ∧ Aside (ST 0 0 wr ∧ (0 < cc → RWs wr bC kC)))
  case atStart => exact ⟨0, rfl, by omega, ⟨HS0.out, HC2.out⟩⟩
  case round =>
    clear HS0 HC2
    obtain ⟨k, rfl, hk, HR⟩ := hrel
    by_cases hlt : k < cc
    · have q1 : (k : Int) < (cc : Int) := by omega
      obtain ⟨e1, e2, e3⟩ := HC1.out (by omega)
      subst e1
      have hrw := HR.out.2 (by omega)
      obtain ⟨⟨v9, c1⟩, z1⟩ := hrw.cell (show k < kC by omega)
      have HN : Hid (ST 0 0 (wr.setCell ⟨bC, k, none⟩ (.int .i64 (-7))) ∧ (0 < cc → RWs (wr.setCell ⟨bC, k, none⟩ (.int .i64 (-7))) bC kC)) := ⟨HSet.out 0 0 wr bC kC k (-7) HR.out.1 e2 hrw, fun _ => hrw.set bC k _⟩
      clear HR hrw e2
      go_wp2_with fail
      go_roundg (gk - 1)
      case measure => omega
      case rel => exact ⟨k + 1, by simp, by omega, HN.out⟩
    · obtain rfl : k = cc := by omega
      have q1 : ¬ (k : Int) < (k : Int) := by omega
      have HS1 : Hid (ST 0 0 wr) := HR.out.1
      clear HR HC1
      go_wp2_with fail
      generalize wr = W1 at *
      go_loopg [23] nF (fun gk v23 wr => ∃ k : Nat, v23 = .int .i64 (k : Int) ∧ k + gk = nF ∧ Aside (ST k 0 wr))
      case atStart => exact ⟨0, rfl, by omega, HS1.out⟩
      case round =>
        clear HS1
        obtain ⟨kf, rfl, hkf, HR⟩ := hrel
        obtain ⟨⟨f1, f2⟩, _⟩ := HFn2.out kf 0 wr HR.out
        by_cases hlt : kf < nF
        · have q1 : (kf : Int) < (nF : Int) := by omega
          have HSA : Hid (ST kf 0 wr) := HR.out
          clear HR
          generalize hgA : gk = gA at *
          clear hgA
          have e1 := (HRdF.out kf 0 wr HSA.out hlt).1
          subst e1
          go_wp2_with fail
          clear f1 f2
          generalize wr = wA at *
          obtain ⟨lf, hlf⟩ : ∃ lf, (FF.getD kf []).length = lf := ⟨_, rfl⟩
          have HLf : Hid ((FF.getD kf []).length = lf) := hlf
          have hlf3 : lf ≤ 3 := by rw [← hlf]; exact (HL3.out kf).1
          clear hlf
          go_loopg [24] lf (fun gk v24 wr => ∃ j : Nat, v24 = .int .i64 (j : Int) ∧ j + gk = lf ∧ Aside (ST kf 0 wr))
          case atStart => exact ⟨0, rfl, by omega, HSA.out⟩
          case round =>
            clear HSA
            obtain ⟨j, rfl, hj, HR⟩ := hrel
            obtain ⟨⟨f1, f2⟩, _⟩ := HFn2.out kf 0 wr HR.out
            obtain ⟨_, hrd, fz⟩ := HRdF.out kf 0 wr HR.out hlt
            rw [HLf.out] at hrd
            by_cases hlj : j < lf
            · have q2 : (j : Int) < (lf : Int) := by omega
              rcases hrd with ⟨e0, _⟩ | ⟨c1, _, c2, _, c3⟩
              · exact absurd hlj (by omega)
              · obtain ⟨⟨v9, d1⟩, z1⟩ := c3.cell hlj
                have HN : Hid (ST kf 0 (wr.setCell ⟨bkF kf, j, none⟩ (.int .i64 99))) := HSet.out kf 0 wr (bkF kf) lf j 99 HR.out c2 c3
                clear HR c2 c3
                generalize bkF kf = bb at *
                go_wp2_with fail
                go_roundg (gk - 1)
                case measure => omega
                case rel => exact ⟨j + 1, by simp, by omega, HN.out⟩
            · obtain rfl : j = lf := by omega
              have q2 : ¬ (j : Int) < (j : Int) := by omega
              have HSB : Hid (ST kf 0 wr) := HR.out
              have hB9 := (HFn2.out kf 0 wr HR.out).2.size
              obtain ⟨aV, xs, c1, hads, hown⟩ : ∃ aV xs, wr.cell? ⟨gF, kf, none⟩ = some (.slice aV j j) ∧ adsF[kf]? = some (.slice aV j j) ∧ wr.ownsRow w3.heap.size 3 1 (.slice aV j j) j xs := by
                rcases hrd with ⟨e0, c1, c2⟩ | ⟨c1, c2, _, c4, c3⟩
                · subst e0
                  exact ⟨none, [], c1, c2, rfl, .inl ⟨rfl, rfl⟩⟩
                · obtain ⟨xs, hx⟩ := rws_own (B := w3.heap.size) c3 c4 (by omega)
                  exact ⟨_, xs, c1, c2, hx⟩
              obtain ⟨wd, hwd⟩ : ∃ wd, wr.drew = wd := ⟨_, rfl⟩
              have hwd9 : Hid (wr.drew = wd) := hwd
              have HO : Hid (wd.ownsRow w3.heap.size 3 1 (.slice aV j j) j xs) := by rw [← hwd]; exact hown
              have HSD : Hid (ST kf 0 wd) := HOv.out kf 0 wr wd HSB.out (by rw [← hwd]; exact ⟨rfl, rfl, rfl, Nat.le_refl _, fun _ _ => rfl⟩)
              have HS0 : Hid (wd.cell? ⟨Fb, 1, none⟩ = some (.slice (some ⟨gF, 0, none⟩) nF cF) ∧ wd.cell? ⟨gF, kf, none⟩ = some (.slice aV j j)) := ⟨(HFn2.out kf 0 wd HSD.out).1.1, by rw [← hwd]; exact c1⟩
              have hb9 := ag_bel1 wd (.cells #[.int .i64 98] 3)
              have HS8a : Hid ((wd.alloc (.cells #[.int .i64 98] 3)).cell? ⟨Fb, 1, none⟩ = some (.slice (some ⟨gF, 0, none⟩) nF cF) ∧ (wd.alloc (.cells #[.int .i64 98] 3)).cell? ⟨gF, kf, none⟩ = some (.slice aV j j)) := ⟨(HFn2.out kf 0 _ (HOv.out kf 0 wd _ HSD.out hb9)).1.1, (hb9.cell (p := ⟨gF, kf, none⟩) (block_lt_of_cell HS0.out.2)).trans HS0.out.2⟩
              have HSz : Hid (w3.heap.size ≤ wd.heap.size) := (HFn2.out kf 0 wd HSD.out).2.size
              obtain ⟨i0, hi, hz0, hz1, hz2⟩ := info_parts (P := Try.prog) (e := 3) (z := .int .i64 0) (size := 1) (bytes := 8) (by kernel_rfl)
              clear HR hrd hown hwd hb9 hB9 fz HSB
              go_wp2_with fail
              clear c1 f1 f2
              refine AnyE.region (fun Wc => Hid (Wc.cell? ⟨Fb, 1, none⟩ = some (.slice (some ⟨gF, 0, none⟩) nF cF) ∧ Wc.cell? ⟨gF, kf, none⟩ = some (.slice aV j j))) 11 (by kernel_rfl) ?_
              rw [hwd9.out]
              refine AnyE.take (i := 0) (oi := { dst := some 107, op := Op.fieldAddr 33 (Operand.tmp 10) 1, type := 0, pos := "law.go:302", after := #[], guard := none }) (v := .pointer (some ⟨Fb, 1, none⟩)) rfl (by kernel_rfl) (by kernel_rfl) (by kernel_rfl) (by kernel_rfl) (fun _ _ _ h => h) (Or.inl ⟨by rfl, ?_⟩) HS0 ?_
              · intro W hW
                obtain ⟨s1, s2⟩ := hW.out
                go_simp
              try simp only [Act.put, List.setIfInBounds_toArray, List.set_cons_zero, List.set_cons_succ]
              refine AnyE.take (i := 1) (oi := { dst := some 108, op := Op.load 31 (Operand.tmp 107), type := 31, pos := "law.go:302", after := #[{ on := 0, ground := Ground.data }], guard := none }) (v := .slice (some ⟨gF, 0, none⟩) nF cF) rfl (by kernel_rfl) (by kernel_rfl) (by kernel_rfl) (by kernel_rfl) (fun _ _ _ h => h) (Or.inl ⟨by rfl, ?_⟩) HS0 ?_
              · intro W hW
                obtain ⟨s1, s2⟩ := hW.out
                go_simp
              try simp only [Act.put, List.setIfInBounds_toArray, List.set_cons_zero, List.set_cons_succ]
              refine AnyE.take (i := 2) (oi := { dst := some 109, op := Op.move (Operand.tmp 23), type := 3, pos := "law.go:302", after := #[], guard := none }) (v := .int .i64 (kf : Int)) rfl (by kernel_rfl) (by kernel_rfl) (by kernel_rfl) (by kernel_rfl) (fun _ _ _ h => h) (Or.inl ⟨by rfl, ?_⟩) HS0 ?_
              · intro W hW
                obtain ⟨s1, s2⟩ := hW.out
                go_simp
              try simp only [Act.put, List.setIfInBounds_toArray, List.set_cons_zero, List.set_cons_succ]
              refine AnyE.take (i := 3) (oi := { dst := some 110, op := Op.fieldAddr 33 (Operand.tmp 10) 1, type := 0, pos := "law.go:302", after := #[], guard := none }) (v := .pointer (some ⟨Fb, 1, none⟩)) rfl (by kernel_rfl) (by kernel_rfl) (by kernel_rfl) (by kernel_rfl) (fun _ _ _ h => h) (Or.inl ⟨by rfl, ?_⟩) HS0 ?_
              · intro W hW
                obtain ⟨s1, s2⟩ := hW.out
                go_simp
              try simp only [Act.put, List.setIfInBounds_toArray, List.set_cons_zero, List.set_cons_succ]
              refine AnyE.take (i := 4) (oi := { dst := some 111, op := Op.load 31 (Operand.tmp 110), type := 31, pos := "law.go:302", after := #[{ on := 3, ground := Ground.data }], guard := none }) (v := .slice (some ⟨gF, 0, none⟩) nF cF) rfl (by kernel_rfl) (by kernel_rfl) (by kernel_rfl) (by kernel_rfl) (fun _ _ _ h => h) (Or.inl ⟨by rfl, ?_⟩) HS0 ?_
              · intro W hW
                obtain ⟨s1, s2⟩ := hW.out
                go_simp
              try simp only [Act.put, List.setIfInBounds_toArray, List.set_cons_zero, List.set_cons_succ]
              refine AnyE.take (i := 5) (oi := { dst := some 112, op := Op.move (Operand.tmp 23), type := 3, pos := "law.go:302", after := #[], guard := none }) (v := .int .i64 (kf : Int)) rfl (by kernel_rfl) (by kernel_rfl) (by kernel_rfl) (by kernel_rfl) (fun _ _ _ h => h) (Or.inl ⟨by rfl, ?_⟩) HS0 ?_
              · intro W hW
                obtain ⟨s1, s2⟩ := hW.out
                go_simp
              try simp only [Act.put, List.setIfInBounds_toArray, List.set_cons_zero, List.set_cons_succ]
              refine AnyE.take (i := 6) (oi := { dst := some 113, op := Op.indexAddr 31 (Operand.tmp 111) (Operand.tmp 112), type := 0, pos := "law.go:302", after := #[{ on := 4, ground := Ground.data }, { on := 5, ground := Ground.data }], guard := none }) (v := .pointer (some ⟨gF, kf, none⟩)) rfl (by kernel_rfl) (by kernel_rfl) (by kernel_rfl) (by kernel_rfl) (fun _ _ _ h => h) (Or.inl ⟨by rfl, ?_⟩) HS0 ?_
              · intro W hW
                obtain ⟨s1, s2⟩ := hW.out
                go_simp
              try simp only [Act.put, List.setIfInBounds_toArray, List.set_cons_zero, List.set_cons_succ]
              refine AnyE.take (i := 7) (oi := { dst := some 114, op := Op.load 63 (Operand.tmp 113), type := 63, pos := "law.go:302", after := #[{ on := 6, ground := Ground.data }], guard := none }) (v := .slice aV j j) rfl (by kernel_rfl) (by kernel_rfl) (by kernel_rfl) (by kernel_rfl) (fun _ _ _ h => h) (Or.inl ⟨by rfl, ?_⟩) HS0 ?_
              · intro W hW
                obtain ⟨s1, s2⟩ := hW.out
                go_simp
              try simp only [Act.put, List.setIfInBounds_toArray, List.set_cons_zero, List.set_cons_succ]
              refine AnyE.one (i := 8) (o := { dst := some 115, op := Op.buildSlice 63 1 #[(0, Operand.const (Value.int IntKind.i64 98))], type := 63, pos := "law.go:302", after := #[], guard := none }) (by kernel_rfl) rfl (fun K hK => ?_)
              go_simp
              refine hK.out _ _ (fun _ => HS8a) ?_
              clear hK K
              try simp only [Act.put, List.setIfInBounds_toArray, List.set_cons_zero, List.set_cons_succ]
              refine AnyE.one (i := 9) (o := { dst := some 116, op := Op.call { callee := Callee.builtin Builtin.append, args := #[Operand.tmp 114, Operand.tmp 115], argTypes := #[63, 63] }, type := 63, pos := "law.go:302", after := #[{ on := 7, ground := Ground.data }, { on := 8, ground := Ground.data }], guard := none }) (by kernel_rfl) rfl (fun K hK => ?_)
              refine step_append_lies _ (by rfl) _ _ _ (by rfl) w3.heap.size 3 i0 _ 1 8 Try.underlying63 hi hz0 hz1 hz2 rfl (by omega) (.slice aV j j) j xs (by rfl) (HO.out.alloc _) ⟨wd.heap.size, 0, none⟩ 1 1 [.int .i64 98] (by rfl) (by rfl) (one_new _ _ _) (by intro u hu; simp at hu; subst hu; rfl) (by omega) (by unfold maxLen; omega) (by omega) (by have := HSz.out; simp; omega) (wd.heap.size + 1) (by simp) ?_
              intro g8 c8 w8 hown8 hgrow8 _ _
              obtain ⟨y1, y2, y3, y4⟩ := HApF.out kf 0 wd _ w8 _ (.slice (some ⟨g8, 0, none⟩) (j + 1) c8) HSD.out hlt hads (ag_bel1 _ _) hgrow8
              have HY : Hid _ := y1
              have HS8 : Hid (w8.cell? ⟨Fb, 1, none⟩ = some (.slice (some ⟨gF, 0, none⟩) nF cF) ∧ w8.cell? ⟨gF, kf, none⟩ = some (.slice aV j j)) := ⟨y4, y2⟩
              clear y1 y4 hown8 hgrow8
              refine hK.out _ _ (fun _ => HS8) ?_
              clear hK K
              try simp only [Act.put, List.setIfInBounds_toArray, List.set_cons_zero, List.set_cons_succ]
              refine AnyE.take (i := 10) (oi := { dst := some 117, op := Op.indexAddr 31 (Operand.tmp 108) (Operand.tmp 109), type := 0, pos := "law.go:302", after := #[{ on := 1, ground := Ground.data }, { on := 2, ground := Ground.data }, { on := 0, ground := Ground.phase }, { on := 1, ground := Ground.phase }, { on := 2, ground := Ground.phase }, { on := 3, ground := Ground.phase }, { on := 4, ground := Ground.phase }, { on := 5, ground := Ground.phase }, { on := 6, ground := Ground.phase }, { on := 7, ground := Ground.phase }, { on := 8, ground := Ground.phase }, { on := 9, ground := Ground.phase }], guard := none }) (v := .pointer (some ⟨gF, kf, none⟩)) rfl (by kernel_rfl) (by kernel_rfl) (by kernel_rfl) (by kernel_rfl) (fun _ _ _ h => h) (Or.inl ⟨by rfl, ?_⟩) HS8 ?_
              · intro W hW
                obtain ⟨s1, s2⟩ := hW.out
                go_simp
              try simp only [Act.put, List.setIfInBounds_toArray, List.set_cons_zero, List.set_cons_succ]
              refine AnyE.one (i := 11) (o := { dst := none, op := Op.store 63 (Operand.tmp 117) (Operand.tmp 116), type := 0, pos := "law.go:302", after := #[{ on := 10, ground := Ground.data }, { on := 9, ground := Ground.data }, { on := 9, ground := Ground.chain }, { on := 0, ground := Ground.phase }, { on := 1, ground := Ground.phase }, { on := 2, ground := Ground.phase }, { on := 3, ground := Ground.phase }, { on := 4, ground := Ground.phase }, { on := 5, ground := Ground.phase }, { on := 6, ground := Ground.phase }, { on := 7, ground := Ground.phase }, { on := 8, ground := Ground.phase }, { on := 9, ground := Ground.phase }], guard := none }) (by kernel_rfl) rfl (fun K hK => ?_)
              go_simp
              refine hK.out _ _ (fun h => absurd rfl h) (AnyE.done (by kernel_rfl) ?_ _)
              clear hK K
              try simp only [Act.put, List.setIfInBounds_toArray, List.set_cons_zero, List.set_cons_succ]
              go_wp2_with fail
              go_roundg (gA - 1)
              case measure => omega
              case rel => exact ⟨kf + 1, by simp, by omega, HY.out⟩
        · obtain rfl : kf = nF := by omega
          have q1 : ¬ (kf : Int) < (kf : Int) := by omega
          have HS2 : Hid (ST kf 0 wr) := HR.out
          clear HR
          go_wp2_with fail
          generalize wr = W2 at *
          clear f1 f2
          go_loopg [25] nP (fun gk v25 wr => ∃ k : Nat, v25 = .int .i64 (k : Int) ∧ k + gk = nP ∧ Aside (ST kf k wr))
          case atStart => exact ⟨0, rfl, by omega, HS2.out⟩
          case round =>
            clear HS2
            obtain ⟨kp, rfl, hkp, HR⟩ := hrel
            obtain ⟨⟨f1, f2⟩, _⟩ := HFn2.out kf kp wr HR.out
            by_cases hlt : kp < nP
            · have q1 : (kp : Int) < (nP : Int) := by omega
              have HSA : Hid (ST kf kp wr) := HR.out
              clear HR
              generalize hgA : gk = gA at *
              clear hgA
              have e1 := (HRdP.out kf kp wr HSA.out hlt).1
              subst e1
              go_wp2_with fail
              clear f1 f2
              generalize wr = wA at *
              obtain ⟨lp, hlp⟩ : ∃ lp, (PPc.getD kp []).length = lp := ⟨_, rfl⟩
              have HLp : Hid ((PPc.getD kp []).length = lp) := hlp
              have hlp3 : lp ≤ 3 := by rw [← hlp]; exact (HL3.out kp).2
              clear hlp
              go_loopg [26] lp (fun gk v26 wr => ∃ j : Nat, v26 = .int .i64 (j : Int) ∧ j + gk = lp ∧ Aside (ST kf kp wr))
              case atStart => exact ⟨0, rfl, by omega, HSA.out⟩
              case round =>
                clear HSA
                obtain ⟨j, rfl, hj, HR⟩ := hrel
                obtain ⟨⟨f1, f2⟩, _⟩ := HFn2.out kf kp wr HR.out
                obtain ⟨_, hrd⟩ := HRdP.out kf kp wr HR.out hlt
                rw [HLp.out] at hrd
                by_cases hlj : j < lp
                · have q2 : (j : Int) < (lp : Int) := by omega
                  rcases hrd with ⟨e0, _⟩ | ⟨c1, c2, c3⟩
                  · exact absurd hlj (by omega)
                  · obtain ⟨⟨v9, d1⟩, z1⟩ := c3.cell hlj
                    have HN : Hid (ST kf kp (wr.setCell ⟨bkP kp, j, none⟩ (.int .i64 97))) := HSet.out kf kp wr (bkP kp) lp j 97 HR.out c2 c3
                    clear HR c2 c3
                    generalize bkP kp = bb at *
                    go_wp2_with fail
                    go_roundg (gk - 1)
                    case measure => omega
                    case rel => exact ⟨j + 1, by simp, by omega, HN.out⟩
                · obtain rfl : j = lp := by omega
                  have q2 : ¬ (j : Int) < (j : Int) := by omega
                  have HSB : Hid (ST kf (kp + 1) wr) := HNxP.out kf kp wr HR.out
                  obtain ⟨aV, c1⟩ : ∃ aV, wr.cell? ⟨gP, kp, none⟩ = some (.slice aV j j) := by
                    rcases hrd with ⟨e0, c1⟩ | ⟨c1, _, _⟩
                    · subst e0
                      exact ⟨none, c1⟩
                    · exact ⟨_, c1⟩
                  clear HR hrd
                  go_wp2_with fail
                  go_roundg (gA - 1)
                  case measure => omega
                  case rel => exact ⟨kp + 1, by simp, by omega, HSB.out⟩
            · obtain rfl : kp = nP := by omega
              have q1 : ¬ (kp : Int) < (kp : Int) := by omega
              have HS3 : Hid (ST kf kp wr) := HR.out
              have HEn : Hid (Calls Try.prog 9 #[.pointer (some ⟨Rg, 0, none⟩), .slice aR n2 cR] wr fun e w' => ∃ aF cF aC cC, e = .returned (.tuple #[.agg #[.int .i64 (k : Int), .slice aF kf cF], .slice aC k cC, .int .i64 0]) ∧ ENC wr w' cn FF (.slice aF kf cF) (.slice aC k cC)) := HE1.out wr (HFn2.out kf kp wr HR.out).2
              clear HR
              go_wp2_with fail
              clear f1 f2
              refine HEn.out.mono ?_
              rintro e w8 ⟨aA, cA, aB, cB, rfl, he8⟩
              obtain ⟨w9, hw9⟩ : ∃ w9, w8.alloc (.cells #[.int .i64 (k : Int), .slice aA kf cA] 33) = w9 := ⟨_, rfl⟩
              obtain ⟨Ab, hAb⟩ : ∃ Ab, w8.heap.size = Ab := ⟨_, rfl⟩
              have HT9 : Hid (Below wr.heap.size wr w9 ∧ QL w9 wr.heap.size FF (.slice aA kf cA) ∧ w9.heap[Ab]? = some (.cells #[.int .i64 (k : Int), .slice aA kf cA] 33 (0, 0))) := by rw [← hw9, ← hAb]; exact ⟨ag_next he8.bel (ag_bel1 _ _), he8.ql.over (ag_bel1 _ _), heap_alloc_new _ _⟩
              have HW9e : Hid (w8.alloc (.cells #[.int .i64 (k : Int), .slice aA kf cA] 33) = w9) := hw9
              have HA : Hid (∀ X, Below w9.heap.size w9 X → (X.cell? ⟨Hb, 0, none⟩ = some (.int .i64 (k : Int)) ∧ X.cell? ⟨Hb, 1, none⟩ = some (.slice aH kf cH) ∧ X.cell? ⟨Wb, 0, none⟩ = some (.int .i64 (k : Int)) ∧ X.cell? ⟨Wb, 1, none⟩ = some (.slice aW9 kf cW9) ∧ X.cell? ⟨Ab, 0, none⟩ = some (.int .i64 (k : Int)) ∧ X.cell? ⟨Ab, 1, none⟩ = some (.slice aA kf cA)) ∧ QL X w4'.heap.size FF (.slice aH kf cH) ∧ QL X w6'.heap.size FF (.slice aW9 kf cW9) ∧ QL X wr.heap.size FF (.slice aA kf cA) ∧ Nts X aD cn ∧ Nts X aK cn ∧ Below w.heap.size w X) := fun X hX => by
                have h9 := HEnd.out kf kp wr X HS3.out (ag_next HT9.out.1 hX)
                have hA9 := (hX.block _ (Array.getElem?_eq_some_iff.1 HT9.out.2.2).1).trans HT9.out.2.2
                exact ⟨⟨ag_cell h9.1.1 0, ag_cell h9.1.1 1, ag_cell h9.1.2 0, ag_cell h9.1.2 1, ag_cell hA9 0, ag_cell hA9 1⟩, h9.2.1, h9.2.2.1, HT9.out.2.1.over hX, h9.2.2.2.1, h9.2.2.2.2, ag_next HB3.out (ag_next (HFn2.out kf kp wr HS3.out).2 (ag_next HT9.out.1 hX))⟩
              have HAl1 : Hid (∀ X, Below w9.heap.size w9 X → Calls Try.prog 12 #[.agg #[.int .i64 (k : Int), .slice aH kf cH], .agg #[.int .i64 (k : Int), .slice aW9 kf cW9]] X fun e w' => e = .returned (.bool true) ∧ Below X.heap.size X w') := fun X hX => alike_eq X _ FF _ _ aH aW9 cH cW9 kf HLF.out.1 (HA.out X hX).2.1 (HA.out X hX).2.2.1 HFE.out.2 hF9
              have HAl2 : Hid (∀ X, Below w9.heap.size w9 X → Calls Try.prog 12 #[.agg #[.int .i64 (k : Int), .slice aA kf cA], .agg #[.int .i64 (k : Int), .slice aW9 kf cW9]] X fun e w' => e = .returned (.bool true) ∧ Below X.heap.size X w') := fun X hX => alike_eq X _ FF _ _ aA aW9 cA cW9 kf HLF.out.1 (HA.out X hX).2.2.2.1 (HA.out X hX).2.2.1 HFE.out.2 hF9
              have HSi : Hid (∀ X, Below w9.heap.size w9 X → Calls Try.prog 13 #[.slice aD k cD, .slice aK k cK] X fun e w' => e = .returned (.bool true) ∧ ∃ d, w' = X.drewN d) := fun X hX => by
                have h9 := sameInts_eq X aD aK cD cK cn (HA.out X hX).2.2.2.2.1 (HA.out X hX).2.2.2.2.2.1 (by rw [HLF.out.2.2]; omega)
                rw [HLF.out.2.2] at h9
                exact h9
              clear he8 hw9 HT9 HEn HSet HRdF HRdP HNxP HApF HOv HFn2 HEnd HE1 HL3 HS3
              obtain ⟨⟨h0, h1, h2, h3, h4, h5⟩, _⟩ := HA.out w9 (Below.refl _ _)
              go_upto_region 29 with fail
              try rw [HW9e.out]
              clear HW9e
              go_wp2_with fail
              refine (HNo.out _).mono ?_
              rintro e w' ⟨rfl, hw'⟩
              obtain rfl := hw'.symm
              go_wp2_with fail
              refine (HAl1.out w9 (Below.refl _ _)).mono ?_
              rintro e wa ⟨rfl, hba⟩
              have HBa : Hid (Below w9.heap.size w9 wa) := hba
              clear hba h0 h1 h2 h3 h4 h5 HAl1
              obtain ⟨⟨h0, h1, h2, h3, h4, h5⟩, _⟩ := HA.out wa HBa.out
              go_wp2_with fail
              refine (HAl2.out wa HBa.out).mono ?_
              rintro e wb ⟨rfl, hbb⟩
              have HBb : Hid (Below w9.heap.size w9 wb) := ag_next HBa.out hbb
              clear hbb h0 h1 h2 h3 h4 h5 HAl2 HBa
              go_wp2_with fail
              refine (HSi.out wb HBb.out).mono ?_
              rintro e wc ⟨rfl, d, hd⟩
              have HZ : Hid (Below w.heap.size w wc) := by rw [hd]; exact (HA.out _ (ag_next HBb.out (drw_bel _ _))).2.2.2.2.2.2
              clear hd HSi HA HBb
              go_wp2_with fail
              go_ret
              exact ⟨rfl, HZ.out⟩
end Go.Proofs.Ytkomadlmonhlhaa
