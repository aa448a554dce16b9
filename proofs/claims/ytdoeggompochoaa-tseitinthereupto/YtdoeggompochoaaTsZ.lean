import Derived.Test.YtdoeggompochoaaTsY
namespace Go.Proofs.Ytdoeggompochoaa
open Go.ChangeShapes Go.WideShapes Go.ChangeAt Go.RowKit Go.Lib Go.Ag Go.WideMaps Go.Maps Go.ChangeMaps Go.Cn

theorem clG_sub (f : Nat → Nat) (g : GT) : (clG f g).Sublist (clG allM g) := by
  unfold clG
  rw [if_pos (allM_has _), if_pos (allM_has _)]
  refine List.Sublist.append ?_ ?_
  · split
    · exact List.Sublist.refl _
    · exact List.nil_sublist _
  · split
    · exact List.Sublist.refl _
    · exact List.nil_sublist _
theorem clGs_sub (f : Nat → Nat) : ∀ gs : List GT, (gs.flatMap (clG f)).Sublist (gs.flatMap (clG allM))
  | [] => List.Sublist.refl _
  | g :: gs => by
    rw [List.flatMap_cons, List.flatMap_cons]
    exact List.Sublist.append (clG_sub f g) (clGs_sub f gs)
theorem pol_sub (ns : Nds) (ls : List Nat) : (clsP ns ls).Sublist (clsE ns ls) := List.Sublist.append (clGs_sub _ _) (List.Sublist.refl _)
theorem sub_skip {α : Type} {p f : α} {P F : List α} (h : (p :: P).Sublist (f :: F)) (hn : f ≠ p) : (p :: P).Sublist F := by
  cases h with
  | cons _ h => exact h
  | cons_cons _ h => exact absurd rfl hn
theorem cone_few {ns : Nds} (hg : GS ns) {ls : List Nat} (hl : ∀ l ∈ ls, l / 2 ≤ ns.length) : (coneS ns ls).2.length ≤ ns.length := by
  have h := (si_cone (gs_wf hg) (m := ns.length) ls (met0, []) hl (SI.start _)).cl
  have h2 : (coneS ns ls).2.length + cntU (coneS ns ls).1 ns.length ≤ ns.length := h
  omega
theorem cls_few {ns : Nds} (hg : GS ns) {ls : List Nat} (hl : ∀ l ∈ ls, l / 2 ≤ ns.length) (f : Nat → Nat) : (clsN f (coneS ns ls).2 ls (gts ns (coneS ns ls).2 (coneS ns ls).2.length)).length ≤ 3 * ns.length + ls.length := by
  have h1 := cone_few hg hl
  have h2 := gts_len ns (coneS ns ls).2 (coneS ns ls).2.length
  have h3 := clG_few f (gts ns (coneS ns ls).2 (coneS ns ls).2.length)
  have h4 := clR_few (coneS ns ls).2 ls
  unfold clsN
  rw [List.length_append]
  omega
/-- a clause of those that were told -/
theorem ENC.at_ {w w' : World} {cn : List Nat} {cls : List (List Int)} {aL : Option Addr} {cL : Nat} {vC : Value} (h : ENC w w' cn cls (.slice aL cls.length cL) vC) {i : Nat} (hi : i < cls.length) : ∃ g ad c, aL = some ⟨g, 0, none⟩ ∧ w'.cell? ⟨g, i, none⟩ = some (.slice ad (cls.getD i []).length c) ∧ Is w' ad (cls.getD i []) := by
  obtain ⟨ads, bk, hr, hc⟩ := h.cl
  obtain ⟨a2, c2, e, _, h3⟩ := row_form hr
  cases e
  obtain ⟨g, rfl⟩ := h3 (by omega)
  have hcell := hr.cellAt i (by have := hr.1; omega)
  by_cases he : cls.getD i [] = []
  · refine ⟨g, none, 0, rfl, ?_, ?_⟩
    · rw [hcell, hc.nil i hi he, he]
      rfl
    · rw [he]
      intro h0
      simp at h0
  · obtain ⟨k1, k2, k3⟩ := hc.row i hi he
    refine ⟨g, _, _, rfl, hcell.trans k1, fun h0 => ⟨bk i, 0, rfl, (Array.getElem?_eq_some_iff.1 k3).1, fun j hj => ?_⟩⟩
    rw [Nat.zero_add, ag_cell k3]
    unfold intV
    generalize cls.getD i [] = c at *
    rw [List.getElem?_toArray, List.getElem?_map, List.getElem?_eq_getElem hj, List.getD_eq_getElem?_getD, List.getElem?_eq_getElem hj]
    rfl
theorem drop_cons {α : Type} {l : List α} {i : Nat} (d : α) (h : i < l.length) : l.drop i = l.getD i d :: l.drop (i + 1) := by
  rw [List.drop_eq_getElem_cons h, List.getD_eq_getElem?_getD, List.getElem?_eq_getElem h]
  rfl
theorem cls_len3 {ls : List Nat} {f : Nat → Nat} {cn : List Nat} {gs : List GT} : ∀ c ∈ clsN f cn ls gs, c.length ≤ 3 := by
  intro c hc
  unfold clsN at hc
  rcases List.mem_append.1 hc with h | h
  · obtain ⟨g, _, h2⟩ := List.mem_flatMap.1 h
    unfold clG at h2
    rcases List.mem_append.1 h2 with h3 | h3
    · split at h3
      · simp at h3; rcases h3 with rfl | rfl <;> simp
      · simp at h3
    · split at h3
      · simp at h3; subst h3; simp
      · simp at h3
  · obtain ⟨l, _, h2⟩ := List.mem_flatMap.1 h
    unfold clR at h2
    split at h2
    · simp at h2; subst h2; simp
    · split at h2
      · simp at h2
      · simp at h2; subst h2; simp
theorem getD_len3 {cls : List (List Int)} (h : ∀ c ∈ cls, c.length ≤ 3) (i : Nat) : (cls.getD i []).length ≤ 1000000000000 := by
  by_cases hi : i < cls.length
  · have := h (cls.getD i []) (by rw [List.getD_eq_getElem?_getD, List.getElem?_eq_getElem hi]; exact List.getElem_mem _)
    omega
  · rw [List.getD_eq_getElem?_getD, List.getElem?_eq_none (by omega)]
    simp
set_option maxHeartbeats 16000000 in
set_option maxRecDepth 100000 in
theorem fewer_walk (w : World) (ad : Option Addr) (sc : List S3) (cp : Nat) (hsc : MD3 w ad sc) (hbd : bd3 sc) (aW : Option Addr) (ws : List Int) (cW : Nat) (hW : Is w aW ws) (hbW : ∀ x ∈ ws, -9223372036854775808 ≤ x ∧ x ≤ 9223372036854775807) (hn : 3 * sc.length + ws.length ≤ 1048576) :
    Calls Try.prog 7 #[.slice ad sc.length cp, .slice aW ws.length cW] w fun e w' => e = .returned (.bool true) ∧ Below w.heap.size w w' := by
  have HMk : Hid (Calls Try.prog 9 #[.slice ad sc.length cp] w fun e w' => ∃ Rg Rr ns L vL, e = .returned (.tuple #[.pointer (some ⟨Rg, 0, none⟩), .pointer (some ⟨Rr, 0, none⟩), vL, .bool true]) ∧ madeM [] [0] sc = some (ns, L) ∧ MJ ns L sc.length ∧ TT w w' Rg Rr ns ns L vL) := made_two w ad sc cp hsc hbd (by omega)
  have HW : Hid (Is w aW ws ∧ ∀ x ∈ ws, -9223372036854775808 ≤ x ∧ x ≤ 9223372036854775807) := ⟨hW, hbW⟩
  clear hsc hbd hW hbW
  generalize hN1 : sc.length = n1 at *
  generalize hN2 : ws.length = n2 at *
  have HN2 : Hid (ws.length = n2) := hN2
  clear hN1 hN2
  go_enter Try.func7, Try.ntmps7
  go_wp2_with fail
  refine HMk.out.mono ?_
  rintro e w1 ⟨Rg, Rr, ns, L, vL, rfl, _, hmj, ht1⟩
  obtain ⟨aL, cL, rfl, _, _⟩ := row_form ht1.row
  have HT1 : Hid (TT w w1 Rg Rr ns ns L (.slice aL L.length cL) ∧ MJ ns L n1) := ⟨ht1, hmj⟩
  clear ht1 hmj HMk
  go_wp2_with fail
  refine (live_any w1).mono ?_
  rintro e w2 ⟨rfl, hb2⟩
  have HT2 : Hid (TT w w2 Rg Rr ns ns L (.slice aL L.length cL) ∧ MJ ns L n1) := ⟨HT1.out.1.over hb2, HT1.out.2⟩
  clear hb2 HT1
  have HSm : Hid (Calls Try.prog 11 #[.slice aL L.length cL, .slice aW n2 cW, .slice none 0 0] w2 fun e w' => ∃ v, e = .returned v ∧ SR w2 w' (ws.map (pickN L)) v) := by
    have h5 := some_any w2 aL L cL (u32s_of HT2.out.1.row) (by rw [HT2.out.2.len]; omega) (by rw [HT2.out.2.len]; omega) (fun l hl => by have h1 := HT2.out.2.lit l hl; have h2 := HT2.out.2.few; omega) aW ws cW (HW.out.1.below HT2.out.1.bel) HW.out.2 (by rw [HN2.out]; omega)
    rw [HN2.out] at h5
    exact h5
  go_wp2_with fail
  refine HSm.out.mono ?_
  rintro e w3 ⟨vR, rfl, hs3⟩
  have hrl : (ws.map (pickN L)).length = n2 := by rw [List.length_map]; exact HN2.out
  obtain ⟨aR, cR, rfl, _, _⟩ := row_form hs3.row
  have hL0 : 0 < L.length := by rw [HT2.out.2.len]; omega
  have hrb : ∀ l ∈ ws.map (pickN L), l / 2 ≤ ns.length := fun l hl => by
    obtain ⟨x, _, rfl⟩ := List.mem_map.1 hl
    exact pickN_le HT2.out.2.lit hL0
  have hns : ns.length ≤ n1 := HT2.out.2.few
  have HGS : Hid (GS ns) := HT2.out.2.gs
  have HRB : Hid (∀ l ∈ ws.map (pickN L), l / 2 ≤ ns.length) := hrb
  have HT3 : Hid (TT w w3 Rg Rr ns ns L (.slice aL L.length cL) ∧ U32s w3 aR (ws.map (pickN L))) := ⟨HT2.out.1.over hs3.bel, u32s_of hs3.row⟩
  clear hs3 HT2 HSm hrb
  generalize ws.map (pickN L) = ls at *
  have HCF : Hid ((coneS ns ls).2.length ≤ 1048576) := by have := cone_few HGS.out HRB.out; show _ ≤ _; omega
  have HFE : Hid ((clsE ns ls).length ≤ 1048576 ∧ (∀ c ∈ clsE ns ls, c.length ≤ 3)) := ⟨by have h1 : (clsE ns ls).length ≤ _ := cls_few HGS.out HRB.out allM; omega, cls_len3⟩
  have HFP : Hid ((clsP ns ls).length ≤ 1048576 ∧ (∀ c ∈ clsP ns ls, c.length ≤ 3)) := ⟨by have h1 : (clsP ns ls).length ≤ _ := cls_few HGS.out HRB.out _; omega, cls_len3⟩
  have HSub : Hid ((clsP ns ls).Sublist (clsE ns ls)) := pol_sub ns ls
  have HE1 : Hid (Calls Try.prog 12 #[.pointer (some ⟨Rg, 0, none⟩), .slice aR n2 cR] w3 fun e w' => ∃ aF cF aC cC, e = .returned (.tuple #[.agg #[.int .i64 ((coneS ns ls).2.length : Int), .slice aF (clsE ns ls).length cF], .slice aC (coneS ns ls).2.length cC, .int .i64 0]) ∧ ENC w3 w' (coneS ns ls).2 (clsE ns ls) (.slice aF (clsE ns ls).length cF) (.slice aC (coneS ns ls).2.length cC) ∧ TT w w' Rg Rr ns ns L (.slice aL L.length cL)) := by
    have h5 := enc_tt HT3.out.1 HGS.out aR ls cR HT3.out.2 HRB.out (by omega) (by omega) HCF.out HFE.out.1
    rw [hrl] at h5
    exact h5
  have HE2 : Hid (∀ W, Below w3.heap.size w3 W → Calls Try.prog 17 #[.pointer (some ⟨Rg, 0, none⟩), .slice aR n2 cR] W fun e w' => ∃ aF cF aC cC, e = .returned (.tuple #[.agg #[.int .i64 ((coneS ns ls).2.length : Int), .slice aF (clsP ns ls).length cF], .slice aC (coneS ns ls).2.length cC, .int .i64 0]) ∧ ENC W w' (coneS ns ls).2 (clsP ns ls) (.slice aF (clsP ns ls).length cF) (.slice aC (coneS ns ls).2.length cC) ∧ TT w w' Rg Rr ns ns L (.slice aL L.length cL)) := fun W hW => by
    have h5 := pol_tt (HT3.out.1.over hW) HGS.out aR ls cR (HT3.out.2.below hW) HRB.out (by omega) (by omega) HCF.out HFP.out.1
    rw [hrl] at h5
    exact h5
  have HB3 : Hid (Below w.heap.size w w3) := HT3.out.1.bel
  clear HT3 HCF HRB
  generalize (coneS ns ls).2 = cn at *
  generalize clsE ns ls = FF at *
  generalize clsP ns ls = PPc at *
  generalize hcc : cn.length = cc at *
  generalize hnF : FF.length = nF at *
  generalize hnP : PPc.length = nP at *
  have HLF : Hid (FF.length = nF ∧ PPc.length = nP) := ⟨hnF, hnP⟩
  have hF9 : nF ≤ 1048576 := HFE.out.1
  have hP9 : nP ≤ 1048576 := HFP.out.1
  clear hnF hnP hcc
  have HNo : Hid (∀ W, Calls Try.prog 14 #[.int .i64 0] W fun e w' => e = .returned (.int .i64 0) ∧ w' = W) := fun W => no_any 0 W
  go_wp2_with fail
  refine HE1.out.mono ?_
  rintro e w4 ⟨aF, cF, aC, cC, rfl, he4, _⟩
  obtain ⟨w4', hw4'⟩ : ∃ w4', w4.alloc (.cells #[.int .i64 (cc : Int), .slice aF nF cF] 33) = w4' := ⟨_, rfl⟩
  have HT4 : Hid (Below w3.heap.size w3 w4' ∧ ENC w3 w4' cn FF (.slice aF nF cF) (.slice aC cc cC) ∧ w4'.heap[w4.heap.size]? = some (.cells #[.int .i64 (cc : Int), .slice aF nF cF] 33 (0, 0))) := by rw [← hw4']; exact ⟨ag_next he4.bel (ag_bel1 _ _), he4.over (ag_bel1 _ _), heap_alloc_new _ _⟩
  have HW4e : Hid (w4.alloc (.cells #[.int .i64 (cc : Int), .slice aF nF cF] 33) = w4') := hw4'
  obtain ⟨Fb, hFb⟩ : ∃ Fb, w4.heap.size = Fb := ⟨_, rfl⟩
  rw [hFb] at HT4
  clear he4 HE1 hw4'
  go_wp2_with fail
  rw [HW4e.out]
  clear HW4e
  refine (HE2.out w4' HT4.out.1).mono ?_
  rintro e w5 ⟨aP, cP, aC2, cC2, rfl, he5, _⟩
  obtain ⟨w5', hw5'⟩ : ∃ w5', w5.alloc (.cells #[.int .i64 (cc : Int), .slice aP nP cP] 33) = w5' := ⟨_, rfl⟩
  have HT5 : Hid (Below w.heap.size w w5' ∧ ENC w3 w5' cn FF (.slice aF nF cF) (.slice aC cc cC) ∧ w5'.heap[Fb]? = some (.cells #[.int .i64 (cc : Int), .slice aF nF cF] 33 (0, 0)) ∧ ENC w4' w5' cn PPc (.slice aP nP cP) (.slice aC2 cc cC2) ∧ w5'.heap[w5.heap.size]? = some (.cells #[.int .i64 (cc : Int), .slice aP nP cP] 33 (0, 0))) := by
    rw [← hw5']
    have hb := ag_next he5.bel (ag_bel1 w5 (.cells #[.int .i64 (cc : Int), .slice aP nP cP] 33))
    exact ⟨ag_next HB3.out (ag_next HT4.out.1 hb), HT4.out.2.1.over hb, (hb.block _ (Array.getElem?_eq_some_iff.1 HT4.out.2.2).1).trans HT4.out.2.2, he5.over (ag_bel1 _ _), heap_alloc_new _ _⟩
  have HW5e : Hid (w5.alloc (.cells #[.int .i64 (cc : Int), .slice aP nP cP] 33) = w5') := hw5'
  obtain ⟨Pb, hPb⟩ : ∃ Pb, w5.heap.size = Pb := ⟨_, rfl⟩
  rw [hPb] at HT5
  clear he5 HE2 hw5' HT4 HB3
  go_wp2_with (go_at_call 14; refine (HNo.out _).mono ?_; rintro e w' ⟨rfl, hw⟩; obtain rfl := hw.symm)
  rw [HW5e.out]
  clear HW5e hFb hPb
  have HAT : Hid (∀ W, Below w5'.heap.size w5' W → W.cell? ⟨Fb, 1, none⟩ = some (.slice aF nF cF) ∧ W.cell? ⟨Pb, 1, none⟩ = some (.slice aP nP cP) ∧ (∀ i, i < nF → ∃ g ad c, aF = some ⟨g, 0, none⟩ ∧ W.cell? ⟨g, i, none⟩ = some (.slice ad (FF.getD i []).length c) ∧ Is W ad (FF.getD i []) ∧ (FF.getD i []).length ≤ 1000000000000) ∧ (∀ i, i < nP → ∃ g ad c, aP = some ⟨g, 0, none⟩ ∧ W.cell? ⟨g, i, none⟩ = some (.slice ad (PPc.getD i []).length c) ∧ Is W ad (PPc.getD i []))) := fun W hW => by
    have eF := HT5.out.2.1.over hW
    have eP := HT5.out.2.2.2.1.over hW
    rw [← HLF.out.1] at eF
    rw [← HLF.out.2] at eP
    refine ⟨ag_cell ((hW.block _ (Array.getElem?_eq_some_iff.1 HT5.out.2.2.1).1).trans HT5.out.2.2.1) 1, ag_cell ((hW.block _ (Array.getElem?_eq_some_iff.1 HT5.out.2.2.2.2).1).trans HT5.out.2.2.2.2) 1, fun i hi => ?_, fun i hi => eP.at_ (by rw [HLF.out.2]; exact hi)⟩
    obtain ⟨g, ad, c, h1, h2, h3⟩ := eF.at_ (i := i) (by rw [HLF.out.1]; exact hi)
    exact ⟨g, ad, c, h1, h2, h3, getD_len3 HFE.out.2 i⟩
  have HB5 : Hid (Below w.heap.size w w5') := HT5.out.1
  clear HT5 HFE HFP HNo HGS
  go_loopg [16, 17] nP (fun gk v16 v17 wr => ∃ i a : Nat, v16 = .int .i64 (a : Int) ∧ v17 = .int .i64 (i : Int) ∧ i + gk = nP ∧ a ≤ nF ∧ Aside ((PPc.drop i).Sublist (FF.drop a)) ∧ Aside (Below w5'.heap.size w5' wr))
  case atStart => exact ⟨0, 0, rfl, rfl, by omega, by omega, HSub.out, Below.refl _ _⟩
  case round =>
    clear HSub
    obtain ⟨i, a, rfl, rfl, hi, ha, HS, HBw⟩ := hrel
    obtain ⟨k1, k2, k3, k4⟩ := HAT.out wr HBw.out
    by_cases hlt : i < nP
    · have q1 : (i : Int) < (nP : Int) := by omega
      have HPD : Hid (PPc.drop i = PPc.getD i [] :: PPc.drop (i + 1)) := drop_cons [] (by rw [HLF.out.2]; exact hlt)
      have HS0 : Hid ((PPc.drop i).Sublist (FF.drop a)) := HS.out
      have HB0 : Hid (Below w5'.heap.size w5' wr) := HBw.out
      clear HS HBw k3 k4
      generalize hgA : gk = gA at *
      clear hgA
      go_wp2_with fail
      generalize wr = wA at *
      clear k1 k2
      go_loopg [16] (nF - a) (fun gk v16 wr => ∃ a : Nat, v16 = .int .i64 (a : Int) ∧ a + gk = nF ∧ Aside ((PPc.drop i).Sublist (FF.drop a)) ∧ Aside (Below w5'.heap.size w5' wr))
      case atStart => exact ⟨a, rfl, by omega, HS0.out, HB0.out⟩
      case round =>
        clear HS0 HB0
        obtain ⟨a2, rfl, ha2, HS, HBw⟩ := hrel
        obtain ⟨k1, k2, k3, k4⟩ := HAT.out wr HBw.out
        by_cases hlt2 : a2 < nF
        · have q2 : (a2 : Int) < (nF : Int) := by omega
          have HFD : Hid (FF.drop a2 = FF.getD a2 [] :: FF.drop (a2 + 1)) := drop_cons [] (by rw [HLF.out.1]; exact hlt2)
          obtain ⟨g1, ad1, c1, rfl, x1, x2, x3⟩ := k3 a2 hlt2
          obtain ⟨g2, ad2, c2, rfl, y1, y2⟩ := k4 i hlt
          have HSm : Hid (∀ q, Calls Try.prog 31 #[.slice ad1 (FF.getD a2 []).length c1, .slice ad2 (PPc.getD i []).length c2] (wr.drewN q) fun e w' => e = .returned (.bool (decide (FF.getD a2 [] = PPc.getD i []))) ∧ ∃ d, w' = (wr.drewN q).drewN d) := fun q => Same_any (wr.drewN q) ad1 ad2 c1 c2 _ _ (x2.below (drw_bel _ _)) (y2.below (drw_bel _ _)) x3
          clear k3 k4 x2 y2 x3
          have HNX : Hid (FF.getD a2 [] = PPc.getD i [] → (PPc.drop (i + 1)).Sublist (FF.drop (a2 + 1))) := fun e => by
            have h5 := HS.out
            rw [HPD.out, HFD.out, e] at h5
            exact List.cons_sublist_cons.1 h5
          have HSK : Hid (¬ FF.getD a2 [] = PPc.getD i [] → (PPc.drop i).Sublist (FF.drop (a2 + 1))) := fun e => by
            have h5 := HS.out
            rw [HPD.out, HFD.out] at h5
            rw [HPD.out]
            exact sub_skip h5 e
          clear HS
          generalize (FF.getD a2 []).length = l1 at *
          generalize (PPc.getD i []).length = l2 at *
          by_cases he : FF.getD a2 [] = PPc.getD i []
          · have HN2 : Hid ((PPc.drop (i + 1)).Sublist (FF.drop (a2 + 1))) := HNX.out he
            rw [decide_eq_true he] at HSm
            have q3 : ((a2 : Int) == (nF : Int)) = false := by simp; omega
            clear HNX HSK
            go_wp2_with fail
            go_quiet ((go_at_call 31; exact Calls.quiet_of (HSm.out _)))
            have HBS : Hid (Below w5'.heap.size w5' (wr.drewN nq)) := ag_next HBw.out (drw_bel _ _)
            obtain ⟨m1, m2, _, _⟩ := HAT.out _ HBS.out
            clear HBw HSm k1 k2 x1 y1
            generalize wr.drewN nq = wS at *
            go_wp2_with fail
            go_roundg (gA - 1)
            case measure => omega
            case rel => exact ⟨i + 1, a2 + 1, by simp, by simp, by omega, by omega, HN2.out, HBS.out⟩
          · have HN2 : Hid ((PPc.drop i).Sublist (FF.drop (a2 + 1))) := HSK.out he
            rw [decide_eq_false he] at HSm
            clear HNX HSK
            go_wp2_with fail
            go_quiet ((go_at_call 31; exact Calls.quiet_of (HSm.out _)))
            have HBS : Hid (Below w5'.heap.size w5' (wr.drewN nq)) := ag_next HBw.out (drw_bel _ _)
            clear HBw HSm k1 k2 x1 y1
            generalize wr.drewN nq = wS at *
            go_wp2_with fail
            go_roundg (gk - 1)
            case measure => omega
            case rel => exact ⟨a2 + 1, by simp, by omega, HN2.out, HBS.out⟩
        · exfalso
          have h5 := HS.out
          rw [List.drop_eq_nil_of_le (i := a2) (by rw [HLF.out.1]; omega), HPD.out] at h5
          cases h5
    · obtain rfl : i = nP := by omega
      have q1 : ¬ (i : Int) < (i : Int) := by omega
      have HZ : Hid (Below w.heap.size w wr) := ag_next HB5.out HBw.out
      clear HS HBw k3 k4
      go_wp2_with fail
      first | exact ⟨rfl, HZ.out⟩ | (go_ret; exact ⟨rfl, HZ.out⟩)
end Go.Proofs.Ytdoeggompochoaa
