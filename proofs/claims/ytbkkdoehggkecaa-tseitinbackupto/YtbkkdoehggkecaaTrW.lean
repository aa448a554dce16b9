import Derived.Test.YtbkkdoehggkecaaTqL
import Derived.Test.YtbkkdoehggkecaaTrB
import Derived.Test.YtbkkdoehggkecaaTrD
namespace Go.Proofs.Ytbkkdoehggkecaa
open Go.ChangeShapes Go.WideShapes Go.ChangeAt Go.RowKit Go.Lib Go.Ag Go.WideMaps Go.Maps Go.ChangeMaps Go.Cn

/-- the assignment of all variables that the law makes of its numbers -/
def fullN (mm : List Int) (c : Nat) : List Int := (List.range c).map fun i => if 0 < mm.getD i 0 then 1 else -1
theorem fullN_len (mm : List Int) (c : Nat) : (fullN mm c).length = c := by simp [fullN]
theorem fullN_gM (mm : List Int) (c : Nat) : gM (fullN mm c) := fun x hx => by
  obtain ⟨i, _, rfl⟩ := List.mem_map.1 hx
  split
  · exact Or.inl rfl
  · exact Or.inr rfl
/-- what the law asks of an assignment, said of the inputs that are read of it -/
theorem back_all {ns : Nds} (hg : GS ns) {ls : List Nat} (hc : CN ns (coneS ns ls).2 ls) {ms : List Int} (hm : gM ms) (hl : ms.length = (coneS ns ls).2.length) :
    ((clsE ns ls).all (tC ms) = true → (clsP ns ls).all (tC ms) = true) ∧ ∀ bs, Rd ns (coneS ns ls).2 ms bs → ((clsE ns ls).all (tC ms) = true → fillN ns bs (coneS ns ls).2 = ms) ∧ ((clsP ns ls).all (tC ms) = true → ∀ l ∈ ls, litV (evs (fun i => bs.getD i false) ns) l = true) := by
  refine ⟨fun h => ?_, fun bs hr => ⟨fun h => back_fill hg hc hm hl hr h, fun h => ?_⟩⟩
  · rw [List.all_eq_true] at h ⊢
    exact fun c hcm => h c ((pol_sub ns ls).subset hcm)
  · exact back_roots hg hc hm hl hr (want_ok hc).1 (want_ok hc).2 h
set_option maxHeartbeats 16000000 in
set_option maxRecDepth 100000 in
theorem back_walk (w : World) (ad : Option Addr) (sc : List S3) (cp : Nat) (hsc : MD3 w ad sc) (hbd : bd3 sc) (aW : Option Addr) (ws : List Int) (cW : Nat) (hW : Is w aW ws) (hbW : ∀ x ∈ ws, -9223372036854775808 ≤ x ∧ x ≤ 9223372036854775807) (aI : Option Addr) (mm : List Int) (cI : Nat) (hI : I8s w aI mm) (hbn : mm.length ≤ 1000000000000) (hn : 3 * sc.length + ws.length ≤ 1048576) :
    Calls Try.prog 3 #[.slice ad sc.length cp, .slice aW ws.length cW, .slice aI mm.length cI] w fun e w' => e = .returned (.bool true) ∧ Below w.heap.size w w' := by
  have HMk : Hid (Calls Try.prog 4 #[.slice ad sc.length cp] w fun e w' => ∃ Rg Rr ns L vL, e = .returned (.tuple #[.pointer (some ⟨Rg, 0, none⟩), .pointer (some ⟨Rr, 0, none⟩), vL, .bool true]) ∧ madeM [] [0] sc = some (ns, L) ∧ MJ ns L sc.length ∧ TT w w' Rg Rr ns ns L vL) := made_two w ad sc cp hsc hbd (by omega)
  have HW : Hid (Is w aW ws ∧ ∀ x ∈ ws, -9223372036854775808 ≤ x ∧ x ≤ 9223372036854775807) := ⟨hW, hbW⟩
  have HI : Hid (I8s w aI mm) := hI
  clear hsc hbd hW hbW hI
  generalize hN1 : sc.length = n1 at *
  generalize hN2 : ws.length = n2 at *
  have HN2 : Hid (ws.length = n2) := hN2
  generalize hN3 : mm.length = n3 at *
  have HN3 : Hid (mm.length = n3) := hN3
  clear hN1 hN2 hN3
  go_enter Try.func3, Try.ntmps3
  go_wp2_with fail
  refine HMk.out.mono ?_
  rintro e w1 ⟨Rg, Rr, ns, L, vL, rfl, _, hmj, ht1⟩
  obtain ⟨aL, cL, rfl, _, _⟩ := row_form ht1.row
  have HT1 : Hid (TT w w1 Rg Rr ns ns L (.slice aL L.length cL) ∧ MJ ns L n1) := ⟨ht1, hmj⟩
  clear ht1 hmj HMk
  go_wp2_with fail
  refine (live_any w1).mono ?_
  rintro e w2 ⟨rfl, hb2⟩
  have HT2 : Hid (TT w w2 Rg Rr ns ns L (.slice aL L.length cL) ∧ MJ ns L n1) := ⟨HT1.out.1.over hb2, HT1.out.2⟩
  clear hb2 HT1
  have HSm : Hid (Calls Try.prog 6 #[.slice aL L.length cL, .slice aW n2 cW, .slice none 0 0] w2 fun e w' => ∃ v, e = .returned v ∧ SR w2 w' (ws.map (pickN L)) v) := by
    have h5 := some_any w2 aL L cL (u32s_of HT2.out.1.row) (by rw [HT2.out.2.len]; omega) (by rw [HT2.out.2.len]; omega) (fun l hl => by have h1 := HT2.out.2.lit l hl; have h2 := HT2.out.2.few; omega) aW ws cW (HW.out.1.below HT2.out.1.bel) HW.out.2 (by rw [HN2.out]; omega)
    rw [HN2.out] at h5
    exact h5
  go_wp2_with fail
  refine HSm.out.mono ?_
  rintro e w3 ⟨vR, rfl, hs3⟩
  have hrl : (ws.map (pickN L)).length = n2 := by rw [List.length_map]; exact HN2.out
  obtain ⟨aR, cR, rfl, _, _⟩ := row_form hs3.row
  have hL0 : 0 < L.length := by rw [HT2.out.2.len]; omega
  have hrb : ∀ l ∈ ws.map (pickN L), l / 2 ≤ ns.length := fun l hl => by
    obtain ⟨x, _, rfl⟩ := List.mem_map.1 hl
    exact pickN_le HT2.out.2.lit hL0
  have hns : ns.length ≤ n1 := HT2.out.2.few
  have HGS : Hid (GS ns) := HT2.out.2.gs
  have HRB : Hid (∀ l ∈ ws.map (pickN L), l / 2 ≤ ns.length) := hrb
  have HT3 : Hid (TT w w3 Rg Rr ns ns L (.slice aL L.length cL) ∧ U32s w3 aR (ws.map (pickN L))) := ⟨HT2.out.1.over hs3.bel, u32s_of hs3.row⟩
  clear hs3 HT2 HSm hrb HW
  generalize ws.map (pickN L) = ls at *
  have HCN : Hid (CN ns (coneS ns ls).2 ls) := cn_cone HGS.out HRB.out
  have HCF : Hid ((coneS ns ls).2.length ≤ 1048576) := by have := cone_few HGS.out HRB.out; show _ ≤ _; omega
  have HFE : Hid ((clsE ns ls).length ≤ 1048576) := by have h1 : (clsE ns ls).length ≤ _ := cls_few HGS.out HRB.out allM; show _ ≤ _; omega
  have HFP : Hid ((clsP ns ls).length ≤ 1048576) := by have h1 : (clsP ns ls).length ≤ _ := cls_few HGS.out HRB.out _; show _ ≤ _; omega
  have HSE : Hid (∀ c ∈ clsE ns ls, c.length ≤ 3 ∧ ∀ l ∈ c, gL (coneS ns ls).2.length l) := cls_lit HCN.out _
  have HSP : Hid (∀ c ∈ clsP ns ls, c.length ≤ 3 ∧ ∀ l ∈ c, gL (coneS ns ls).2.length l) := cls_lit HCN.out _
  have HE1 : Hid (Calls Try.prog 7 #[.pointer (some ⟨Rg, 0, none⟩), .slice aR n2 cR] w3 fun e w' => ∃ aF cF aC cC, e = .returned (.tuple #[.agg #[.int .i64 ((coneS ns ls).2.length : Int), .slice aF (clsE ns ls).length cF], .slice aC (coneS ns ls).2.length cC, .int .i64 0]) ∧ ENC w3 w' (coneS ns ls).2 (clsE ns ls) (.slice aF (clsE ns ls).length cF) (.slice aC (coneS ns ls).2.length cC) ∧ TT w w' Rg Rr ns ns L (.slice aL L.length cL)) := by
    have h5 := enc_tt HT3.out.1 HGS.out aR ls cR HT3.out.2 HRB.out (by omega) (by omega) HCF.out HFE.out
    rw [hrl] at h5
    exact h5
  have HE2 : Hid (∀ W, Below w3.heap.size w3 W → Calls Try.prog 8 #[.pointer (some ⟨Rg, 0, none⟩), .slice aR n2 cR] W fun e w' => ∃ aF cF aC cC, e = .returned (.tuple #[.agg #[.int .i64 ((coneS ns ls).2.length : Int), .slice aF (clsP ns ls).length cF], .slice aC (coneS ns ls).2.length cC, .int .i64 0]) ∧ ENC W w' (coneS ns ls).2 (clsP ns ls) (.slice aF (clsP ns ls).length cF) (.slice aC (coneS ns ls).2.length cC) ∧ TT w w' Rg Rr ns ns L (.slice aL L.length cL)) := fun W hW => by
    have h5 := pol_tt (HT3.out.1.over hW) HGS.out aR ls cR (HT3.out.2.below hW) HRB.out (by omega) (by omega) HCF.out HFP.out
    rw [hrl] at h5
    exact h5
  have HLf : Hid (∀ W aC cC aM cM, Below w3.heap.size w3 W → Nts W aC (coneS ns ls).2 → I8s W aM (fullN mm (coneS ns ls).2.length) → Calls Try.prog 12 #[.pointer (some ⟨Rg, 0, none⟩), .slice aC (coneS ns ls).2.length cC, .slice aM (coneS ns ls).2.length cM] W fun e w' => ∃ Ib bs, e = .returned (.tuple #[.slice (some ⟨Ib, 0, none⟩) (inN ns) (inN ns), .int .i64 0]) ∧ Below W.heap.size W w' ∧ bs.length = inN ns ∧ Bls w' (some ⟨Ib, 0, none⟩) bs ∧ Rd ns (coneS ns ls).2 (fullN mm (coneS ns ls).2.length) bs) := fun W aC cC aM cM hW hC hM => by
    obtain ⟨nb, vb, vg, M, D, hg, _⟩ := (HT3.out.1.over hW).g
    have h5 := Lift_ok W hg aC (coneS ns ls).2 cC hC HCN.out.bd HCF.out HCN.out.nd aM (fullN mm (coneS ns ls).2.length) cM hM (fullN_gM _ _) (fullN_len _ _)
    rw [fullN_len] at h5
    exact h5
  have HFl : Hid (∀ W Ib bs, Below w3.heap.size w3 W → bs.length = inN ns → Bls W (some ⟨Ib, 0, none⟩) bs → Calls Try.prog 13 #[.pointer (some ⟨Rg, 0, none⟩), .slice aR n2 cR, .slice (some ⟨Ib, 0, none⟩) (inN ns) (inN ns)] W fun e w' => ∃ aM cM, e = .returned (.tuple #[.slice aM (coneS ns ls).2.length cM, .int .i64 0]) ∧ Below W.heap.size W w' ∧ I8s w' aM (fillN ns bs (coneS ns ls).2)) := fun W Ib bs hW hbl hB => by
    obtain ⟨nb, vb, vg, M, D, hg, _⟩ := (HT3.out.1.over hW).g
    have h5 := Fill_ok W hg HGS.out aR ls cR (HT3.out.2.below hW) (fun l hl => by have := HRB.out l hl; omega) HRB.out (by omega) HCF.out (some ⟨Ib, 0, none⟩) bs (inN ns) hB hbl
    rw [hrl, hbl] at h5
    refine h5.mono ?_
    rintro e w' ⟨v, rfl, h6, h7⟩
    obtain ⟨aM, cM, rfl, _, _⟩ := row_form h7
    exact ⟨aM, cM, rfl, h6, i8s_of h7⟩
  have HEv : Hid (∀ W Ib bs, Below w3.heap.size w3 W → bs.length = inN ns → Bls W (some ⟨Ib, 0, none⟩) bs → Calls Try.prog 14 #[.pointer (some ⟨Rr, 0, none⟩), .slice (some ⟨Ib, 0, none⟩) (inN ns) (inN ns), .slice aR n2 cR] W fun e w' => ∃ aV cV, e = .returned (.tuple #[.slice aV n2 cV, .int .i64 0]) ∧ Below W.heap.size W w' ∧ Bls w' aV (ls.map (litV (evs (fun i => bs.getD i false) ns)))) := fun W Ib bs hW hbl hB => by
    obtain ⟨vR2, hr⟩ := (HT3.out.1.over hW).r
    have h5 := reval_ok W hr HGS.out (by omega) (some ⟨Ib, 0, none⟩) bs (inN ns) hB hbl aR ls cR (HT3.out.2.below hW) (fun l hl => by have := HRB.out l hl; omega) HRB.out (by omega)
    rw [hrl, hbl] at h5
    refine h5.mono ?_
    rintro e w' ⟨v, rfl, h6, h7⟩
    obtain ⟨aV, cV, rfl, _, _⟩ := row_form h7
    exact ⟨aV, cV, rfl, h6, bls_of h7⟩
  have HBK := back_all HGS.out HCN.out (fullN_gM mm (coneS ns ls).2.length) (fullN_len mm (coneS ns ls).2.length)
  have HB3 : Hid (Below w.heap.size w w3) := HT3.out.1.bel
  have HBK2 : Hid (((clsE ns ls).all (tC (fullN mm (coneS ns ls).2.length)) = true → (clsP ns ls).all (tC (fullN mm (coneS ns ls).2.length)) = true) ∧ ∀ bs, Rd ns (coneS ns ls).2 (fullN mm (coneS ns ls).2.length) bs → ((clsE ns ls).all (tC (fullN mm (coneS ns ls).2.length)) = true → fillN ns bs (coneS ns ls).2 = fullN mm (coneS ns ls).2.length) ∧ ((clsP ns ls).all (tC (fullN mm (coneS ns ls).2.length)) = true → (ls.map (litV (evs (fun i => bs.getD i false) ns))).all id = true)) := ⟨HBK.1, fun bs hr => ⟨(HBK.2 bs hr).1, fun h => by rw [List.all_map]; exact List.all_eq_true.2 ((HBK.2 bs hr).2 h)⟩⟩
  have HMl : Hid (∀ bs : List Bool, (ls.map (litV (evs (fun i => bs.getD i false) ns))).length = n2) := fun bs => by rw [List.length_map]; exact hrl
  rw [hrl]
  have hcF := HCF.out
  clear HBK HT3 HCF HRB HCN hrl HGS
  generalize hcn : (coneS ns ls).2 = cn at *
  clear hcn
  generalize clsE ns ls = FF at *
  generalize clsP ns ls = PPc at *
  generalize hcc : cn.length = cc at *
  have HCC : Hid (cn.length = cc) := hcc
  generalize hnF : FF.length = nF at *
  generalize hnP : PPc.length = nP at *
  have HLF : Hid (FF.length = nF ∧ PPc.length = nP) := ⟨hnF, hnP⟩
  generalize hfl : fullN mm cc = fl at *
  have HFl0 : Hid (fullN mm cc = fl) := hfl
  generalize hqi : inN ns = qi at *
  clear hnF hnP hcc hfl hqi
  have HNo : Hid (∀ W, Calls Try.prog 9 #[.int .i64 0] W fun e w' => e = .returned (.int .i64 0) ∧ w' = W) := fun W => no_any 0 W
  go_wp2_with fail
  refine HE1.out.mono ?_
  rintro e w4 ⟨aF, cF, aC, cC, rfl, he4, _⟩
  obtain ⟨w4', hw4'⟩ : ∃ w4', w4.alloc (.cells #[.int .i64 (cc : Int), .slice aF nF cF] 34) = w4' := ⟨_, rfl⟩
  have HT4 : Hid (Below w3.heap.size w3 w4' ∧ ENC w3 w4' cn FF (.slice aF nF cF) (.slice aC cc cC) ∧ w4'.heap[w4.heap.size]? = some (.cells #[.int .i64 (cc : Int), .slice aF nF cF] 34 (0, 0))) := by rw [← hw4']; exact ⟨ag_next he4.bel (ag_bel1 _ _), he4.over (ag_bel1 _ _), heap_alloc_new _ _⟩
  have HW4e : Hid (w4.alloc (.cells #[.int .i64 (cc : Int), .slice aF nF cF] 34) = w4') := hw4'
  obtain ⟨Fb, hFb⟩ : ∃ Fb, w4.heap.size = Fb := ⟨_, rfl⟩
  rw [hFb] at HT4
  clear he4 HE1 hw4'
  go_wp2_with fail
  rw [HW4e.out]
  clear HW4e
  refine (HE2.out w4' HT4.out.1).mono ?_
  rintro e w5 ⟨aP, cP, aC2, cC2, rfl, he5, _⟩
  obtain ⟨w5', hw5'⟩ : ∃ w5', w5.alloc (.cells #[.int .i64 (cc : Int), .slice aP nP cP] 34) = w5' := ⟨_, rfl⟩
  have HT5 : Hid (Below w3.heap.size w3 w5' ∧ ENC w3 w5' cn FF (.slice aF nF cF) (.slice aC cc cC) ∧ w5'.heap[Fb]? = some (.cells #[.int .i64 (cc : Int), .slice aF nF cF] 34 (0, 0)) ∧ ENC w4' w5' cn PPc (.slice aP nP cP) (.slice aC2 cc cC2) ∧ w5'.heap[w5.heap.size]? = some (.cells #[.int .i64 (cc : Int), .slice aP nP cP] 34 (0, 0))) := by
    rw [← hw5']
    have hb := ag_next he5.bel (ag_bel1 w5 (.cells #[.int .i64 (cc : Int), .slice aP nP cP] 34))
    exact ⟨ag_next HT4.out.1 hb, HT4.out.2.1.over hb, (hb.block _ (Array.getElem?_eq_some_iff.1 HT4.out.2.2).1).trans HT4.out.2.2, he5.over (ag_bel1 _ _), heap_alloc_new _ _⟩
  have HW5e : Hid (w5.alloc (.cells #[.int .i64 (cc : Int), .slice aP nP cP] 34) = w5') := hw5'
  obtain ⟨Pb, hPb⟩ : ∃ Pb, w5.heap.size = Pb := ⟨_, rfl⟩
  rw [hPb] at HT5
  clear he5 HE2 hw5' HT4
  go_wp2_with fail
  rw [HW5e.out]
  clear HW5e hFb hPb
  have HSI : Hid (∀ W, Below w5'.heap.size w5' W → Calls Try.prog 10 #[.slice aC cc cC, .slice aC2 cc cC2] W fun e w' => e = .returned (.bool true) ∧ Below W.heap.size W w') := fun W hW => by
    have e1 := (HT5.out.2.1.over hW).cone
    have e2 := (HT5.out.2.2.2.1.over hW).cone
    rw [HCC.out] at e1 e2
    have h5 := sameInts_eq W aC aC2 cC cC2 cn (nts_of e1) (nts_of e2) (by rw [HCC.out]; omega)
    rw [HCC.out] at h5
    refine h5.mono ?_
    rintro e w' ⟨rfl, d, rfl⟩
    exact ⟨rfl, drw_bel _ _⟩
  have HFB : Hid (∀ W, Below w5'.heap.size w5' W → W.cell? ⟨Fb, 0, none⟩ = some (.int .i64 (cc : Int)) ∧ W.cell? ⟨Fb, 1, none⟩ = some (.slice aF nF cF) ∧ W.cell? ⟨Pb, 0, none⟩ = some (.int .i64 (cc : Int)) ∧ W.cell? ⟨Pb, 1, none⟩ = some (.slice aP nP cP)) := fun W hW => by
    have h1 := (hW.block _ (Array.getElem?_eq_some_iff.1 HT5.out.2.2.1).1).trans HT5.out.2.2.1
    have h2 := (hW.block _ (Array.getElem?_eq_some_iff.1 HT5.out.2.2.2.2).1).trans HT5.out.2.2.2.2
    exact ⟨ag_cell h1 0, ag_cell h1 1, ag_cell h2 0, ag_cell h2 1⟩
  obtain ⟨c1, c2, c3, c4⟩ := HFB.out w5' (Below.refl _ _)
  go_wp2_with (go_at_call 9; refine (HNo.out _).mono ?_; rintro e w' ⟨rfl, hw⟩; obtain rfl := hw.symm)
  refine (HSI.out w5' (Below.refl _ _)).mono ?_
  rintro e w6 ⟨rfl, hb6⟩
  have HB6 : Hid (Below w5'.heap.size w5' w6) := hb6
  clear hb6 c1 c2 c3 c4 HSI
  obtain ⟨c1, c2, c3, c4⟩ := HFB.out w6 HB6.out
  obtain ⟨i1, hi1, hz1, hs1, hb1⟩ := info_parts (P := Try.prog) (e := 40) (z := .int .i8 0) (size := 1) (bytes := 1) (by kernel_rfl)
  have eI : ∀ W : World, (Instr.makeSlice 24 (.int .i64 (cc : Int)) (.int .i64 (cc : Int))).run Try.prog W = .ok (.slice (some ⟨W.heap.size, 0, none⟩) cc cc) (W.alloc (.cells (madeCells (Value.int .i8 0).cells (cc * 1)) 40)) := fun W => by
    have := run_make (P := Try.prog) (w := W) 24 40 i1 (.int .i8 0) Try.underlying24 hi1 hz1 .i64 .i64 (cc : Int) (cc : Int) (by omega) (by omega) (by rw [hb1]; omega) (by omega)
    rw [this, hs1, show ((cc : Int)).toNat = cc by omega]
  have HS2 : Hid (FR w6 (w6.alloc (.cells (madeCells (Value.int .i8 0).cells (cc * 1)) 40)) w6.heap.size 40 cc 0 (fun j => .int .i8 (if 0 < mm.getD j 0 then 1 else -1)) (.int .i8 0)) := FR.start w6 _ cc _ _ rfl
  generalize madeCells (Value.int .i8 0).cells (cc * 1) = A1 at *
  clear hi1 hz1 hs1 hb1
  go_wp2_with fail
  have HB6w : Hid (Below w.heap.size w w6 ∧ Below w3.heap.size w3 w6) := ⟨ag_next HB3.out (ag_next HT5.out.1 HB6.out), ag_next HT5.out.1 HB6.out⟩
  have HCo : Hid (∀ W, Below w6.heap.size w6 W → Nts W aC cn) := fun W hW => by
    have e1 := (HT5.out.2.1.over (ag_next HB6.out hW)).cone
    rw [HCC.out] at e1
    exact nts_of e1
  have HQF : Hid (∀ W, Below w6.heap.size w6 W → CQs W aF FF cc) := fun W hW => by
    have eF : ENC w3 W cn FF (.slice aF FF.length cF) (.slice aC cc cC) := by rw [HLF.out.1]; exact HT5.out.2.1.over (ag_next HB6.out hW)
    exact enc_cq eF HSE.out hcF (by rw [HLF.out.1]; exact HFE.out)
  have HQP : Hid (∀ W, Below w6.heap.size w6 W → CQs W aP PPc cc) := fun W hW => by
    have eP : ENC w4' W cn PPc (.slice aP PPc.length cP) (.slice aC2 cc cC2) := by rw [HLF.out.2]; exact HT5.out.2.2.2.1.over (ag_next HB6.out hW)
    exact enc_cq eP HSP.out hcF (by rw [HLF.out.2]; exact HFP.out)
  have HFB6 : Hid (∀ W, Below w6.heap.size w6 W → W.cell? ⟨Fb, 0, none⟩ = some (.int .i64 (cc : Int)) ∧ W.cell? ⟨Fb, 1, none⟩ = some (.slice aF nF cF) ∧ W.cell? ⟨Pb, 0, none⟩ = some (.int .i64 (cc : Int)) ∧ W.cell? ⟨Pb, 1, none⟩ = some (.slice aP nP cP)) := fun W hW => HFB.out W (ag_next HB6.out hW)
  have HIm : Hid (∀ W, Below w6.heap.size w6 W → I8s W aI mm) := fun W hW => HI.out.below (ag_next HB6w.out.1 hW)
  clear HSE HSP HFE HFP HT5 HB6 HFB c1 c2 c3 c4 eI HI HB3
  obtain ⟨Fu, hFu⟩ : ∃ Fu, w6.heap.size = Fu := ⟨_, rfl⟩
  rw [hFu] at HS2 ⊢
  have HFu : Hid (w6.heap.size = Fu) := hFu
  clear hFu
  go_loopg [19] cc (fun gk v19 wr => ∃ k : Nat, v19 = .int .i64 (k : Int) ∧ k + gk = cc ∧ Aside (FR w6 wr Fu 40 cc k (fun j => .int .i8 (if 0 < mm.getD j 0 then 1 else -1)) (.int .i8 0)))
  case atStart => exact ⟨0, rfl, by omega, HS2.out⟩
  case round =>
    clear HS2
    obtain ⟨k, rfl, hk, HF⟩ := hrel
    by_cases hlt : k < cc
    · have q2 : (k : Int) < (cc : Int) := by omega
      obtain ⟨hz, hf⟩ := HF.out.cell hlt
      have HF2 : Hid (FR w6 (wr.setCell ⟨Fu, k, none⟩ (.int .i8 (if 0 < mm.getD k 0 then 1 else -1))) Fu 40 cc (k + 1) (fun j => .int .i8 (if 0 < mm.getD j 0 then 1 else -1)) (.int .i8 0)) := HF.out.step hlt
      have hss : ∀ u u' : Value, (wr.setCell ⟨Fu, k, none⟩ u).setCell ⟨Fu, k, none⟩ u' = wr.setCell ⟨Fu, k, none⟩ u' := fun u u' => set_twice _ _ _ u u'
      have hc2 : ∀ u, (wr.setCell ⟨Fu, k, none⟩ u).cell? ⟨Fu, k, none⟩ = some u := fun u => World.cell?_setCell_same' _ _ _ (by rw [hz]; rfl)
      have hf2 : ∀ u, (wr.setCell ⟨Fu, k, none⟩ u).frozen? ⟨Fu, k, none⟩ = false := fun u => by
        obtain ⟨A, hA, _⟩ := HF.out.a
        exact ag_fz (heap_setCell_same _ Fu k _ _ _ hA) k
      by_cases hm3 : k < n3
      · have q3 : (k : Int) < (n3 : Int) := by omega
        obtain ⟨b, off, rfl, hb, hck⟩ := (HIm.out w6 (Below.refl _ _)) (by rw [HN3.out]; omega)
        have hbF : b ≠ Fu := by have := HF.out.lo; omega
        have hc1 : ∀ u, (wr.setCell ⟨Fu, k, none⟩ u).cell? ⟨b, off + k, none⟩ = some (.int .i8 (mm.getD k 0)) := fun u => (World.cell?_of_block (a := ⟨b, off + k, none⟩) (heap_setCell_other _ _ _ _ hbF)).trans ((HF.out.bel.cell (p := ⟨b, off + k, none⟩) hb).trans (hck k (by rw [HN3.out]; exact hm3)))
        clear hck HF hbF
        by_cases hx : 0 < mm.getD k 0
        · rw [if_pos hx] at HF2
          generalize mm.getD k 0 = x at *
          go_wp2_with fail
          go_roundg (gk - 1)
          case measure => omega
          case rel => exact ⟨k + 1, by simp, by omega, HF2.out⟩
        · rw [if_neg hx] at HF2
          generalize mm.getD k 0 = x at *
          go_wp2_with fail
          go_roundg (gk - 1)
          case measure => omega
          case rel => exact ⟨k + 1, by simp, by omega, HF2.out⟩
      · have q3 : ¬ (k : Int) < (n3 : Int) := by omega
        rw [List.getD_eq_getElem?_getD, List.getElem?_eq_none (by rw [HN3.out]; omega)] at HF2
        rw [if_neg (by decide)] at HF2
        clear HF
        go_wp2_with fail
        go_roundg (gk - 1)
        case measure => omega
        case rel => exact ⟨k + 1, by simp, by omega, HF2.out⟩
    · obtain rfl : k = cc := by omega
      have q2 : ¬ (k : Int) < (k : Int) := by omega
      have HZ : Hid (I8s wr (some ⟨Fu, 0, none⟩) fl ∧ Below w6.heap.size w6 wr) := by
        refine ⟨i8s_of (HF.out.row (by omega) (i8V fl) ?_ (fun i hi => ?_)), HF.out.bel⟩
        · unfold i8V
          rw [List.length_map, ← HFl0.out, fullN_len]
        · unfold i8V
          rw [← HFl0.out, fullN, List.map_map, List.getElem?_map, List.getElem?_range hi]
          rfl
      clear HF
      obtain ⟨c1, c2, c3, c4⟩ := HFB6.out wr HZ.out.2
      have HTF : Hid (∀ W, Below wr.heap.size wr W → Calls Try.prog 11 #[.agg #[.int .i64 (k : Int), .slice aF nF cF], .slice (some ⟨Fu, 0, none⟩) k k] W fun e w' => e = .returned (.bool (FF.all (tC fl))) ∧ Below W.heap.size W w') := fun W hW => by
        have h5 := true1_ok W aF (some ⟨Fu, 0, none⟩) FF fl cF k k (HQF.out W (ag_next HZ.out.2 hW)) (HZ.out.1.below hW) (by rw [← HFl0.out]; exact fullN_gM _ _) (by rw [← HFl0.out]; exact fullN_len _ _)
        rw [HLF.out.1, ← HFl0.out, fullN_len, HFl0.out] at h5
        exact h5
      have HTP : Hid (∀ W, Below wr.heap.size wr W → Calls Try.prog 11 #[.agg #[.int .i64 (k : Int), .slice aP nP cP], .slice (some ⟨Fu, 0, none⟩) k k] W fun e w' => e = .returned (.bool (PPc.all (tC fl))) ∧ Below W.heap.size W w') := fun W hW => by
        have h5 := true1_ok W aP (some ⟨Fu, 0, none⟩) PPc fl cP k k (HQP.out W (ag_next HZ.out.2 hW)) (HZ.out.1.below hW) (by rw [← HFl0.out]; exact fullN_gM _ _) (by rw [← HFl0.out]; exact fullN_len _ _)
        rw [HLF.out.2, ← HFl0.out, fullN_len, HFl0.out] at h5
        exact h5
      have hfll : Hid (fl.length = k) := by show _ = _; rw [← HFl0.out]; exact fullN_len _ _
      generalize FF.all (tC fl) = AA at *
      generalize PPc.all (tC fl) = BB at *
      clear HQF HQP HLF HIm HFl0
      go_wp2_with fail
      refine (HTF.out wr (Below.refl _ _)).mono ?_
      rintro e w7 ⟨rfl, hb7⟩
      have HB7 : Hid (Below wr.heap.size wr w7) := hb7
      clear hb7 c1 c2 c3 c4 HTF
      obtain ⟨c1, c2, c3, c4⟩ := HFB6.out w7 (ag_next HZ.out.2 HB7.out)
      go_wp2_with fail
      refine (HTP.out w7 HB7.out).mono ?_
      rintro e w8 ⟨rfl, hb8⟩
      have HB8 : Hid (Below wr.heap.size wr w8 ∧ Below w6.heap.size w6 w8 ∧ Below w3.heap.size w3 w8 ∧ Below w.heap.size w w8) := ⟨ag_next HB7.out hb8, ag_next HZ.out.2 (ag_next HB7.out hb8), ag_next HB6w.out.2 (ag_next HZ.out.2 (ag_next HB7.out hb8)), ag_next HB6w.out.1 (ag_next HZ.out.2 (ag_next HB7.out hb8))⟩
      clear hb8 HB7 HTP c1 c2 c3 c4 HFB6
      have HL8 : Hid (Nts w8 aC cn ∧ I8s w8 (some ⟨Fu, 0, none⟩) fl) := ⟨HCo.out w8 HB8.out.2.1, HZ.out.1.below HB8.out.1⟩
      clear HZ HCo HB6w
      have hab : (AA = true ∧ BB = true) ∨ (AA = false ∧ BB = true) ∨ (AA = false ∧ BB = false) := by
        have := HBK2.out.1
        cases AA <;> cases BB <;> simp_all
      rcases hab with ⟨rfl, rfl⟩ | ⟨rfl, rfl⟩ | ⟨rfl, rfl⟩
      · go_wp2_with fail
        refine (HLf.out w8 aC cC (some ⟨Fu, 0, none⟩) k HB8.out.2.2.1 HL8.out.1 HL8.out.2).mono ?_
        rintro e w9 ⟨Ib, bs, rfl, hb9, hbl, hbls, hrd⟩
        have HB9 : Hid (Below w8.heap.size w8 w9 ∧ Below w3.heap.size w3 w9 ∧ bs.length = qi ∧ Bls w9 (some ⟨Ib, 0, none⟩) bs ∧ Rd ns cn fl bs) := ⟨hb9, ag_next HB8.out.2.2.1 hb9, hbl, hbls, hrd⟩
        clear hb9 hbl hbls hrd HLf
        go_wp2_with fail
        refine (HFl.out w9 Ib bs HB9.out.2.1 HB9.out.2.2.1 HB9.out.2.2.2.1).mono ?_
        rintro e w10 ⟨aM, cM, rfl, hb10, hfi⟩
        have HB10 : Hid (Below w9.heap.size w9 w10 ∧ I8s w10 aM (fillN ns bs cn)) := ⟨hb10, hfi⟩
        clear hb10 hfi HFl
        go_wp2_with fail
        refine (HEv.out w10 Ib bs (ag_next HB9.out.2.1 HB10.out.1) HB9.out.2.2.1 (HB9.out.2.2.2.1.below HB10.out.1)).mono ?_
        rintro e w11 ⟨aV, cV, rfl, hb11, hv⟩
        have HB11 : Hid (Below w.heap.size w w11 ∧ I8s w11 (some ⟨Fu, 0, none⟩) fl ∧ I8s w11 aM (fillN ns bs cn)) := ⟨ag_next HB8.out.2.2.2 (ag_next HB9.out.1 (ag_next HB10.out.1 hb11)), HL8.out.2.below (ag_next HB9.out.1 (ag_next HB10.out.1 hb11)), HB10.out.2.below hb11⟩
        have HBl : Hid (Bls w11 aV (ls.map (litV (evs (fun i => bs.getD i false) ns))) ∧ (ls.map (litV (evs (fun i => bs.getD i false) ns))).length = n2) := ⟨hv, HMl.out bs⟩
        have HBk := HBK2.out.2 bs HB9.out.2.2.2.2
        have HTr : Hid ((ls.map (litV (evs (fun i => bs.getD i false) ns))).all id = true) := HBk.2 (by first | trivial | rfl)
        have HSr : Hid (I8s w11 aM fl) := by have h9 := HB11.out.2.2; rw [HBk.1 (by first | trivial | rfl)] at h9; exact h9
        clear HBk HBK2 hb11 hv HB9 HB10 HL8 HB8 HEv HMl
        generalize ls.map (litV (evs (fun i => bs.getD i false) ns)) = bl at *
        go_wp2_with (go_at_call 9; refine (HNo.out _).mono ?_; rintro e w' ⟨rfl, hw⟩; obtain rfl := hw.symm)
        go_loopg [28] n2 (fun gk s28 wr => ∃ n : Nat, s28 = .int .i64 (n : Int) ∧ n + gk = n2 ∧ wr = w11)
        case atStart => exact ⟨0, rfl, by omega, rfl⟩
        case round =>
          obtain ⟨n, rfl, hn9, rfl⟩ := hrel
          by_cases hlt2 : n < n2
          · have q4 : (n : Int) < (n2 : Int) := by omega
            obtain ⟨b, off, rfl, hb, hcc⟩ := HBl.out.1 (by rw [HBl.out.2]; omega)
            have cj := hcc n (by rw [HBl.out.2]; exact hlt2)
            have ct : bl.getD n false = true := by
              have h9 := List.all_eq_true.1 HTr.out (bl.getD n false) (by rw [List.getD_eq_getElem?_getD, List.getElem?_eq_getElem (by rw [HBl.out.2]; exact hlt2)]; exact List.getElem_mem _)
              exact h9
            rw [ct] at cj
            clear hcc ct
            go_wp2_with fail
            go_roundg (gk - 1)
            case measure => omega
            case rel => exact ⟨n + 1, by simp, by omega, rfl⟩
          · obtain rfl : n = n2 := by omega
            have q4 : ¬ (n : Int) < (n : Int) := by omega
            have HSR : Hid (Calls Try.prog 15 #[.slice (some ⟨Fu, 0, none⟩) k k, .slice aM k cM] wr fun e w' => e = .returned (.bool true) ∧ Below wr.heap.size wr w') := by
              have h5 := sameRow_eq wr (some ⟨Fu, 0, none⟩) aM k cM fl HB11.out.2.1 HSr.out (by rw [hfll.out]; omega)
              rw [hfll.out] at h5
              refine h5.mono ?_
              rintro e w' ⟨rfl, d, rfl⟩
              exact ⟨rfl, drw_bel _ _⟩
            go_wp2_with fail
            refine HSR.out.mono ?_
            rintro e w12 ⟨rfl, hb12⟩
            have HE : Hid (Below w.heap.size w w12) := ag_next HB11.out.1 hb12
            clear hb12
            go_wp2
            go_ret
            exact ⟨rfl, HE.out⟩
      · go_wp2_with fail
        refine (HLf.out w8 aC cC (some ⟨Fu, 0, none⟩) k HB8.out.2.2.1 HL8.out.1 HL8.out.2).mono ?_
        rintro e w9 ⟨Ib, bs, rfl, hb9, hbl, hbls, hrd⟩
        have HB9 : Hid (Below w8.heap.size w8 w9 ∧ Below w3.heap.size w3 w9 ∧ bs.length = qi ∧ Bls w9 (some ⟨Ib, 0, none⟩) bs ∧ Rd ns cn fl bs) := ⟨hb9, ag_next HB8.out.2.2.1 hb9, hbl, hbls, hrd⟩
        clear hb9 hbl hbls hrd HLf
        go_wp2_with fail
        refine (HFl.out w9 Ib bs HB9.out.2.1 HB9.out.2.2.1 HB9.out.2.2.2.1).mono ?_
        rintro e w10 ⟨aM, cM, rfl, hb10, hfi⟩
        have HB10 : Hid (Below w9.heap.size w9 w10 ∧ I8s w10 aM (fillN ns bs cn)) := ⟨hb10, hfi⟩
        clear hb10 hfi HFl
        go_wp2_with fail
        refine (HEv.out w10 Ib bs (ag_next HB9.out.2.1 HB10.out.1) HB9.out.2.2.1 (HB9.out.2.2.2.1.below HB10.out.1)).mono ?_
        rintro e w11 ⟨aV, cV, rfl, hb11, hv⟩
        have HB11 : Hid (Below w.heap.size w w11 ∧ I8s w11 (some ⟨Fu, 0, none⟩) fl ∧ I8s w11 aM (fillN ns bs cn)) := ⟨ag_next HB8.out.2.2.2 (ag_next HB9.out.1 (ag_next HB10.out.1 hb11)), HL8.out.2.below (ag_next HB9.out.1 (ag_next HB10.out.1 hb11)), HB10.out.2.below hb11⟩
        have HBl : Hid (Bls w11 aV (ls.map (litV (evs (fun i => bs.getD i false) ns))) ∧ (ls.map (litV (evs (fun i => bs.getD i false) ns))).length = n2) := ⟨hv, HMl.out bs⟩
        have HBk := HBK2.out.2 bs HB9.out.2.2.2.2
        have HTr : Hid ((ls.map (litV (evs (fun i => bs.getD i false) ns))).all id = true) := HBk.2 (by first | trivial | rfl)
        clear HBk HBK2 hb11 hv HB9 HB10 HL8 HB8 HEv HMl
        generalize ls.map (litV (evs (fun i => bs.getD i false) ns)) = bl at *
        go_wp2_with (go_at_call 9; refine (HNo.out _).mono ?_; rintro e w' ⟨rfl, hw⟩; obtain rfl := hw.symm)
        go_loopg [28] n2 (fun gk s28 wr => ∃ n : Nat, s28 = .int .i64 (n : Int) ∧ n + gk = n2 ∧ wr = w11)
        case atStart => exact ⟨0, rfl, by omega, rfl⟩
        case round =>
          obtain ⟨n, rfl, hn9, rfl⟩ := hrel
          by_cases hlt2 : n < n2
          · have q4 : (n : Int) < (n2 : Int) := by omega
            obtain ⟨b, off, rfl, hb, hcc⟩ := HBl.out.1 (by rw [HBl.out.2]; omega)
            have cj := hcc n (by rw [HBl.out.2]; exact hlt2)
            have ct : bl.getD n false = true := by
              have h9 := List.all_eq_true.1 HTr.out (bl.getD n false) (by rw [List.getD_eq_getElem?_getD, List.getElem?_eq_getElem (by rw [HBl.out.2]; exact hlt2)]; exact List.getElem_mem _)
              exact h9
            rw [ct] at cj
            clear hcc ct
            go_wp2_with fail
            go_roundg (gk - 1)
            case measure => omega
            case rel => exact ⟨n + 1, by simp, by omega, rfl⟩
          · obtain rfl : n = n2 := by omega
            have q4 : ¬ (n : Int) < (n : Int) := by omega
            have HE : Hid (Below w.heap.size w wr) := HB11.out.1
            go_wp2
            go_ret
            exact ⟨rfl, HE.out⟩
      · go_wp2_with fail
        refine (HLf.out w8 aC cC (some ⟨Fu, 0, none⟩) k HB8.out.2.2.1 HL8.out.1 HL8.out.2).mono ?_
        rintro e w9 ⟨Ib, bs, rfl, hb9, hbl, hbls, hrd⟩
        have HB9 : Hid (Below w8.heap.size w8 w9 ∧ Below w3.heap.size w3 w9 ∧ bs.length = qi ∧ Bls w9 (some ⟨Ib, 0, none⟩) bs ∧ Rd ns cn fl bs) := ⟨hb9, ag_next HB8.out.2.2.1 hb9, hbl, hbls, hrd⟩
        clear hb9 hbl hbls hrd HLf
        go_wp2_with fail
        refine (HFl.out w9 Ib bs HB9.out.2.1 HB9.out.2.2.1 HB9.out.2.2.2.1).mono ?_
        rintro e w10 ⟨aM, cM, rfl, hb10, hfi⟩
        have HB10 : Hid (Below w9.heap.size w9 w10 ∧ I8s w10 aM (fillN ns bs cn)) := ⟨hb10, hfi⟩
        clear hb10 hfi HFl
        go_wp2_with fail
        refine (HEv.out w10 Ib bs (ag_next HB9.out.2.1 HB10.out.1) HB9.out.2.2.1 (HB9.out.2.2.2.1.below HB10.out.1)).mono ?_
        rintro e w11 ⟨aV, cV, rfl, hb11, hv⟩
        have HB11 : Hid (Below w.heap.size w w11 ∧ I8s w11 (some ⟨Fu, 0, none⟩) fl ∧ I8s w11 aM (fillN ns bs cn)) := ⟨ag_next HB8.out.2.2.2 (ag_next HB9.out.1 (ag_next HB10.out.1 hb11)), HL8.out.2.below (ag_next HB9.out.1 (ag_next HB10.out.1 hb11)), HB10.out.2.below hb11⟩
        have HBl : Hid (Bls w11 aV (ls.map (litV (evs (fun i => bs.getD i false) ns))) ∧ (ls.map (litV (evs (fun i => bs.getD i false) ns))).length = n2) := ⟨hv, HMl.out bs⟩
        have HBk := HBK2.out.2 bs HB9.out.2.2.2.2
        clear HBk HBK2 hb11 hv HB9 HB10 HL8 HB8 HEv HMl
        generalize ls.map (litV (evs (fun i => bs.getD i false) ns)) = bl at *
        go_wp2_with (go_at_call 9; refine (HNo.out _).mono ?_; rintro e w' ⟨rfl, hw⟩; obtain rfl := hw.symm)
        go_loopg [28] n2 (fun gk s28 wr => ∃ n : Nat, s28 = .int .i64 (n : Int) ∧ n + gk = n2 ∧ wr = w11)
        case atStart => exact ⟨0, rfl, by omega, rfl⟩
        case round =>
          obtain ⟨n, rfl, hn9, rfl⟩ := hrel
          by_cases hlt2 : n < n2
          · have q4 : (n : Int) < (n2 : Int) := by omega
            go_wp2_with fail
            go_roundg (gk - 1)
            case measure => omega
            case rel => exact ⟨n + 1, by simp, by omega, rfl⟩
          · obtain rfl : n = n2 := by omega
            have q4 : ¬ (n : Int) < (n : Int) := by omega
            have HE : Hid (Below w.heap.size w wr) := HB11.out.1
            go_wp2
            go_ret
            exact ⟨rfl, HE.out⟩
end Go.Proofs.Ytbkkdoehggkecaa
