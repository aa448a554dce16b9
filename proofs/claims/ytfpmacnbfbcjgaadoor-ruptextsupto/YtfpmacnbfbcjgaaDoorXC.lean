import Derived.Test.YtfpmacnbfbcjgaaDoorXB
namespace Go.Proofs.YtfpmacnbfbcjgaaDoor
open Go.ChangeShapes Go.WideShapes Go.ChangeAt Go.RowKit Go.Lib

theorem own_below {w w' : World} {B e n : Nat} {v : Value} {L : List Value} (h : w.ownsRow B e 1 v n L) (hb : Below w.heap.size w w') : w'.ownsRow B e 1 v n L := by
  refine ⟨h.1, ?_⟩
  rcases h.2 with h0 | ⟨g, cap, cur, h1, h2, h3, h4⟩
  · exact Or.inl h0
  · exact Or.inr ⟨g, cap, cur, h1, h2, by rw [hb.block g (Array.getElem?_eq_some_iff.1 h3).1]; exact h3, h4⟩
set_option maxHeartbeats 8000000 in
set_option maxRecDepth 100000 in
theorem rtext_any (ad : Option Addr) (ps : List (Bool × List Int)) (c : Nat) (w : World) (h : Stp w ad ps) (hd : SBd ps) :
    Calls Tryd.prog 7 #[.slice ad ps.length c] w fun e w' => e = .returned (.string ⟨(txtS ps).toArray⟩) ∧ Below w.heap.size w w' := by
  have HI : Hid (Stp w ad ps) := h
  have HLn : Hid (∀ k, (txtS (ps.take k)).length ≤ 24189260005376) := hd.txt
  have HEa : Hid (∀ s ∈ ps, s.2.length ≤ 1048576 ∧ ∀ x ∈ s.2, -9223372036854775808 ≤ x ∧ x ≤ 9223372036854775807) := hd.each
  have hl := hd.len
  obtain ⟨i0, hi, hz0, hz1, hz2⟩ := info_parts Tryd.info5
  have HNI : Hid (w.ownsRow w.heap.size 5 1 (.slice none 0 0) (txtS (ps.take 0)).length (Lib.byteCells (txtS (ps.take 0)))) := World.ownsRow_nil _ _ _ _
  clear h hd
  generalize hn : ps.length = n at *
  have HL : Hid (ps.length = n) := hn
  have HF : Hid (txtS ps = txtS (ps.take n)) := by show _ = _; rw [← hn, List.take_length]
  clear hn
  go_enter Tryd.func7, Tryd.ntmps7
  go_wp2_with fail
  go_loopg [3, 4] n (fun gk v i wr => ∃ k : Nat, i = .int .i64 k ∧ k + gk = n ∧ Aside (wr.ownsRow w.heap.size 5 1 v (txtS (ps.take k)).length (Lib.byteCells (txtS (ps.take k))) ∧ Below w.heap.size w wr))
  case atStart => exact ⟨0, rfl, by omega, HNI.out, Below.refl _ _⟩
  case round =>
    clear HNI
    obtain ⟨k, rfl, hk, HO⟩ := hrel
    by_cases hlt : k < n
    · obtain ⟨b, off, rfl, hb, hc⟩ := HI.out (by rw [HL.out]; omega)
      obtain ⟨aj, cj, c0, c1, hij⟩ := hc k (by rw [HL.out]; exact hlt)
      have hmem : ps.getD k (false, []) ∈ ps := by rw [getD_of _ _ _ (by rw [HL.out]; exact hlt)]; exact List.getElem_mem _
      have hea := HEa.out _ hmem
      have HX : Hid (txtS (ps.take (k + 1)) = txtS (ps.take k) ++ stT (ps.getD k (false, []))) := by
        show txtS (ps.take (k + 1)) = _
        rw [takeS ps k (by rw [HL.out]; exact hlt), txtS_snoc]
      have hlen := HLn.out k
      have hsz : w.heap.size ≤ wr.heap.size := HO.out.2.size
      clear hc hmem
      generalize txtS (ps.take k) = pk at *
      obtain ⟨⟨d, C⟩, hs⟩ : ∃ s, ps.getD k (false, []) = s := ⟨_, rfl⟩
      rw [hs] at c0 c1 hij hea HX
      clear hs
      have hcl : C.length ≤ 1048576 := hea.1
      have HIJ : Hid (Ints w aj C) := hij
      have HEC : Hid (∀ x ∈ C, -9223372036854775808 ≤ x ∧ x ≤ 9223372036854775807) := hea.2
      have HTL : Hid (∀ j, (txtL (C.take j)).length ≤ 23068672) := fun j => by
        have h1 := txtL_len (C.take j) (fun x hx => HEC.out x (List.mem_of_mem_take hx))
        rw [List.length_take] at h1
        omega
      have HC0 : Hid (∀ W, Below w.heap.size w W → W.cell? ⟨b, off + k * 2, none⟩ = some (.bool d) ∧ W.cell? ⟨b, off + k * 2 + 1, none⟩ = some (.slice aj C.length cj)) := fun W hW => ⟨(hW.cell (p := ⟨b, off + k * 2, none⟩) hb).trans c0, (hW.cell (p := ⟨b, off + k * 2 + 1, none⟩) hb).trans c1⟩
      have q1 : (k : Int) < (n : Int) := by omega
      have c0' := (HC0.out wr HO.out.2).1
      have c1' := (HC0.out wr HO.out.2).2
      clear hij hea c0 c1 hb HI
      obtain ⟨pre, hpre⟩ : ∃ pre, pk ++ (if d = true then [100, 32] else []) = pre := ⟨_, rfl⟩
      have HX3 : Hid (txtS (ps.take (k + 1)) = pre ++ txtL (C.take C.length) ++ [48, 10]) := by
        show txtS (ps.take (k + 1)) = _
        rw [HX.out, ← hpre, List.take_length]
        unfold stT
        simp
      have hprl : pre.length ≤ 24189260005378 := by rw [← hpre, List.length_append]; split <;> simp <;> omega
      cases d with
      | true =>
        go_wp2_with (at_builtin; refine wpList_append_own_string _ rfl _ _ 35 9 rfl w.heap.size 5 i0 Tryd.underlying35 Tryd.underlying9 hi hz0 hz1 hz2 _ _ _ rfl HO.out.1 ⟨#[100, 32]⟩ rfl (show pk.length + 2 ≤ maxLen by unfold maxLen; omega) (show pk.length + 2 ≤ 140737488355328 by omega) hsz ?_; intro v1 w1 hown1 hgrow1 hnil1; have HP : Hid (w1.ownsRow w.heap.size 5 1 v1 pre.length (Lib.byteCells pre) ∧ Below w.heap.size w w1) := ⟨by rw [← hpre, if_pos rfl, List.length_append, byteCells_append]; exact hown1, below_str HO.out.2 hsz HO.out.1 hgrow1⟩; clear hown1 hgrow1 hnil1; refine Hid.out ?_)
        refine Lib.hid ?_
        have c2' := (HC0.out w1 HP.out.2).2
        clear c0' c1'
        have HP0 : Hid (w1.ownsRow w.heap.size 5 1 v1 (pre ++ txtL (C.take 0)).length (Lib.byteCells (pre ++ txtL (C.take 0))) ∧ Below w.heap.size w w1) := ⟨by rw [List.take_zero, show txtL [] = [] from rfl, List.append_nil]; exact HP.out.1, HP.out.2⟩
        clear HP HX hpre HO
        obtain ⟨m, hm⟩ : ∃ m, C.length = m := ⟨_, rfl⟩
        have HM : Hid (C.length = m) := hm
        rw [hm] at hcl HC0 HX3 c2'
        clear hm
        go_wp2_with fail
        go_loopg [3, 5] m (fun gj v i wr2 => ∃ j : Nat, i = .int .i64 j ∧ j + gj = m ∧ Aside (wr2.ownsRow w.heap.size 5 1 v (pre ++ txtL (C.take j)).length (Lib.byteCells (pre ++ txtL (C.take j))) ∧ Below w.heap.size w wr2))
        case atStart => exact ⟨0, rfl, by omega, HP0.out⟩
        case round =>
          obtain ⟨j, rfl, hj, HQ⟩ := hrel
          clear HP0
          have d1 := (HC0.out _ HQ.out.2).2
          by_cases hjm : j < m
          · obtain ⟨b2, o2, rfl, hb2, hc2⟩ := (HIJ.out.below HQ.out.2) (by rw [HM.out]; omega)
            have d2 := hc2 j (by rw [HM.out]; exact hjm)
            have hmem : C.getD j 0 ∈ C := getD_mem (by rw [HM.out]; exact hjm)
            have hex := HEC.out _ hmem
            have HXJ : Hid (C.take (j + 1) = C.take j ++ [C.getD j 0]) := take_succ_getD C j (by rw [HM.out]; exact hjm)
            clear hc2 hmem
            have htl := HTL.out j
            obtain ⟨x, hx⟩ : ∃ x, C.getD j 0 = x := ⟨_, rfl⟩
            rw [hx] at d2 hex HXJ
            clear hx
            have HNU : Hid (Calls Tryd.prog 12 #[.int .i64 x] wr fun e w' => e = .returned (.string ⟨(itoa x).toArray⟩) ∧ Below wr.heap.size wr w') := number_any x wr hex.1 hex.2
            have hil := itoa_length_le x hex.1 hex.2
            have q2 : (j : Int) < (m : Int) := by omega
            have HXK : Hid (pre ++ txtL (C.take (j + 1)) = pre ++ txtL (C.take j) ++ itoa x ++ [32]) := by
              show pre ++ txtL (C.take (j + 1)) = _
              rw [HXJ.out, txtL_snoc]
              simp
            have hpl : (pre ++ txtL (C.take j)).length ≤ 24189290000000 := by rw [List.length_append]; omega
            clear HXJ htl
            generalize pre ++ txtL (C.take j) = pj at *
            go_wp2_with fail
            refine HNU.out.mono ?_
            rintro e w1 ⟨rfl, hb1⟩
            have HB1 : Hid (Below w.heap.size w w1) := HQ.out.2.trans (hb1.mono HQ.out.2.size)
            have HO1 : Hid (w1.ownsRow w.heap.size 5 1 u3 pj.length (Lib.byteCells pj)) := own_below HQ.out.1 hb1
            clear hb1 HQ HNU
            generalize itoa x = I at *
            have hIs : (⟨I.toArray⟩ : ByteArray).size = I.length := rfl
            go_wp2_with (at_builtin; refine wpList_append_own_string _ rfl _ _ 35 9 rfl w.heap.size 5 i0 Tryd.underlying35 Tryd.underlying9 hi hz0 hz1 hz2 _ _ _ rfl HO1.out ⟨I.toArray⟩ rfl (show pj.length + I.length ≤ maxLen by unfold maxLen; omega) (show pj.length + I.length ≤ 140737488355328 by omega) HB1.out.size ?_; intro v2 w2 hown2 hgrow2 hnil2; have HO2 : Hid (w2.ownsRow w.heap.size 5 1 v2 (pj ++ I).length (Lib.byteCells (pj ++ I)) ∧ Below w.heap.size w w2) := ⟨by rw [List.length_append, byteCells_append]; exact hown2, below_str HB1.out HB1.out.size HO1.out hgrow2⟩; clear hown2 hgrow2 hnil2; refine Hid.out ?_)
            refine Lib.hid ?_
            have hp2 : (pj ++ I).length ≤ 24189290000100 := by rw [List.length_append]; omega
            have hsz2 : w.heap.size ≤ w2.heap.size := HO2.out.2.size
            clear HO1 HB1
            generalize pj ++ I = pi at *
            go_wp2_with (at_builtin; refine wpList_append_own _ rfl _ _ 35 rfl w.heap.size 5 i0 (.int .u8 0) 1 1 Tryd.underlying35 hi hz0 hz1 hz2 rfl (by decide) _ _ _ rfl (HO2.out.1.alloc _) ⟨w2.heap.size, 0, none⟩ 1 1 [.int .u8 32] rfl rfl (cell_one_new _ _ _) (ints_oneCell .u8 [32]) (by unfold maxLen; omega) (by omega) (by simp; omega) ?_; intro v3 w3 hown3 hgrow3 hnil3; have HO3 : Aside (w3.ownsRow w.heap.size 5 1 v3 (pi ++ [32]).length (Lib.byteCells (pi ++ [32])) ∧ Below w.heap.size w w3) := ⟨by rw [List.length_append, byteCells_append]; exact hown3, below_append HO2.out.2 hsz2 HO2.out.1 hgrow3⟩; clear hown3 hgrow3 hnil3)
            go_roundg (gk - 1)
            case measure => omega
            case rel =>
              refine ⟨j + 1, by simp, by omega, ?_⟩
              rw [HXK.out]
              exact HO3
          · obtain rfl : j = m := by omega
            have htl := HTL.out j
            have hpl : (pre ++ txtL (C.take j)).length ≤ 24189290000000 := by rw [List.length_append]; omega
            clear htl
            generalize pre ++ txtL (C.take j) = pj at *
            go_wp2_with (at_builtin; refine wpList_append_own_string _ rfl _ _ 35 9 rfl w.heap.size 5 i0 Tryd.underlying35 Tryd.underlying9 hi hz0 hz1 hz2 _ _ _ rfl HQ.out.1 ⟨#[48, 10]⟩ rfl (show pj.length + 2 ≤ maxLen by unfold maxLen; omega) (show pj.length + 2 ≤ 140737488355328 by omega) HQ.out.2.size ?_; intro v3 w3 hown3 hgrow3 hnil3; have HO3 : Aside (w3.ownsRow w.heap.size 5 1 v3 (pj ++ [48, 10]).length (Lib.byteCells (pj ++ [48, 10])) ∧ Below w.heap.size w w3) := ⟨by rw [List.length_append, byteCells_append]; exact hown3, below_str HQ.out.2 HQ.out.2.size HQ.out.1 hgrow3⟩; clear hown3 hgrow3 hnil3)
            go_roundg (n - k - 1)
            case measure => omega
            case rel =>
              refine ⟨k + 1, by simp, by omega, ?_⟩
              rw [HX3.out]
              exact HO3
      | false =>
        have HP : Hid (wr.ownsRow w.heap.size 5 1 u3 pre.length (Lib.byteCells pre) ∧ Below w.heap.size w wr) := ⟨by rw [← hpre, if_neg (by decide), List.append_nil]; exact HO.out.1, HO.out.2⟩
        have HP0 : Hid (wr.ownsRow w.heap.size 5 1 u3 (pre ++ txtL (C.take 0)).length (Lib.byteCells (pre ++ txtL (C.take 0))) ∧ Below w.heap.size w wr) := ⟨by rw [List.take_zero, show txtL [] = [] from rfl, List.append_nil]; exact HP.out.1, HP.out.2⟩
        clear HP HX hpre HO
        obtain ⟨m, hm⟩ : ∃ m, C.length = m := ⟨_, rfl⟩
        have HM : Hid (C.length = m) := hm
        rw [hm] at hcl HC0 HX3 c1'
        clear hm
        go_wp2_with fail
        go_loopg [3, 5] m (fun gj v i wr2 => ∃ j : Nat, i = .int .i64 j ∧ j + gj = m ∧ Aside (wr2.ownsRow w.heap.size 5 1 v (pre ++ txtL (C.take j)).length (Lib.byteCells (pre ++ txtL (C.take j))) ∧ Below w.heap.size w wr2))
        case atStart => exact ⟨0, rfl, by omega, HP0.out⟩
        case round =>
          obtain ⟨j, rfl, hj, HQ⟩ := hrel
          clear HP0
          have d1 := (HC0.out _ HQ.out.2).2
          by_cases hjm : j < m
          · obtain ⟨b2, o2, rfl, hb2, hc2⟩ := (HIJ.out.below HQ.out.2) (by rw [HM.out]; omega)
            have d2 := hc2 j (by rw [HM.out]; exact hjm)
            have hmem : C.getD j 0 ∈ C := getD_mem (by rw [HM.out]; exact hjm)
            have hex := HEC.out _ hmem
            have HXJ : Hid (C.take (j + 1) = C.take j ++ [C.getD j 0]) := take_succ_getD C j (by rw [HM.out]; exact hjm)
            clear hc2 hmem
            have htl := HTL.out j
            obtain ⟨x, hx⟩ : ∃ x, C.getD j 0 = x := ⟨_, rfl⟩
            rw [hx] at d2 hex HXJ
            clear hx
            have HNU : Hid (Calls Tryd.prog 12 #[.int .i64 x] wr fun e w' => e = .returned (.string ⟨(itoa x).toArray⟩) ∧ Below wr.heap.size wr w') := number_any x wr hex.1 hex.2
            have hil := itoa_length_le x hex.1 hex.2
            have q2 : (j : Int) < (m : Int) := by omega
            have HXK : Hid (pre ++ txtL (C.take (j + 1)) = pre ++ txtL (C.take j) ++ itoa x ++ [32]) := by
              show pre ++ txtL (C.take (j + 1)) = _
              rw [HXJ.out, txtL_snoc]
              simp
            have hpl : (pre ++ txtL (C.take j)).length ≤ 24189290000000 := by rw [List.length_append]; omega
            clear HXJ htl
            generalize pre ++ txtL (C.take j) = pj at *
            go_wp2_with fail
            refine HNU.out.mono ?_
            rintro e w1 ⟨rfl, hb1⟩
            have HB1 : Hid (Below w.heap.size w w1) := HQ.out.2.trans (hb1.mono HQ.out.2.size)
            have HO1 : Hid (w1.ownsRow w.heap.size 5 1 u3 pj.length (Lib.byteCells pj)) := own_below HQ.out.1 hb1
            clear hb1 HQ HNU
            generalize itoa x = I at *
            have hIs : (⟨I.toArray⟩ : ByteArray).size = I.length := rfl
            go_wp2_with (at_builtin; refine wpList_append_own_string _ rfl _ _ 35 9 rfl w.heap.size 5 i0 Tryd.underlying35 Tryd.underlying9 hi hz0 hz1 hz2 _ _ _ rfl HO1.out ⟨I.toArray⟩ rfl (show pj.length + I.length ≤ maxLen by unfold maxLen; omega) (show pj.length + I.length ≤ 140737488355328 by omega) HB1.out.size ?_; intro v2 w2 hown2 hgrow2 hnil2; have HO2 : Hid (w2.ownsRow w.heap.size 5 1 v2 (pj ++ I).length (Lib.byteCells (pj ++ I)) ∧ Below w.heap.size w w2) := ⟨by rw [List.length_append, byteCells_append]; exact hown2, below_str HB1.out HB1.out.size HO1.out hgrow2⟩; clear hown2 hgrow2 hnil2; refine Hid.out ?_)
            refine Lib.hid ?_
            have hp2 : (pj ++ I).length ≤ 24189290000100 := by rw [List.length_append]; omega
            have hsz2 : w.heap.size ≤ w2.heap.size := HO2.out.2.size
            clear HO1 HB1
            generalize pj ++ I = pi at *
            go_wp2_with (at_builtin; refine wpList_append_own _ rfl _ _ 35 rfl w.heap.size 5 i0 (.int .u8 0) 1 1 Tryd.underlying35 hi hz0 hz1 hz2 rfl (by decide) _ _ _ rfl (HO2.out.1.alloc _) ⟨w2.heap.size, 0, none⟩ 1 1 [.int .u8 32] rfl rfl (cell_one_new _ _ _) (ints_oneCell .u8 [32]) (by unfold maxLen; omega) (by omega) (by simp; omega) ?_; intro v3 w3 hown3 hgrow3 hnil3; have HO3 : Aside (w3.ownsRow w.heap.size 5 1 v3 (pi ++ [32]).length (Lib.byteCells (pi ++ [32])) ∧ Below w.heap.size w w3) := ⟨by rw [List.length_append, byteCells_append]; exact hown3, below_append HO2.out.2 hsz2 HO2.out.1 hgrow3⟩; clear hown3 hgrow3 hnil3)
            go_roundg (gk - 1)
            case measure => omega
            case rel =>
              refine ⟨j + 1, by simp, by omega, ?_⟩
              rw [HXK.out]
              exact HO3
          · obtain rfl : j = m := by omega
            have htl := HTL.out j
            have hpl : (pre ++ txtL (C.take j)).length ≤ 24189290000000 := by rw [List.length_append]; omega
            clear htl
            generalize pre ++ txtL (C.take j) = pj at *
            go_wp2_with (at_builtin; refine wpList_append_own_string _ rfl _ _ 35 9 rfl w.heap.size 5 i0 Tryd.underlying35 Tryd.underlying9 hi hz0 hz1 hz2 _ _ _ rfl HQ.out.1 ⟨#[48, 10]⟩ rfl (show pj.length + 2 ≤ maxLen by unfold maxLen; omega) (show pj.length + 2 ≤ 140737488355328 by omega) HQ.out.2.size ?_; intro v3 w3 hown3 hgrow3 hnil3; have HO3 : Aside (w3.ownsRow w.heap.size 5 1 v3 (pj ++ [48, 10]).length (Lib.byteCells (pj ++ [48, 10])) ∧ Below w.heap.size w w3) := ⟨by rw [List.length_append, byteCells_append]; exact hown3, below_str HQ.out.2 HQ.out.2.size HQ.out.1 hgrow3⟩; clear hown3 hgrow3 hnil3)
            go_roundg (n - k - 1)
            case measure => omega
            case rel =>
              refine ⟨k + 1, by simp, by omega, ?_⟩
              rw [HX3.out]
              exact HO3
    · obtain rfl : k = n := by omega
      have hcv := conv_text HO.out.1
      have HB : Hid (Below w.heap.size w wr) := HO.out.2
      rw [← HF.out] at hcv
      clear HO
      go_wp2
      go_ret
      exact ⟨rfl, HB.out⟩
end Go.Proofs.YtfpmacnbfbcjgaaDoor
