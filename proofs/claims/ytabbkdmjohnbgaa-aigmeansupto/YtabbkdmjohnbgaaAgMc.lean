import Derived.Test.YtabbkdmjohnbgaaAgMb
namespace Go.Proofs.Ytabbkdmjohnbgaa
open Go.ChangeShapes Go.WideShapes Go.ChangeAt Go.RowKit Go.Lib Go.Ag Go.WideMaps Go.Maps Go.ChangeMaps Go.Cn

/-- the values so far, in a row of their own -/
structure WN (w0 : World) (V : List Bool) (vV : Value) (w : World) : Prop where
  row : w.ownsRow w0.heap.size 4 1 vV V.length (blV V)
  bel : Below w0.heap.size w0 w
theorem WN.over {w0 w w' : World} {V : List Bool} {vV : Value} (h : WN w0 V vV w) (hb : Below w.heap.size w w') : WN w0 V vV w' :=
  ⟨ag_same h.row (fun k hk => hb.block k (h.row.lt k hk).2), ag_next h.bel hb⟩
theorem blV_snoc (l : List Bool) (x : Bool) : blV (l ++ [x]) = blV l ++ [.bool x] := by unfold blV; simp
theorem WN.push {w0 w w4 : World} {V : List Bool} {vV : Value} {x : Bool} {g4 cap4 n : Nat} {ob : Obj} (hn : V.length = n) (h : WN w0 V vV w) (hown : w4.ownsRow w0.heap.size 4 1 (.slice (some ⟨g4, 0, none⟩) (n + 1) cap4) (n + 1) (blV V ++ [.bool x])) (hg : (w.alloc ob).grownBy w4 vV.ownBlock) :
    WN w0 (V ++ [x]) (.slice (some ⟨g4, 0, none⟩) (n + 1) cap4) w4 := by
  subst hn
  have h5 := h.over (ag_bel1 w ob)
  refine ⟨by rw [blV_snoc, List.length_append]; exact hown, ⟨hg.os.trans h5.bel.os, hg.tape.trans h5.bel.tape, hg.output.trans h5.bel.output, Nat.le_trans h5.bel.size hg.size, fun j hj => (hg.block j (Nat.lt_of_lt_of_le hj h5.bel.size) (fun e => by have := (h5.row.lt j e.symm).1; omega)).trans (h5.bel.block j hj)⟩⟩
theorem wantS_snoc (inp : Nat → Bool) (sc : List (Int × Int × Int × Int)) (s : Int × Int × Int × Int) : wantS inp (sc ++ [s]) = wantF inp (wantS inp sc) s := by
  unfold wantS
  rw [List.foldl_append]
  rfl
set_option maxHeartbeats 16000000 in
set_option maxRecDepth 100000 in
theorem want_any (w : World) (ad : Option Addr) (sc : List (Int × Int × Int × Int)) (cp : Nat) (hsc : MDS w ad sc) (hbd : bdM sc) (hn : sc.length ≤ 1048576) (ai : Option Addr) (bs : List Bool) (ci : Nat) (hbs : Bls w ai bs) (hm : bs.length ≤ 1073741824) :
    Calls Try.prog 12 #[.slice ad sc.length cp, .slice ai bs.length ci] w fun e w' => ∃ V vV, e = .returned vV ∧ V = (wantS (fun i => bs.getD i false) sc).1 ∧ V.length = sc.length + 1 ∧ WN w V vV w' := by
  generalize hPP : (fun (e : Ending) (w' : World) => ∃ V vV, e = .returned vV ∧ V = (wantS (fun i => bs.getD i false) sc).1 ∧ V.length = sc.length + 1 ∧ WN w V vV w') = PP
  have HP : Hid (∀ V vV w', V = (wantS (fun i => bs.getD i false) sc).1 → V.length = sc.length + 1 → WN w V vV w' → PP (.returned vV) w') := fun V vV w' h1 h2 h3 => by rw [← hPP]; exact ⟨V, vV, rfl, h1, h2, h3⟩
  have HSC : Aside (MDS w ad sc) := hsc
  have HBd : Aside (bdM sc) := hbd
  have HBs : Aside (Bls w ai bs) := hbs
  clear hPP hsc hbd hbs
  generalize hnn : sc.length = n at *
  have HL : Aside (sc.length = n) := hnn
  clear hnn
  generalize hmm : bs.length = m at *
  have HML : Aside (bs.length = m) := hmm
  clear hmm
  have HM0 : Hid (WN w [false] (.slice (some ⟨w.heap.size, 0, none⟩) 1 1) (w.alloc (.cells #[.bool false] 4))) :=
    ⟨⟨rfl, Or.inr ⟨w.heap.size, 1, #[.bool false], rfl, Nat.le_refl _, heap_alloc_new _ _, Nat.le_refl _, by unfold maxLen; omega, rfl, rfl⟩⟩, ag_bel1 _ _⟩
  obtain ⟨i0, hi, hz0, hz1, hz2⟩ := info_parts (P := Try.prog) (e := 4) (z := .bool false) (size := 1) (bytes := 1) (by kernel_rfl)
  go_enter Try.func12, Try.ntmps12
  go_wp2_with fail
  go_loopg [5, 6, 7] n (fun gk v5 v6 v7 wr => ∃ k V nn vV, v5 = vV ∧ v6 = .int .i64 ((nn : Nat) : Int) ∧ v7 = .int .i64 ((k : Nat) : Int) ∧ k + gk = n ∧ nn ≤ k ∧ Aside (wantS (fun i => bs.getD i false) (sc.take k) = (V, nn)) ∧ Aside (V.length = k + 1) ∧ Aside (WN w V vV wr))
  case atStart => exact ⟨0, [false], 0, _, rfl, rfl, rfl, by omega, by omega, by rw [List.take_zero]; rfl, rfl, HM0.out⟩
  case round =>
    clear HM0
    obtain ⟨k, V, nn, vV, rfl, rfl, rfl, hk, hnk, HT, HVL, HM⟩ := hrel
    obtain ⟨aL, cL, rfl, hcL, haL⟩ := row_form HM.out.row
    by_cases hlt : k < n
    · have q1 : (k : Int) < (n : Int) := by omega
      obtain ⟨b, off, rfl, hbb, hcc⟩ := HSC.out (by rw [HL.out]; omega)
      obtain ⟨c0, c1, c2, c3⟩ := hcc k (by rw [HL.out]; exact hlt)
      have hkp : wr.heap[b]? = w.heap[b]? := HM.out.bel.block b hbb
      rw [← World.cell?_of_block (w' := wr) (a := ⟨b, off + k * 4, none⟩) hkp] at c0
      rw [← World.cell?_of_block (w' := wr) (a := ⟨b, off + k * 4 + 1, none⟩) hkp] at c1
      rw [← World.cell?_of_block (w' := wr) (a := ⟨b, off + k * 4 + 2, none⟩) hkp] at c2
      rw [← World.cell?_of_block (w' := wr) (a := ⟨b, off + k * 4 + 3, none⟩) hkp] at c3
      have hmem : sc.getD k (0, 0, 0, 0) ∈ sc := by rw [List.getD_eq_getElem?_getD, List.getElem?_eq_getElem (by rw [HL.out]; exact hlt)]; exact List.getElem_mem _
      have hb5 := HBd.out _ hmem
      have HT2 : Hid (wantS (fun i => bs.getD i false) (sc.take (k + 1)) = wantF (fun i => bs.getD i false) (V, nn) (sc.getD k (0, 0, 0, 0))) := by
        show _ = _
        rw [List.take_succ_eq_append_getElem (by rw [HL.out]; exact hlt), wantS_snoc, HT.out, List.getD_eq_getElem?_getD, List.getElem?_eq_getElem (by rw [HL.out]; exact hlt)]
        rfl
      clear hcc hmem HT hkp
      generalize sc.getD k (0, 0, 0, 0) = s at *
      obtain ⟨kd, sa, sb, sd⟩ := s
      simp only [] at c0 c1 c2 c3 hb5
      have HT3 : Hid (wantS (fun i => bs.getD i false) (sc.take (k + 1)) = (V ++ [opV kd (valueN V sa) (valueN V sb) (valueN V sd) (bs.getD nn false)], if gateK kd = true then nn else nn + 1)) := HT2.out
      clear HT2
      have HPk : Hid (∀ W i, Below wr.heap.size wr W → (-9223372036854775808 ≤ i ∧ i ≤ 9223372036854775807) → Calls Try.prog 29 #[.slice aL V.length cL, .int .i64 i] W fun e w' => e = .returned (.bool (valueN V i)) ∧ w' = W) := fun W i hW hi => value_any W aL V cL ((bls_of HM.out.row).below hW) (by rw [HVL.out]; omega) (by rw [HVL.out]; omega) i hi
      have hL9 : V.length ≤ 1048577 := by rw [HVL.out]; omega
      have HMb : Hid (WN w V (.slice aL V.length cL) (wr.alloc (.cells #[.int .i64 kd, .int .i64 sa, .int .i64 sb, .int .i64 sd] 63)) ∧ (wr.alloc (.cells #[.int .i64 kd, .int .i64 sa, .int .i64 sb, .int .i64 sd] 63)).heap[wr.heap.size]? = some (.cells #[.int .i64 kd, .int .i64 sa, .int .i64 sb, .int .i64 sd] 63 (0, 0)) ∧ Below wr.heap.size wr (wr.alloc (.cells #[.int .i64 kd, .int .i64 sa, .int .i64 sb, .int .i64 sd] 63))) := ⟨HM.out.over (ag_bel1 _ _), heap_alloc_new _ _, ag_bel1 _ _⟩
      go_wp2_with fail
      generalize hwb9 : wr.alloc (.cells #[.int .i64 kd, .int .i64 sa, .int .i64 sb, .int .i64 sd] 63) = wb at *
      have f0 : wb.cell? ⟨wr.heap.size, 0, none⟩ = some (.int .i64 kd) := ag_cell HMb.out.2.1 0
      have f1 : wb.cell? ⟨wr.heap.size, 1, none⟩ = some (.int .i64 sa) := ag_cell HMb.out.2.1 1
      have f2 : wb.cell? ⟨wr.heap.size, 2, none⟩ = some (.int .i64 sb) := ag_cell HMb.out.2.1 2
      have f3 : wb.cell? ⟨wr.heap.size, 3, none⟩ = some (.int .i64 sd) := ag_cell HMb.out.2.1 3
      clear c0 c1 c2 c3 hwb9
      refine (HPk.out wb sa HMb.out.2.2 hb5.1).mono ?_
      rintro e wn ⟨rfl, hwn⟩; subst wn
      go_wp2_with fail
      refine (HPk.out wb sb HMb.out.2.2 hb5.2.1).mono ?_
      rintro e wn ⟨rfl, hwn⟩; subst wn
      go_wp2_with fail
      refine (HPk.out wb sd HMb.out.2.2 hb5.2.2).mono ?_
      rintro e wn ⟨rfl, hwn⟩; subst wn
      clear HPk hb5 HM
      generalize valueN V sa = pa at *
      generalize valueN V sb = pb at *
      generalize valueN V sd = pc at *
      have HMw : Hid (WN w V (.slice aL V.length cL) wb) := HMb.out.1
      have hww : w.heap.size ≤ wb.heap.size := HMw.out.bel.size
      have HR : Hid (wb.ownsRow w.heap.size 4 1 (.slice aL V.length cL) V.length (blV V)) := HMw.out.row
      by_cases e2 : kd = 2
      · subst kd
        cases pa with
        | true =>
          have HT4 : Hid (wantS (fun i => bs.getD i false) (sc.take (k + 1)) = (V ++ [pb], nn)) := HT3.out.trans (by unfold opV gateK; simp)
          clear HT3 HMb
          go_wp2_with (at_builtin; refine wpList_append_lies _ rfl _ _ 23 rfl w.heap.size 4 i0 (.bool false) 1 1 Try.underlying23 hi hz0 hz1 hz2 rfl (by decide) _ _ _ rfl (HR.out.alloc _) ⟨wb.heap.size, 0, none⟩ 1 1 [.bool (pb)] rfl rfl (one_new _ _ _) (by intro u hu; simp at hu; subst hu; rfl) (by omega) (by unfold maxLen; omega) (by omega) (by simp; omega) (wb.heap.size + 1) (by simp) ?_; intro g5 cap5 w5 hown5 hgrow5 hat5 hlt5; have HM5 : Hid (WN w (V ++ [pb]) (.slice (some ⟨g5, 0, none⟩) (V.length + 1) cap5) w5) := WN.push rfl HMw.out hown5 hgrow5; clear hown5 hgrow5 hat5 hlt5; refine Hid.out ?_)
          refine Lib.hid ?_
          go_wp2_with fail
          go_roundg (n - (k + 1))
          case measure => omega
          case rel => exact ⟨k + 1, V ++ [pb], nn, _, rfl, rfl, by simp, by omega, by omega, HT4.out, by show _ = _; rw [List.length_append, HVL.out]; rfl, HM5.out⟩
        | false =>
          have HT4 : Hid (wantS (fun i => bs.getD i false) (sc.take (k + 1)) = (V ++ [false], nn)) := HT3.out.trans (by unfold opV gateK; simp)
          clear HT3 HMb
          go_wp2_with (at_builtin; refine wpList_append_lies _ rfl _ _ 23 rfl w.heap.size 4 i0 (.bool false) 1 1 Try.underlying23 hi hz0 hz1 hz2 rfl (by decide) _ _ _ rfl (HR.out.alloc _) ⟨wb.heap.size, 0, none⟩ 1 1 [.bool (false)] rfl rfl (one_new _ _ _) (by intro u hu; simp at hu; subst hu; rfl) (by omega) (by unfold maxLen; omega) (by omega) (by simp; omega) (wb.heap.size + 1) (by simp) ?_; intro g5 cap5 w5 hown5 hgrow5 hat5 hlt5; have HM5 : Hid (WN w (V ++ [false]) (.slice (some ⟨g5, 0, none⟩) (V.length + 1) cap5) w5) := WN.push rfl HMw.out hown5 hgrow5; clear hown5 hgrow5 hat5 hlt5; refine Hid.out ?_)
          refine Lib.hid ?_
          go_wp2_with fail
          go_roundg (n - (k + 1))
          case measure => omega
          case rel => exact ⟨k + 1, V ++ [false], nn, _, rfl, rfl, by simp, by omega, by omega, HT4.out, by show _ = _; rw [List.length_append, HVL.out]; rfl, HM5.out⟩
      · have z2 : (kd == 2) = false := by simp; omega
        by_cases e3 : kd = 3
        · subst kd
          cases pa with
          | true =>
            have HT4 : Hid (wantS (fun i => bs.getD i false) (sc.take (k + 1)) = (V ++ [true], nn)) := HT3.out.trans (by unfold opV gateK; simp)
            clear HT3 HMb
            go_wp2_with (at_builtin; refine wpList_append_lies _ rfl _ _ 23 rfl w.heap.size 4 i0 (.bool false) 1 1 Try.underlying23 hi hz0 hz1 hz2 rfl (by decide) _ _ _ rfl (HR.out.alloc _) ⟨wb.heap.size, 0, none⟩ 1 1 [.bool (true)] rfl rfl (one_new _ _ _) (by intro u hu; simp at hu; subst hu; rfl) (by omega) (by unfold maxLen; omega) (by omega) (by simp; omega) (wb.heap.size + 1) (by simp) ?_; intro g5 cap5 w5 hown5 hgrow5 hat5 hlt5; have HM5 : Hid (WN w (V ++ [true]) (.slice (some ⟨g5, 0, none⟩) (V.length + 1) cap5) w5) := WN.push rfl HMw.out hown5 hgrow5; clear hown5 hgrow5 hat5 hlt5; refine Hid.out ?_)
            refine Lib.hid ?_
            go_wp2_with fail
            go_roundg (n - (k + 1))
            case measure => omega
            case rel => exact ⟨k + 1, V ++ [true], nn, _, rfl, rfl, by simp, by omega, by omega, HT4.out, by show _ = _; rw [List.length_append, HVL.out]; rfl, HM5.out⟩
          | false =>
            have HT4 : Hid (wantS (fun i => bs.getD i false) (sc.take (k + 1)) = (V ++ [pb], nn)) := HT3.out.trans (by unfold opV gateK; simp)
            clear HT3 HMb
            go_wp2_with (at_builtin; refine wpList_append_lies _ rfl _ _ 23 rfl w.heap.size 4 i0 (.bool false) 1 1 Try.underlying23 hi hz0 hz1 hz2 rfl (by decide) _ _ _ rfl (HR.out.alloc _) ⟨wb.heap.size, 0, none⟩ 1 1 [.bool (pb)] rfl rfl (one_new _ _ _) (by intro u hu; simp at hu; subst hu; rfl) (by omega) (by unfold maxLen; omega) (by omega) (by simp; omega) (wb.heap.size + 1) (by simp) ?_; intro g5 cap5 w5 hown5 hgrow5 hat5 hlt5; have HM5 : Hid (WN w (V ++ [pb]) (.slice (some ⟨g5, 0, none⟩) (V.length + 1) cap5) w5) := WN.push rfl HMw.out hown5 hgrow5; clear hown5 hgrow5 hat5 hlt5; refine Hid.out ?_)
            refine Lib.hid ?_
            go_wp2_with fail
            go_roundg (n - (k + 1))
            case measure => omega
            case rel => exact ⟨k + 1, V ++ [pb], nn, _, rfl, rfl, by simp, by omega, by omega, HT4.out, by show _ = _; rw [List.length_append, HVL.out]; rfl, HM5.out⟩
        · have z3 : (kd == 3) = false := by simp; omega
          by_cases e4 : kd = 4
          · subst kd
            have HT4 : Hid (wantS (fun i => bs.getD i false) (sc.take (k + 1)) = (V ++ [pa != pb], nn)) := HT3.out.trans (by unfold opV gateK; simp)
            clear HT3 HMb
            go_wp2_with (at_builtin; refine wpList_append_lies _ rfl _ _ 23 rfl w.heap.size 4 i0 (.bool false) 1 1 Try.underlying23 hi hz0 hz1 hz2 rfl (by decide) _ _ _ rfl (HR.out.alloc _) ⟨wb.heap.size, 0, none⟩ 1 1 [.bool (pa != pb)] rfl rfl (one_new _ _ _) (by intro u hu; simp at hu; subst hu; rfl) (by omega) (by unfold maxLen; omega) (by omega) (by simp; omega) (wb.heap.size + 1) (by simp) ?_; intro g5 cap5 w5 hown5 hgrow5 hat5 hlt5; have HM5 : Hid (WN w (V ++ [pa != pb]) (.slice (some ⟨g5, 0, none⟩) (V.length + 1) cap5) w5) := WN.push rfl HMw.out hown5 hgrow5; clear hown5 hgrow5 hat5 hlt5; refine Hid.out ?_)
            refine Lib.hid ?_
            go_wp2_with fail
            go_roundg (n - (k + 1))
            case measure => omega
            case rel => exact ⟨k + 1, V ++ [pa != pb], nn, _, rfl, rfl, by simp, by omega, by omega, HT4.out, by show _ = _; rw [List.length_append, HVL.out]; rfl, HM5.out⟩
          · have z4 : (kd == 4) = false := by simp; omega
            by_cases e5 : kd = 5
            · subst kd
              cases pc with
              | true =>
                have HT4 : Hid (wantS (fun i => bs.getD i false) (sc.take (k + 1)) = (V ++ [pa], nn)) := HT3.out.trans (by unfold opV gateK; simp)
                clear HT3 HMb
                go_wp2_with (at_builtin; refine wpList_append_lies _ rfl _ _ 23 rfl w.heap.size 4 i0 (.bool false) 1 1 Try.underlying23 hi hz0 hz1 hz2 rfl (by decide) _ _ _ rfl (HR.out.alloc _) ⟨wb.heap.size, 0, none⟩ 1 1 [.bool (pa)] rfl rfl (one_new _ _ _) (by intro u hu; simp at hu; subst hu; rfl) (by omega) (by unfold maxLen; omega) (by omega) (by simp; omega) (wb.heap.size + 1) (by simp) ?_; intro g5 cap5 w5 hown5 hgrow5 hat5 hlt5; have HM5 : Hid (WN w (V ++ [pa]) (.slice (some ⟨g5, 0, none⟩) (V.length + 1) cap5) w5) := WN.push rfl HMw.out hown5 hgrow5; clear hown5 hgrow5 hat5 hlt5; refine Hid.out ?_)
                refine Lib.hid ?_
                go_wp2_with fail
                go_roundg (n - (k + 1))
                case measure => omega
                case rel => exact ⟨k + 1, V ++ [pa], nn, _, rfl, rfl, by simp, by omega, by omega, HT4.out, by show _ = _; rw [List.length_append, HVL.out]; rfl, HM5.out⟩
              | false =>
                have HT4 : Hid (wantS (fun i => bs.getD i false) (sc.take (k + 1)) = (V ++ [pb], nn)) := HT3.out.trans (by unfold opV gateK; simp)
                clear HT3 HMb
                go_wp2_with (at_builtin; refine wpList_append_lies _ rfl _ _ 23 rfl w.heap.size 4 i0 (.bool false) 1 1 Try.underlying23 hi hz0 hz1 hz2 rfl (by decide) _ _ _ rfl (HR.out.alloc _) ⟨wb.heap.size, 0, none⟩ 1 1 [.bool (pb)] rfl rfl (one_new _ _ _) (by intro u hu; simp at hu; subst hu; rfl) (by omega) (by unfold maxLen; omega) (by omega) (by simp; omega) (wb.heap.size + 1) (by simp) ?_; intro g5 cap5 w5 hown5 hgrow5 hat5 hlt5; have HM5 : Hid (WN w (V ++ [pb]) (.slice (some ⟨g5, 0, none⟩) (V.length + 1) cap5) w5) := WN.push rfl HMw.out hown5 hgrow5; clear hown5 hgrow5 hat5 hlt5; refine Hid.out ?_)
                refine Lib.hid ?_
                go_wp2_with fail
                go_roundg (n - (k + 1))
                case measure => omega
                case rel => exact ⟨k + 1, V ++ [pb], nn, _, rfl, rfl, by simp, by omega, by omega, HT4.out, by show _ = _; rw [List.length_append, HVL.out]; rfl, HM5.out⟩
            · have z5 : (kd == 5) = false := by simp; omega
              by_cases e6 : kd = 6
              · subst kd
                cases pa with
                | false =>
                  have HT4 : Hid (wantS (fun i => bs.getD i false) (sc.take (k + 1)) = (V ++ [false], nn)) := HT3.out.trans (by unfold opV gateK; simp)
                  clear HT3 HMb
                  go_wp2_with (at_builtin; refine wpList_append_lies _ rfl _ _ 23 rfl w.heap.size 4 i0 (.bool false) 1 1 Try.underlying23 hi hz0 hz1 hz2 rfl (by decide) _ _ _ rfl (HR.out.alloc _) ⟨wb.heap.size, 0, none⟩ 1 1 [.bool (false)] rfl rfl (one_new _ _ _) (by intro u hu; simp at hu; subst hu; rfl) (by omega) (by unfold maxLen; omega) (by omega) (by simp; omega) (wb.heap.size + 1) (by simp) ?_; intro g5 cap5 w5 hown5 hgrow5 hat5 hlt5; have HM5 : Hid (WN w (V ++ [false]) (.slice (some ⟨g5, 0, none⟩) (V.length + 1) cap5) w5) := WN.push rfl HMw.out hown5 hgrow5; clear hown5 hgrow5 hat5 hlt5; refine Hid.out ?_)
                  refine Lib.hid ?_
                  go_wp2_with fail
                  go_roundg (n - (k + 1))
                  case measure => omega
                  case rel => exact ⟨k + 1, V ++ [false], nn, _, rfl, rfl, by simp, by omega, by omega, HT4.out, by show _ = _; rw [List.length_append, HVL.out]; rfl, HM5.out⟩
                | true =>
                  cases pb with
                  | false =>
                    have HT4 : Hid (wantS (fun i => bs.getD i false) (sc.take (k + 1)) = (V ++ [false], nn)) := HT3.out.trans (by unfold opV gateK; simp)
                    clear HT3 HMb
                    go_wp2_with (at_builtin; refine wpList_append_lies _ rfl _ _ 23 rfl w.heap.size 4 i0 (.bool false) 1 1 Try.underlying23 hi hz0 hz1 hz2 rfl (by decide) _ _ _ rfl (HR.out.alloc _) ⟨wb.heap.size, 0, none⟩ 1 1 [.bool (false)] rfl rfl (one_new _ _ _) (by intro u hu; simp at hu; subst hu; rfl) (by omega) (by unfold maxLen; omega) (by omega) (by simp; omega) (wb.heap.size + 1) (by simp) ?_; intro g5 cap5 w5 hown5 hgrow5 hat5 hlt5; have HM5 : Hid (WN w (V ++ [false]) (.slice (some ⟨g5, 0, none⟩) (V.length + 1) cap5) w5) := WN.push rfl HMw.out hown5 hgrow5; clear hown5 hgrow5 hat5 hlt5; refine Hid.out ?_)
                    refine Lib.hid ?_
                    go_wp2_with fail
                    go_roundg (n - (k + 1))
                    case measure => omega
                    case rel => exact ⟨k + 1, V ++ [false], nn, _, rfl, rfl, by simp, by omega, by omega, HT4.out, by show _ = _; rw [List.length_append, HVL.out]; rfl, HM5.out⟩
                  | true =>
                    have HT4 : Hid (wantS (fun i => bs.getD i false) (sc.take (k + 1)) = (V ++ [pc], nn)) := HT3.out.trans (by unfold opV gateK; simp)
                    clear HT3 HMb
                    go_wp2_with (at_builtin; refine wpList_append_lies _ rfl _ _ 23 rfl w.heap.size 4 i0 (.bool false) 1 1 Try.underlying23 hi hz0 hz1 hz2 rfl (by decide) _ _ _ rfl (HR.out.alloc _) ⟨wb.heap.size, 0, none⟩ 1 1 [.bool (pc)] rfl rfl (one_new _ _ _) (by intro u hu; simp at hu; subst hu; rfl) (by omega) (by unfold maxLen; omega) (by omega) (by simp; omega) (wb.heap.size + 1) (by simp) ?_; intro g5 cap5 w5 hown5 hgrow5 hat5 hlt5; have HM5 : Hid (WN w (V ++ [pc]) (.slice (some ⟨g5, 0, none⟩) (V.length + 1) cap5) w5) := WN.push rfl HMw.out hown5 hgrow5; clear hown5 hgrow5 hat5 hlt5; refine Hid.out ?_)
                    refine Lib.hid ?_
                    go_wp2_with fail
                    go_roundg (n - (k + 1))
                    case measure => omega
                    case rel => exact ⟨k + 1, V ++ [pc], nn, _, rfl, rfl, by simp, by omega, by omega, HT4.out, by show _ = _; rw [List.length_append, HVL.out]; rfl, HM5.out⟩
              · have z6 : (kd == 6) = false := by simp; omega
                by_cases hnm : nn < m
                · have p1 : decide (nn < m) = true := decide_eq_true hnm
                  have p2 : decide ((nn : Int) < (m : Int)) = true := decide_eq_true (by omega)
                  have p3 : (nn : Int) < (m : Int) := by omega
                  obtain ⟨bi, oi, rfl, hbi, hci⟩ := HBs.out (by rw [HML.out]; omega)
                  have cI : wb.cell? ⟨bi, oi + nn, none⟩ = some (.bool (bs.getD nn false)) := (World.cell?_of_block (a := ⟨bi, oi + nn, none⟩) (HMw.out.bel.block bi hbi)).trans (hci nn (by rw [HML.out]; exact hnm))
                  clear hci
                  generalize hxi : bs.getD nn false = xi at *
                  have HT4 : Hid (wantS (fun i => bs.getD i false) (sc.take (k + 1)) = (V ++ [xi], (nn + 1))) := HT3.out.trans (by unfold opV gateK; simp [e2, e3, e4, e5, e6])
                  clear HT3 HMb
                  go_wp2_with (at_builtin; refine wpList_append_lies _ rfl _ _ 23 rfl w.heap.size 4 i0 (.bool false) 1 1 Try.underlying23 hi hz0 hz1 hz2 rfl (by decide) _ _ _ rfl (HR.out.alloc _) ⟨wb.heap.size, 0, none⟩ 1 1 [.bool (xi)] rfl rfl (one_new _ _ _) (by intro u hu; simp at hu; subst hu; rfl) (by omega) (by unfold maxLen; omega) (by omega) (by simp; omega) (wb.heap.size + 1) (by simp) ?_; intro g5 cap5 w5 hown5 hgrow5 hat5 hlt5; have HM5 : Hid (WN w (V ++ [xi]) (.slice (some ⟨g5, 0, none⟩) (V.length + 1) cap5) w5) := WN.push rfl HMw.out hown5 hgrow5; clear hown5 hgrow5 hat5 hlt5; refine Hid.out ?_)
                  refine Lib.hid ?_
                  go_wp2_with fail
                  go_roundg (n - (k + 1))
                  case measure => omega
                  case rel => exact ⟨k + 1, V ++ [xi], (nn + 1), _, rfl, by simp, by simp, by omega, by omega, HT4.out, by show _ = _; rw [List.length_append, HVL.out]; rfl, HM5.out⟩
                · have p1 : decide (nn < m) = false := decide_eq_false hnm
                  have p2 : decide ((nn : Int) < (m : Int)) = false := decide_eq_false (by omega)
                  have hxi : bs.getD nn false = false := by rw [List.getD_eq_getElem?_getD, List.getElem?_eq_none (by rw [HML.out]; omega)]; rfl
                  rw [hxi] at HT3
                  clear hxi
                  have HT4 : Hid (wantS (fun i => bs.getD i false) (sc.take (k + 1)) = (V ++ [false], (nn + 1))) := HT3.out.trans (by unfold opV gateK; simp [e2, e3, e4, e5, e6])
                  clear HT3 HMb
                  go_wp2_with (at_builtin; refine wpList_append_lies _ rfl _ _ 23 rfl w.heap.size 4 i0 (.bool false) 1 1 Try.underlying23 hi hz0 hz1 hz2 rfl (by decide) _ _ _ rfl (HR.out.alloc _) ⟨wb.heap.size, 0, none⟩ 1 1 [.bool (false)] rfl rfl (one_new _ _ _) (by intro u hu; simp at hu; subst hu; rfl) (by omega) (by unfold maxLen; omega) (by omega) (by simp; omega) (wb.heap.size + 1) (by simp) ?_; intro g5 cap5 w5 hown5 hgrow5 hat5 hlt5; have HM5 : Hid (WN w (V ++ [false]) (.slice (some ⟨g5, 0, none⟩) (V.length + 1) cap5) w5) := WN.push rfl HMw.out hown5 hgrow5; clear hown5 hgrow5 hat5 hlt5; refine Hid.out ?_)
                  refine Lib.hid ?_
                  go_wp2_with fail
                  go_roundg (n - (k + 1))
                  case measure => omega
                  case rel => exact ⟨k + 1, V ++ [false], (nn + 1), _, rfl, by simp, by simp, by omega, by omega, HT4.out, by show _ = _; rw [List.length_append, HVL.out]; rfl, HM5.out⟩
    · obtain rfl : k = n := by omega
      have q1 : ¬ (k : Int) < (k : Int) := by omega
      have HZ : Hid (PP (.returned (.slice aL V.length cL)) wr) := HP.out V _ wr (by have h7 := HT.out; rw [List.take_of_length_le (by rw [HL.out]; exact Nat.le_refl _)] at h7; rw [h7]) HVL.out HM.out
      clear HM HT HP
      go_wp2_with fail
      first | exact HZ.out | (go_ret; exact HZ.out)
end Go.Proofs.Ytabbkdmjohnbgaa
