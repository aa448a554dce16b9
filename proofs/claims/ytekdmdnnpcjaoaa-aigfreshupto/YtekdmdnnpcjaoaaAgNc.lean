import Derived.Test.YtekdmdnnpcjaoaaAgNb
namespace Go.Proofs.Ytekdmdnnpcjaoaa
open Go.ChangeShapes Go.WideShapes Go.ChangeAt Go.RowKit Go.Lib Go.Ag Go.WideMaps Go.Maps Go.ChangeMaps Go.Cn

/-- the literals so far -/
structure MI (ns : Nds) (L : List Nat) (k : Nat) : Prop where
  len : L.length = k + 1
  lit : ∀ l ∈ L, l / 2 ≤ ns.length
  few : ns.length ≤ 3 * k
  ins : inN ns ≤ k
theorem MI.next {ns ns' : Nds} {L : List Nat} {k l : Nat} (h : MI ns L k) (h1 : l / 2 ≤ ns'.length) (h2 : ns.length ≤ ns'.length) (h3 : ns'.length ≤ ns.length + 3) (h4 : inN ns' ≤ inN ns + 1) : MI ns' (L ++ [l]) (k + 1) := by
  refine ⟨by rw [List.length_append, h.len]; rfl, fun x hx => ?_, by have := h.few; omega, by have := h.ins; omega⟩
  rcases List.mem_append.1 hx with hx | hx
  · have := h.lit x hx; omega
  · rw [List.mem_singleton] at hx; rw [hx]; exact h1
set_option maxHeartbeats 16000000 in
set_option maxRecDepth 100000 in
theorem made_any (w : World) {B R : Nat} {vb0 vg0 : Value} {M0 : Option Nat} {D0 : DataW Unit} (hg : GM w B R [] 0 vb0 vg0 M0 D0) (hB : B ≤ w.heap.size) (ad : Option Addr) (sc : List (Int × Int × Int × Int)) (cp : Nat) (hsc : MDS w ad sc) (hbd : ∀ s ∈ sc, (-9223372036854775808 ≤ s.2.1 ∧ s.2.1 ≤ 9223372036854775807) ∧ (-9223372036854775808 ≤ s.2.2.1 ∧ s.2.2.1 ≤ 9223372036854775807) ∧ (-9223372036854775808 ≤ s.2.2.2 ∧ s.2.2.2 ≤ 9223372036854775807)) (hown : 0 < sc.length → ∀ b off, ad = some ⟨b, off, none⟩ → ¬ ownG R vb0 vg0 M0 b) (hn : sc.length ≤ 1048576) :
    Calls Try.prog 6 #[.pointer (some ⟨R, 0, none⟩), .slice ad sc.length cp] w fun e w' => ∃ ns L vL, e = .returned (.tuple #[vL, .bool true]) ∧ madeN [] [0] sc = some (ns, L) ∧ MI ns L sc.length ∧ MD w B R vb0 vg0 M0 ns L vL w' := by
  generalize hPP : (fun (e : Ending) (w' : World) => ∃ ns L vL, e = .returned (.tuple #[vL, .bool true]) ∧ madeN [] [0] sc = some (ns, L) ∧ MI ns L sc.length ∧ MD w B R vb0 vg0 M0 ns L vL w') = PP
  have HP : Hid (∀ ns L vL w', madeN [] [0] sc = some (ns, L) → MI ns L sc.length → MD w B R vb0 vg0 M0 ns L vL w' → PP (.returned (.tuple #[vL, .bool true])) w') := fun ns L vL w' h1 h2 h3 => by rw [← hPP]; exact ⟨ns, L, vL, rfl, h1, h2, h3⟩
  have HG : Hid (GM w B R [] 0 vb0 vg0 M0 D0) := hg
  have HSC : Aside (MDS w ad sc) := hsc
  have HBd : Aside (∀ s ∈ sc, (-9223372036854775808 ≤ s.2.1 ∧ s.2.1 ≤ 9223372036854775807) ∧ (-9223372036854775808 ≤ s.2.2.1 ∧ s.2.2.1 ≤ 9223372036854775807) ∧ (-9223372036854775808 ≤ s.2.2.2 ∧ s.2.2.2 ≤ 9223372036854775807)) := hbd
  have HOw : Aside (0 < sc.length → ∀ b off, ad = some ⟨b, off, none⟩ → ¬ ownG R vb0 vg0 M0 b) := hown
  clear hPP hg hsc hbd hown
  generalize hnn : sc.length = n at *
  have HL : Aside (sc.length = n) := hnn
  clear hnn
  have HM0 : Hid (MD w B R vb0 vg0 M0 [] [0] (.slice (some ⟨w.heap.size, 0, none⟩) 1 1) (w.alloc (.cells #[.int .u32 0] 44))) :=
    ⟨⟨0, vb0, vg0, M0, D0, HG.out.over (ag_bel1 _ _), GK.below (ag_bel1 _ _)⟩, ⟨rfl, Or.inr ⟨w.heap.size, 1, #[.int .u32 0], rfl, Nat.le_refl _, heap_alloc_new _ _, Nat.le_refl _, by unfold maxLen; omega, rfl, rfl⟩⟩, Nat.le_trans hB (ag_bel1 w _).size⟩
  obtain ⟨i0, hi, hz0, hz1, hz2⟩ := info_parts (P := Try.prog) (e := 44) (z := .int .u32 0) (size := 1) (bytes := 4) (by kernel_rfl)
  go_enter Try.func6, Try.ntmps6
  go_wp2_with fail
  go_loopg [6, 7] n (fun gk v6 v7 wr => ∃ k ns L vL, v6 = vL ∧ v7 = .int .i64 ((k : Nat) : Int) ∧ k + gk = n ∧ Aside (madeN [] [0] (sc.take k) = some (ns, L)) ∧ Aside (MI ns L k) ∧ Aside (MD w B R vb0 vg0 M0 ns L vL wr))
  case atStart => exact ⟨0, [], [0], _, rfl, rfl, by omega, by rw [List.take_zero]; rfl, ⟨rfl, by intro l hl; simp at hl; subst hl; decide, by decide, by decide⟩, HM0.out⟩
  case round =>
    clear HM0
    obtain ⟨k, ns, L, vL, rfl, rfl, hk, HT, HI, HM⟩ := hrel
    obtain ⟨aL, cL, rfl, hcL, haL⟩ := row_form HM.out.row
    by_cases hlt : k < n
    · have q1 : (k : Int) < (n : Int) := by omega
      obtain ⟨b, off, rfl, hbb, hcc⟩ := HSC.out (by rw [HL.out]; omega)
      obtain ⟨c0, c1, c2, c3⟩ := hcc k (by rw [HL.out]; exact hlt)
      have hkp : wr.heap[b]? = w.heap[b]? := by
        obtain ⟨_, _, _, _, _, _, h2⟩ := HM.out.gp
        exact h2.kp b hbb (HOw.out (by omega) b off rfl)
      rw [← World.cell?_of_block (w' := wr) (a := ⟨b, off + k * 4, none⟩) hkp] at c0
      rw [← World.cell?_of_block (w' := wr) (a := ⟨b, off + k * 4 + 1, none⟩) hkp] at c1
      rw [← World.cell?_of_block (w' := wr) (a := ⟨b, off + k * 4 + 2, none⟩) hkp] at c2
      rw [← World.cell?_of_block (w' := wr) (a := ⟨b, off + k * 4 + 3, none⟩) hkp] at c3
      have hmem : sc.getD k (0, 0, 0, 0) ∈ sc := by rw [List.getD_eq_getElem?_getD, List.getElem?_eq_getElem (by rw [HL.out]; exact hlt)]; exact List.getElem_mem _
      have hb5 := HBd.out _ hmem
      have HT2 : Hid (madeN [] [0] (sc.take (k + 1)) = (opN ns (sc.getD k (0, 0, 0, 0)).1 (pickN L (sc.getD k (0, 0, 0, 0)).2.1) (pickN L (sc.getD k (0, 0, 0, 0)).2.2.1) (pickN L (sc.getD k (0, 0, 0, 0)).2.2.2)).bind fun x => some (x.2, L ++ [x.1])) := by
        show _ = _
        rw [List.take_succ_eq_append_getElem (by rw [HL.out]; exact hlt), madeN_snoc, HT.out, List.getD_eq_getElem?_getD, List.getElem?_eq_getElem (by rw [HL.out]; exact hlt)]
        rfl
      clear hcc hmem HT hkp
      generalize sc.getD k (0, 0, 0, 0) = s at *
      obtain ⟨kd, sa, sb, sd⟩ := s
      simp only [] at c0 c1 c2 c3 hb5 HT2
      have HPk : Hid (∀ W i, Below wr.heap.size wr W → (-9223372036854775808 ≤ i ∧ i ≤ 9223372036854775807) → Calls Try.prog 20 #[.slice aL L.length cL, .int .i64 i] W fun e w' => e = .returned (.int .u32 ((pickN L i : Nat) : Int)) ∧ w' = W) := fun W i hW hi => pick_any W aL L cL ((u32s_of HM.out.row).below hW) (by rw [HI.out.len]; omega) (by rw [HI.out.len]; omega) (fun l hl => by have h1 := HI.out.lit l hl; have h2 := HI.out.few; omega) i hi
      have hL9 : L.length ≤ 1048577 := by rw [HI.out.len]; omega
      have hns : ns.length ≤ 3145728 := by have := HI.out.few; omega
      have hL0 : 0 < L.length := by rw [HI.out.len]; omega
      have hpa : pickN L sa / 2 ≤ ns.length := pickN_le HI.out.lit hL0
      have hpb : pickN L sb / 2 ≤ ns.length := pickN_le HI.out.lit hL0
      have hpc : pickN L sd / 2 ≤ ns.length := pickN_le HI.out.lit hL0
      have HMb : Hid (MD w B R vb0 vg0 M0 ns L (.slice aL L.length cL) (wr.alloc (.cells #[.int .i64 kd, .int .i64 sa, .int .i64 sb, .int .i64 sd] 59)) ∧ (wr.alloc (.cells #[.int .i64 kd, .int .i64 sa, .int .i64 sb, .int .i64 sd] 59)).heap[wr.heap.size]? = some (.cells #[.int .i64 kd, .int .i64 sa, .int .i64 sb, .int .i64 sd] 59 (0, 0)) ∧ Below wr.heap.size wr (wr.alloc (.cells #[.int .i64 kd, .int .i64 sa, .int .i64 sb, .int .i64 sd] 59))) := ⟨HM.out.over (ag_bel1 _ _), heap_alloc_new _ _, ag_bel1 _ _⟩
      go_wp2_with fail
      generalize hwb9 : wr.alloc (.cells #[.int .i64 kd, .int .i64 sa, .int .i64 sb, .int .i64 sd] 59) = wb at *
      have f0 : wb.cell? ⟨wr.heap.size, 0, none⟩ = some (.int .i64 kd) := ag_cell HMb.out.2.1 0
      have f1 : wb.cell? ⟨wr.heap.size, 1, none⟩ = some (.int .i64 sa) := ag_cell HMb.out.2.1 1
      have f2 : wb.cell? ⟨wr.heap.size, 2, none⟩ = some (.int .i64 sb) := ag_cell HMb.out.2.1 2
      have f3 : wb.cell? ⟨wr.heap.size, 3, none⟩ = some (.int .i64 sd) := ag_cell HMb.out.2.1 3
      clear c0 c1 c2 c3 hwb9
      refine (HPk.out wb sa HMb.out.2.2 hb5.1).mono ?_
      rintro e wn ⟨rfl, hwn⟩; subst wn
      go_wp2_with fail
      refine (HPk.out wb sb HMb.out.2.2 hb5.2.1).mono ?_
      rintro e wn ⟨rfl, hwn⟩; subst wn
      go_wp2_with fail
      refine (HPk.out wb sd HMb.out.2.2 hb5.2.2).mono ?_
      rintro e wn ⟨rfl, hwn⟩; subst wn
      clear HPk hb5 HM
      generalize pickN L sa = pa at *
      generalize pickN L sb = pb at *
      generalize pickN L sd = pc at *
      by_cases e2 : kd = 2
      · subst kd
        go_wp2_with fail
        refine (op_and HMb.out.1 pa pb pc hpa hpb (by omega)).mono ?_
        rintro e w4 ⟨l, ns', rfl, hop, l1, l2, l3, l4, hm4⟩
        have HM4 : Hid (MD w B R vb0 vg0 M0 ns' L (.slice aL L.length cL) w4) := hm4
        have HI4 : Hid (MI ns' (L ++ [l]) (k + 1)) := HI.out.next l1 l2 l3 l4
        have HT4 : Hid (madeN [] [0] (sc.take (k + 1)) = some (ns', L ++ [l])) := by show _ = _; rw [HT2.out, hop]; rfl
        clear hop l1 l2 l3 l4 hm4 HT2 HI HMb
        have hr4 : Hid (w4.ownsRow w.heap.size 44 1 (.slice aL L.length cL) L.length (u32V L)) := HM4.out.row
        have hw4 : w.heap.size ≤ w4.heap.size := by
          obtain ⟨_, _, _, _, _, _, h2⟩ := HM4.out.gp
          exact h2.size
        have HNo : Hid (Calls Try.prog 13 #[.int .i64 0] w4 fun e w' => e = .returned (.int .i64 0) ∧ w' = w4) := no_any 0 w4
        go_wp2_with fail
        refine HNo.out.mono ?_
        rintro e wn ⟨rfl, hwn⟩; subst wn
        go_wp2_with (at_builtin; refine wpList_append_lies _ rfl _ _ 27 rfl w.heap.size 44 i0 (.int .u32 0) 1 4 Try.underlying27 hi hz0 hz1 hz2 rfl (by decide) _ _ _ rfl (hr4.out.alloc _) ⟨w4.heap.size, 0, none⟩ 1 1 [.int .u32 (l : Int)] rfl rfl (one_new _ _ _) (by intro u hu; simp at hu; subst hu; rfl) (by omega) (by unfold maxLen; omega) (by omega) (by simp; omega) (w4.heap.size + 1) (by simp) ?_; intro g5 cap5 w5 hown5 hgrow5 hat5 hlt5; have HM5 : Hid (MD w B R vb0 vg0 M0 ns' (L ++ [l]) (.slice (some ⟨g5, 0, none⟩) (L.length + 1) cap5) w5) := MD.push rfl HM4.out hown5 hgrow5; clear hown5 hgrow5 hat5 hlt5; refine Hid.out ?_)
        refine Lib.hid ?_
        go_wp2_with fail
        go_roundg (n - (k + 1))
        case measure => omega
        case rel => exact ⟨k + 1, ns', L ++ [l], _, rfl, by simp, by omega, HT4.out, HI4.out, HM5.out⟩
      · have z2 : (kd == 2) = false := by simp; omega
        by_cases e3 : kd = 3
        · subst kd
          go_wp2_with fail
          refine (op_or HMb.out.1 pa pb pc hpa hpb (by omega)).mono ?_
          rintro e w4 ⟨l, ns', rfl, hop, l1, l2, l3, l4, hm4⟩
          have HM4 : Hid (MD w B R vb0 vg0 M0 ns' L (.slice aL L.length cL) w4) := hm4
          have HI4 : Hid (MI ns' (L ++ [l]) (k + 1)) := HI.out.next l1 l2 l3 l4
          have HT4 : Hid (madeN [] [0] (sc.take (k + 1)) = some (ns', L ++ [l])) := by show _ = _; rw [HT2.out, hop]; rfl
          clear hop l1 l2 l3 l4 hm4 HT2 HI HMb
          have hr4 : Hid (w4.ownsRow w.heap.size 44 1 (.slice aL L.length cL) L.length (u32V L)) := HM4.out.row
          have hw4 : w.heap.size ≤ w4.heap.size := by
            obtain ⟨_, _, _, _, _, _, h2⟩ := HM4.out.gp
            exact h2.size
          have HNo : Hid (Calls Try.prog 13 #[.int .i64 0] w4 fun e w' => e = .returned (.int .i64 0) ∧ w' = w4) := no_any 0 w4
          go_wp2_with fail
          refine HNo.out.mono ?_
          rintro e wn ⟨rfl, hwn⟩; subst wn
          go_wp2_with (at_builtin; refine wpList_append_lies _ rfl _ _ 27 rfl w.heap.size 44 i0 (.int .u32 0) 1 4 Try.underlying27 hi hz0 hz1 hz2 rfl (by decide) _ _ _ rfl (hr4.out.alloc _) ⟨w4.heap.size, 0, none⟩ 1 1 [.int .u32 (l : Int)] rfl rfl (one_new _ _ _) (by intro u hu; simp at hu; subst hu; rfl) (by omega) (by unfold maxLen; omega) (by omega) (by simp; omega) (w4.heap.size + 1) (by simp) ?_; intro g5 cap5 w5 hown5 hgrow5 hat5 hlt5; have HM5 : Hid (MD w B R vb0 vg0 M0 ns' (L ++ [l]) (.slice (some ⟨g5, 0, none⟩) (L.length + 1) cap5) w5) := MD.push rfl HM4.out hown5 hgrow5; clear hown5 hgrow5 hat5 hlt5; refine Hid.out ?_)
          refine Lib.hid ?_
          go_wp2_with fail
          go_roundg (n - (k + 1))
          case measure => omega
          case rel => exact ⟨k + 1, ns', L ++ [l], _, rfl, by simp, by omega, HT4.out, HI4.out, HM5.out⟩
        · have z3 : (kd == 3) = false := by simp; omega
          by_cases e4 : kd = 4
          · subst kd
            go_wp2_with fail
            refine (op_xor HMb.out.1 pa pb pc hpa hpb (by omega)).mono ?_
            rintro e w4 ⟨l, ns', rfl, hop, l1, l2, l3, l4, hm4⟩
            have HM4 : Hid (MD w B R vb0 vg0 M0 ns' L (.slice aL L.length cL) w4) := hm4
            have HI4 : Hid (MI ns' (L ++ [l]) (k + 1)) := HI.out.next l1 l2 l3 l4
            have HT4 : Hid (madeN [] [0] (sc.take (k + 1)) = some (ns', L ++ [l])) := by show _ = _; rw [HT2.out, hop]; rfl
            clear hop l1 l2 l3 l4 hm4 HT2 HI HMb
            have hr4 : Hid (w4.ownsRow w.heap.size 44 1 (.slice aL L.length cL) L.length (u32V L)) := HM4.out.row
            have hw4 : w.heap.size ≤ w4.heap.size := by
              obtain ⟨_, _, _, _, _, _, h2⟩ := HM4.out.gp
              exact h2.size
            have HNo : Hid (Calls Try.prog 13 #[.int .i64 0] w4 fun e w' => e = .returned (.int .i64 0) ∧ w' = w4) := no_any 0 w4
            go_wp2_with fail
            refine HNo.out.mono ?_
            rintro e wn ⟨rfl, hwn⟩; subst wn
            go_wp2_with (at_builtin; refine wpList_append_lies _ rfl _ _ 27 rfl w.heap.size 44 i0 (.int .u32 0) 1 4 Try.underlying27 hi hz0 hz1 hz2 rfl (by decide) _ _ _ rfl (hr4.out.alloc _) ⟨w4.heap.size, 0, none⟩ 1 1 [.int .u32 (l : Int)] rfl rfl (one_new _ _ _) (by intro u hu; simp at hu; subst hu; rfl) (by omega) (by unfold maxLen; omega) (by omega) (by simp; omega) (w4.heap.size + 1) (by simp) ?_; intro g5 cap5 w5 hown5 hgrow5 hat5 hlt5; have HM5 : Hid (MD w B R vb0 vg0 M0 ns' (L ++ [l]) (.slice (some ⟨g5, 0, none⟩) (L.length + 1) cap5) w5) := MD.push rfl HM4.out hown5 hgrow5; clear hown5 hgrow5 hat5 hlt5; refine Hid.out ?_)
            refine Lib.hid ?_
            go_wp2_with fail
            go_roundg (n - (k + 1))
            case measure => omega
            case rel => exact ⟨k + 1, ns', L ++ [l], _, rfl, by simp, by omega, HT4.out, HI4.out, HM5.out⟩
          · have z4 : (kd == 4) = false := by simp; omega
            by_cases e5 : kd = 5
            · subst kd
              go_wp2_with fail
              refine (op_mux HMb.out.1 pa pb pc hpa hpb hpc (by omega)).mono ?_
              rintro e w4 ⟨l, ns', rfl, hop, l1, l2, l3, l4, hm4⟩
              have HM4 : Hid (MD w B R vb0 vg0 M0 ns' L (.slice aL L.length cL) w4) := hm4
              have HI4 : Hid (MI ns' (L ++ [l]) (k + 1)) := HI.out.next l1 l2 l3 l4
              have HT4 : Hid (madeN [] [0] (sc.take (k + 1)) = some (ns', L ++ [l])) := by show _ = _; rw [HT2.out, hop]; rfl
              clear hop l1 l2 l3 l4 hm4 HT2 HI HMb
              have hr4 : Hid (w4.ownsRow w.heap.size 44 1 (.slice aL L.length cL) L.length (u32V L)) := HM4.out.row
              have hw4 : w.heap.size ≤ w4.heap.size := by
                obtain ⟨_, _, _, _, _, _, h2⟩ := HM4.out.gp
                exact h2.size
              have HNo : Hid (Calls Try.prog 13 #[.int .i64 0] w4 fun e w' => e = .returned (.int .i64 0) ∧ w' = w4) := no_any 0 w4
              go_wp2_with fail
              refine HNo.out.mono ?_
              rintro e wn ⟨rfl, hwn⟩; subst wn
              go_wp2_with (at_builtin; refine wpList_append_lies _ rfl _ _ 27 rfl w.heap.size 44 i0 (.int .u32 0) 1 4 Try.underlying27 hi hz0 hz1 hz2 rfl (by decide) _ _ _ rfl (hr4.out.alloc _) ⟨w4.heap.size, 0, none⟩ 1 1 [.int .u32 (l : Int)] rfl rfl (one_new _ _ _) (by intro u hu; simp at hu; subst hu; rfl) (by omega) (by unfold maxLen; omega) (by omega) (by simp; omega) (w4.heap.size + 1) (by simp) ?_; intro g5 cap5 w5 hown5 hgrow5 hat5 hlt5; have HM5 : Hid (MD w B R vb0 vg0 M0 ns' (L ++ [l]) (.slice (some ⟨g5, 0, none⟩) (L.length + 1) cap5) w5) := MD.push rfl HM4.out hown5 hgrow5; clear hown5 hgrow5 hat5 hlt5; refine Hid.out ?_)
              refine Lib.hid ?_
              go_wp2_with fail
              go_roundg (n - (k + 1))
              case measure => omega
              case rel => exact ⟨k + 1, ns', L ++ [l], _, rfl, by simp, by omega, HT4.out, HI4.out, HM5.out⟩
            · have z5 : (kd == 5) = false := by simp; omega
              by_cases e6 : kd = 6
              · subst kd
                go_wp2_with fail
                refine (op_all HMb.out.1 pa pb pc hpa hpb hpc (by omega)).mono ?_
                rintro e w4 ⟨l, ns', rfl, hop, l1, l2, l3, l4, hm4⟩
                have HM4 : Hid (MD w B R vb0 vg0 M0 ns' L (.slice aL L.length cL) w4) := hm4
                have HI4 : Hid (MI ns' (L ++ [l]) (k + 1)) := HI.out.next l1 l2 l3 l4
                have HT4 : Hid (madeN [] [0] (sc.take (k + 1)) = some (ns', L ++ [l])) := by show _ = _; rw [HT2.out, hop]; rfl
                clear hop l1 l2 l3 l4 hm4 HT2 HI HMb
                have hr4 : Hid (w4.ownsRow w.heap.size 44 1 (.slice aL L.length cL) L.length (u32V L)) := HM4.out.row
                have hw4 : w.heap.size ≤ w4.heap.size := by
                  obtain ⟨_, _, _, _, _, _, h2⟩ := HM4.out.gp
                  exact h2.size
                have HNo : Hid (Calls Try.prog 13 #[.int .i64 0] w4 fun e w' => e = .returned (.int .i64 0) ∧ w' = w4) := no_any 0 w4
                go_wp2_with fail
                refine HNo.out.mono ?_
                rintro e wn ⟨rfl, hwn⟩; subst wn
                go_wp2_with (at_builtin; refine wpList_append_lies _ rfl _ _ 27 rfl w.heap.size 44 i0 (.int .u32 0) 1 4 Try.underlying27 hi hz0 hz1 hz2 rfl (by decide) _ _ _ rfl (hr4.out.alloc _) ⟨w4.heap.size, 0, none⟩ 1 1 [.int .u32 (l : Int)] rfl rfl (one_new _ _ _) (by intro u hu; simp at hu; subst hu; rfl) (by omega) (by unfold maxLen; omega) (by omega) (by simp; omega) (w4.heap.size + 1) (by simp) ?_; intro g5 cap5 w5 hown5 hgrow5 hat5 hlt5; have HM5 : Hid (MD w B R vb0 vg0 M0 ns' (L ++ [l]) (.slice (some ⟨g5, 0, none⟩) (L.length + 1) cap5) w5) := MD.push rfl HM4.out hown5 hgrow5; clear hown5 hgrow5 hat5 hlt5; refine Hid.out ?_)
                refine Lib.hid ?_
                go_wp2_with fail
                go_roundg (n - (k + 1))
                case measure => omega
                case rel => exact ⟨k + 1, ns', L ++ [l], _, rfl, by simp, by omega, HT4.out, HI4.out, HM5.out⟩
              · have z6 : (kd == 6) = false := by simp; omega
                go_wp2_with fail
                refine (op_in HMb.out.1 kd ⟨e2, e3, e4, e5, e6⟩ pa pb pc (by omega)).mono ?_
                rintro e w4 ⟨l, ns', rfl, hop, l1, l2, l3, l4, hm4⟩
                have HM4 : Hid (MD w B R vb0 vg0 M0 ns' L (.slice aL L.length cL) w4) := hm4
                have HI4 : Hid (MI ns' (L ++ [l]) (k + 1)) := HI.out.next l1 l2 l3 l4
                have HT4 : Hid (madeN [] [0] (sc.take (k + 1)) = some (ns', L ++ [l])) := by show _ = _; rw [HT2.out, hop]; rfl
                clear hop l1 l2 l3 l4 hm4 HT2 HI HMb
                have hr4 : Hid (w4.ownsRow w.heap.size 44 1 (.slice aL L.length cL) L.length (u32V L)) := HM4.out.row
                have hw4 : w.heap.size ≤ w4.heap.size := by
                  obtain ⟨_, _, _, _, _, _, h2⟩ := HM4.out.gp
                  exact h2.size
                have HNo : Hid (Calls Try.prog 13 #[.int .i64 0] w4 fun e w' => e = .returned (.int .i64 0) ∧ w' = w4) := no_any 0 w4
                go_wp2_with fail
                refine HNo.out.mono ?_
                rintro e wn ⟨rfl, hwn⟩; subst wn
                go_wp2_with (at_builtin; refine wpList_append_lies _ rfl _ _ 27 rfl w.heap.size 44 i0 (.int .u32 0) 1 4 Try.underlying27 hi hz0 hz1 hz2 rfl (by decide) _ _ _ rfl (hr4.out.alloc _) ⟨w4.heap.size, 0, none⟩ 1 1 [.int .u32 (l : Int)] rfl rfl (one_new _ _ _) (by intro u hu; simp at hu; subst hu; rfl) (by omega) (by unfold maxLen; omega) (by omega) (by simp; omega) (w4.heap.size + 1) (by simp) ?_; intro g5 cap5 w5 hown5 hgrow5 hat5 hlt5; have HM5 : Hid (MD w B R vb0 vg0 M0 ns' (L ++ [l]) (.slice (some ⟨g5, 0, none⟩) (L.length + 1) cap5) w5) := MD.push rfl HM4.out hown5 hgrow5; clear hown5 hgrow5 hat5 hlt5; refine Hid.out ?_)
                refine Lib.hid ?_
                go_wp2_with fail
                go_roundg (n - (k + 1))
                case measure => omega
                case rel => exact ⟨k + 1, ns', L ++ [l], _, rfl, by simp, by omega, HT4.out, HI4.out, HM5.out⟩
    · obtain rfl : k = n := by omega
      have q1 : ¬ (k : Int) < (k : Int) := by omega
      have HZ : Hid (PP (.returned (.tuple #[.slice aL L.length cL, .bool true])) wr) := HP.out ns L _ wr (by have h7 := HT.out; rw [List.take_of_length_le (by rw [HL.out]; exact Nat.le_refl _)] at h7; exact h7) HI.out HM.out
      clear HM HI HT HP
      go_wp2_with fail
      first | exact HZ.out | (go_ret2; exact HZ.out)
end Go.Proofs.Ytekdmdnnpcjaoaa
