import Derived.Test.YtokpjegiinggdaaGreatDoorElim9
namespace Go.Proofs.YtokpjegiinggdaaGreatDoor
open Go.ChangeShapes Go.WideShapes Go.ChangeAt Go.RowKit Go.Cn

theorem OwnL.rowAtN {w : World} {B co j n : Nat} {ao : Option Addr} {L : List Value} {cs : List (List Int)} (h : OwnL w B (.slice ao n co) L cs) (hn : n = cs.length) (hj : j < cs.length) :
    ∃ g aj cj, ao = some ⟨g, 0, none⟩ ∧ w.cell? ⟨g, j, none⟩ = some (.slice aj (cs.getD j []).length cj) ∧ w.ownsRow B 3 1 (.slice aj (cs.getD j []).length cj) (cs.getD j []).length ((cs.getD j []).map (Value.int .i64)) ∧ Ints w aj (cs.getD j []) := by
  subst hn
  exact h.rowAt hj
set_option maxHeartbeats 8000000 in
set_option maxRecDepth 100000 in
theorem relim_any (vars v : Int) (ad : Option Addr) (cs : List (List Int)) (c : Nat) (w : World) (h : Cls w ad cs) (hl : cs.length ≤ 1000000000000000000) (hcl : ∀ j, j < cs.length → (cs.getD j []).length ≤ 1000000000000000000) (hv0 : -9223372036854775808 ≤ v) (hv1 : v ≤ 9223372036854775807) :
    Calls Tryz.prog 6 #[.agg #[.int .i64 vars, .slice ad cs.length c], .int .i64 v] w (ElPost vars cs v w) := by
  have HC0 : Hid (∀ W, Below w.heap.size w W → Calls Tryz.prog 19 #[.agg #[.int .i64 vars, .slice ad cs.length c]] W fun e w' => e = .returned (.tuple #[.int .i64 (ck vars cs).1, .int .i64 (ck vars cs).2]) ∧ Below W.heap.size W w') := fun W hW => rcheck_any vars ad cs c W (h.below hW) hl hcl
  have HB0 : Hid (∀ o o2, Below w.heap.size w ((w.alloc o).alloc o2)) := fun o o2 => ((Below.refl _ _).alloc (Nat.le_refl _) o).alloc (by rw [sz1]; omega) o2
  have HI : Hid (Cls w ad cs) := h
  clear h hcl
  generalize hpp : ElPost vars cs v w = PP
  have HPP : Hid (∀ e w', ElPost vars cs v w e w' → PP e w') := fun e w' hh => by rw [← hpp]; exact hh
  clear hpp
  have HBad : Hid (∀ (x : Int) (w' : World), elE vars cs v = x → x ≠ 0 → Below w.heap.size w w' → PP (.returned (.tuple #[.agg #[.int .i64 0, .slice none 0 0], .int .i64 x])) w') := fun x w' h1 h2 h3 => HPP.out _ _ (elPost_bad h1 h2 h3)
  generalize hr1 : (ck vars cs).1 = r1 at *
  clear hr1
  by_cases h0 : (ck vars cs).2 = 0
  · have HC : Hid (∀ W, Below w.heap.size w W → Calls Tryz.prog 19 #[.agg #[.int .i64 vars, .slice ad cs.length c]] W fun e w' => e = .returned (.tuple #[.int .i64 r1, .int .i64 0]) ∧ Below W.heap.size W w') := by
      intro W hW
      have := HC0.out W hW
      rw [h0] at this
      exact this
    have hz := ck_zero h0
    have hvr0 := hz.1
    have hvr1 := hz.2.1
    by_cases hvv : 1 ≤ v ∧ v ≤ vars
    · have HCl : Hid (∀ c ∈ td cs, Cl1 vars c) := cl1_td h0
      have hTl : (td cs).length ≤ 1048576 := Nat.le_trans (td_len cs) hz.2.2.1
      have HTd : Hid (∀ W, Below w.heap.size w W → Calls Tryz.prog 20 #[.slice ad cs.length c] W fun e w' => ∃ u L, e = .returned u ∧ OwnL w' W.heap.size u L (td cs) ∧ Below W.heap.size W w') := fun W hW => rtidyL_any ad cs c W (HI.out.below hW) (by have := hz.2.2.1; omega) (fun d hd => ⟨(hz.2.2.2.1 d hd).1, fun x hx => (amB_rk ((hz.2.2.2.1 d hd).2 x hx)).1⟩)
      have HBig : Hid (1048576 < (eWs v (td cs)).length * (eAs v (td cs)).length → elE vars cs v = 23) := fun hh => by unfold elE; rw [if_neg (by rw [h0]; simp), if_neg (by omega), if_pos hh]
      have HLg : Hid (¬ 1048576 < (eWs v (td cs)).length * (eAs v (td cs)).length → (∃ a ∈ eWs v (td cs), ∃ b ∈ eAs v (td cs), 65536 < (setL (a ++ b)).length) → elE vars cs v = 22) := fun hh ⟨a, ha, b, hb, hab⟩ => by unfold elE; rw [if_neg (by rw [h0]; simp), if_neg (by omega), if_neg hh, if_pos (el_long ha hb hab)]
      have HOk : Hid (¬ 1048576 < (eWs v (td cs)).length * (eAs v (td cs)).length → (∀ a ∈ eWs v (td cs), ∀ b ∈ eAs v (td cs), (setL (a ++ b)).length ≤ 65536) → elE vars cs v = (ck vars (td (elX v (td cs)))).2 ∧ (∀ S ∈ elX v (td cs), S.length ≤ 65536 ∧ ∀ x ∈ S, litB x = true) ∧ (elX v (td cs)).length ≤ 4194304 ∧ (td (elX v (td cs))).length ≤ 4194304 ∧ (∀ j, j < (td (elX v (td cs))).length → ((td (elX v (td cs))).getD j []).length ≤ 65536)) := fun h1 h2 => by
        have hsh := el_short h2
        have ham := elX_am (cl1_td h0) hsh
        have hlen : (elX v (td cs)).length ≤ 4194304 := by
          rw [elX_len]
          have := eR_len v (td cs)
          omega
        refine ⟨el_ok h0 hvv (by omega) hsh, fun S hS => ⟨(ham S hS).1, fun x hx => (amB_rk ((ham S hS).2 x hx)).1⟩, hlen, Nat.le_trans (td_len _) hlen, fun j hj => ?_⟩
        exact (td_am ham _ (by rw [getD_at _ _ _ hj]; exact List.getElem_mem _)).1
      have HGood : Hid (elE vars cs v = 0 → elV vars cs v = vars ∧ elC vars cs v = td (elX v (td cs))) := fun e => ⟨by unfold elV; rw [if_pos e], by unfold elC; rw [if_pos e]⟩
      have v0 := hvv.1
      have v1 := hvv.2
      clear h0 hvv hz HC0 HI
      generalize hT : td cs = T at *
      clear hT
      generalize hn : cs.length = n at *
      clear hn
      obtain ⟨i0, hi, hz0, hz1, hz2⟩ := info_parts Tryz.info36
      go_enter Tryz.func6, Tryz.ntmps6
      go_wp2_with fail
      have y0 : ((w.alloc (.cells #[.int .i64 vars, .slice ad n c] 24)).alloc (.cells #[.int .i64 0, .slice none 0 0] 24)).heap[w.heap.size]? = some (.cells #[.int .i64 vars, .slice ad n c] 24 (0, 0)) := heap_alloc2_old _ _ _
      have y1 : ((w.alloc (.cells #[.int .i64 vars, .slice ad n c] 24)).alloc (.cells #[.int .i64 0, .slice none 0 0] 24)).heap[w.heap.size + 1]? = some (.cells #[.int .i64 0, .slice none 0 0] 24 (0, 0)) := heap_alloc2_new _ _ _
      have y2 : ((w.alloc (.cells #[.int .i64 vars, .slice ad n c] 24)).alloc (.cells #[.int .i64 0, .slice none 0 0] 24)).heap.size = w.heap.size + 2 := sz2 _ _ _
      have y3 : Below w.heap.size w ((w.alloc (.cells #[.int .i64 vars, .slice ad n c] 24)).alloc (.cells #[.int .i64 0, .slice none 0 0] 24)) := HB0.out _ _
      generalize (w.alloc (.cells #[.int .i64 vars, .slice ad n c] 24)).alloc (.cells #[.int .i64 0, .slice none 0 0] 24) = w1 at *
      refine (HC.out w1 y3).mono ?_
      rintro e w2 ⟨rfl, hb2⟩
      have hs2 : w.heap.size + 2 ≤ w2.heap.size := by have := hb2.size; omega
      have z0 : w2.heap[w.heap.size]? = some (.cells #[.int .i64 vars, .slice ad n c] 24 (0, 0)) := (hb2.block _ (by omega)).trans y0
      have z1 : w2.heap[w.heap.size + 1]? = some (.cells #[.int .i64 0, .slice none 0 0] 24 (0, 0)) := (hb2.block _ (by omega)).trans y1
      have z2 : Below w.heap.size w w2 := below_next y3 hb2
      have c0 : w2.cell? ⟨w.heap.size, 0, none⟩ = some (.int .i64 vars) := blk_cell z0 0
      have c1 : w2.cell? ⟨w.heap.size, 1, none⟩ = some (.slice ad n c) := blk_cell z0 1
      have HR : Hid (w2.heap[w.heap.size + 1]? = some (.cells #[.int .i64 0, .slice none 0 0] 24 (0, 0))) := z1
      have HBw : Hid (Below w.heap.size w w2) := z2
      clear y0 y1 y2 y3 z1 z2 hb2 HC HB0
      have HF2 : Hid (w2.heap[w.heap.size]? = some (.cells #[.int .i64 vars, .slice ad n c] 24 (0, 0))) := z0
      clear z0
      have HT2 : Hid (Calls Tryz.prog 20 #[.slice ad n c] w2 fun e w' => ∃ u L, e = .returned u ∧ OwnL w' w2.heap.size u L T ∧ Below w2.heap.size w2 w') := HTd.out w2 HBw.out
      clear HTd
      go_wp2_with fail
      refine HT2.out.mono ?_
      rintro e w4 ⟨u4, L4, rfl, hO4, hb4⟩
      obtain ⟨ad4, cap4, rfl⟩ := own_shapeC hO4.row
      have hs4 : w2.heap.size ≤ w4.heap.size := hb4.size
      have H4 : Hid (w4.heap[w.heap.size]? = some (.cells #[.int .i64 vars, .slice ad n c] 24 (0, 0)) ∧ w4.heap[w.heap.size + 1]? = some (.cells #[.int .i64 0, .slice none 0 0] 24 (0, 0)) ∧ Below w.heap.size w w4 ∧ OwnL w4 w.heap.size (.slice ad4 T.length cap4) L4 T) := ⟨(hb4.block _ (by omega)).trans HF2.out, (hb4.block _ (by omega)).trans HR.out, below_next HBw.out hb4, hO4.up (by omega)⟩
      have HRd : Hid (∀ k, k < T.length → ∃ g, ad4 = some ⟨g, 0, none⟩ ∧ ∃ aj cj, ∀ W, Below w4.heap.size w4 W → W.cell? ⟨g, k, none⟩ = some (.slice aj (T.getD k []).length cj) ∧ W.ownsRow w.heap.size 3 1 (.slice aj (T.getD k []).length cj) (T.getD k []).length ((T.getD k []).map (Value.int .i64)) ∧ Ints W aj (T.getD k [])) := fun k hk => by
        obtain ⟨g, aj, cj, e, h1, h2, h3⟩ := H4.out.2.2.2.rowAt hk
        refine ⟨g, e, aj, cj, fun W hW => ⟨?_, own_below h2 hW, h3.below hW⟩⟩
        obtain ⟨g2, a2, c2, e2, hc2, hr2, _⟩ := (H4.out.2.2.2.below hW).rowAt hk
        rw [e] at e2
        cases e2
        have hgl : g < w4.heap.size := by
          rcases Nat.lt_or_ge g w4.heap.size with h | h
          · exact h
          · simp [World.cell?, Array.getElem?_eq_none h] at h1
        rw [hW.cell (p := ⟨g, k, none⟩) hgl]
        exact h1
      have HSt : Hid (∀ k, k < T.length → T.take (k + 1) = T.take k ++ [T.getD k []]) := fun k hk => take_succ1 T k hk
      have HCk : Hid (∀ k, k < T.length → Cl1 vars (T.getD k [])) := fun k hk => HCl.out _ (by rw [getD_at _ _ _ hk]; exact List.getElem_mem _)
      have HLw : Hid (∀ k, (eW0 v (T.take k)).length ≤ k ∧ (eA0 v (T.take k)).length ≤ k ∧ (eRs v (T.take k)).length ≤ k) := fun k => by
        have h1 := eW_len v (T.take k)
        have h2 := eA_len v (T.take k)
        have h3 := eR_len v (T.take k)
        unfold eWs at h1
        unfold eAs at h2
        rw [List.length_map] at h1 h2
        rw [List.length_take] at h1 h2 h3
        omega
      clear HF2 HR HBw hO4 hb4 HT2 c0 c1
      generalize hq : T.length = q at *
      have HL : Aside (T.length = q) := hq
      clear hq
      go_wp2
      go_loopg [12, 9, 10, 11] q (fun gk s12 s9 s10 s11 wr => ∃ (k : Nat) (Lw La Lo : List Value), s12 = .int .i64 k ∧ k + gk = q ∧ Aside (RE w w4 wr s9 s10 s11 Lw La Lo (eW0 v (T.take k)) (eA0 v (T.take k)) (eRs v (T.take k))))
      case atStart =>
        refine ⟨0, [], [], [], rfl, by omega, ?_⟩
        have e1 : eW0 v (T.take 0) = [] := by simp [eW0]
        have e2 : eA0 v (T.take 0) = [] := by simp [eA0]
        have e3 : eRs v (T.take 0) = [] := by simp [eRs]
        rw [e1, e2, e3]
        exact ⟨OwnL.nil _ _, OwnL.nil _ _, OwnL.nil _ _, (fun g hg => by cases hg), (fun g hg => by cases hg), (fun g hg => by cases hg), (fun g hg => by cases hg), (fun g hg => by cases hg), (fun g hg => by cases hg), Below.refl _ _⟩
      case round =>
        obtain ⟨k, Lw, La, Lo, rfl, hk, H⟩ := hrel
        obtain ⟨aw, cw, rfl⟩ := own_shapeC H.out.ow.row
        obtain ⟨aa, ca, rfl⟩ := own_shapeC H.out.oa.row
        obtain ⟨ao, co, rfl⟩ := own_shapeC H.out.oo.row
        have hlk := HLw.out k
        by_cases hlt : k < q
        · obtain ⟨g2, rfl, aj, cj, hrd⟩ := HRd.out k hlt
          have HCj := HCk.out k hlt
          have HTk : Hid (T.take (k + 1) = T.take k ++ [T.getD k []]) := HSt.out k hlt
          have ckc := (hrd wr H.out.below).1
          have hrw := (hrd wr H.out.below).2.1
          have hin := (hrd wr H.out.below).2.2
          clear hrd
          obtain ⟨Ck, hCk⟩ : ∃ x, x = T.getD k [] := ⟨_, rfl⟩
          rw [← hCk] at HCj HTk ckc hrw hin
          clear hCk
          have hcl1 := HCj.len
          have HRw : Hid (wr.ownsRow w.heap.size 3 1 (.slice aj Ck.length cj) Ck.length (Ck.map (Value.int .i64))) := hrw
          have hsz : w4.heap.size ≤ wr.heap.size := H.out.below.size
          have HHa : Hid (Calls Tryz.prog 21 #[.slice aj Ck.length cj, .int .i64 v] wr fun e w' => e = .returned (.bool (decide (v ∈ Ck))) ∧ w' = wr) := rhas_any aj Ck cj v wr hin (by omega)
          have HHb : Hid (Calls Tryz.prog 21 #[.slice aj Ck.length cj, .int .i64 (-v)] wr fun e w' => e = .returned (.bool (decide (-v ∈ Ck))) ∧ w' = wr) := rhas_any aj Ck cj (-v) wr hin (by omega)
          clear hrw hin HCj
          have q1 : (k : Int) < (q : Int) := by omega
          go_wp2_with fail
          refine HHa.out.mono ?_
          rintro e w' ⟨rfl, hw⟩
          obtain rfl := hw.symm
          by_cases hin : v ∈ Ck
          · have hd : decide (v ∈ Ck) = true := by simpa using hin
            rw [hd]
            have HOr : Hid (wr.ownsRow w.heap.size 36 1 (.slice aw (eW0 v (T.take k)).length cw) (eW0 v (T.take k)).length Lw) := H.out.ow.row
            clear hd HHa HHb
            generalize hnw : (eW0 v (T.take k)).length = nw at *
            go_wp2_with (at_builtin; refine wpList_append_lies _ rfl _ _ 22 rfl w.heap.size 36 i0 (.slice none 0 0) 1 24 Tryz.underlying22 hi hz0 hz1 hz2 rfl (by omega) (Value.slice aw nw cw) nw Lw rfl (HOr.out.alloc _) ⟨wr.heap.size, 0, none⟩ 1 1 [.slice aj Ck.length cj] rfl rfl (cell_one_new _ _ _) (by intro u hu; simp at hu; subst hu; rfl) (by omega) (by unfold maxLen; omega) (by omega) (by simp; omega) (wr.heap.size + 1) (by simp) ?_; intro gg cap7 w7 hown7 hgrow hat hlt7; have HK7 : Hid (w7.ownsRow w.heap.size 36 1 (.slice (some ⟨gg, 0, none⟩) (nw + 1) cap7) (nw + 1) (Lw ++ [.slice aj Ck.length cj]) ∧ (wr.alloc (.cells #[.slice aj Ck.length cj] 36)).grownBy w7 (Value.slice aw nw cw).ownBlock ∧ ((Value.slice aw nw cw).ownBlock = some gg ∨ gg = wr.heap.size + 1)) := ⟨hown7, hgrow, hat⟩; clear hown7 hgrow hat)
            have HN : Aside (RE w w4 w7 (.slice (some ⟨gg, 0, none⟩) (nw + 1) cap7) (.slice aa (eA0 v (T.take k)).length ca) (.slice ao (eRs v (T.take k)).length co) (Lw ++ [.slice aj Ck.length cj]) La Lo (eW0 v (T.take k ++ [Ck])) (eA0 v (T.take k ++ [Ck])) (eRs v (T.take k ++ [Ck]))) := by
              have hal : Below wr.heap.size wr (wr.alloc (.cells #[.slice aj Ck.length cj] 36)) := (Below.refl _ _).alloc (Nat.le_refl _) _
              obtain ⟨e1, e2, e3, _, _⟩ := e_with (T := T.take k) hin
              rw [e1, e2, e3]
              exact (H.out.next hal).put1 (g := gg) (own_below HRw.out hal) (by rw [hnw]; exact HK7.out.1) HK7.out.2.1 rfl (by have := HK7.out.2.2; simpa using this)
            go_roundg (q - k - 1)
            case measure => omega
            case rel => exact ⟨k + 1, _, La, Lo, by simp, by omega, by rw [HTk.out]; exact HN⟩
          · have hd : decide (v ∈ Ck) = false := by simpa using hin
            rw [hd]
            go_wp2_with fail
            refine HHb.out.mono ?_
            rintro e w' ⟨rfl, hw⟩
            obtain rfl := hw.symm
            by_cases hin2 : -v ∈ Ck
            · have hd2 : decide (-v ∈ Ck) = true := by simpa using hin2
              rw [hd2]
              have HOr : Hid (wr.ownsRow w.heap.size 36 1 (.slice aa (eA0 v (T.take k)).length ca) (eA0 v (T.take k)).length La) := H.out.oa.row
              clear hd hd2 HHa HHb
              generalize hnw : (eA0 v (T.take k)).length = nw at *
              go_wp2_with (at_builtin; refine wpList_append_lies _ rfl _ _ 22 rfl w.heap.size 36 i0 (.slice none 0 0) 1 24 Tryz.underlying22 hi hz0 hz1 hz2 rfl (by omega) (Value.slice aa nw ca) nw La rfl (HOr.out.alloc _) ⟨wr.heap.size, 0, none⟩ 1 1 [.slice aj Ck.length cj] rfl rfl (cell_one_new _ _ _) (by intro u hu; simp at hu; subst hu; rfl) (by omega) (by unfold maxLen; omega) (by omega) (by simp; omega) (wr.heap.size + 1) (by simp) ?_; intro gg cap7 w7 hown7 hgrow hat hlt7; have HK7 : Hid (w7.ownsRow w.heap.size 36 1 (.slice (some ⟨gg, 0, none⟩) (nw + 1) cap7) (nw + 1) (La ++ [.slice aj Ck.length cj]) ∧ (wr.alloc (.cells #[.slice aj Ck.length cj] 36)).grownBy w7 (Value.slice aa nw ca).ownBlock ∧ ((Value.slice aa nw ca).ownBlock = some gg ∨ gg = wr.heap.size + 1)) := ⟨hown7, hgrow, hat⟩; clear hown7 hgrow hat)
              have HN : Aside (RE w w4 w7 (.slice aw (eW0 v (T.take k)).length cw) (.slice (some ⟨gg, 0, none⟩) (nw + 1) cap7) (.slice ao (eRs v (T.take k)).length co) Lw (La ++ [.slice aj Ck.length cj]) Lo (eW0 v (T.take k ++ [Ck])) (eA0 v (T.take k ++ [Ck])) (eRs v (T.take k ++ [Ck]))) := by
                have hal : Below wr.heap.size wr (wr.alloc (.cells #[.slice aj Ck.length cj] 36)) := (Below.refl _ _).alloc (Nat.le_refl _) _
                obtain ⟨e1, e2, e3, _, _⟩ := e_against (T := T.take k) hin hin2
                rw [e1, e2, e3]
                exact (H.out.next hal).put2 (g := gg) (own_below HRw.out hal) (by rw [hnw]; exact HK7.out.1) HK7.out.2.1 rfl (by have := HK7.out.2.2; simpa using this)
              go_roundg (q - k - 1)
              case measure => omega
              case rel => exact ⟨k + 1, Lw, _, Lo, by simp, by omega, by rw [HTk.out]; exact HN⟩
            · have hd2 : decide (-v ∈ Ck) = false := by simpa using hin2
              rw [hd2]
              have HOr : Hid (wr.ownsRow w.heap.size 36 1 (.slice ao (eRs v (T.take k)).length co) (eRs v (T.take k)).length Lo) := H.out.oo.row
              clear hd hd2 HHa HHb
              generalize hnw : (eRs v (T.take k)).length = nw at *
              go_wp2_with (at_builtin; refine wpList_append_lies _ rfl _ _ 22 rfl w.heap.size 36 i0 (.slice none 0 0) 1 24 Tryz.underlying22 hi hz0 hz1 hz2 rfl (by omega) (Value.slice ao nw co) nw Lo rfl (HOr.out.alloc _) ⟨wr.heap.size, 0, none⟩ 1 1 [.slice aj Ck.length cj] rfl rfl (cell_one_new _ _ _) (by intro u hu; simp at hu; subst hu; rfl) (by omega) (by unfold maxLen; omega) (by omega) (by simp; omega) (wr.heap.size + 1) (by simp) ?_; intro gg cap7 w7 hown7 hgrow hat hlt7; have HK7 : Hid (w7.ownsRow w.heap.size 36 1 (.slice (some ⟨gg, 0, none⟩) (nw + 1) cap7) (nw + 1) (Lo ++ [.slice aj Ck.length cj]) ∧ (wr.alloc (.cells #[.slice aj Ck.length cj] 36)).grownBy w7 (Value.slice ao nw co).ownBlock ∧ ((Value.slice ao nw co).ownBlock = some gg ∨ gg = wr.heap.size + 1)) := ⟨hown7, hgrow, hat⟩; clear hown7 hgrow hat)
              have HN : Aside (RE w w4 w7 (.slice aw (eW0 v (T.take k)).length cw) (.slice aa (eA0 v (T.take k)).length ca) (.slice (some ⟨gg, 0, none⟩) (nw + 1) cap7) Lw La (Lo ++ [.slice aj Ck.length cj]) (eW0 v (T.take k ++ [Ck])) (eA0 v (T.take k ++ [Ck])) (eRs v (T.take k ++ [Ck]))) := by
                have hal : Below wr.heap.size wr (wr.alloc (.cells #[.slice aj Ck.length cj] 36)) := (Below.refl _ _).alloc (Nat.le_refl _) _
                obtain ⟨e1, e2, e3, _, _⟩ := e_rest (T := T.take k) hin hin2
                rw [e1, e2, e3]
                exact (H.out.next hal).put3 (g := gg) (own_below HRw.out hal) (by rw [hnw]; exact HK7.out.1) HK7.out.2.1 rfl (by have := HK7.out.2.2; simpa using this)
              go_roundg (q - k - 1)
              case measure => omega
              case rel => exact ⟨k + 1, Lw, La, _, by simp, by omega, by rw [HTk.out]; exact HN⟩
        · obtain rfl : k = q := by omega
          have hTk : T.take k = T := by rw [← HL.out]; exact List.take_length
          rw [hTk] at H hlk ⊢
          have hnW := hlk.1
          have hnA := hlk.2.1
          have hnR := hlk.2.2
          have hprod : (eW0 v T).length * (eA0 v T).length ≤ 1048576 * 1048576 := Nat.mul_le_mul (by omega) (by omega)
          have lW : (eWs v T).length = (eW0 v T).length := by unfold eWs; rw [List.length_map]
          have lA : (eAs v T).length = (eA0 v T).length := by unfold eAs; rw [List.length_map]
          rw [lW, lA] at HBig HLg HOk
          have HWat : Hid (∀ i, i < (eW0 v T).length → (eWs v T).getD i [] = woC ((eW0 v T).getD i []) v ∧ v ∈ (eW0 v T).getD i [] ∧ Cl1 vars ((eW0 v T).getD i []) ∧ (eWs v T).getD i [] ∈ eWs v T) := fun i hi => by
            have hm : (eW0 v T).getD i [] ∈ eW0 v T := by rw [getD_at _ _ _ hi]; exact List.getElem_mem _
            refine ⟨getD_mapL _ _ _ hi, by simpa using (List.mem_filter.1 hm).2, HCl.out _ (List.mem_filter.1 hm).1, ?_⟩
            rw [getD_at _ _ _ (by rw [lW]; exact hi)]
            exact List.getElem_mem _
          have HAat : Hid (∀ i, i < (eA0 v T).length → (eAs v T).getD i [] = woC ((eA0 v T).getD i []) (-v) ∧ -v ∈ (eA0 v T).getD i [] ∧ Cl1 vars ((eA0 v T).getD i []) ∧ (eAs v T).getD i [] ∈ eAs v T) := fun i hi => by
            have hm : (eA0 v T).getD i [] ∈ eA0 v T := by rw [getD_at _ _ _ hi]; exact List.getElem_mem _
            refine ⟨getD_mapL _ _ _ hi, by have := (List.mem_filter.1 hm).2; simp at this; exact this.2, HCl.out _ (List.mem_filter.1 hm).1, ?_⟩
            rw [getD_at _ _ _ (by rw [lA]; exact hi)]
            exact List.getElem_mem _
          have HStepO : Hid (∀ i, i < (eW0 v T).length → joins ((eWs v T).take (i + 1)) (eAs v T) = joins ((eWs v T).take i) (eAs v T) ++ (eAs v T).map (fun b => setL ((eWs v T).getD i [] ++ b))) := fun i hi => joins_take _ _ i (by rw [lW]; exact hi)
          have HStepI : Hid (∀ a k, k < (eA0 v T).length → ((eAs v T).take (k + 1)).map (fun b => setL (a ++ b)) = ((eAs v T).take k).map (fun b => setL (a ++ b)) ++ [setL (a ++ (eAs v T).getD k [])]) := fun a k hk => mapA_take _ a k (by rw [lA]; exact hk)
          have HTakeA : Hid ((eAs v T).take (eA0 v T).length = eAs v T) := by rw [← lA]; exact List.take_length
          have HTakeW : Hid ((eWs v T).take (eW0 v T).length = eWs v T) := by rw [← lW]; exact List.take_length
          have HShort : Hid ((∀ i, i < (eW0 v T).length → ∀ k, k < (eA0 v T).length → (setL ((eWs v T).getD i [] ++ (eAs v T).getD k [])).length ≤ 65536) → ∀ a ∈ eWs v T, ∀ b ∈ eAs v T, (setL (a ++ b)).length ≤ 65536) := fun hh a ha b hb => by
            obtain ⟨i, hi, rfl⟩ := List.getElem_of_mem ha
            obtain ⟨k, hk, rfl⟩ := List.getElem_of_mem hb
            have := hh i (by rw [← lW]; exact hi) k (by rw [← lA]; exact hk)
            rw [getD_at _ _ _ hi, getD_at _ _ _ hk] at this
            exact this
          have HLen : Hid (∀ i k, i ≤ (eW0 v T).length → k ≤ (eA0 v T).length → (eRs v T ++ joins ((eWs v T).take i) (eAs v T) ++ ((eAs v T).take k).map (fun b => setL ((eWs v T).getD i [] ++ b))).length ≤ (eRs v T).length + i * (eA0 v T).length + k) := fun i k hi hk => by
            rw [List.length_append, List.length_append, List.length_map, joins_len, List.length_take, List.length_take, lA, lW]
            have e1 : min i (eW0 v T).length = i := by omega
            have e2 : min k (eA0 v T).length = k := by omega
            rw [e1, e2]
            exact Nat.le_refl _
          have HMulB : Hid (∀ i, i < (eW0 v T).length → i * (eA0 v T).length + (eA0 v T).length ≤ (eW0 v T).length * (eA0 v T).length) := fun i hi => by
            have := Nat.mul_le_mul_right (eA0 v T).length (show i + 1 ≤ (eW0 v T).length from hi)
            rw [Nat.succ_mul] at this
            exact this
          have HRr : Hid (∀ W, Below w4.heap.size w4 W → W.heap[w.heap.size + 1]? = some (.cells #[.int .i64 0, .slice none 0 0] 24 (0, 0)) ∧ W.heap[w.heap.size]? = some (.cells #[.int .i64 vars, .slice ad n c] 24 (0, 0)) ∧ Below w.heap.size w W) := fun W hW => ⟨(hW.block _ (by omega)).trans H4.out.2.1, (hW.block _ (by omega)).trans H4.out.1, below_next H4.out.2.2.1 hW⟩
          clear HRd HSt HCk HLw hlk hTk
          by_cases hbig : 1048576 < (eW0 v T).length * (eA0 v T).length
          · have t1 : decide (1048576 < (eW0 v T).length * (eA0 v T).length) = true := by simpa using hbig
            have HE : Hid (elE vars cs v = 23) := HBig.out hbig
            have HR : Hid (wr.heap[w.heap.size + 1]? = some (.cells #[.int .i64 0, .slice none 0 0] 24 (0, 0))) := (HRr.out wr H.out.below).1
            have HBw : Hid (Below w.heap.size w wr) := (HRr.out wr H.out.below).2.2
            clear lW lA HBig HLg HOk HWat HAat HStepO HStepI HTakeA HTakeW HShort HLen HMulB HRr H
            generalize (eW0 v T).length = nW at *
            generalize (eA0 v T).length = nA at *
            have f1 : wr.cell? ⟨w.heap.size + 1, 0, none⟩ = some (.int .i64 0) := blk_cell HR.out 0
            have f2 : wr.cell? ⟨w.heap.size + 1, 1, none⟩ = some (.slice none 0 0) := blk_cell HR.out 1
            have f3 : wr.frozen? ⟨w.heap.size + 1, 0, none⟩ = false := blk_frozen HR.out 0
            have f4 : wr.frozen? ⟨w.heap.size + 1, 1, none⟩ = false := blk_frozen HR.out 1
            have hle : w.heap.size ≤ w.heap.size + 1 := by omega
            have HFn : Hid (((wr.setCell ⟨w.heap.size + 1, 0, none⟩ (.int .i64 0)).setCell ⟨w.heap.size + 1, 1, none⟩ (.slice none 0 0)).heap[w.heap.size + 1]? = some (.cells #[.int .i64 0, .slice none 0 0] 24 (0, 0))) := by
              rw [heap_setCell_same _ (w.heap.size + 1) 1 _ _ _ (heap_setCell_same _ (w.heap.size + 1) 0 _ _ _ HR.out)]; exact rfl
            go_wp2
            all_goals (refine bodyPost_ret (v := .tuple #[.agg #[.int .i64 0, .slice none 0 0], .int .i64 23]) (res_ct (p := 4) (u := 5) rfl _ _ (w.heap.size + 1) 24 _ (0, 0) _ rfl HFn.out Tryz.underlying24 rfl (by kernel_rfl)) rfl ?_; exact HBad.out 23 _ HE.out (by decide) ((HBw.out.setCell hle _).setCell hle _))
          · have t1 : decide (1048576 < (eW0 v T).length * (eA0 v T).length) = false := by simpa using hbig
            have HL22 : Hid ((∃ a ∈ eWs v T, ∃ b ∈ eAs v T, 65536 < (setL (a ++ b)).length) → elE vars cs v = 22) := HLg.out hbig
            have HOk2 := HOk.out hbig
            have HOk3 : Hid ((∀ a ∈ eWs v T, ∀ b ∈ eAs v T, (setL (a ++ b)).length ≤ 65536) → elE vars cs v = (ck vars (td (elX v T))).2 ∧ (∀ S ∈ elX v T, S.length ≤ 65536 ∧ ∀ x ∈ S, litB x = true) ∧ (elX v T).length ≤ 4194304 ∧ (td (elX v T)).length ≤ 4194304 ∧ (∀ j, j < (td (elX v T)).length → ((td (elX v T)).getD j []).length ≤ 65536)) := HOk2
            have HEq : Hid (eRs v T ++ joins (eWs v T) (eAs v T) = elX v T) := rfl
            have hpr : (eW0 v T).length * (eA0 v T).length ≤ 1048576 := by omega
            clear HOk2 HOk HLg HBig lW lA hprod
            obtain ⟨WR, hWR⟩ : ∃ W, W = wr := ⟨_, rfl⟩
            rw [← hWR] at H ⊢
            clear hWR
            generalize hnw : (eW0 v T).length = nW at *
            generalize hna : (eA0 v T).length = nA at *
            have HlW : Aside ((eW0 v T).length = nW) := hnw
            have HlA : Aside ((eA0 v T).length = nA) := hna
            clear hnw hna
            go_wp2
            go_loopg [13, 11] nW (fun gi s13 s11 ws => ∃ (i : Nat) (Lo : List Value), s13 = .int .i64 i ∧ i + gi = nW ∧ Aside (RE w w4 ws (.slice aw nW cw) (.slice aa nA ca) s11 Lw La Lo (eW0 v T) (eA0 v T) (eRs v T ++ joins ((eWs v T).take i) (eAs v T))) ∧ Aside (∀ i', i' < i → ∀ k, k < nA → (setL ((eWs v T).getD i' [] ++ (eAs v T).getD k [])).length ≤ 65536))
            case atStart =>
              refine ⟨0, Lo, rfl, by omega, ?_, fun i' hi' => absurd hi' (Nat.not_lt_zero _)⟩
              have e1 : eRs v T ++ joins ((eWs v T).take 0) (eAs v T) = eRs v T := by simp [joins]
              rw [e1]
              exact H
            case round =>
              clear H
              obtain ⟨i, Lo, rfl, hi2, H, HSh⟩ := hrel
              obtain ⟨W6, hW6⟩ : ∃ W, W = wr := ⟨_, rfl⟩
              rw [← hW6] at H ⊢
              clear hW6
              by_cases hltw : i < nW
              · obtain ⟨ao1, co1, hs11⟩ := own_shapeC H.out.oo.row
                subst hs11
                have HX0 : Aside (RE w w4 W6 (.slice aw nW cw) (.slice aa nA ca) (.slice ao1 (eRs v T ++ joins ((eWs v T).take i) (eAs v T)).length co1) Lw La Lo (eW0 v T) (eA0 v T) (eRs v T ++ joins ((eWs v T).take i) (eAs v T) ++ ((eAs v T).take 0).map (fun b => setL ((eWs v T).getD i [] ++ b)))) := by
                  simp only [List.take_zero, List.map_nil, List.append_nil]
                  exact H
                obtain ⟨w1a, w1b, w1c, w1d⟩ := HWat.out i hltw
                obtain ⟨gw, ax, cx, haw, _⟩ := H.out.ow.rowAtN HlW.out.symm (by rw [HlW.out]; exact hltw)
                have HWi : Hid ((eWs v T).getD i [] = woC ((eW0 v T).getD i []) v ∧ v ∈ (eW0 v T).getD i [] ∧ Cl1 vars ((eW0 v T).getD i []) ∧ (eWs v T).getD i [] ∈ eWs v T) := ⟨w1a, w1b, w1c, w1d⟩
                have hMB := HMulB.out i hltw
                have HSi : Hid (joins ((eWs v T).take (i + 1)) (eAs v T) = joins ((eWs v T).take i) (eAs v T) ++ (eAs v T).map (fun b => setL ((eWs v T).getD i [] ++ b))) := HStepO.out i hltw
                have HLi : Hid (∀ k, k ≤ nA → (eRs v T ++ joins ((eWs v T).take i) (eAs v T) ++ ((eAs v T).take k).map (fun b => setL ((eWs v T).getD i [] ++ b))).length ≤ (eRs v T).length + i * nA + k) := fun k hk => HLen.out i k (by omega) hk
                clear w1a w1b w1c w1d H
                subst haw
                have q1 : (i : Int) < (nW : Int) := by omega
                generalize hOl : (eRs v T ++ joins ((eWs v T).take i) (eAs v T)).length = nO at *
                clear hOl
                generalize hPQ : i * nA = PQ at *
                clear hPQ
                go_wp2
                go_loopg [14, 11] nA (fun gj s14 s11 ws => ∃ (j : Nat) (Lo : List Value), s14 = .int .i64 j ∧ j + gj = nA ∧ Aside (RE w w4 ws (.slice (some ⟨gw, 0, none⟩) nW cw) (.slice aa nA ca) s11 Lw La Lo (eW0 v T) (eA0 v T) (eRs v T ++ joins ((eWs v T).take i) (eAs v T) ++ ((eAs v T).take j).map (fun b => setL ((eWs v T).getD i [] ++ b)))) ∧ Aside (∀ k, k < j → (setL ((eWs v T).getD i [] ++ (eAs v T).getD k [])).length ≤ 65536))
                case atStart => exact ⟨0, Lo, rfl, by omega, HX0, fun k hk => absurd hk (Nat.not_lt_zero _)⟩
                case round =>
                  clear HX0
                  obtain ⟨j, Lo2, rfl, hj2, H, HSj⟩ := hrel
                  obtain ⟨ao2, co2, hs11⟩ := own_shapeC H.out.oo.row
                  subst hs11
                  by_cases hlta : j < nA
                  · obtain ⟨gw2, ax, cx, e1, cxc, hrx, hix⟩ := H.out.ow.rowAtN HlW.out.symm (by rw [HlW.out]; exact hltw)
                    cases e1
                    obtain ⟨ga, ay, cy, rfl, cyc, hry, hiy⟩ := H.out.oa.rowAtN HlA.out.symm (by rw [HlA.out]; exact hlta)
                    obtain ⟨a1a, a1b, a1c, a1d⟩ := HAat.out j hlta
                    have hlO := HLi.out j (by omega)
                    have HSt2 : Hid (((eAs v T).take (j + 1)).map (fun b => setL ((eWs v T).getD i [] ++ b)) = ((eAs v T).take j).map (fun b => setL ((eWs v T).getD i [] ++ b)) ++ [setL ((eWs v T).getD i [] ++ (eAs v T).getD j [])]) := HStepI.out _ j hlta
                    have hrA : rAll ((eW0 v T).getD i []) ((eA0 v T).getD j []) v = setL ((eWs v T).getD i [] ++ (eAs v T).getD j []) := by rw [HWi.out.1, a1a]; rfl
                    have hrE : rErr ((eW0 v T).getD i []) ((eA0 v T).getD j []) v = if 65536 < (setL ((eWs v T).getD i [] ++ (eAs v T).getD j [])).length then 22 else 0 := by
                      rw [rErr_is HWi.out.2.2.1 a1c ⟨v0, by omega⟩ HWi.out.2.1 a1b, hrA]
                    have hxl := HWi.out.2.2.1.len
                    have hyl := a1c.len
                    have HMm : Hid ((eWs v T).getD i [] ∈ eWs v T ∧ (eAs v T).getD j [] ∈ eAs v T) := ⟨HWi.out.2.2.2, a1d⟩
                    have HShj : Hid ((setL ((eWs v T).getD i [] ++ (eAs v T).getD j [])).length ≤ 65536 → ∀ k, k < j + 1 → (setL ((eWs v T).getD i [] ++ (eAs v T).getD k [])).length ≤ 65536) := fun h1 k hk => by
                      rcases Nat.lt_succ_iff_lt_or_eq.1 hk with h3 | h3
                      · exact HSj.out k h3
                      · rw [h3]; exact h1
                    have HRs : Hid (Calls Tryz.prog 22 #[.slice ax ((eW0 v T).getD i []).length cx, .slice ay ((eA0 v T).getD j []).length cy, .int .i64 v] wr.drew (ResPost ((eW0 v T).getD i []) ((eA0 v T).getD j []) v wr.drew)) := rresolve_any ax ay _ _ cx cy v wr.drew hix hiy (by omega) (by omega)
                    clear a1a a1b a1c a1d hrx hry hix hiy
                    have hsz : w4.heap.size ≤ wr.heap.size := H.out.below.size
                    generalize hSS : setL ((eWs v T).getD i [] ++ (eAs v T).getD j []) = SS at *
                    obtain ⟨X1, hX1⟩ : ∃ x, x = (eW0 v T).getD i [] := ⟨_, rfl⟩
                    obtain ⟨Y1, hY1⟩ : ∃ x, x = (eA0 v T).getD j [] := ⟨_, rfl⟩
                    rw [← hX1, ← hY1] at hrE hrA HRs
                    rw [← hX1] at cxc hxl
                    rw [← hY1] at cyc hyl
                    clear hX1 hY1
                    generalize hOl : (eRs v T ++ joins ((eWs v T).take i) (eAs v T) ++ ((eAs v T).take j).map (fun b => setL ((eWs v T).getD i [] ++ b))).length = nO2 at *
                    have HOl : Hid ((eRs v T ++ joins ((eWs v T).take i) (eAs v T) ++ ((eAs v T).take j).map (fun b => setL ((eWs v T).getD i [] ++ b))).length = nO2) := hOl
                    clear hOl
                    have q2 : (j : Int) < (nA : Int) := by omega
                    by_cases hlong : 65536 < SS.length
                    · have HRs2 : Hid (Calls Tryz.prog 22 #[.slice ax X1.length cx, .slice ay Y1.length cy, .int .i64 v] wr.drew fun e w' => ∃ u, e = .returned (.tuple #[u, .int .i64 22]) ∧ Below wr.heap.size wr w') := by
                        refine HRs.out.mono ?_
                        rintro e w' ⟨u, he, _, hb⟩
                        rw [hrE, if_pos hlong] at he
                        exact ⟨u, he, below_next ((Below.refl _ _).drew) hb⟩
                      have HE : Hid (elE vars cs v = 22) := HL22.out ⟨_, HMm.out.1, _, HMm.out.2, by rw [hSS]; exact hlong⟩
                      have hbr := H.out.below
                      have HRn : Hid (∀ W, Below wr.heap.size wr W → W.heap[w.heap.size + 1]? = some (.cells #[.int .i64 0, .slice none 0 0] 24 (0, 0)) ∧ Below w.heap.size w W) := fun W hW => ⟨(HRr.out W (below_next hbr hW)).1, (HRr.out W (below_next hbr hW)).2.2⟩
                      clear hbr hrE hrA HRs H hlong
                      go_wp2_with fail
                      go_region_law (first
                        | (go_simp; go_at_call 22; refine HRs2.out.mono ?_; rintro e w6 ⟨u6, rfl, hb6⟩))
                      all_goals
                        have HR : Hid (w6.heap[w.heap.size + 1]? = some (.cells #[.int .i64 0, .slice none 0 0] 24 (0, 0))) := (HRn.out w6 hb6).1
                        have HBw : Hid (Below w.heap.size w w6) := (HRn.out w6 hb6).2
                        clear hb6
                        have f1 : w6.cell? ⟨w.heap.size + 1, 0, none⟩ = some (.int .i64 0) := blk_cell HR.out 0
                        have f2 : w6.cell? ⟨w.heap.size + 1, 1, none⟩ = some (.slice none 0 0) := blk_cell HR.out 1
                        have f3 : w6.frozen? ⟨w.heap.size + 1, 0, none⟩ = false := blk_frozen HR.out 0
                        have f4 : w6.frozen? ⟨w.heap.size + 1, 1, none⟩ = false := blk_frozen HR.out 1
                        have hle : w.heap.size ≤ w.heap.size + 1 := by omega
                        have HFn : Hid (((w6.setCell ⟨w.heap.size + 1, 0, none⟩ (.int .i64 0)).setCell ⟨w.heap.size + 1, 1, none⟩ (.slice none 0 0)).heap[w.heap.size + 1]? = some (.cells #[.int .i64 0, .slice none 0 0] 24 (0, 0))) := by
                          rw [heap_setCell_same _ (w.heap.size + 1) 1 _ _ _ (heap_setCell_same _ (w.heap.size + 1) 0 _ _ _ HR.out)]; exact rfl
                        go_wp2
                        all_goals (refine bodyPost_ret (v := .tuple #[.agg #[.int .i64 0, .slice none 0 0], .int .i64 22]) (res_ct (p := 4) (u := 5) rfl _ _ (w.heap.size + 1) 24 _ (0, 0) _ rfl HFn.out Tryz.underlying24 rfl (by kernel_rfl)) rfl ?_; exact HBad.out 22 _ HE.out (by decide) ((HBw.out.setCell hle _).setCell hle _))
                    · have HRs2 : Hid (Calls Tryz.prog 22 #[.slice ax X1.length cx, .slice ay Y1.length cy, .int .i64 v] wr.drew fun e w' => ∃ u, e = .returned (.tuple #[u, .int .i64 0]) ∧ w'.ownsRow wr.heap.size 3 1 u SS.length (SS.map (Value.int .i64)) ∧ Below wr.heap.size wr w') := by
                        refine HRs.out.mono ?_
                        rintro e w' ⟨u, he, ho, hb⟩
                        have hr0 : rErr X1 Y1 v = 0 := by rw [hrE, if_neg hlong]
                        have hrS : rSet X1 Y1 v = SS := by unfold rSet; rw [if_pos hr0, hrA]
                        rw [hr0] at he
                        rw [hrS] at ho
                        exact ⟨u, he, ho, below_next ((Below.refl _ _).drew) hb⟩
                      have HSh2 : Hid (∀ k, k < j + 1 → (setL ((eWs v T).getD i [] ++ (eAs v T).getD k [])).length ≤ 65536) := HShj.out (by omega)
                      clear hrE hrA HRs hlong
                      go_wp2_with fail
                      go_region_law (first
                        | (go_simp; go_at_call 22; refine HRs2.out.mono ?_; rintro e w6 ⟨u6, rfl, ho6, hb6⟩; obtain ⟨a6, c6, rfl, _⟩ := own_ints ho6))
                      all_goals
                        have H6 : Aside (RE w w4 w6 (.slice (some ⟨gw, 0, none⟩) nW cw) (.slice (some ⟨ga, 0, none⟩) nA ca) (.slice ao2 nO2 co2) Lw La Lo2 (eW0 v T) (eA0 v T) (eRs v T ++ joins ((eWs v T).take i) (eAs v T) ++ ((eAs v T).take j).map (fun b => setL ((eWs v T).getD i [] ++ b)))) := H.out.next hb6
                        have HX6 : Hid (w6.ownsRow w.heap.size 3 1 (.slice a6 SS.length c6) SS.length (SS.map (Value.int .i64))) := own_up ho6 (by omega)
                        have HOr : Hid (w6.ownsRow w.heap.size 36 1 (.slice ao2 nO2 co2) nO2 Lo2) := by have := H6.out.oo.row; rw [HOl.out] at this; exact this
                        have hsz6 : w4.heap.size ≤ w6.heap.size := H6.out.below.size
                        clear ho6 hb6 H
                        go_wp2_with (at_builtin; refine wpList_append_lies _ rfl _ _ 22 rfl w.heap.size 36 i0 (.slice none 0 0) 1 24 Tryz.underlying22 hi hz0 hz1 hz2 rfl (by omega) (Value.slice ao2 nO2 co2) nO2 Lo2 rfl (HOr.out.alloc _) ⟨w6.heap.size, 0, none⟩ 1 1 [.slice a6 SS.length c6] rfl rfl (cell_one_new _ _ _) (by intro u hu; simp at hu; subst hu; rfl) (by omega) (by unfold maxLen; omega) (by omega) (by simp; omega) (w6.heap.size + 1) (by simp) ?_; intro gg cap7 w7 hown7 hgrow hat hlt7; have HK7 : Hid (w7.ownsRow w.heap.size 36 1 (.slice (some ⟨gg, 0, none⟩) (nO2 + 1) cap7) (nO2 + 1) (Lo2 ++ [.slice a6 SS.length c6]) ∧ (w6.alloc (.cells #[.slice a6 SS.length c6] 36)).grownBy w7 (Value.slice ao2 nO2 co2).ownBlock ∧ ((Value.slice ao2 nO2 co2).ownBlock = some gg ∨ gg = w6.heap.size + 1)) := ⟨hown7, hgrow, hat⟩; clear hown7 hgrow hat)
                        have HN : Aside (RE w w4 w7 (.slice (some ⟨gw, 0, none⟩) nW cw) (.slice (some ⟨ga, 0, none⟩) nA ca) (.slice (some ⟨gg, 0, none⟩) (nO2 + 1) cap7) Lw La (Lo2 ++ [.slice a6 SS.length c6]) (eW0 v T) (eA0 v T) (eRs v T ++ joins ((eWs v T).take i) (eAs v T) ++ ((eAs v T).take (j + 1)).map (fun b => setL ((eWs v T).getD i [] ++ b)))) := by
                          have hal : Below w6.heap.size w6 (w6.alloc (.cells #[.slice a6 SS.length c6] 36)) := (Below.refl _ _).alloc (Nat.le_refl _) _
                          rw [HSt2.out, ← List.append_assoc]
                          exact (H6.out.next hal).put3 (g := gg) (own_below HX6.out hal) (by rw [HOl.out]; exact HK7.out.1) HK7.out.2.1 rfl (by have := HK7.out.2.2; simpa using this)
                        go_roundg (nA - j - 1)
                        case measure => omega
                        case rel => exact ⟨j + 1, _, by simp, by omega, HN, HSh2⟩
                  · obtain rfl : j = nA := by omega
                    rw [HTakeA.out] at H
                    have HN : Aside (RE w w4 wr (.slice (some ⟨gw, 0, none⟩) nW cw) (.slice aa j ca) (.slice ao2 (eRs v T ++ joins ((eWs v T).take i) (eAs v T) ++ ((eAs v T).take j).map (fun b => setL ((eWs v T).getD i [] ++ b))).length co2) Lw La Lo2 (eW0 v T) (eA0 v T) (eRs v T ++ joins ((eWs v T).take (i + 1)) (eAs v T))) := by
                      rw [HSi.out, ← List.append_assoc, HTakeA.out]
                      exact H
                    have HSn : Aside (∀ i', i' < i + 1 → ∀ k, k < j → (setL ((eWs v T).getD i' [] ++ (eAs v T).getD k [])).length ≤ 65536) := fun i' hi' => by
                      rcases Nat.lt_succ_iff_lt_or_eq.1 hi' with h3 | h3
                      · exact HSh.out i' h3
                      · rw [h3]; exact HSj.out
                    clear H
                    generalize (eRs v T ++ joins ((eWs v T).take i) (eAs v T) ++ ((eAs v T).take j).map (fun b => setL ((eWs v T).getD i [] ++ b))).length = nO2 at *
                    go_wp2
                    go_roundg (nW - i - 1)
                    case measure => omega
                    case rel => exact ⟨i + 1, Lo2, by simp, by omega, HN, HSn⟩
              · obtain rfl : i = nW := by omega
                rw [HTakeW.out, HEq.out] at H
                obtain ⟨ao3, co3, hs11⟩ := own_shapeC H.out.oo.row
                subst hs11
                obtain ⟨ok1, ok2, ok3, ok4, ok5⟩ := HOk3.out (HShort.out HSh.out)
                have HE : Hid (elE vars cs v = (ck vars (td (elX v T))).2) := ok1
                have HGd : Hid (elE vars cs v = 0 → elV vars cs v = vars ∧ elC vars cs v = td (elX v T)) := HGood.out
                have HO5 : Hid (∀ j, j < (td (elX v T)).length → ((td (elX v T)).getD j []).length ≤ 1000000000000000000) := fun j hj => by have := ok5 j hj; omega
                have hbr := H.out.below
                have hcls := H.out.oo.cls
                have HT3 : Hid (∀ W, Below W6.heap.size W6 W → Calls Tryz.prog 20 #[.slice ao3 (elX v T).length co3] W fun e w' => ∃ ad7 cap7 L, e = .returned (.slice ad7 (td (elX v T)).length cap7) ∧ OwnL w' w.heap.size (.slice ad7 (td (elX v T)).length cap7) L (td (elX v T)) ∧ Below W.heap.size W w' ∧ Below W6.heap.size W6 w') := fun W hbW => by
                  refine (rtidyL_any ao3 (elX v T) co3 W (hcls.below hbW) ok3 ok2).mono ?_
                  rintro e w' ⟨u, L, he, ho, hb⟩
                  obtain ⟨ad7, cap7, rfl⟩ := own_shapeC ho.row
                  exact ⟨ad7, cap7, L, he, ho.up (Nat.le_trans (by have := hbr.size; omega) hbW.size), hb, below_next hbW hb⟩
                have HTa : Hid (Calls Tryz.prog 20 #[.slice ao3 (elX v T).length co3] W6.drew fun e w' => ∃ ad7 cap7 L, e = .returned (.slice ad7 (td (elX v T)).length cap7) ∧ OwnL w' w.heap.size (.slice ad7 (td (elX v T)).length cap7) L (td (elX v T)) ∧ Below W6.heap.size W6 w') := (HT3.out _ ((Below.refl _ _).drew)).mono fun e w' ⟨x1, x2, x3, x4, x5, _, x6⟩ => ⟨x1, x2, x3, x4, x5, x6⟩
                have HTb : Hid (Calls Tryz.prog 20 #[.slice ao3 (elX v T).length co3] (W6.alloc (.cells #[.int .i64 0, .slice none 0 0] 24)).drew fun e w' => ∃ ad7 cap7 L, e = .returned (.slice ad7 (td (elX v T)).length cap7) ∧ OwnL w' w.heap.size (.slice ad7 (td (elX v T)).length cap7) L (td (elX v T)) ∧ Below W6.heap.size W6 w' ∧ w'.heap[W6.heap.size]? = some (.cells #[.int .i64 0, .slice none 0 0] 24 (0, 0))) := (HT3.out _ (((Below.refl _ _).alloc (Nat.le_refl _) _).drew)).mono fun e w' ⟨x1, x2, x3, x4, x5, x7, x6⟩ => ⟨x1, x2, x3, x4, x5, x6, (x7.block W6.heap.size (by simp)).trans (heap_alloc_at W6 _)⟩
                clear HT3
                have HRn : Hid (∀ W, Below W6.heap.size W6 W → W.heap[w.heap.size + 1]? = some (.cells #[.int .i64 0, .slice none 0 0] 24 (0, 0)) ∧ W.heap[w.heap.size]? = some (.cells #[.int .i64 vars, .slice ad n c] 24 (0, 0)) ∧ Below w.heap.size w W) := fun W hW => HRr.out W (below_next hbr hW)
                have c0 : W6.drew.cell? ⟨w.heap.size, 0, none⟩ = some (.int .i64 vars) := blk_cell (HRn.out W6.drew (Below.refl _ _).drew).2.1 0
                have c1 : ∀ o, (W6.drew.alloc o).cell? ⟨w.heap.size, 0, none⟩ = some (.int .i64 vars) := fun o => blk_cell (HRn.out (W6.drew.alloc o) (((Below.refl _ _).drew).alloc (Nat.le_refl _) o)).2.1 0
                have c2 : ∀ o, (W6.alloc o).drew.cell? ⟨w.heap.size, 0, none⟩ = some (.int .i64 vars) := fun o => c1 o
                have hs6 : w.heap.size + 2 ≤ W6.heap.size := by have := hbr.size; omega
                clear ok1 ok2 ok3 ok5 hbr hcls H HSh HShort HOk3 HL22 HStepO HStepI HTakeA HTakeW HLen HMulB HRr HWat HAat HEq HGood
                generalize hX : (elX v T).length = nX at *
                clear hX
                generalize hTX : td (elX v T) = TX at *
                clear hTX
                have hlx := ok4
                clear ok4
                generalize hq9 : TX.length = nT at *
                have HnT : Hid (TX.length = nT) := hq9
                clear hq9
                go_wp2_with fail
                go_region_law (first
                  | (go_simp; go_at_call 20; refine HTa.out.mono ?_; rintro e w7 ⟨ad7, cap7, L7, rfl, ho7, hc7⟩; have g0 := blk_cell (HRn.out w7 hc7).2.1 0; have g1 := fun o => blk_cell ((Below.heap_alloc w7 o w.heap.size (Nat.lt_of_lt_of_le (by omega) hc7.size)).trans (HRn.out w7 hc7).2.1) 0)
                  | (go_simp; go_at_call 20; refine HTb.out.mono ?_; rintro e w7 ⟨ad7, cap7, L7, rfl, ho7, hc7, hz7⟩; have g0 := blk_cell (HRn.out w7 hc7).2.1 0; have z0 := blk_cell hz7 0; have z1 := blk_cell hz7 1; have z2 := blk_frozen hz7 0; have z3 := blk_frozen hz7 1))
                all_goals first
                  | (have hF9 : ((w7.setCell ⟨W6.heap.size, 0, none⟩ (.int .i64 vars)).setCell ⟨W6.heap.size, 1, none⟩ (.slice ad7 nT cap7)).heap[W6.heap.size]? = some (.cells #[.int .i64 vars, .slice ad7 nT cap7] 24 (0, 0)) := by rw [heap_setCell_same _ W6.heap.size 1 _ _ _ (heap_setCell_same _ W6.heap.size 0 _ _ _ hz7)]; rfl
                     have hO9 : OwnL ((w7.setCell ⟨W6.heap.size, 0, none⟩ (.int .i64 vars)).setCell ⟨W6.heap.size, 1, none⟩ (.slice ad7 nT cap7)) w.heap.size (.slice ad7 nT cap7) L7 TX := (ho7.set W6.heap.size 0 _ hz7 (by decide) (by decide)).set W6.heap.size 1 _ (heap_setCell_same _ W6.heap.size 0 _ _ _ hz7) (by decide) (by decide)
                     have hB9 : Below W6.heap.size W6 ((w7.setCell ⟨W6.heap.size, 0, none⟩ (.int .i64 vars)).setCell ⟨W6.heap.size, 1, none⟩ (.slice ad7 nT cap7)) := (hc7.setCell (Nat.le_refl _) _).setCell (Nat.le_refl _) _
                     clear hz7 z0 z1 z2 z3 g0 ho7 hc7
                     generalize (w7.setCell ⟨W6.heap.size, 0, none⟩ (.int .i64 vars)).setCell ⟨W6.heap.size, 1, none⟩ (.slice ad7 nT cap7) = WF at *
                     have hgl : W6.heap.size < WF.heap.size := (Array.getElem?_eq_some_iff.1 hF9).1
                     have HCk : Hid (Calls Tryz.prog 19 #[.agg #[.int .i64 vars, .slice ad7 nT cap7]] WF fun e w' => e = .returned (.tuple #[.int .i64 (ck vars TX).1, .int .i64 (ck vars TX).2]) ∧ Below WF.heap.size WF w') := by
                       have hh := rcheck_any vars ad7 TX cap7 WF hO9.cls (by rw [HnT.out]; omega) (by rw [HnT.out]; exact HO5.out)
                       rw [HnT.out] at hh
                       exact hh
                     have d0 := blk_cell hF9 0
                     have d1 := blk_cell hF9 1
                     have H9 : Hid (WF.heap[W6.heap.size]? = some (.cells #[.int .i64 vars, .slice ad7 nT cap7] 24 (0, 0)) ∧ OwnL WF w.heap.size (.slice ad7 nT cap7) L7 TX ∧ Below W6.heap.size W6 WF) := ⟨hF9, hO9, hB9⟩
                     clear hF9 hO9 hB9
                     by_cases h9 : (ck vars TX).2 = 0
                     · have HE0 : Hid (elE vars cs v = 0) := by rw [HE.out]; exact h9
                       have HCk2 : Hid (Calls Tryz.prog 19 #[.agg #[.int .i64 vars, .slice ad7 nT cap7]] WF fun e w' => ∃ r3, e = .returned (.tuple #[.int .i64 r3, .int .i64 0]) ∧ Below WF.heap.size WF w') := HCk.out.mono fun e w' ⟨x1, x2⟩ => ⟨(ck vars TX).1, by rw [x1, h9], x2⟩
                       clear h9 HCk HE
                       go_wp2_with fail
                       refine HCk2.out.mono ?_
                       rintro e w8 ⟨r3, rfl, hb8⟩
                       have hR8 := (HRn.out w8 (below_next H9.out.2.2 hb8)).1
                       have e0 : w8.cell? ⟨W6.heap.size, 0, none⟩ = some (.int .i64 vars) := blk_cell ((hb8.block _ hgl).trans H9.out.1) 0
                       have e1 : w8.cell? ⟨W6.heap.size, 1, none⟩ = some (.slice ad7 nT cap7) := blk_cell ((hb8.block _ hgl).trans H9.out.1) 1
                       have f1 : w8.cell? ⟨w.heap.size + 1, 0, none⟩ = some (.int .i64 0) := blk_cell hR8 0
                       have f2 : w8.cell? ⟨w.heap.size + 1, 1, none⟩ = some (.slice none 0 0) := blk_cell hR8 1
                       have f3 : w8.frozen? ⟨w.heap.size + 1, 0, none⟩ = false := blk_frozen hR8 0
                       have f4 : w8.frozen? ⟨w.heap.size + 1, 1, none⟩ = false := blk_frozen hR8 1
                       have HR8 : Hid (w8.heap[w.heap.size + 1]? = some (.cells #[.int .i64 0, .slice none 0 0] 24 (0, 0)) ∧ OwnL w8 w.heap.size (.slice ad7 nT cap7) L7 TX ∧ Below w.heap.size w w8) := ⟨hR8, H9.out.2.1.below hb8, (HRn.out w8 (below_next H9.out.2.2 hb8)).2.2⟩
                       clear hR8 hb8
                       go_wp2
                       have hfin : ((w8.setCell ⟨w.heap.size + 1, 0, none⟩ (.int .i64 vars)).setCell ⟨w.heap.size + 1, 1, none⟩ (.slice ad7 nT cap7)).heap[w.heap.size + 1]? = some (.cells #[.int .i64 vars, .slice ad7 nT cap7] 24 (0, 0)) := by
                         rw [heap_setCell_same _ (w.heap.size + 1) 1 _ _ _ (heap_setCell_same _ (w.heap.size + 1) 0 _ _ _ HR8.out.1)]; rfl
                       refine bodyPost_ret (v := .tuple #[.agg #[.int .i64 vars, .slice ad7 nT cap7], .int .i64 0]) (res_ct (p := 4) (u := 5) rfl _ _ (w.heap.size + 1) 24 _ (0, 0) _ rfl hfin Tryz.underlying24 rfl (by kernel_rfl)) rfl ?_
                       have hh : (w8.setCell ⟨w.heap.size + 1, 0, none⟩ (.int .i64 vars)).heap[w.heap.size + 1]? = some (.cells (#[.int .i64 0, .slice none 0 0].set! 0 (.int .i64 vars)) 24 (0, 0)) := heap_setCell_same _ (w.heap.size + 1) 0 _ _ _ HR8.out.1
                       have hle : w.heap.size ≤ w.heap.size + 1 := by omega
                       exact HPP.out _ _ ⟨.slice ad7 nT cap7, L7, by rw [HE0.out, (HGd.out HE0.out).1], by rw [(HGd.out HE0.out).2]; exact (HR8.out.2.1.set (w.heap.size + 1) 0 _ HR8.out.1 (by decide) (by decide)).set (w.heap.size + 1) 1 _ hh (by decide) (by decide), (HR8.out.2.2.setCell hle _).setCell hle _⟩
                     · have e9 : ((ck vars TX).2 != 0) = true := by simpa using h9
                       generalize (ck vars TX).1 = r3 at *
                       generalize (ck vars TX).2 = r4 at *
                       go_wp2_with fail
                       refine HCk.out.mono ?_
                       rintro e w8 ⟨rfl, hb8⟩
                       have HR : Hid (w8.heap[w.heap.size + 1]? = some (.cells #[.int .i64 0, .slice none 0 0] 24 (0, 0))) := (HRn.out w8 (below_next H9.out.2.2 hb8)).1
                       have HBw : Hid (Below w.heap.size w w8) := (HRn.out w8 (below_next H9.out.2.2 hb8)).2.2
                       clear hb8
                       have f1 : w8.cell? ⟨w.heap.size + 1, 0, none⟩ = some (.int .i64 0) := blk_cell HR.out 0
                       have f2 : w8.cell? ⟨w.heap.size + 1, 1, none⟩ = some (.slice none 0 0) := blk_cell HR.out 1
                       have f3 : w8.frozen? ⟨w.heap.size + 1, 0, none⟩ = false := blk_frozen HR.out 0
                       have f4 : w8.frozen? ⟨w.heap.size + 1, 1, none⟩ = false := blk_frozen HR.out 1
                       have hle : w.heap.size ≤ w.heap.size + 1 := by omega
                       have HFn : Hid (((w8.setCell ⟨w.heap.size + 1, 0, none⟩ (.int .i64 0)).setCell ⟨w.heap.size + 1, 1, none⟩ (.slice none 0 0)).heap[w.heap.size + 1]? = some (.cells #[.int .i64 0, .slice none 0 0] 24 (0, 0))) := by
                         rw [heap_setCell_same _ (w.heap.size + 1) 1 _ _ _ (heap_setCell_same _ (w.heap.size + 1) 0 _ _ _ HR.out)]; exact rfl
                       go_wp2
                       all_goals (refine bodyPost_ret (v := .tuple #[.agg #[.int .i64 0, .slice none 0 0], .int .i64 r4]) (res_ct (p := 4) (u := 5) rfl _ _ (w.heap.size + 1) 24 _ (0, 0) _ rfl HFn.out Tryz.underlying24 rfl (by kernel_rfl)) rfl ?_; exact HBad.out r4 _ HE.out (by exact h9) ((HBw.out.setCell hle _).setCell hle _)))
                  | (have hF9 : (w7.alloc (.cells #[.int .i64 vars, .slice ad7 nT cap7] 24)).heap[w7.heap.size]? = some (.cells #[.int .i64 vars, .slice ad7 nT cap7] 24 (0, 0)) := heap_alloc_at _ _
                     have hO9 : OwnL (w7.alloc (.cells #[.int .i64 vars, .slice ad7 nT cap7] 24)) w.heap.size (.slice ad7 nT cap7) L7 TX := ho7.below ((Below.refl _ _).alloc (Nat.le_refl _) _)
                     have hB9 : Below W6.heap.size W6 (w7.alloc (.cells #[.int .i64 vars, .slice ad7 nT cap7] 24)) := below_next hc7 ((Below.refl _ _).alloc (Nat.le_refl _) _)
                     clear g0 ho7 hc7
                     generalize w7.alloc (.cells #[.int .i64 vars, .slice ad7 nT cap7] 24) = WF at *
                     have hgl : w7.heap.size < WF.heap.size := (Array.getElem?_eq_some_iff.1 hF9).1
                     have HCk : Hid (Calls Tryz.prog 19 #[.agg #[.int .i64 vars, .slice ad7 nT cap7]] WF fun e w' => e = .returned (.tuple #[.int .i64 (ck vars TX).1, .int .i64 (ck vars TX).2]) ∧ Below WF.heap.size WF w') := by
                       have hh := rcheck_any vars ad7 TX cap7 WF hO9.cls (by rw [HnT.out]; omega) (by rw [HnT.out]; exact HO5.out)
                       rw [HnT.out] at hh
                       exact hh
                     have d0 := blk_cell hF9 0
                     have d1 := blk_cell hF9 1
                     have H9 : Hid (WF.heap[w7.heap.size]? = some (.cells #[.int .i64 vars, .slice ad7 nT cap7] 24 (0, 0)) ∧ OwnL WF w.heap.size (.slice ad7 nT cap7) L7 TX ∧ Below W6.heap.size W6 WF) := ⟨hF9, hO9, hB9⟩
                     clear hF9 hO9 hB9
                     by_cases h9 : (ck vars TX).2 = 0
                     · have HE0 : Hid (elE vars cs v = 0) := by rw [HE.out]; exact h9
                       have HCk2 : Hid (Calls Tryz.prog 19 #[.agg #[.int .i64 vars, .slice ad7 nT cap7]] WF fun e w' => ∃ r3, e = .returned (.tuple #[.int .i64 r3, .int .i64 0]) ∧ Below WF.heap.size WF w') := HCk.out.mono fun e w' ⟨x1, x2⟩ => ⟨(ck vars TX).1, by rw [x1, h9], x2⟩
                       clear h9 HCk HE
                       go_wp2_with fail
                       refine HCk2.out.mono ?_
                       rintro e w8 ⟨r3, rfl, hb8⟩
                       have hR8 := (HRn.out w8 (below_next H9.out.2.2 hb8)).1
                       have e0 : w8.cell? ⟨w7.heap.size, 0, none⟩ = some (.int .i64 vars) := blk_cell ((hb8.block _ hgl).trans H9.out.1) 0
                       have e1 : w8.cell? ⟨w7.heap.size, 1, none⟩ = some (.slice ad7 nT cap7) := blk_cell ((hb8.block _ hgl).trans H9.out.1) 1
                       have f1 : w8.cell? ⟨w.heap.size + 1, 0, none⟩ = some (.int .i64 0) := blk_cell hR8 0
                       have f2 : w8.cell? ⟨w.heap.size + 1, 1, none⟩ = some (.slice none 0 0) := blk_cell hR8 1
                       have f3 : w8.frozen? ⟨w.heap.size + 1, 0, none⟩ = false := blk_frozen hR8 0
                       have f4 : w8.frozen? ⟨w.heap.size + 1, 1, none⟩ = false := blk_frozen hR8 1
                       have HR8 : Hid (w8.heap[w.heap.size + 1]? = some (.cells #[.int .i64 0, .slice none 0 0] 24 (0, 0)) ∧ OwnL w8 w.heap.size (.slice ad7 nT cap7) L7 TX ∧ Below w.heap.size w w8) := ⟨hR8, H9.out.2.1.below hb8, (HRn.out w8 (below_next H9.out.2.2 hb8)).2.2⟩
                       clear hR8 hb8
                       go_wp2
                       have hfin : ((w8.setCell ⟨w.heap.size + 1, 0, none⟩ (.int .i64 vars)).setCell ⟨w.heap.size + 1, 1, none⟩ (.slice ad7 nT cap7)).heap[w.heap.size + 1]? = some (.cells #[.int .i64 vars, .slice ad7 nT cap7] 24 (0, 0)) := by
                         rw [heap_setCell_same _ (w.heap.size + 1) 1 _ _ _ (heap_setCell_same _ (w.heap.size + 1) 0 _ _ _ HR8.out.1)]; rfl
                       refine bodyPost_ret (v := .tuple #[.agg #[.int .i64 vars, .slice ad7 nT cap7], .int .i64 0]) (res_ct (p := 4) (u := 5) rfl _ _ (w.heap.size + 1) 24 _ (0, 0) _ rfl hfin Tryz.underlying24 rfl (by kernel_rfl)) rfl ?_
                       have hh : (w8.setCell ⟨w.heap.size + 1, 0, none⟩ (.int .i64 vars)).heap[w.heap.size + 1]? = some (.cells (#[.int .i64 0, .slice none 0 0].set! 0 (.int .i64 vars)) 24 (0, 0)) := heap_setCell_same _ (w.heap.size + 1) 0 _ _ _ HR8.out.1
                       have hle : w.heap.size ≤ w.heap.size + 1 := by omega
                       exact HPP.out _ _ ⟨.slice ad7 nT cap7, L7, by rw [HE0.out, (HGd.out HE0.out).1], by rw [(HGd.out HE0.out).2]; exact (HR8.out.2.1.set (w.heap.size + 1) 0 _ HR8.out.1 (by decide) (by decide)).set (w.heap.size + 1) 1 _ hh (by decide) (by decide), (HR8.out.2.2.setCell hle _).setCell hle _⟩
                     · have e9 : ((ck vars TX).2 != 0) = true := by simpa using h9
                       generalize (ck vars TX).1 = r3 at *
                       generalize (ck vars TX).2 = r4 at *
                       go_wp2_with fail
                       refine HCk.out.mono ?_
                       rintro e w8 ⟨rfl, hb8⟩
                       have HR : Hid (w8.heap[w.heap.size + 1]? = some (.cells #[.int .i64 0, .slice none 0 0] 24 (0, 0))) := (HRn.out w8 (below_next H9.out.2.2 hb8)).1
                       have HBw : Hid (Below w.heap.size w w8) := (HRn.out w8 (below_next H9.out.2.2 hb8)).2.2
                       clear hb8
                       have f1 : w8.cell? ⟨w.heap.size + 1, 0, none⟩ = some (.int .i64 0) := blk_cell HR.out 0
                       have f2 : w8.cell? ⟨w.heap.size + 1, 1, none⟩ = some (.slice none 0 0) := blk_cell HR.out 1
                       have f3 : w8.frozen? ⟨w.heap.size + 1, 0, none⟩ = false := blk_frozen HR.out 0
                       have f4 : w8.frozen? ⟨w.heap.size + 1, 1, none⟩ = false := blk_frozen HR.out 1
                       have hle : w.heap.size ≤ w.heap.size + 1 := by omega
                       have HFn : Hid (((w8.setCell ⟨w.heap.size + 1, 0, none⟩ (.int .i64 0)).setCell ⟨w.heap.size + 1, 1, none⟩ (.slice none 0 0)).heap[w.heap.size + 1]? = some (.cells #[.int .i64 0, .slice none 0 0] 24 (0, 0))) := by
                         rw [heap_setCell_same _ (w.heap.size + 1) 1 _ _ _ (heap_setCell_same _ (w.heap.size + 1) 0 _ _ _ HR.out)]; exact rfl
                       go_wp2
                       all_goals (refine bodyPost_ret (v := .tuple #[.agg #[.int .i64 0, .slice none 0 0], .int .i64 r4]) (res_ct (p := 4) (u := 5) rfl _ _ (w.heap.size + 1) 24 _ (0, 0) _ rfl HFn.out Tryz.underlying24 rfl (by kernel_rfl)) rfl ?_; exact HBad.out r4 _ HE.out (by exact h9) ((HBw.out.setCell hle _).setCell hle _)))
    · have HE : Hid (elE vars cs v = 20) := by unfold elE; rw [if_neg (by rw [h0]; simp), if_pos (by omega)]; exact rfl
      clear h0 hz HC0 HI
      generalize hn : cs.length = n at *
      clear hn
      have hor : (decide (v < 1) || decide (vars < v)) = true := by
        rcases Classical.em (v < 1) with h1 | h1
        · simp [h1]
        · simp; omega
      go_enter Tryz.func6, Tryz.ntmps6
      go_wp2_with fail
      have y0 : ((w.alloc (.cells #[.int .i64 vars, .slice ad n c] 24)).alloc (.cells #[.int .i64 0, .slice none 0 0] 24)).heap[w.heap.size]? = some (.cells #[.int .i64 vars, .slice ad n c] 24 (0, 0)) := heap_alloc2_old _ _ _
      have y1 : ((w.alloc (.cells #[.int .i64 vars, .slice ad n c] 24)).alloc (.cells #[.int .i64 0, .slice none 0 0] 24)).heap[w.heap.size + 1]? = some (.cells #[.int .i64 0, .slice none 0 0] 24 (0, 0)) := heap_alloc2_new _ _ _
      have y2 : ((w.alloc (.cells #[.int .i64 vars, .slice ad n c] 24)).alloc (.cells #[.int .i64 0, .slice none 0 0] 24)).heap.size = w.heap.size + 2 := sz2 _ _ _
      have y3 : Below w.heap.size w ((w.alloc (.cells #[.int .i64 vars, .slice ad n c] 24)).alloc (.cells #[.int .i64 0, .slice none 0 0] 24)) := HB0.out _ _
      generalize (w.alloc (.cells #[.int .i64 vars, .slice ad n c] 24)).alloc (.cells #[.int .i64 0, .slice none 0 0] 24) = w1 at *
      refine (HC.out w1 y3).mono ?_
      rintro e w2 ⟨rfl, hb2⟩
      have hs2 : w.heap.size + 2 ≤ w2.heap.size := by have := hb2.size; omega
      have z0 : w2.heap[w.heap.size]? = some (.cells #[.int .i64 vars, .slice ad n c] 24 (0, 0)) := (hb2.block _ (by omega)).trans y0
      have z1 : w2.heap[w.heap.size + 1]? = some (.cells #[.int .i64 0, .slice none 0 0] 24 (0, 0)) := (hb2.block _ (by omega)).trans y1
      have z2 : Below w.heap.size w w2 := below_next y3 hb2
      have c0 : w2.cell? ⟨w.heap.size, 0, none⟩ = some (.int .i64 vars) := blk_cell z0 0
      have c1 : w2.cell? ⟨w.heap.size, 1, none⟩ = some (.slice ad n c) := blk_cell z0 1
      have HR : Hid (w2.heap[w.heap.size + 1]? = some (.cells #[.int .i64 0, .slice none 0 0] 24 (0, 0))) := z1
      have HBw : Hid (Below w.heap.size w w2) := z2
      clear y0 y1 y2 y3 z0 z1 z2 hb2 HC HB0
      have f1 : w2.cell? ⟨w.heap.size + 1, 0, none⟩ = some (.int .i64 0) := blk_cell HR.out 0
      have f2 : w2.cell? ⟨w.heap.size + 1, 1, none⟩ = some (.slice none 0 0) := blk_cell HR.out 1
      have f3 : w2.frozen? ⟨w.heap.size + 1, 0, none⟩ = false := blk_frozen HR.out 0
      have f4 : w2.frozen? ⟨w.heap.size + 1, 1, none⟩ = false := blk_frozen HR.out 1
      have hle : w.heap.size ≤ w.heap.size + 1 := by omega
      have HFn : Hid (((w2.setCell ⟨w.heap.size + 1, 0, none⟩ (.int .i64 0)).setCell ⟨w.heap.size + 1, 1, none⟩ (.slice none 0 0)).heap[w.heap.size + 1]? = some (.cells #[.int .i64 0, .slice none 0 0] 24 (0, 0))) := by
        rw [heap_setCell_same _ (w.heap.size + 1) 1 _ _ _ (heap_setCell_same _ (w.heap.size + 1) 0 _ _ _ HR.out)]; exact rfl
      go_wp2
      all_goals (refine bodyPost_ret (v := .tuple #[.agg #[.int .i64 0, .slice none 0 0], .int .i64 20]) (res_ct (p := 4) (u := 5) rfl _ _ (w.heap.size + 1) 24 _ (0, 0) _ rfl HFn.out Tryz.underlying24 rfl (by kernel_rfl)) rfl ?_; exact HBad.out 20 _ HE.out (by decide) ((HBw.out.setCell hle _).setCell hle _))
  · have HC : Hid (∀ W, Below w.heap.size w W → Calls Tryz.prog 19 #[.agg #[.int .i64 vars, .slice ad cs.length c]] W fun e w' => e = .returned (.tuple #[.int .i64 r1, .int .i64 (ck vars cs).2]) ∧ Below W.heap.size W w') := HC0.out
    have HE : Hid (elE vars cs v = (ck vars cs).2) := by unfold elE; rw [if_pos h0]; exact rfl
    clear HC0 HI
    generalize (ck vars cs).2 = r2 at *
    have e1 : (r2 != 0) = true := by simpa using h0
    generalize hn : cs.length = n at *
    clear hn
    go_enter Tryz.func6, Tryz.ntmps6
    go_wp2_with fail
    have y0 : ((w.alloc (.cells #[.int .i64 vars, .slice ad n c] 24)).alloc (.cells #[.int .i64 0, .slice none 0 0] 24)).heap[w.heap.size]? = some (.cells #[.int .i64 vars, .slice ad n c] 24 (0, 0)) := heap_alloc2_old _ _ _
    have y1 : ((w.alloc (.cells #[.int .i64 vars, .slice ad n c] 24)).alloc (.cells #[.int .i64 0, .slice none 0 0] 24)).heap[w.heap.size + 1]? = some (.cells #[.int .i64 0, .slice none 0 0] 24 (0, 0)) := heap_alloc2_new _ _ _
    have y2 : ((w.alloc (.cells #[.int .i64 vars, .slice ad n c] 24)).alloc (.cells #[.int .i64 0, .slice none 0 0] 24)).heap.size = w.heap.size + 2 := sz2 _ _ _
    have y3 : Below w.heap.size w ((w.alloc (.cells #[.int .i64 vars, .slice ad n c] 24)).alloc (.cells #[.int .i64 0, .slice none 0 0] 24)) := HB0.out _ _
    generalize (w.alloc (.cells #[.int .i64 vars, .slice ad n c] 24)).alloc (.cells #[.int .i64 0, .slice none 0 0] 24) = w1 at *
    refine (HC.out w1 y3).mono ?_
    rintro e w2 ⟨rfl, hb2⟩
    have hs2 : w.heap.size + 2 ≤ w2.heap.size := by have := hb2.size; omega
    have z0 : w2.heap[w.heap.size]? = some (.cells #[.int .i64 vars, .slice ad n c] 24 (0, 0)) := (hb2.block _ (by omega)).trans y0
    have z1 : w2.heap[w.heap.size + 1]? = some (.cells #[.int .i64 0, .slice none 0 0] 24 (0, 0)) := (hb2.block _ (by omega)).trans y1
    have z2 : Below w.heap.size w w2 := below_next y3 hb2
    have c0 : w2.cell? ⟨w.heap.size, 0, none⟩ = some (.int .i64 vars) := blk_cell z0 0
    have c1 : w2.cell? ⟨w.heap.size, 1, none⟩ = some (.slice ad n c) := blk_cell z0 1
    have HR : Hid (w2.heap[w.heap.size + 1]? = some (.cells #[.int .i64 0, .slice none 0 0] 24 (0, 0))) := z1
    have HBw : Hid (Below w.heap.size w w2) := z2
    clear y0 y1 y2 y3 z0 z1 z2 hb2 HC HB0
    have f1 : w2.cell? ⟨w.heap.size + 1, 0, none⟩ = some (.int .i64 0) := blk_cell HR.out 0
    have f2 : w2.cell? ⟨w.heap.size + 1, 1, none⟩ = some (.slice none 0 0) := blk_cell HR.out 1
    have f3 : w2.frozen? ⟨w.heap.size + 1, 0, none⟩ = false := blk_frozen HR.out 0
    have f4 : w2.frozen? ⟨w.heap.size + 1, 1, none⟩ = false := blk_frozen HR.out 1
    have hle : w.heap.size ≤ w.heap.size + 1 := by omega
    have HFn : Hid (((w2.setCell ⟨w.heap.size + 1, 0, none⟩ (.int .i64 0)).setCell ⟨w.heap.size + 1, 1, none⟩ (.slice none 0 0)).heap[w.heap.size + 1]? = some (.cells #[.int .i64 0, .slice none 0 0] 24 (0, 0))) := by
      rw [heap_setCell_same _ (w.heap.size + 1) 1 _ _ _ (heap_setCell_same _ (w.heap.size + 1) 0 _ _ _ HR.out)]; exact rfl
    go_wp2
    all_goals (refine bodyPost_ret (v := .tuple #[.agg #[.int .i64 0, .slice none 0 0], .int .i64 r2]) (res_ct (p := 4) (u := 5) rfl _ _ (w.heap.size + 1) 24 _ (0, 0) _ rfl HFn.out Tryz.underlying24 rfl (by kernel_rfl)) rfl ?_; exact HBad.out r2 _ HE.out (by exact h0) ((HBw.out.setCell hle _).setCell hle _))
end Go.Proofs.YtokpjegiinggdaaGreatDoor
