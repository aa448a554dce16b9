import Derived.Test.YtokpjegiinggdaaDoorElim7
import Derived.Deep.AppendLies
namespace Go.Proofs.YtokpjegiinggdaaDoor
open Go.ChangeShapes Go.WideShapes Go.ChangeAt Go.RowKit Go.Cn Go.WideMaps Go.Maps

theorem woC_eq (l : List Int) (x : Int) : wo l x = woC l x := rfl
theorem eR_take (v : Int) (T : List (List Int)) (k : Nat) (hk : k < T.length) (h1 : v ∉ T.getD k []) (h2 : -v ∉ T.getD k []) : (elX v T)[(eRs v (T.take k)).length]? = some (T.getD k []) := by
  have e1 := (e_rest (T := T.take k) h1 h2).1
  rw [← take_succ1 T k hk] at e1
  have e2 : eRs v T = eRs v (T.take (k + 1)) ++ eRs v (T.drop (k + 1)) := by unfold eRs; rw [← List.filter_append, List.take_append_drop]
  unfold elX eX
  rw [e2, e1]
  simp
theorem eR_not (v : Int) (T : List (List Int)) (k : Nat) (hk : k < T.length) (hn : T.Nodup) : T.getD k [] ∉ eRs v (T.take k) := by
  intro h
  have h1 : T.getD k [] ∈ T.take k := (List.mem_filter.1 h).1
  have e : T = T.take k ++ T.drop k := (List.take_append_drop k T).symm
  rw [e, List.nodup_append] at hn
  refine hn.2.2 _ h1 (T.getD k []) ?_ rfl
  rw [drop_cons T k hk]
  exact List.mem_cons_self
theorem eR_room (v : Int) (T : List (List Int)) (k : Nat) (hk : k < T.length) (h1 : v ∉ T.getD k []) (h2 : -v ∉ T.getD k []) : (eRs v (T.take k)).length < T.length ∧ ((eRs v (T.take k)).map List.length).sum + (T.getD k []).length ≤ (T.map List.length).sum := by
  have e1 := (e_rest (T := T.take k) h1 h2).1
  rw [← take_succ1 T k hk] at e1
  have hsub : (eRs v (T.take (k + 1))).Sublist T := List.Sublist.trans List.filter_sublist (List.take_sublist _ _)
  refine ⟨?_, ?_⟩
  · have := hsub.length_le
    rw [e1, List.length_append, List.length_singleton] at this
    omega
  · have h3 : ∀ {A C : List (List Int)}, A.Sublist C → (A.map List.length).sum ≤ (C.map List.length).sum := by
      intro A C h
      induction h with
      | slnil => simp
      | cons a _ ih => simp; omega
      | cons_cons a _ ih => simp; omega
    have := h3 hsub
    rw [e1] at this
    simpa using this
theorem own_shapeK {w : World} {B n : Nat} {v : Value} {L : List Value} (h : w.ownsRow B 89 2 v n L) : ∃ ad cap, v = .slice ad n cap := by
  rcases h.2 with ⟨e, h0⟩ | ⟨g, cap, cur, rfl, _⟩
  · exact ⟨none, 0, by rw [e, h0]⟩
  · exact ⟨_, _, rfl⟩
set_option maxHeartbeats 8000000 in
set_option maxRecDepth 100000 in
theorem elim_any (vars v : Int) (ad : Option Addr) (cs : List (List Int)) (c : Nat) (w : World) (h : ClsS w ad cs) (hl : cs.length ≤ 1000000000000000000) (hcl : ∀ j, j < cs.length → (cs.getD j []).length ≤ 1000000000000000000) (hlv : LV w) (hv0 : -9223372036854775808 ≤ v) (hv1 : v ≤ 9223372036854775807) :
    Calls Tryd.prog 12 #[.agg #[.int .i64 vars, .slice ad cs.length c], .int .i64 v] w (ElPost vars cs v w) := by
  have HTd : Hid (∀ W, Below w.heap.size w W → Calls Tryd.prog 20 #[.agg #[.int .i64 vars, .slice ad cs.length c]] W (TdPost vars cs W)) := fun W hW => tidy_any vars ad cs c W (h.below hW) hl hcl (hlv.below hW)
  have HV : Hid (LV w) := hlv
  have HB0 : Hid (∀ o o2, Below w.heap.size w ((w.alloc o).alloc o2)) := fun o o2 => ((Below.refl _ _).alloc (Nat.le_refl _) o).alloc (by rw [sz1]; omega) o2
  clear h hcl hlv
  generalize hpp : ElPost vars cs v w = PP
  have HPP : Hid (∀ e w', ElPost vars cs v w e w' → PP e w') := fun e w' hh => by rw [← hpp]; exact hh
  clear hpp
  by_cases h0 : (ck vars cs).2 = 0
  · have HTd2 : Hid (∀ W, Below w.heap.size w W → Calls Tryd.prog 20 #[.agg #[.int .i64 vars, .slice ad cs.length c]] W fun e w' => ∃ u L, e = .returned (.tuple #[.agg #[.int .i64 vars, u], .int .i64 0]) ∧ OwnL w' W.heap.size u L (td cs) ∧ Below W.heap.size W w') := by
      intro W hW
      have := HTd.out W hW
      unfold TdPost tdV tdC at this
      rw [h0] at this
      exact this
    have HBad : Hid (∀ (x : Int) (w' : World), elE vars cs v = x → x ≠ 0 → Below w.heap.size w w' → PP (.returned (.tuple #[.agg #[.int .i64 0, .slice none 0 0], .int .i64 x])) w') := fun x w' h1 h2 h3 => HPP.out _ _ (elPost_bad h1 h2 h3)
    have hz := ck_zero h0
    have hvr0 := hz.1
    have hvr1 := hz.2.1
    by_cases hvv : 1 ≤ v ∧ v ≤ vars
    · have HH0 : Hid ((ck vars cs).2 = 0 ∧ (1 ≤ v ∧ v ≤ vars)) := ⟨h0, hvv⟩
      have HCl : Hid (∀ c ∈ td cs, Cl1 vars c) := cl1_td h0
      have HNd : Hid ((td cs).Nodup) := (tdy_td cs).1
      have hTl : (td cs).length ≤ 1048576 := Nat.le_trans (td_len cs) hz.2.2.1
      have HTs : Hid (((td cs).map List.length).sum ≤ 4194304) := Nat.le_trans (td_sum cs) hz.2.2.2.2
      have HBig : Hid (1048576 < (eWs v (td cs)).length * (eAs v (td cs)).length → elE vars cs v = 23) := fun hh => by unfold elE; rw [if_neg (by rw [h0]; simp), if_neg (by omega), if_pos hh]
      have HLg : Hid (¬ 1048576 < (eWs v (td cs)).length * (eAs v (td cs)).length → (∃ a ∈ eWs v (td cs), ∃ b ∈ eAs v (td cs), 65536 < (setL (a ++ b)).length) → elE vars cs v = 22) := fun hh ⟨a, ha, b, hb, hab⟩ => by unfold elE; rw [if_neg (by rw [h0]; simp), if_neg (by omega), if_neg hh, if_pos (el_long ha hb hab)]
      have HOv : Hid (¬ 1048576 < (eWs v (td cs)).length * (eAs v (td cs)).length → (∀ a ∈ eWs v (td cs), ∀ b ∈ eAs v (td cs), (setL (a ++ b)).length ≤ 65536) → OverX (elX v (td cs)) → elE vars cs v = 23) := fun h1 h2 h3 => el_over h0 hvv (by omega) (el_short h2) h3
      have HFi : Hid (¬ 1048576 < (eWs v (td cs)).length * (eAs v (td cs)).length → (∀ a ∈ eWs v (td cs), ∀ b ∈ eAs v (td cs), (setL (a ++ b)).length ≤ 65536) → ¬ OverX (elX v (td cs)) → elE vars cs v = 0 ∧ elV vars cs v = vars ∧ elC vars cs v = td (elX v (td cs))) := fun h1 h2 h3 => by
        have e := el_fits h0 hvv (by omega) (el_short h2) h3
        exact ⟨e, by unfold elV; rw [if_pos e], by unfold elC; rw [if_pos e]⟩
      have v0 := hvv.1
      have v1 := hvv.2
      have hvl : litB v = true := by rw [litB_iff]; omega
      have hvn : litB (-v) = true := litB_neg hvl
      have HVl : Hid (litB v = true ∧ litB (-v) = true) := ⟨hvl, hvn⟩
      have HPw : Hid (∀ W, Below w.heap.size w W → PowT W.heap.size W) := fun W hW => (HV.out.below hW).pow
      clear h0 hvv hz HTd hvl hvn HV
      generalize hT : td cs = T at *
      clear hT
      generalize hn : cs.length = n at *
      clear hn
      obtain ⟨i0, hi, hz0, hz1, hz2⟩ := info_parts Tryd.info40
      go_enter Tryd.func12, Tryd.ntmps12
      go_wp2_with fail
      have y0 : ((w.alloc (.cells #[.int .i64 vars, .slice ad n c] 24)).alloc (.cells #[.int .i64 0, .slice none 0 0] 24)).heap[w.heap.size]? = some (.cells #[.int .i64 vars, .slice ad n c] 24 (0, 0)) := heap_alloc2_old _ _ _
      have y1 : ((w.alloc (.cells #[.int .i64 vars, .slice ad n c] 24)).alloc (.cells #[.int .i64 0, .slice none 0 0] 24)).heap[w.heap.size + 1]? = some (.cells #[.int .i64 0, .slice none 0 0] 24 (0, 0)) := heap_alloc2_new _ _ _
      have y2 : ((w.alloc (.cells #[.int .i64 vars, .slice ad n c] 24)).alloc (.cells #[.int .i64 0, .slice none 0 0] 24)).heap.size = w.heap.size + 2 := sz2 _ _ _
      have y3 : Below w.heap.size w ((w.alloc (.cells #[.int .i64 vars, .slice ad n c] 24)).alloc (.cells #[.int .i64 0, .slice none 0 0] 24)) := HB0.out _ _
      generalize (w.alloc (.cells #[.int .i64 vars, .slice ad n c] 24)).alloc (.cells #[.int .i64 0, .slice none 0 0] 24) = w1 at *
      refine (HTd2.out w1 y3).mono ?_
      rintro e w2 ⟨u2, L2, rfl, hO2, hb2⟩
      obtain ⟨ad2, cap2, rfl⟩ := own_shapeC hO2.row
      have hs2 : w.heap.size + 2 ≤ w2.heap.size := by have := hb2.size; omega
      have z0 : w2.heap[w.heap.size]? = some (.cells #[.int .i64 vars, .slice ad n c] 24 (0, 0)) := (hb2.block _ (by omega)).trans y0
      have z1 : w2.heap[w.heap.size + 1]? = some (.cells #[.int .i64 0, .slice none 0 0] 24 (0, 0)) := (hb2.block _ (by omega)).trans y1
      have z2 : Below w.heap.size w w2 := below_next y3 hb2
      have z3 : OwnL w2 w.heap.size (.slice ad2 T.length cap2) L2 T := hO2.up (by omega)
      have c1 : ∀ o, (w2.alloc o).cell? ⟨w.heap.size, 0, none⟩ = some (.int .i64 vars) := fun o => blk_cell ((Below.heap_alloc _ _ _ (by omega)).trans z0) 0
      have H2 : Hid (w2.heap[w.heap.size]? = some (.cells #[.int .i64 vars, .slice ad n c] 24 (0, 0)) ∧ w2.heap[w.heap.size + 1]? = some (.cells #[.int .i64 0, .slice none 0 0] 24 (0, 0)) ∧ Below w.heap.size w w2 ∧ OwnL w2 w.heap.size (.slice ad2 T.length cap2) L2 T) := ⟨z0, z1, z2, z3⟩
      clear y0 y1 y2 y3 z0 z1 z2 z3 hO2 hb2 HTd2 HB0
      go_wp2_with fail
      have z4 : (w2.alloc (.cells #[.int .i64 vars, .slice ad2 T.length cap2] 24)).heap[w2.heap.size]? = some (.cells #[.int .i64 vars, .slice ad2 T.length cap2] 24 (0, 0)) := heap_alloc_at _ _
      have z5 : Below w2.heap.size w2 (w2.alloc (.cells #[.int .i64 vars, .slice ad2 T.length cap2] 24)) := (Below.refl _ _).alloc (Nat.le_refl _) _
      have z6 : (w2.alloc (.cells #[.int .i64 vars, .slice ad2 T.length cap2] 24)).heap.size = w2.heap.size + 1 := sz1 _ _
      generalize w2.alloc (.cells #[.int .i64 vars, .slice ad2 T.length cap2] 24) = w3 at *
      refine (newG_any w3).mono ?_
      rintro e w4 ⟨G, M, rfl, hG, hb4⟩
      have hb24 : Below w2.heap.size w2 w4 := below_next z5 hb4
      have hs4 : w2.heap.size + 1 ≤ w4.heap.size := by have := hb4.size; omega
      have H4 : Hid (w4.heap[w.heap.size]? = some (.cells #[.int .i64 vars, .slice ad n c] 24 (0, 0)) ∧ w4.heap[w.heap.size + 1]? = some (.cells #[.int .i64 0, .slice none 0 0] 24 (0, 0)) ∧ w4.heap[w2.heap.size]? = some (.cells #[.int .i64 vars, .slice ad2 T.length cap2] 24 (0, 0)) ∧ Below w.heap.size w w4 ∧ OwnL w4 w.heap.size (.slice ad2 T.length cap2) L2 T ∧ Gath w4 w.heap.size G M (.slice none 0 0) [] 0 false 0 (.map [])) :=
        ⟨(hb24.block _ (by omega)).trans H2.out.1, (hb24.block _ (by omega)).trans H2.out.2.1, (hb4.block _ (by omega)).trans z4, below_next H2.out.2.2.1 hb24, H2.out.2.2.2.below hb24, ⟨hG.blk, World.ownsRow_nil _ _ _ _, hG.map, Nat.le_trans (by omega) hG.bg, Nat.le_trans (by omega) hG.bm⟩⟩
      have c2 : w4.cell? ⟨w2.heap.size, 1, none⟩ = some (.slice ad2 T.length cap2) := blk_cell H4.out.2.2.1 1
      have HRd : Hid (∀ k, k < T.length → ∃ g, ad2 = some ⟨g, 0, none⟩ ∧ ∃ aj cj, ∀ W, TKp w4 W → W.cell? ⟨g, k, none⟩ = some (.slice aj (T.getD k []).length cj) ∧ W.ownsRow w.heap.size 3 1 (.slice aj (T.getD k []).length cj) (T.getD k []).length ((T.getD k []).map (Value.int .i64))) := fun k hk => by
        obtain ⟨g, aj, cj, e, hh⟩ := H4.out.2.2.2.2.1.tkAt hk
        refine ⟨g, e, aj, cj, fun W hW => ⟨(hh W hW).1, ?_⟩⟩
        obtain ⟨g2, a2, c2, e2, hc2, hr2, _⟩ := (H4.out.2.2.2.2.1.tk hW).rowAt hk
        rw [e] at e2
        cases e2
        rw [(hh W hW).1] at hc2
        cases hc2
        exact hr2
      have HF : Hid (T.take T.length = T) := List.take_length
      have HSt : Hid (∀ k, k < T.length → T.take (k + 1) = T.take k ++ [T.getD k []]) := fun k hk => take_succ1 T k hk
      have HCk : Hid (∀ k, k < T.length → Cl1 vars (T.getD k [])) := fun k hk => HCl.out _ (by rw [getD_at _ _ _ hk]; exact List.getElem_mem _)
      have HXat : Hid (∀ k, k < T.length → v ∉ T.getD k [] → -v ∉ T.getD k [] → (elX v T)[(eRs v (T.take k)).length]? = some (T.getD k [])) := fun k hk h1 h2 => eR_take v T k hk h1 h2
      have HNin : Hid (∀ k, k < T.length → T.getD k [] ∉ eRs v (T.take k)) := fun k hk => eR_not v T k hk HNd.out
      have HRoom : Hid (∀ k, k < T.length → v ∉ T.getD k [] → -v ∉ T.getD k [] → (eRs v (T.take k)).length < T.length ∧ ((eRs v (T.take k)).map List.length).sum + (T.getD k []).length ≤ 4194304) := fun k hk h1 h2 => ⟨(eR_room v T k hk h1 h2).1, Nat.le_trans (eR_room v T k hk h1 h2).2 HTs.out⟩
      have HLw : Hid (∀ k, (eWs v (T.take k)).length ≤ k ∧ (eAs v (T.take k)).length ≤ k ∧ (eRs v (T.take k)).length ≤ k) := fun k => ⟨Nat.le_trans (eW_len _ _) (by rw [List.length_take]; exact Nat.min_le_left _ _), Nat.le_trans (eA_len _ _) (by rw [List.length_take]; exact Nat.min_le_left _ _), Nat.le_trans (eR_len _ _) (by rw [List.length_take]; exact Nat.min_le_left _ _)⟩
      have HEnd : Hid (Cl1 vars [] → True) := fun _ => trivial
      clear HEnd z4 z5 z6 hG hb4 hb24 H2 c1 HTs HNd
      generalize hq : T.length = q at *
      have HL : Aside (T.length = q) := hq
      clear hq
      go_wp2
      go_loopg [36, 9, 10] q (fun gk s36 s9 s10 wr => ∃ (k : Nat) (Lw La : List Value) (vg : Value) (pl : List Pl) (I : List (List Int × Nat)) (D : DataW Unit), s36 = .int .i64 k ∧ k + gk = q ∧ Aside (ESt w w4 wr w.heap.size G M (elX v T) v (T.take k) s9 s10 Lw La vg pl I D))
      case atStart =>
        refine ⟨0, [], [], .slice none 0 0, [], [], .map [], rfl, by omega, ?_⟩
        have hg := H4.out.2.2.2.2.2
        exact ⟨⟨hg, rfl, rfl, fun j hj => absurd hj (Nat.not_lt_zero _), TMap.nil, by simp⟩, Gst.nil _ (fun q => by show ¬ _ < _; simp [eRs]), by simp [eRs], by simp [eWs, eW0]; exact OwnL.nil _ _, by simp [eAs, eA0]; exact OwnL.nil _ _, (fun g hg => by cases hg), H4.out.2.2.2.1, TKp.refl _⟩
      case round =>
        clear c2
        obtain ⟨k, Lw, La, vg, pl, I, D, rfl, hk, H⟩ := hrel
        obtain ⟨aw, cw, rfl⟩ := own_shapeC H.out.ow.row
        obtain ⟨aa, ca, rfl⟩ := own_shapeC H.out.oa.row
        have hlk := HLw.out k
        by_cases hlt : k < q
        · obtain ⟨g2, rfl, aj, cj, hrd⟩ := HRd.out k hlt
          have HCj := HCk.out k hlt
          have HXj : Hid (v ∉ T.getD k [] → -v ∉ T.getD k [] → (elX v T)[(eRs v (T.take k)).length]? = some (T.getD k [])) := HXat.out k hlt
          have HNj : Hid (T.getD k [] ∉ eRs v (T.take k)) := HNin.out k hlt
          have HRj : Hid (v ∉ T.getD k [] → -v ∉ T.getD k [] → (eRs v (T.take k)).length < q ∧ ((eRs v (T.take k)).map List.length).sum + (T.getD k []).length ≤ 4194304) := HRoom.out k hlt
          have HTk : Hid (T.take (k + 1) = T.take k ++ [T.getD k []]) := HSt.out k hlt
          have HRw : Hid (∀ W, TKp w4 W → W.ownsRow w.heap.size 3 1 (.slice aj (T.getD k []).length cj) (T.getD k []).length ((T.getD k []).map (Value.int .i64))) := fun W hW => (hrd W hW).2
          have ckc := (hrd wr H.out.tk).1
          clear hrd
          obtain ⟨Ck, hCk⟩ : ∃ x, x = T.getD k [] := ⟨_, rfl⟩
          rw [← hCk] at HCj HXj HNj HRj HTk HRw ckc
          clear hCk
          have HC1 : Hid (Cl1 vars Ck) := HCj
          have hcl1 := HCj.len
          have HLit : Hid (∀ x ∈ Ck, litB x = true) := fun x hx => (amB_rk (HCj.lits x hx)).1
          clear HCj
          have hB4 : w.heap.size ≤ w4.heap.size := by omega
          have hsz : w4.heap.size ≤ wr.heap.size := H.out.tk.size
          have HHa : Hid (Calls Tryd.prog 30 #[.slice aj Ck.length cj, .int .i64 v] wr fun e w' => e = .returned (.bool (decide (v ∈ Ck))) ∧ Below wr.heap.size wr w') := has_any _ _ Ck v wr (HRw.out wr H.out.tk) (by omega) HC1.out.set HLit.out HVl.out.1
          have q1 : (k : Int) < (q : Int) := by omega
          go_wp2_with fail
          refine HHa.out.mono ?_
          rintro e w5 ⟨rfl, hb5⟩
          have H5 : Aside (ESt w w4 w5 w.heap.size G M (elX v T) v (T.take k) (.slice aw (eWs v (T.take k)).length cw) (.slice aa (eAs v (T.take k)).length ca) Lw La vg pl I D) := H.out.next hb5 (by omega)
          have hsz5 : w4.heap.size ≤ w5.heap.size := H5.out.tk.size
          clear hb5 H HHa ckc
          by_cases hin : v ∈ Ck
          · have hd : decide (v ∈ Ck) = true := by simpa using hin
            rw [hd]
            have HWo : Hid (Calls Tryd.prog 31 #[.slice aj Ck.length cj, .int .i64 v] w5 fun e w' => ∃ u, e = .returned u ∧ w'.ownsRow w5.heap.size 3 1 u (woC Ck v).length ((woC Ck v).map (Value.int .i64)) ∧ u ≠ .slice none 0 0 ∧ Below w5.heap.size w5 w') := by
              obtain ⟨a9, c9, e9, h9⟩ := own_ints (HRw.out w5 H5.out.tk)
              cases e9
              exact without_any aj Ck cj v w5 h9 (by omega)
            go_wp2_with fail
            refine HWo.out.mono ?_
            rintro e w6 ⟨u6, rfl, ho6, -, hb6⟩
            have H6 : Aside (ESt w w4 w6 w.heap.size G M (elX v T) v (T.take k) (.slice aw (eWs v (T.take k)).length cw) (.slice aa (eAs v (T.take k)).length ca) Lw La vg pl I D) := H5.out.next hb6 (by omega)
            obtain ⟨a6, c6, rfl, _⟩ := own_ints ho6
            have HX6 : Hid (w6.ownsRow w4.heap.size 3 1 (.slice a6 (woC Ck v).length c6) (woC Ck v).length ((woC Ck v).map (Value.int .i64))) := own_up ho6 hsz5
            have HOr : Hid (w6.ownsRow w4.heap.size 40 1 (.slice aw (eWs v (T.take k)).length cw) (eWs v (T.take k)).length Lw) := H6.out.ow.row
            have hsz6 : w4.heap.size ≤ w6.heap.size := H6.out.tk.size
            clear ho6 hb6 H5 HWo hd
            generalize hwl : (woC Ck v).length = wl at *
            generalize hnw : (eWs v (T.take k)).length = nw at *
            go_wp2_with (at_builtin; refine wpList_append_lies _ rfl _ _ 22 rfl w4.heap.size 40 i0 (.slice none 0 0) 1 24 Tryd.underlying22 hi hz0 hz1 hz2 rfl (by omega) (Value.slice aw nw cw) nw Lw rfl (HOr.out.alloc _) ⟨w6.heap.size, 0, none⟩ 1 1 [.slice a6 wl c6] rfl rfl (cell_one_new _ _ _) (by intro u hu; simp at hu; subst hu; rfl) (by omega) (by unfold maxLen; omega) (by omega) (by simp; omega) (w6.heap.size + 1) (by simp) ?_; intro gg cap7 w7 hown7 hgrow hat hlt7; have HK7 : Hid (w7.ownsRow w4.heap.size 40 1 (.slice (some ⟨gg, 0, none⟩) (nw + 1) cap7) (nw + 1) (Lw ++ [.slice a6 wl c6]) ∧ (w6.alloc (.cells #[.slice a6 wl c6] 40)).grownBy w7 (Value.slice aw nw cw).ownBlock ∧ ((Value.slice aw nw cw).ownBlock = some gg ∨ gg = w6.heap.size + 1)) := ⟨hown7, hgrow, hat⟩; clear hown7 hgrow hat)
            have HN : Aside (ESt w w4 w7 w.heap.size G M (elX v T) v (T.take k ++ [Ck]) (.slice (some ⟨gg, 0, none⟩) (nw + 1) cap7) (.slice aa (eAs v (T.take k)).length ca) (Lw ++ [.slice a6 wl c6]) La vg pl I D) := by
              have hal : Below w6.heap.size w6 (w6.alloc (.cells #[.slice a6 wl c6] 40)) := (Below.refl _ _).alloc (Nat.le_refl _) _
              refine (H6.out.next hal (by omega)).putW (g := gg) hin hB4 (by rw [hwl]; exact own_below HX6.out hal) (by rw [hnw]; exact HK7.out.1) HK7.out.2.1 rfl (by have := HK7.out.2.2; simpa using this)
            go_roundg (q - k - 1)
            case measure => omega
            case rel => exact ⟨k + 1, _, La, vg, pl, I, D, by simp, by omega, by rw [HTk.out]; exact HN⟩
          · have hd : decide (v ∈ Ck) = false := by simpa using hin
            rw [hd]
            have HHa : Hid (Calls Tryd.prog 30 #[.slice aj Ck.length cj, .int .i64 (-v)] w5 fun e w' => e = .returned (.bool (decide (-v ∈ Ck))) ∧ Below w5.heap.size w5 w') := has_any _ _ Ck (-v) w5 (HRw.out w5 H5.out.tk) (by omega) HC1.out.set HLit.out HVl.out.2
            go_wp2_with fail
            refine HHa.out.mono ?_
            rintro e w5b ⟨rfl, hb5⟩
            have H5b : Aside (ESt w w4 w5b w.heap.size G M (elX v T) v (T.take k) (.slice aw (eWs v (T.take k)).length cw) (.slice aa (eAs v (T.take k)).length ca) Lw La vg pl I D) := H5.out.next hb5 (by omega)
            have hsz5b : w4.heap.size ≤ w5b.heap.size := H5b.out.tk.size
            clear hb5 H5 HHa hd
            by_cases hin2 : -v ∈ Ck
            · have hd : decide (-v ∈ Ck) = true := by simpa using hin2
              rw [hd]
              have HWo : Hid (Calls Tryd.prog 31 #[.slice aj Ck.length cj, .int .i64 (-v)] w5b fun e w' => ∃ u, e = .returned u ∧ w'.ownsRow w5b.heap.size 3 1 u (woC Ck (-v)).length ((woC Ck (-v)).map (Value.int .i64)) ∧ u ≠ .slice none 0 0 ∧ Below w5b.heap.size w5b w') := by
                obtain ⟨a9, c9, e9, h9⟩ := own_ints (HRw.out w5b H5b.out.tk)
                cases e9
                exact without_any aj Ck cj (-v) w5b h9 (by omega)
              go_wp2_with fail
              refine HWo.out.mono ?_
              rintro e w6 ⟨u6, rfl, ho6, -, hb6⟩
              have H6 : Aside (ESt w w4 w6 w.heap.size G M (elX v T) v (T.take k) (.slice aw (eWs v (T.take k)).length cw) (.slice aa (eAs v (T.take k)).length ca) Lw La vg pl I D) := H5b.out.next hb6 (by omega)
              obtain ⟨a6, c6, rfl, _⟩ := own_ints ho6
              have HX6 : Hid (w6.ownsRow w4.heap.size 3 1 (.slice a6 (woC Ck (-v)).length c6) (woC Ck (-v)).length ((woC Ck (-v)).map (Value.int .i64))) := own_up ho6 hsz5b
              have HOr : Hid (w6.ownsRow w4.heap.size 40 1 (.slice aa (eAs v (T.take k)).length ca) (eAs v (T.take k)).length La) := H6.out.oa.row
              have hsz6 : w4.heap.size ≤ w6.heap.size := H6.out.tk.size
              clear ho6 hb6 H5b HWo hd
              generalize hwl : (woC Ck (-v)).length = wl at *
              generalize hnw : (eAs v (T.take k)).length = nw at *
              go_wp2_with (at_builtin; refine wpList_append_lies _ rfl _ _ 22 rfl w4.heap.size 40 i0 (.slice none 0 0) 1 24 Tryd.underlying22 hi hz0 hz1 hz2 rfl (by omega) (Value.slice aa nw ca) nw La rfl (HOr.out.alloc _) ⟨w6.heap.size, 0, none⟩ 1 1 [.slice a6 wl c6] rfl rfl (cell_one_new _ _ _) (by intro u hu; simp at hu; subst hu; rfl) (by omega) (by unfold maxLen; omega) (by omega) (by simp; omega) (w6.heap.size + 1) (by simp) ?_; intro gg cap7 w7 hown7 hgrow hat hlt7; have HK7 : Hid (w7.ownsRow w4.heap.size 40 1 (.slice (some ⟨gg, 0, none⟩) (nw + 1) cap7) (nw + 1) (La ++ [.slice a6 wl c6]) ∧ (w6.alloc (.cells #[.slice a6 wl c6] 40)).grownBy w7 (Value.slice aa nw ca).ownBlock ∧ ((Value.slice aa nw ca).ownBlock = some gg ∨ gg = w6.heap.size + 1)) := ⟨hown7, hgrow, hat⟩; clear hown7 hgrow hat)
              have HN : Aside (ESt w w4 w7 w.heap.size G M (elX v T) v (T.take k ++ [Ck]) (.slice aw (eWs v (T.take k)).length cw) (.slice (some ⟨gg, 0, none⟩) (nw + 1) cap7) Lw (La ++ [.slice a6 wl c6]) vg pl I D) := by
                have hal : Below w6.heap.size w6 (w6.alloc (.cells #[.slice a6 wl c6] 40)) := (Below.refl _ _).alloc (Nat.le_refl _) _
                refine (H6.out.next hal (by omega)).putA (g := gg) hin hin2 hB4 (by rw [hwl]; exact own_below HX6.out hal) (by rw [hnw]; exact HK7.out.1) HK7.out.2.1 rfl (by have := HK7.out.2.2; simpa using this)
              go_roundg (q - k - 1)
              case measure => omega
              case rel => exact ⟨k + 1, Lw, _, vg, pl, I, D, by simp, by omega, by rw [HTk.out]; exact HN⟩
            · have hd : decide (-v ∈ Ck) = false := by simpa using hin2
              rw [hd]
              have hroom := HRj.out hin hin2
              have hIl : I.length = (eRs v (T.take k)).length := by have := congrArg List.length H5b.out.fst; simpa using this
              have hpl : (pl.map slP).length = (eRs v (T.take k)).length := by rw [List.length_map, H5b.out.jst.len, hIl]
              obtain ⟨ag, cg, hvg⟩ : ∃ ag cg, vg = .slice ag (eRs v (T.take k)).length cg := by
                have := own_shapeK H5b.out.jst.gath.row
                rw [hpl] at this
                exact this
              subst hvg
              have cg0 : w5b.cell? ⟨G, 0, none⟩ = some (.slice ag (eRs v (T.take k)).length cg) := blk_cell H5b.out.jst.gath.blk 0
              have HAd : Hid (Calls Tryd.prog 32 #[.pointer (some ⟨G, 0, none⟩), .slice aj Ck.length cj, .int .i64 ((eRs v (T.take k)).length : Nat)] w5b fun e w' => e = .returned (.tuple #[]) ∧ ∃ v' pl' Dm', JSt w' w.heap.size G M v' pl' (I ++ [(Ck, (eRs v (T.take k)).length)]) false Dm' ∧ GKept w5b w' G M (.slice ag (eRs v (T.take k)).length cg)) :=
                add_jn w.heap.size G M _ pl I D (eRs v (T.take k)).length Ck aj cj w5b H5b.out.jst (by omega) (by rw [H5b.out.fst]; exact HNj.out) (HRw.out w5b H5b.out.tk) HLit.out hcl1 (HPw.out w5b H5b.out.below) (by omega) (by rw [hIl]; omega) (by rw [H5b.out.fst]; exact hroom.2)
              have HPut : Hid (∀ w' v' pl' Dm', JSt w' w.heap.size G M v' pl' (I ++ [(Ck, (eRs v (T.take k)).length)]) false Dm' → GKept w5b w' G M (.slice ag (eRs v (T.take k)).length cg) → ESt w w4 w' w.heap.size G M (elX v T) v (T.take k ++ [Ck]) (.slice aw (eWs v (T.take k)).length cw) (.slice aa (eAs v (T.take k)).length ca) Lw La v' pl' (I ++ [(Ck, (eRs v (T.take k)).length)]) Dm') := fun w' v' pl' Dm' h1 h2 => H5b.out.putR hin hin2 hB4 h1 h2 (HXj.out hin hin2) HC1.out.one HNj.out
              clear hd hIl hpl
              generalize (eRs v (T.take k)).length = nr at *
              go_wp2_with fail
              refine HAd.out.mono ?_
              rintro e w7 ⟨rfl, v7, pl7, D7, hJ7, hK7⟩
              have HN := HPut.out _ _ _ _ hJ7 hK7
              have HN2 : Aside (ESt w w4 w7 w.heap.size G M (elX v T) v (T.take k ++ [Ck]) (.slice aw (eWs v (T.take k)).length cw) (.slice aa (eAs v (T.take k)).length ca) Lw La v7 pl7 (I ++ [(Ck, nr)]) D7) := HN
              clear HN hJ7 hK7
              go_wp2
              go_roundg (q - k - 1)
              case measure => omega
              case rel => exact ⟨k + 1, Lw, La, v7, pl7, _, D7, by simp, by omega, by rw [HTk.out]; exact HN2⟩
        · obtain rfl : k = q := by omega
          have hTk : T.take k = T := by rw [← HL.out]; exact List.take_length
          rw [hTk] at H hlk ⊢
          have hnW := hlk.1
          have hnA := hlk.2.1
          have hnR := hlk.2.2
          have hprod : (eWs v T).length * (eAs v T).length ≤ 1048576 * 1048576 := Nat.mul_le_mul (by omega) (by omega)
          have HRr : Hid (∀ W, TKp w4 W → W.heap[w.heap.size + 1]? = some (.cells #[.int .i64 0, .slice none 0 0] 24 (0, 0)) ∧ W.cell? ⟨w.heap.size, 0, none⟩ = some (.int .i64 vars)) := fun W hW => ⟨hW.block _ _ _ _ H4.out.2.1 (by decide) (by decide), blk_cell (hW.block _ _ _ _ H4.out.1 (by decide) (by decide)) 0⟩
          have hIl : I.length = (eRs v T).length := by have := congrArg List.length H.out.fst; simpa using this
          have HJn : Hid (¬ 1048576 < (eWs v T).length * (eAs v T).length → Calls Tryd.prog 33 #[.pointer (some ⟨G, 0, none⟩), .slice aw (eWs v T).length cw, .slice aa (eAs v T).length ca, .int .i64 vars] wr fun e w' => ∃ v' pl' I' ov' D' Dd, JSt w' w.heap.size G M v' pl' I' ov' D' ∧ Below w.heap.size wr w' ∧ TKp wr w' ∧
              ((e = .returned (.int .i64 0) ∧ (∀ a ∈ eWs v T, ∀ b ∈ eAs v T, (setL (a ++ b)).length ≤ 65536) ∧ GS (elX v T) Dd I' ov' ∧ ∀ q, q < (elX v T).length → Dd q) ∨ (e = .returned (.int .i64 22) ∧ ∃ a ∈ eWs v T, ∃ b ∈ eAs v T, 65536 < (setL (a ++ b)).length))) := fun hh =>
            join_any w.heap.size G M vg pl I D (eRs v T) (eWs v T) (eAs v T) vars aw aa cw ca Lw La wr H.out.jst H.out.gst (elX_set HCl.out) hIl (H.out.ow.up (by omega)) (H.out.oa.up (by omega)) (by omega) (by omega) (by omega) (by omega) (cl1_W HCl.out) (cl1_A HCl.out) hvr0 hvr1 (fun W hW => HPw.out W (H.out.below.trans hW)) H.out.below.size
          have HDn : Hid (∀ (W : World) (v' : Value) (pl' pl2 : List Pl) (I' : List (List Int × Nat)) (D' : DataW Unit) (Dd : Nat → Prop), JSt W w.heap.size G M v' pl' I' false D' → Gst (elX v T) Dd I' → (∀ q, q < (elX v T).length → Dd q) → pl2.Perm pl' → (pl2.Pairwise fun a b => a.2.val ≤ b.2.val) → (td (elX v T) = pl2.map (fun p => (elX v T).getD p.2.val []) ∧ ¬ OverX (elX v T)) ∧ ∀ p ∈ pl2, W.ownsRow w.heap.size 3 1 (slV p) ((elX v T).getD p.2.val []).length (((elX v T).getD p.2.val []).map (Value.int .i64))) := fun W v' pl' pl2 I' D' Dd h1 h2 h3 h4 h5 => ⟨jst_done h1 h2 (elX_set HCl.out) h3 h4 h5, fun p hp => jst_rows h1 h2 p (h4.mem_iff.1 hp)⟩
          have HBw : Hid (Below w.heap.size w wr) := H.out.below
          have HTw : Hid (TKp w4 wr) := H.out.tk
          have HR : Hid (wr.heap[w.heap.size + 1]? = some (.cells #[.int .i64 0, .slice none 0 0] 24 (0, 0))) := (HRr.out wr HTw.out).1
          have cv := (HRr.out wr HTw.out).2
          clear hTk hlk hIl HRd HSt HCk HXat HNin HRoom HLw H HF
          by_cases hbig : 1048576 < (eWs v T).length * (eAs v T).length
          · have t1 : decide (1048576 < (eWs v T).length * (eAs v T).length) = true := by simpa using hbig
            have HE : Hid (elE vars cs v = 23) := HBig.out hbig
            generalize (eWs v T).length = nW at *
            generalize (eAs v T).length = nA at *
            have f1 : wr.cell? ⟨w.heap.size + 1, 0, none⟩ = some (.int .i64 0) := blk_cell HR.out 0
            have f2 : wr.cell? ⟨w.heap.size + 1, 1, none⟩ = some (.slice none 0 0) := blk_cell HR.out 1
            have f3 : wr.frozen? ⟨w.heap.size + 1, 0, none⟩ = false := blk_frozen HR.out 0
            have f4 : wr.frozen? ⟨w.heap.size + 1, 1, none⟩ = false := blk_frozen HR.out 1
            go_wp2
            have hfin : ((wr.setCell ⟨w.heap.size + 1, 0, none⟩ (.int .i64 0)).setCell ⟨w.heap.size + 1, 1, none⟩ (.slice none 0 0)).heap[w.heap.size + 1]? = some (.cells #[.int .i64 0, .slice none 0 0] 24 (0, 0)) := by
              rw [heap_setCell_same _ (w.heap.size + 1) 1 _ _ _ (heap_setCell_same _ (w.heap.size + 1) 0 _ _ _ HR.out)]; rfl
            refine bodyPost_ret (v := .tuple #[.agg #[.int .i64 0, .slice none 0 0], .int .i64 23]) (res_ct (p := 4) (u := 5) rfl _ _ (w.heap.size + 1) 24 _ (0, 0) _ rfl hfin Tryd.underlying24 rfl (by kernel_rfl)) rfl ?_
            have hle : w.heap.size ≤ w.heap.size + 1 := by omega
            exact HBad.out 23 _ HE.out (by decide) ((HBw.out.setCell hle _).setCell hle _)
          · have t1 : decide (1048576 < (eWs v T).length * (eAs v T).length) = false := by simpa using hbig
            have HJ := HJn.out hbig
            have HJ2 : Hid (Calls Tryd.prog 33 #[.pointer (some ⟨G, 0, none⟩), .slice aw (eWs v T).length cw, .slice aa (eAs v T).length ca, .int .i64 vars] wr fun e w' => ∃ v' pl' I' ov' D' Dd, JSt w' w.heap.size G M v' pl' I' ov' D' ∧ Below w.heap.size wr w' ∧ TKp wr w' ∧
              ((e = .returned (.int .i64 0) ∧ (∀ a ∈ eWs v T, ∀ b ∈ eAs v T, (setL (a ++ b)).length ≤ 65536) ∧ GS (elX v T) Dd I' ov' ∧ ∀ q, q < (elX v T).length → Dd q) ∨ (e = .returned (.int .i64 22) ∧ ∃ a ∈ eWs v T, ∃ b ∈ eAs v T, 65536 < (setL (a ++ b)).length))) := HJ
            have HL2 : Hid ((∃ a ∈ eWs v T, ∃ b ∈ eAs v T, 65536 < (setL (a ++ b)).length) → elE vars cs v = 22) := HLg.out hbig
            have HO2 : Hid ((∀ a ∈ eWs v T, ∀ b ∈ eAs v T, (setL (a ++ b)).length ≤ 65536) → OverX (elX v T) → elE vars cs v = 23) := HOv.out hbig
            have HF2 : Hid ((∀ a ∈ eWs v T, ∀ b ∈ eAs v T, (setL (a ++ b)).length ≤ 65536) → ¬ OverX (elX v T) → elE vars cs v = 0 ∧ elV vars cs v = vars ∧ elC vars cs v = td (elX v T)) := HFi.out hbig
            clear HJ HJn HLg HOv HFi HBig
            generalize (eWs v T).length = nW at *
            generalize (eAs v T).length = nA at *
            go_wp2_with fail
            refine HJ2.out.mono ?_
            rintro e w6 ⟨v6, pl6, I6, ov6, D6, Dd, hJ6, hB6, hT6, hr⟩
            have HBw6 : Below w.heap.size w w6 := HBw.out.trans hB6
            have HTw6 : TKp w4 w6 := HTw.out.trans hT6
            clear HBw HTw HR cv
            have HBw : Hid (Below w.heap.size w w6) := HBw6
            have HR : Hid (w6.heap[w.heap.size + 1]? = some (.cells #[.int .i64 0, .slice none 0 0] 24 (0, 0))) := (HRr.out w6 HTw6).1
            have HTw : Hid (TKp w4 w6) := HTw6
            have cv := (HRr.out w6 HTw6).2
            have HJ6 : Hid (JSt w6 w.heap.size G M v6 pl6 I6 ov6 D6) := hJ6
            clear HBw6 HTw6 hB6 hT6 hJ6
            rcases hr with ⟨rfl, hsh, hgs, hdd⟩ | ⟨rfl, hlong⟩
            · have co : w6.cell? ⟨G, 3, none⟩ = some (.bool ov6) := blk_cell HJ6.out.gath.blk 3
              have HSh : Hid ((∀ a ∈ eWs v T, ∀ b ∈ eAs v T, (setL (a ++ b)).length ≤ 65536) ∧ GS (elX v T) Dd I6 ov6 ∧ ∀ q, q < (elX v T).length → Dd q) := ⟨hsh, hgs, hdd⟩
              clear hsh hgs hdd
              cases ov6 with
              | true =>
                have HE : Hid (elE vars cs v = 23) := by
                  rcases HSh.out.2.1 with ⟨h1, _⟩ | ⟨_, h1⟩
                  · cases h1
                  · exact HO2.out HSh.out.1 h1
                have f1 : w6.cell? ⟨w.heap.size + 1, 0, none⟩ = some (.int .i64 0) := blk_cell HR.out 0
                have f2 : w6.cell? ⟨w.heap.size + 1, 1, none⟩ = some (.slice none 0 0) := blk_cell HR.out 1
                have f3 : w6.frozen? ⟨w.heap.size + 1, 0, none⟩ = false := blk_frozen HR.out 0
                have f4 : w6.frozen? ⟨w.heap.size + 1, 1, none⟩ = false := blk_frozen HR.out 1
                go_wp2
                have hfin : ((w6.setCell ⟨w.heap.size + 1, 0, none⟩ (.int .i64 0)).setCell ⟨w.heap.size + 1, 1, none⟩ (.slice none 0 0)).heap[w.heap.size + 1]? = some (.cells #[.int .i64 0, .slice none 0 0] 24 (0, 0)) := by
                  rw [heap_setCell_same _ (w.heap.size + 1) 1 _ _ _ (heap_setCell_same _ (w.heap.size + 1) 0 _ _ _ HR.out)]; rfl
                refine bodyPost_ret (v := .tuple #[.agg #[.int .i64 0, .slice none 0 0], .int .i64 23]) (res_ct (p := 4) (u := 5) rfl _ _ (w.heap.size + 1) 24 _ (0, 0) _ rfl hfin Tryd.underlying24 rfl (by kernel_rfl)) rfl ?_
                have hle : w.heap.size ≤ w.heap.size + 1 := by omega
                exact HBad.out 23 _ HE.out (by decide) ((HBw.out.setCell hle _).setCell hle _)
              | false =>
                have HG6 : Hid (Gst (elX v T) Dd I6) := by
                  rcases HSh.out.2.1 with ⟨_, h1⟩ | ⟨h1, _⟩
                  · exact h1
                  · cases h1
                have HFm : Hid (Calls Tryd.prog 34 #[.pointer (some ⟨G, 0, none⟩), .int .i64 vars] w6 fun e w' => ∃ (v' : Value) (pl : List Pl), e = .returned (.agg #[.int .i64 vars, v']) ∧ pl.Perm pl6 ∧ (pl.Pairwise fun a b => a.2.val ≤ b.2.val) ∧ w'.ownsRow w6.heap.size 40 1 v' pl.length (pl.map slV) ∧ GKept w6 w' G M v6) := formula_gen w.heap.size G M _ v6 pl6 _ vars false D6 w6 HJ6.out.gath (by rw [HJ6.out.len]; exact HJ6.out.lim.1)
                go_wp2_with fail
                refine HFm.out.mono ?_
                rintro e w7 ⟨v7, pl7, rfl, hp7, hs7, ho7, hk7⟩
                obtain ⟨ad7, cap7, rfl⟩ := own_shapeC ho7
                obtain ⟨⟨d1, d2⟩, d3⟩ := HDn.out w6 v6 pl6 pl7 I6 D6 Dd HJ6.out HG6.out HSh.out.2.2 hp7 hs7
                have htk7 : TKp w6 w7 := TKp.of_gk hk7 HJ6.out.gath
                have hle6 : w.heap.size ≤ w6.heap.size := HBw.out.size
                have HO7 : Hid (OwnL w7 w.heap.size (.slice ad7 pl7.length cap7) (pl7.map slV) (td (elX v T))) := by
                  rw [d1]
                  refine ⟨by simp, by rw [List.length_map]; exact own_up ho7 hle6, fun j hj => ?_⟩
                  have hj' : j < pl7.length := by simpa using hj
                  rw [getD_at _ j _ (by simpa using hj'), getD_at _ j _ (by simpa using hj'), List.getElem_map, List.getElem_map]
                  exact own_tk (d3 _ (List.getElem_mem _)) htk7 (by decide) (by decide)
                have HBw7 : Hid (Below w.heap.size w w7) := hk7.below HJ6.out.gath HBw.out hle6
                have HR7 : Hid (w7.heap[w.heap.size + 1]? = some (.cells #[.int .i64 0, .slice none 0 0] 24 (0, 0))) := htk7.block _ _ _ _ HR.out (by decide) (by decide)
                have HE : Hid (elE vars cs v = 0 ∧ elV vars cs v = vars ∧ elC vars cs v = td (elX v T)) := HF2.out HSh.out.1 d2
                have f1 : w7.cell? ⟨w.heap.size + 1, 0, none⟩ = some (.int .i64 0) := blk_cell HR7.out 0
                have f2 : w7.cell? ⟨w.heap.size + 1, 1, none⟩ = some (.slice none 0 0) := blk_cell HR7.out 1
                have f3 : w7.frozen? ⟨w.heap.size + 1, 0, none⟩ = false := blk_frozen HR7.out 0
                have f4 : w7.frozen? ⟨w.heap.size + 1, 1, none⟩ = false := blk_frozen HR7.out 1
                clear d1 d2 d3 hp7 hs7 ho7 hk7 htk7 co cv
                generalize hpn : pl7.length = pn at *
                go_wp2
                have hfin : ((w7.setCell ⟨w.heap.size + 1, 0, none⟩ (.int .i64 vars)).setCell ⟨w.heap.size + 1, 1, none⟩ (.slice ad7 pn cap7)).heap[w.heap.size + 1]? = some (.cells #[.int .i64 vars, .slice ad7 pn cap7] 24 (0, 0)) := by
                  rw [heap_setCell_same _ (w.heap.size + 1) 1 _ _ _ (heap_setCell_same _ (w.heap.size + 1) 0 _ _ _ HR7.out)]; rfl
                refine bodyPost_ret (v := .tuple #[.agg #[.int .i64 vars, .slice ad7 pn cap7], .int .i64 0]) (res_ct (p := 4) (u := 5) rfl _ _ (w.heap.size + 1) 24 _ (0, 0) _ rfl hfin Tryd.underlying24 rfl (by kernel_rfl)) rfl ?_
                refine HPP.out _ _ ⟨.slice ad7 pn cap7, pl7.map slV, by rw [HE.out.1, HE.out.2.1], ?_, ?_⟩
                · rw [HE.out.2.2]
                  have hh : (w7.setCell ⟨w.heap.size + 1, 0, none⟩ (.int .i64 vars)).heap[w.heap.size + 1]? = some (.cells (#[.int .i64 0, .slice none 0 0].set! 0 (.int .i64 vars)) 24 (0, 0)) := heap_setCell_same _ (w.heap.size + 1) 0 _ _ _ HR7.out
                  exact (HO7.out.set (w.heap.size + 1) 0 _ HR7.out (by decide) (by decide)).set (w.heap.size + 1) 1 _ hh (by decide) (by decide)
                · have hle : w.heap.size ≤ w.heap.size + 1 := by omega
                  exact (HBw7.out.setCell hle _).setCell hle _
            · have HE : Hid (elE vars cs v = 22) := HL2.out hlong
              clear hlong
              have f1 : w6.cell? ⟨w.heap.size + 1, 0, none⟩ = some (.int .i64 0) := blk_cell HR.out 0
              have f2 : w6.cell? ⟨w.heap.size + 1, 1, none⟩ = some (.slice none 0 0) := blk_cell HR.out 1
              have f3 : w6.frozen? ⟨w.heap.size + 1, 0, none⟩ = false := blk_frozen HR.out 0
              have f4 : w6.frozen? ⟨w.heap.size + 1, 1, none⟩ = false := blk_frozen HR.out 1
              go_wp2
              have hfin : ((w6.setCell ⟨w.heap.size + 1, 0, none⟩ (.int .i64 0)).setCell ⟨w.heap.size + 1, 1, none⟩ (.slice none 0 0)).heap[w.heap.size + 1]? = some (.cells #[.int .i64 0, .slice none 0 0] 24 (0, 0)) := by
                rw [heap_setCell_same _ (w.heap.size + 1) 1 _ _ _ (heap_setCell_same _ (w.heap.size + 1) 0 _ _ _ HR.out)]; rfl
              refine bodyPost_ret (v := .tuple #[.agg #[.int .i64 0, .slice none 0 0], .int .i64 22]) (res_ct (p := 4) (u := 5) rfl _ _ (w.heap.size + 1) 24 _ (0, 0) _ rfl hfin Tryd.underlying24 rfl (by kernel_rfl)) rfl ?_
              have hle : w.heap.size ≤ w.heap.size + 1 := by omega
              exact HBad.out 22 _ HE.out (by decide) ((HBw.out.setCell hle _).setCell hle _)
    · have HE : Hid (elE vars cs v = 20) := by unfold elE; rw [if_neg (by rw [h0]; simp), if_pos (by omega)]; exact rfl
      clear h0 hz HTd HV
      generalize hn : cs.length = n at *
      clear hn
      generalize hT : td cs = T at *
      clear hT
      have hor : (decide (v < 1) || decide (vars < v)) = true := by
        rcases Classical.em (v < 1) with h1 | h1
        · simp [h1]
        · simp; omega
      go_enter Tryd.func12, Tryd.ntmps12
      go_wp2_with fail
      have y0 : ((w.alloc (.cells #[.int .i64 vars, .slice ad n c] 24)).alloc (.cells #[.int .i64 0, .slice none 0 0] 24)).heap[w.heap.size]? = some (.cells #[.int .i64 vars, .slice ad n c] 24 (0, 0)) := heap_alloc2_old _ _ _
      have y1 : ((w.alloc (.cells #[.int .i64 vars, .slice ad n c] 24)).alloc (.cells #[.int .i64 0, .slice none 0 0] 24)).heap[w.heap.size + 1]? = some (.cells #[.int .i64 0, .slice none 0 0] 24 (0, 0)) := heap_alloc2_new _ _ _
      have y2 : ((w.alloc (.cells #[.int .i64 vars, .slice ad n c] 24)).alloc (.cells #[.int .i64 0, .slice none 0 0] 24)).heap.size = w.heap.size + 2 := sz2 _ _ _
      have y3 : Below w.heap.size w ((w.alloc (.cells #[.int .i64 vars, .slice ad n c] 24)).alloc (.cells #[.int .i64 0, .slice none 0 0] 24)) := HB0.out _ _
      generalize (w.alloc (.cells #[.int .i64 vars, .slice ad n c] 24)).alloc (.cells #[.int .i64 0, .slice none 0 0] 24) = w1 at *
      refine (HTd2.out w1 y3).mono ?_
      rintro e w2 ⟨u2, L2, rfl, hO2, hb2⟩
      obtain ⟨ad2, cap2, rfl⟩ := own_shapeC hO2.row
      have hs2 : w.heap.size + 2 ≤ w2.heap.size := by have := hb2.size; omega
      have z0 : w2.heap[w.heap.size]? = some (.cells #[.int .i64 vars, .slice ad n c] 24 (0, 0)) := (hb2.block _ (by omega)).trans y0
      have z1 : w2.heap[w.heap.size + 1]? = some (.cells #[.int .i64 0, .slice none 0 0] 24 (0, 0)) := (hb2.block _ (by omega)).trans y1
      have z2 : Below w.heap.size w w2 := below_next y3 hb2
      have c1 : ∀ o, (w2.alloc o).cell? ⟨w.heap.size, 0, none⟩ = some (.int .i64 vars) := fun o => blk_cell ((Below.heap_alloc _ _ _ (by omega)).trans z0) 0
      have r1 : ∀ o, (w2.alloc o).heap[w.heap.size + 1]? = some (.cells #[.int .i64 0, .slice none 0 0] 24 (0, 0)) := fun o => (Below.heap_alloc _ _ _ (by omega)).trans z1
      have f1 : ∀ o, (w2.alloc o).cell? ⟨w.heap.size + 1, 0, none⟩ = some (.int .i64 0) := fun o => blk_cell (r1 o) 0
      have f2 : ∀ o, (w2.alloc o).cell? ⟨w.heap.size + 1, 1, none⟩ = some (.slice none 0 0) := fun o => blk_cell (r1 o) 1
      have f3 : ∀ o, (w2.alloc o).frozen? ⟨w.heap.size + 1, 0, none⟩ = false := fun o => blk_frozen (r1 o) 0
      have f4 : ∀ o, (w2.alloc o).frozen? ⟨w.heap.size + 1, 1, none⟩ = false := fun o => blk_frozen (r1 o) 1
      have HR1 : Hid (∀ o, (w2.alloc o).heap[w.heap.size + 1]? = some (.cells #[.int .i64 0, .slice none 0 0] 24 (0, 0)) ∧ Below w.heap.size w (w2.alloc o)) := fun o => ⟨r1 o, z2.alloc (by omega) o⟩
      clear r1 z0 z1 z2 hO2 hb2 y0 y1 y2 y3
      generalize hTl : T.length = q at *
      have hfin : ∀ o, (((w2.alloc o).setCell ⟨w.heap.size + 1, 0, none⟩ (.int .i64 0)).setCell ⟨w.heap.size + 1, 1, none⟩ (.slice none 0 0)).heap[w.heap.size + 1]? = some (.cells #[.int .i64 0, .slice none 0 0] 24 (0, 0)) := fun o => by
        rw [heap_setCell_same _ (w.heap.size + 1) 1 _ _ _ (heap_setCell_same _ (w.heap.size + 1) 0 _ _ _ (HR1.out _).1)]; rfl
      have HFn : Hid (∀ o, (((w2.alloc o).setCell ⟨w.heap.size + 1, 0, none⟩ (.int .i64 0)).setCell ⟨w.heap.size + 1, 1, none⟩ (.slice none 0 0)).heap[w.heap.size + 1]? = some (.cells #[.int .i64 0, .slice none 0 0] 24 (0, 0))) := hfin
      have hle : w.heap.size ≤ w.heap.size + 1 := by omega
      clear hfin
      go_wp2
      all_goals (refine bodyPost_ret (v := .tuple #[.agg #[.int .i64 0, .slice none 0 0], .int .i64 20]) (res_ct (p := 4) (u := 5) rfl _ _ (w.heap.size + 1) 24 _ (0, 0) _ rfl (HFn.out _) Tryd.underlying24 rfl (by kernel_rfl)) rfl ?_; exact HBad.out 20 _ HE.out (by decide) (((HR1.out _).2.setCell hle _).setCell hle _))
  · have HTd2 : Hid (∀ W, Below w.heap.size w W → Calls Tryd.prog 20 #[.agg #[.int .i64 vars, .slice ad cs.length c]] W fun e w' => ∃ u L, e = .returned (.tuple #[.agg #[.int .i64 0, u], .int .i64 (ck vars cs).2]) ∧ OwnL w' W.heap.size u L [] ∧ Below W.heap.size W w') := by
      intro W hW
      have := HTd.out W hW
      unfold TdPost tdV tdC at this
      rw [if_neg h0, if_neg h0] at this
      exact this
    have HBad : Hid (∀ (w' : World), Below w.heap.size w w' → PP (.returned (.tuple #[.agg #[.int .i64 0, .slice none 0 0], .int .i64 (ck vars cs).2])) w') := fun w' h3 => HPP.out _ _ (elPost_bad (by unfold elE; rw [if_pos h0]) h0 h3)
    clear HTd HV
    generalize (ck vars cs).2 = r2 at *
    have e1 : (r2 != 0) = true := by simpa using h0
    generalize hn : cs.length = n at *
    clear hn
    go_enter Tryd.func12, Tryd.ntmps12
    go_wp2_with fail
    have y1 : ((w.alloc (.cells #[.int .i64 vars, .slice ad n c] 24)).alloc (.cells #[.int .i64 0, .slice none 0 0] 24)).heap[w.heap.size + 1]? = some (.cells #[.int .i64 0, .slice none 0 0] 24 (0, 0)) := heap_alloc2_new _ _ _
    have y2 : ((w.alloc (.cells #[.int .i64 vars, .slice ad n c] 24)).alloc (.cells #[.int .i64 0, .slice none 0 0] 24)).heap.size = w.heap.size + 2 := sz2 _ _ _
    have y3 : Below w.heap.size w ((w.alloc (.cells #[.int .i64 vars, .slice ad n c] 24)).alloc (.cells #[.int .i64 0, .slice none 0 0] 24)) := HB0.out _ _
    generalize (w.alloc (.cells #[.int .i64 vars, .slice ad n c] 24)).alloc (.cells #[.int .i64 0, .slice none 0 0] 24) = w1 at *
    refine (HTd2.out w1 y3).mono ?_
    rintro e w2 ⟨u2, L2, rfl, hO2, hb2⟩
    obtain ⟨ad2, cap2, rfl⟩ := own_shapeC hO2.row
    have hs2 : w.heap.size + 2 ≤ w2.heap.size := by have := hb2.size; omega
    have z1 : w2.heap[w.heap.size + 1]? = some (.cells #[.int .i64 0, .slice none 0 0] 24 (0, 0)) := (hb2.block _ (by omega)).trans y1
    have z2 : Below w.heap.size w w2 := below_next y3 hb2
    have r1 : ∀ o, (w2.alloc o).heap[w.heap.size + 1]? = some (.cells #[.int .i64 0, .slice none 0 0] 24 (0, 0)) := fun o => (Below.heap_alloc _ _ _ (by omega)).trans z1
    have f1 : ∀ o, (w2.alloc o).cell? ⟨w.heap.size + 1, 0, none⟩ = some (.int .i64 0) := fun o => blk_cell (r1 o) 0
    have f2 : ∀ o, (w2.alloc o).cell? ⟨w.heap.size + 1, 1, none⟩ = some (.slice none 0 0) := fun o => blk_cell (r1 o) 1
    have f3 : ∀ o, (w2.alloc o).frozen? ⟨w.heap.size + 1, 0, none⟩ = false := fun o => blk_frozen (r1 o) 0
    have f4 : ∀ o, (w2.alloc o).frozen? ⟨w.heap.size + 1, 1, none⟩ = false := fun o => blk_frozen (r1 o) 1
    have HR1 : Hid (∀ o, (w2.alloc o).heap[w.heap.size + 1]? = some (.cells #[.int .i64 0, .slice none 0 0] 24 (0, 0)) ∧ Below w.heap.size w (w2.alloc o)) := fun o => ⟨r1 o, z2.alloc (by omega) o⟩
    clear r1 z1 z2 hO2 hb2 y1 y2 y3 h0
    go_wp2
    have hfin : ∀ o, (((w2.alloc o).setCell ⟨w.heap.size + 1, 0, none⟩ (.int .i64 0)).setCell ⟨w.heap.size + 1, 1, none⟩ (.slice none 0 0)).heap[w.heap.size + 1]? = some (.cells #[.int .i64 0, .slice none 0 0] 24 (0, 0)) := fun o => by
      rw [heap_setCell_same _ (w.heap.size + 1) 1 _ _ _ (heap_setCell_same _ (w.heap.size + 1) 0 _ _ _ (HR1.out _).1)]; rfl
    refine bodyPost_ret (v := .tuple #[.agg #[.int .i64 0, .slice none 0 0], .int .i64 r2]) (res_ct (p := 4) (u := 5) rfl _ _ (w.heap.size + 1) 24 _ (0, 0) _ rfl (hfin _) Tryd.underlying24 rfl (by kernel_rfl)) rfl ?_
    have hle : w.heap.size ≤ w.heap.size + 1 := by omega
    exact HBad.out _ (((HR1.out _).2.setCell hle _).setCell hle _)
end Go.Proofs.YtokpjegiinggdaaDoor
