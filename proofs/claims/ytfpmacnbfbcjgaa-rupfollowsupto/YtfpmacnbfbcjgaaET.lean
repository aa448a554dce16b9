import Derived.Test.YtfpmacnbfbcjgaaER
namespace Go.Proofs.Ytfpmacnbfbcjgaa
open Go.ChangeShapes Go.WideShapes Go.ChangeAt Go.RowKit
open Go.Pr
/-- what Back answers, and leaves -/
def bakE (S : ES) (l : Int) : Int := if l < 0 ∨ (S.level : Int) < l then 32 else 0
def bakS (S : ES) (l : Int) : ES := if 0 ≤ l ∧ l < (S.level : Int) then S.back l.toNat else S
theorem unset_app (vs : List Int) : ∀ (a : List Nat) (x : Nat), ES.unset vs (a ++ [x]) = ((ES.unset vs a).set x 0).set (opp x) 0 := by
  intro a
  induction a generalizing vs with
  | nil => intro x; rfl
  | cons y a ih => intro x; exact ih ((vs.set y 0).set (opp y) 0) x
theorem unset_len (vs : List Int) : ∀ (a : List Nat), (ES.unset vs a).length = vs.length := by
  intro a
  induction a generalizing vs with
  | nil => rfl
  | cons y a ih =>
    show (ES.unset ((vs.set y 0).set (opp y) 0) a).length = _
    rw [ih, List.length_set, List.length_set]
set_option maxHeartbeats 4000000 in
theorem back_mem {w : World} {g : Nat} {O : Nat → Prop} {S : ES} {p : Nat → Value} (h : Mem w g O S p) (hw : WF S) (hT : S.tasks.length ≤ 8388608) (l : Int) :
    Calls Try.prog 20 #[.pointer (some ⟨g, 0, none⟩), .int .i64 l] w fun r w' => r = .returned (.int .i64 (bakE S l)) ∧ Done w g O (bakS S l) w' := by
  have hnn := hw.n
  have HL : Hid (∀ W, Mem W g O S p → Calls Try.prog 17 #[.pointer (some ⟨g, 0, none⟩)] W fun e w' => e = .returned (.int .i64 (S.level : Int)) ∧ w' = W) := fun W m => level_mem m
  have hmk := WF.marks_len hw
  have hlv : S.level ≤ 1048576 := by unfold ES.level; omega
  generalize hPP : (fun (r : Ending) (w' : World) => r = .returned (.int .i64 (bakE S l)) ∧ Done w g O (bakS S l) w') = PP
  have HPP : Hid (∀ w', Done w g O (bakS S l) w' → PP (.returned (.int .i64 (bakE S l))) w') := fun w' h => by rw [← hPP]; exact ⟨rfl, h⟩
  clear hPP
  have HM : Hid (Mem w g O S p) := h
  by_cases h1 : l < 0
  · have e0 : bakE S l = 32 := by unfold bakE; rw [if_pos (Or.inl h1)]
    have eS : bakS S l = S := by unfold bakS; rw [if_neg (by omega)]
    rw [e0, eS] at HPP
    have HD : Hid (∀ n, Done w g O S (w.drewN n)) := fun n => h.done.drewN
    clear h hw e0 eS
    go_enter Try.func20, Try.ntmps20
    go_wp2
    exact HPP.out _ (HD.out 0)
  · by_cases h2 : (S.level : Int) < l
    · have e0 : bakE S l = 32 := by unfold bakE; rw [if_pos (Or.inr h2)]
      have eS : bakS S l = S := by unfold bakS; rw [if_neg (by omega)]
      rw [e0, eS] at HPP
      have HD : Hid (∀ n, Done w g O S (w.drewN n)) := fun n => h.done.drewN
      clear h hw e0 eS
      go_enter Try.func20, Try.ntmps20
      go_wp2_with fail
      refine (HL.out _ HM.out).mono ?_
      rintro e w' ⟨rfl, hw'⟩
      obtain rfl := hw'.symm
      go_wp2
      exact HPP.out _ (HD.out 0)
    · have e0 : bakE S l = 0 := by unfold bakE; rw [if_neg (by omega)]
      rw [e0] at HPP
      obtain ⟨m, rfl⟩ : ∃ m : Nat, l = (m : Int) := ⟨l.toNat, by omega⟩
      by_cases h3 : m = S.level
      · subst h3
        have eS : bakS S ((S.level : Nat) : Int) = S := by unfold bakS; rw [if_neg (by omega)]
        rw [eS] at HPP
        have HD : Hid (Done w g O S w) := h.done
        clear h hw eS h2 e0
        generalize S.level = lv at *
        go_enter Try.func20, Try.ntmps20
        go_wp2_with fail
        refine (HL.out _ HM.out).mono ?_
        rintro e w' ⟨rfl, hw'⟩
        obtain rfl := hw'.symm
        go_wp2_with fail
        refine (HL.out _ HM.out).mono ?_
        rintro e w' ⟨rfl, hw'⟩
        obtain rfl := hw'.symm
        go_wp2
        exact HPP.out _ HD.out
      · have hml : m < S.level := by omega
        have hml' : m < S.marks.length := hml
        have eS : bakS S (m : Int) = S.back m := by unfold bakS; rw [if_pos (by omega)]; rfl
        rw [eS] at HPP
        obtain ⟨left, hleft⟩ : ∃ left, S.marks.getD m 0 = left := ⟨_, rfl⟩
        have hlt : left < S.trail.length := by rw [← hleft, getD_of _ _ _ hml']; exact hw.mks _ (List.getElem_mem _)
        have htl := hw.trail_len
        obtain ⟨b8, c8, hp8, hc8, hcell8, _⟩ := h.form (i := 8) (by unfold used; omega) (by show 0 < S.marks.length; omega)
        have hp8' : p 8 = .slice (some ⟨b8, 0, none⟩) S.marks.length c8 := hp8
        have k8 : w.cell? ⟨g, 8, none⟩ = some (.slice (some ⟨b8, 0, none⟩) S.marks.length c8) := (h.gcell 8).trans (congrArg some hp8')
        have c8m : w.cell? ⟨b8, m, none⟩ = some (.int .i64 (left : Int)) := by
          rw [hcell8 m (by show m < S.marks.length * 1; omega)]
          show (mksV S.marks)[m]? = _
          unfold mksV
          rw [List.getElem?_map, List.getElem?_eq_getElem hml', ← hleft, getD_of _ _ _ hml']
          rfl
        obtain ⟨b6, c6, hp6, hc6, hcell6, _⟩ := h.form (i := 6) (by unfold used; omega) (by show 0 < S.trail.length; omega)
        have hp6' : p 6 = .slice (some ⟨b6, 0, none⟩) S.trail.length c6 := hp6
        have k6 : w.cell? ⟨g, 6, none⟩ = some (.slice (some ⟨b6, 0, none⟩) S.trail.length c6) := (h.gcell 6).trans (congrArg some hp6')
        have q1 : (m : Int) < (S.marks.length : Int) := by omega
        have q2 : (left : Int) < (S.trail.length : Int) := by omega
        have hc6' : S.trail.length ≤ c6 := hc6
        have hc8' : S.marks.length ≤ c8 := hc8
        have hne6 : ¬ c6 = left := by omega
        have q6 : (S.trail.length : Int) ≤ (c6 : Int) := by omega
        have HW : Hid (WF S) := hw
        have HP6 : Hid (p 6 = .slice (some ⟨b6, 0, none⟩) S.trail.length c6) := hp6'
        have HP8 : Hid (p 8 = .slice (some ⟨b8, 0, none⟩) S.marks.length c8) := hp8'
        clear hp8 hp8' hcell8 hp6 hp6' hc6 hc8 h1 h2 eS
        have q3 : ((m : Int) == (S.level : Int)) = false := beq_eq_false_iff_ne.2 (by omega)
        go_enter Try.func20, Try.ntmps20
        go_wp2_with fail
        refine (HL.out _ HM.out).mono ?_
        rintro e w' ⟨rfl, hw'⟩
        obtain rfl := hw'.symm
        go_wp2_with fail
        refine (HL.out _ HM.out).mono ?_
        rintro e w' ⟨rfl, hw'⟩
        obtain rfl := hw'.symm
        go_wp2_with fail
        have HTr : Hid (∀ W (V : ES), Mem W g O V p → V.trail = S.trail → ∀ i, i < S.trail.length → W.cell? ⟨b6, i, none⟩ = some (.int .i32 (S.trail.getD i 0 : Int))) := fun W V m e i hi => by
          have h5 := m.row 6 (by unfold used; omega)
          rw [HP6.out] at h5
          have e6 : nR V 6 = S.trail.length := congrArg List.length e
          have e7 : lR V p 6 = codesV S.trail := congrArg codesV e
          rw [e6, e7] at h5
          rw [h5.cellAt i (by show i < S.trail.length * 1; omega)]
          unfold codesV
          rw [List.getElem?_map, List.getElem?_eq_getElem hi, getD_of _ _ _ hi]
          rfl
        obtain ⟨bv, cv, hp3, _, _⟩ := h.vals hw
        have HP3 : Hid (p 3 = .slice (some ⟨bv, 0, none⟩) (2 * S.n + 2) cv) := hp3
        have HVL : Hid (S.vals.length = 2 * S.n + 2) := hw.vall
        have HCo : Hid (∀ i, i < S.trail.length → 2 ≤ S.trail.getD i 0 ∧ S.trail.getD i 0 < 2 * S.n + 2) := fun i hi => by
          have h5 := hw.tr (S.trail.getD i 0) (by rw [getD_of _ _ _ hi]; exact List.getElem_mem _)
          exact ⟨h5.1, h5.2.1⟩
        have HGO : Hid (∀ i, i < S.trail.length - left → (S.trail.drop left).take (i + 1) = (S.trail.drop left).take i ++ [S.trail.getD (left + i) 0]) := fun i hi => by
          have h5 : i < (S.trail.drop left).length := by rw [List.length_drop]; exact hi
          rw [List.take_succ_eq_append_getElem h5, List.getElem_drop, getD_of _ _ _ (by omega)]
        have HUD : Hid (∀ W O5 p5 V, Mem W g O5 V p5 → V.done ≤ V.tasks.length → V.tasks.length ≤ 8388608 → Calls Try.prog 33 #[.pointer (some ⟨g, 0, none⟩), .int .i32 (m : Int)] W fun r w' => r = .returned (.tuple #[]) ∧ Done W g O5 { V with done := ES.undone V.tasks m V.done, tasks := V.tasks.take (ES.undone V.tasks m V.done) ++ (V.tasks.drop (ES.undone V.tasks m V.done)).filter fun t => decide (t.since ≤ m) } w') := fun W O5 p5 V m5 h5 h6 => undo_mem m5 h5 h6 (by omega)
        have hdn := hw.dn
        clear h hw k8 c8m k6 hcell6 hp3 HL
        obtain ⟨n, hn⟩ : ∃ n, S.trail.length - left = n := ⟨_, rfl⟩
        rw [hn]
        go_loopg [34] n (fun gk s34 wr => ∃ (i : Nat), s34 = .int .i64 (i : Int) ∧ i + gk = n ∧ Aside (Mem wr g O { S with vals := ES.unset S.vals ((S.trail.drop left).take i) } p ∧ Fr O w wr O))
        case atStart => exact ⟨0, rfl, by omega, HM.out, Fr.refl O w⟩
        case round =>
          obtain ⟨i, rfl, hi, HA⟩ := hrel
          obtain ⟨hM, hF⟩ := HA.out
          by_cases hlt2 : i < n
          · have c6x := HTr.out wr _ hM rfl (left + i) (by omega)
            have hco := HCo.out (left + i) (by omega)
            have hgo := HGO.out i (by omega)
            obtain ⟨lc, hlc⟩ : ∃ lc, S.trail.getD (left + i) 0 = lc := ⟨_, rfl⟩
            rw [hlc] at c6x hco hgo
            have ho := opp_lt hco.1 hco.2
            obtain ⟨lx, hlx⟩ : ∃ lx, opp lc = lx := ⟨_, rfl⟩
            rw [hlx] at ho
            have hx := xor1_i32 lc (by omega)
            rw [opp_def, hlx] at hx
            obtain ⟨V, hV⟩ : ∃ V, ES.unset S.vals ((S.trail.drop left).take i) = V := ⟨_, rfl⟩
            have hVl : V.length = 2 * S.n + 2 := by rw [← hV, unset_len]; exact HVL.out
            rw [hV] at hM
            have u3 : ∀ T : ES, used T 3 := fun T => by unfold used; omega
            obtain ⟨m1, r1⟩ := hM.store (S' := { S with vals := V.set lc 0 }) (i := 3) (u3 _) (by rw [HP3.out]; show _ = Value.slice _ V.length _; rw [hVl]) lc (.int .i8 0) rfl rfl (same_of 3 (Or.inr rfl) (Or.inr rfl) (Or.inl rfl) (Or.inr rfl) rfl (Or.inr rfl) (Or.inr rfl) (Or.inr rfl)) (by show (V.set lc 0).length = V.length; rw [List.length_set]) (by show (V.set lc 0).map _ = (V.map _).set _ _; rw [List.map_set])
            obtain ⟨m2, r2⟩ := m1.store (S' := { S with vals := (V.set lc 0).set lx 0 }) (i := 3) (u3 _) (by rw [HP3.out]; show _ = Value.slice _ (V.set lc 0).length _; rw [List.length_set, hVl]) lx (.int .i8 0) rfl rfl (same_of 3 (Or.inr rfl) (Or.inr rfl) (Or.inl rfl) (Or.inr rfl) rfl (Or.inr rfl) (Or.inr rfl) (Or.inr rfl)) (by show ((V.set lc 0).set lx 0).length = (V.set lc 0).length; rw [List.length_set]) (by show ((V.set lc 0).set lx 0).map _ = ((V.set lc 0).map _).set _ _; rw [List.map_set])
            have d3 : wr.cell? ⟨g, 3, none⟩ = some (.slice (some ⟨bv, 0, none⟩) (2 * S.n + 2) cv) := (hM.gcell 3).trans (congrArg some HP3.out)
            have d3' : (wr.setCell ⟨bv, lc, none⟩ (.int .i8 0)).cell? ⟨g, 3, none⟩ = some (.slice (some ⟨bv, 0, none⟩) (2 * S.n + 2) cv) := (m1.gcell 3).trans (congrArg some HP3.out)
            obtain ⟨⟨z0, c0⟩, f0⟩ := hM.cellE (i := 3) (u3 _) HP3.out (by show _ = V.length; rw [hVl]) (j := lc) (by show lc < V.length * 1; omega)
            obtain ⟨⟨z1, c1⟩, f1⟩ := hM.cellE (i := 3) (u3 _) HP3.out (by show _ = V.length; rw [hVl]) (j := lx) (by show lx < V.length * 1; omega)
            obtain ⟨⟨z2, c2⟩, f2⟩ := m1.cellE (i := 3) (u3 _) HP3.out (by show _ = (V.set lc 0).length; rw [List.length_set, hVl]) (j := lx) (by show lx < (V.set lc 0).length * 1; rw [List.length_set]; omega)
            have qa : (lc : Int) < 2 * (S.n : Int) + 2 := by omega
            have qb : (lx : Int) < 2 * (S.n : Int) + 2 := by omega
            have qc : (i : Int) < (n : Int) := by omega
            have HX : Aside (Mem ((wr.setCell ⟨bv, lc, none⟩ (.int .i8 0)).setCell ⟨bv, lx, none⟩ (.int .i8 0)) g O { S with vals := ES.unset S.vals ((S.trail.drop left).take (i + 1)) } p ∧ Fr O w ((wr.setCell ⟨bv, lc, none⟩ (.int .i8 0)).setCell ⟨bv, lx, none⟩ (.int .i8 0)) O) := by
              refine ⟨?_, hF.trans (r1.trans r2)⟩
              rw [hgo, unset_app, hV, hlx]
              exact m2
            clear hM hF m1 m2 r1 r2 HA hgo hV hlc
            go_wp2
            go_region
            all_goals
              go_wp2
              go_roundg (gk - 1)
              case measure => omega
              case rel => exact ⟨i + 1, by simp, by omega, HX.out.1.drew, HX.out.2.drew⟩
          · have qc : ¬ (i : Int) < (n : Int) := by omega
            have etk : (S.trail.drop left).take i = S.trail.drop left := List.take_of_length_le (by rw [List.length_drop]; omega)
            rw [etk] at hM
            obtain ⟨V, hV⟩ : ∃ V, ES.unset S.vals (S.trail.drop left) = V := ⟨_, rfl⟩
            rw [hV] at hM
            have u6 : ∀ T : ES, used T 6 := fun T => by unfold used; omega
            have u8 : ∀ T : ES, used T 8 := fun T => by unfold used; omega
            have hr6 : wr.ownsRow 0 68 1 (.slice (some ⟨b6, 0, none⟩) S.trail.length c6) S.trail.length (codesV S.trail) := by have h5 := hM.row 6 (u6 _); rw [HP6.out] at h5; exact h5
            have hr6' := ownsRow_take (m := left) (by omega) hr6
            have e6 : (codesV S.trail).take (left * 1) = codesV (S.trail.take left) := by unfold codesV; rw [Nat.mul_one, List.map_take]
            rw [e6] at hr6'
            obtain ⟨O1, m1, r1⟩ := hM.rerow (S' := { S with vals := V, trail := S.trail.take left }) (i := 6) (u6 _) (by omega) (w1 := wr) ⟨rfl, rfl, rfl, Nat.le_refl _, fun _ _ _ => rfl⟩ (.slice (some ⟨b6, 0, none⟩) left c6) left (codesV (S.trail.take left)) hr6' (Or.inl (by rw [HP6.out]; rfl)) rfl rfl (same_of 6 (Or.inr rfl) (Or.inr rfl) (Or.inr rfl) (Or.inr rfl) rfl (Or.inl rfl) (Or.inr rfl) (Or.inr rfl)) (by show (S.trail.take left).length = left; rw [List.length_take]; omega) rfl
            have k6 : wr.cell? ⟨g, 6, none⟩ = some (.slice (some ⟨b6, 0, none⟩) S.trail.length c6) := (hM.gcell 6).trans (congrArg some HP6.out)
            have f6 := hM.gfrozen 6
            have hF1 : Fr O w (wr.setCell ⟨g, 6, none⟩ (.slice (some ⟨b6, 0, none⟩) left c6)) O1 := hF.trans r1
            obtain ⟨v6, hv6⟩ : ∃ v6, (Value.slice (some ⟨b6, 0, none⟩) left c6) = v6 := ⟨_, rfl⟩
            have k7 : (wr.setCell ⟨g, 6, none⟩ (.slice (some ⟨b6, 0, none⟩) left c6)).cell? ⟨g, 7, none⟩ = some (.int .i64 (S.head : Int)) := m1.gcell 7
            have f7 := m1.gfrozen 7
            obtain ⟨mn, hmn⟩ : ∃ mn, min S.head left = mn := ⟨_, rfl⟩
            obtain ⟨m2, r2⟩ := m1.setg (S' := { S with vals := V, trail := S.trail.take left, head := mn }) 7 (.int .i64 (mn : Int)) rfl rfl (same_of 2 (Or.inr rfl) (Or.inr rfl) (Or.inr rfl) (Or.inr rfl) rfl (Or.inr rfl) (Or.inr rfl) (Or.inr rfl))
            have hp8u : upd p 6 (.slice (some ⟨b6, 0, none⟩) left c6) 8 = .slice (some ⟨b8, 0, none⟩) S.marks.length c8 := by unfold upd; rw [if_neg (by omega)]; exact HP8.out
            have hr8 : ((wr.setCell ⟨g, 6, none⟩ (.slice (some ⟨b6, 0, none⟩) left c6)).setCell ⟨g, 7, none⟩ (.int .i64 (mn : Int))).ownsRow 0 3 1 (.slice (some ⟨b8, 0, none⟩) S.marks.length c8) S.marks.length (mksV S.marks) := by have h5 := m2.row 8 (u8 _); rw [hp8u] at h5; exact h5
            have hr8' := ownsRow_take (m := m) (by omega) hr8
            have e8 : (mksV S.marks).take (m * 1) = mksV (S.marks.take m) := by unfold mksV; rw [Nat.mul_one, List.map_take]
            rw [e8] at hr8'
            obtain ⟨O3, m3, r3⟩ := m2.rerow (S' := { S with vals := V, trail := S.trail.take left, head := mn, marks := S.marks.take m }) (i := 8) (u8 _) (by omega) (w1 := (wr.setCell ⟨g, 6, none⟩ (.slice (some ⟨b6, 0, none⟩) left c6)).setCell ⟨g, 7, none⟩ (.int .i64 (mn : Int))) ⟨rfl, rfl, rfl, Nat.le_refl _, fun _ _ _ => rfl⟩ (.slice (some ⟨b8, 0, none⟩) m c8) m (mksV (S.marks.take m)) hr8' (Or.inl (by rw [hp8u]; rfl)) rfl rfl (same_of 8 (Or.inr rfl) (Or.inr rfl) (Or.inr rfl) (Or.inr rfl) rfl (Or.inr rfl) (Or.inl rfl) (Or.inr rfl)) (by show (S.marks.take m).length = m; rw [List.length_take]; omega) rfl
            have k8 : ((wr.setCell ⟨g, 6, none⟩ (.slice (some ⟨b6, 0, none⟩) left c6)).setCell ⟨g, 7, none⟩ (.int .i64 (mn : Int))).cell? ⟨g, 8, none⟩ = some (.slice (some ⟨b8, 0, none⟩) S.marks.length c8) := (m2.gcell 8).trans (congrArg some hp8u)
            have f8 := m2.gfrozen 8
            have k11 : (((wr.setCell ⟨g, 6, none⟩ (.slice (some ⟨b6, 0, none⟩) left c6)).setCell ⟨g, 7, none⟩ (.int .i64 (mn : Int))).setCell ⟨g, 8, none⟩ (.slice (some ⟨b8, 0, none⟩) m c8)).cell? ⟨g, 11, none⟩ = some (.int .i32 (clI S.clash)) := m3.gcell 11
            have f11 := m3.gfrozen 11
            obtain ⟨m4, r4⟩ := m3.setg (S' := { S with vals := V, trail := S.trail.take left, head := mn, marks := S.marks.take m, clash := none }) 11 (.int .i32 (-1)) rfl rfl (same_of 2 (Or.inr rfl) (Or.inr rfl) (Or.inr rfl) (Or.inr rfl) rfl (Or.inr rfl) (Or.inr rfl) (Or.inr rfl))
            have hF4 := ((hF1.trans r2).trans r3).trans r4
            have HF4 : Hid (Fr O w ((((wr.setCell ⟨g, 6, none⟩ (.slice (some ⟨b6, 0, none⟩) left c6)).setCell ⟨g, 7, none⟩ (.int .i64 (mn : Int))).setCell ⟨g, 8, none⟩ (.slice (some ⟨b8, 0, none⟩) m c8)).setCell ⟨g, 11, none⟩ (.int .i32 (-1))) O3) := hF4
            have HU4 : Hid (Calls Try.prog 33 #[.pointer (some ⟨g, 0, none⟩), .int .i32 (m : Int)] ((((wr.setCell ⟨g, 6, none⟩ (.slice (some ⟨b6, 0, none⟩) left c6)).setCell ⟨g, 7, none⟩ (.int .i64 (mn : Int))).setCell ⟨g, 8, none⟩ (.slice (some ⟨b8, 0, none⟩) m c8)).setCell ⟨g, 11, none⟩ (.int .i32 (-1))) fun r w' => r = .returned (.tuple #[]) ∧ Done ((((wr.setCell ⟨g, 6, none⟩ (.slice (some ⟨b6, 0, none⟩) left c6)).setCell ⟨g, 7, none⟩ (.int .i64 (mn : Int))).setCell ⟨g, 8, none⟩ (.slice (some ⟨b8, 0, none⟩) m c8)).setCell ⟨g, 11, none⟩ (.int .i32 (-1))) g O3 (S.back m) w') := by
              have h5 := HUD.out _ _ _ _ m4 hdn hT
              have eB : S.back m = { S with vals := V, trail := S.trail.take left, head := mn, marks := S.marks.take m, clash := none, done := ES.undone S.tasks m S.done, tasks := S.tasks.take (ES.undone S.tasks m S.done) ++ (S.tasks.drop (ES.undone S.tasks m S.done)).filter fun t => decide (t.since ≤ m) } := by
                rw [← hV, ← hmn, ← hleft]
                rfl
              rw [eB]
              exact h5
            have q7 : (left : Int) ≤ (c6 : Int) := by omega
            have q8 : (m : Int) ≤ (c8 : Int) := by omega
            have hmI : IntKind.i32.wrap (m : Int) = (m : Int) := by rw [IntKind.wrap_i32]; omega
            clear hM hF HA m1 r1 hr6 hr6' e6 hF1 m2 r2 hr8 hr8' e8 m3 r3 m4 r4 hF4 hp8u hv6 v6 HUD HTr HCo HGO HVL HP3 HP6 HP8 HM
            by_cases hle : S.head ≤ left
            · have emn : mn = S.head := by omega
              have hle' : (S.head : Int) ≤ (left : Int) := by omega
              subst emn
              go_wp2_with fail
              refine HU4.out.mono ?_
              rintro e w9 ⟨rfl, hD⟩
              have HD : Hid (Done w g O (S.back m) w9) := Done.trans HF4.out hD
              clear hD
              go_wp2
              exact HPP.out _ HD.out
            · have emn : mn = left := by omega
              have hle' : ¬ (S.head : Int) ≤ (left : Int) := by omega
              subst emn
              go_wp2_with fail
              refine HU4.out.mono ?_
              rintro e w9 ⟨rfl, hD⟩
              have HD : Hid (Done w g O (S.back m) w9) := Done.trans HF4.out hD
              clear hD
              go_wp2
              exact HPP.out _ HD.out
end Go.Proofs.Ytfpmacnbfbcjgaa
