import Derived.Test.YtfpmacnbfbcjgaaEL
import Derived.Test.YtfpmacnbfbcjgaaQA
namespace Go.Proofs.Ytfpmacnbfbcjgaa
open Go.ChangeShapes Go.WideShapes Go.ChangeAt Go.RowKit
open Go.Pr
theorem tell_def (S : ES) (l : Nat) : S.tell l = if (S.visit l).watch l = [] then S.visit l else (S.visit l).remember none l ((S.visit l).lvl l) := rfl
set_option maxHeartbeats 4000000 in
theorem tell_mem {w : World} {g : Nat} {O : Nat → Prop} {S : ES} {p : Nat → Value} (h : Mem w g O S p) (hw : WF S) {l : Nat} (hl1 : 2 ≤ l) (hl : l < 2 * S.n + 2) (hv : S.val l = -1) (hW : ∀ x, (S.watch x).length ≤ 1048576) (hT : S.tasks.length ≤ 8388608) (hT2 : (S.visit l).tasks = S.tasks) (hW2 : ((S.visit l).watch l).length ≤ 1048576) :
    Calls Try.prog 32 #[.pointer (some ⟨g, 0, none⟩), .int .i32 (l : Int)] w fun r w' => r = .returned (.tuple #[]) ∧ Done w g O (S.tell l) w' := by
  have hnn := hw.n
  have HV : Hid (Calls Try.prog 39 #[.pointer (some ⟨g, 0, none⟩), .int .i32 (l : Int)] w fun r w' => r = .returned (.tuple #[]) ∧ Done w g O (S.visit l) w') := visit_mem h hw hl1 hl hv hW
  have hwv := hw.visit hl (by omega)
  have HWV : Hid (WF (S.visit l)) := hwv.1
  have hn1 : (S.visit l).n = S.n := hwv.2.n
  have HTe : Hid (S.tell l = if (S.visit l).watch l = [] then S.visit l else (S.visit l).remember none l ((S.visit l).lvl l)) := tell_def S l
  have HRm : Hid (∀ W O5 p5 t, Mem W g O5 (S.visit l) p5 → Calls Try.prog 43 #[.pointer (some ⟨g, 0, none⟩), .int .i32 (-1), .int .i32 (l : Int), .int .i32 (t : Nat)] W fun e w' => e = .returned (.tuple #[]) ∧ Done W g O5 ((S.visit l).remember none l t) w') := fun W O5 p5 t m => remember_mem m hwv.1 (k := none) (by rw [hT2]; exact hT)
  generalize hPP : (fun (r : Ending) (w' : World) => r = .returned (.tuple #[]) ∧ Done w g O (S.tell l) w') = PP
  have HPP : Hid (∀ w', Done w g O (S.tell l) w' → PP (.returned (.tuple #[])) w') := fun w' h => by rw [← hPP]; exact ⟨rfl, h⟩
  clear hPP h hw hwv hW hT hT2 hv
  generalize S.tell l = T at *
  generalize S.visit l = V at *
  have q1 : (l : Int) < 2 * (S.n : Int) + 2 := by omega
  go_enter Try.func32, Try.ntmps32
  go_wp2_with fail
  refine HV.out.mono ?_
  rintro e w1 ⟨rfl, O1, p1, m1, r1⟩
  have HM1 : Hid (Mem w1 g O1 V p1) := m1
  have HF1 : Hid (Fr O w w1 O1) := r1
  obtain ⟨b5, c5, ax, cx', hp5, hpx, hxc, kx, hrow, hfz⟩ := m1.wats (x := l) HWV.out.wtl (by rw [hn1]; exact hl)
  rw [hn1] at hp5
  have k5 : w1.cell? ⟨g, 5, none⟩ = some (.slice (some ⟨b5, 0, none⟩) (2 * S.n + 2) c5) := (m1.gcell 5).trans (congrArg some hp5)
  obtain ⟨bg, cg, hp4, hc4, _⟩ := m1.givs HWV.out
  rw [hn1] at hp4 hc4
  have k4 : w1.cell? ⟨g, 4, none⟩ = some (.slice (some ⟨bg, 0, none⟩) (S.n + 1) cg) := (m1.gcell 4).trans (congrArg some hp4)
  have c4 := (hc4 (l / 2) (by omega)).1
  have e2 : ((l : Int) / 2) = ((l / 2 : Nat) : Int) := by omega
  have q2 : ((l / 2 : Nat) : Int) < (S.n : Int) + 1 := by omega
  have HRm1 : Hid (∀ t : Nat, Calls Try.prog 43 #[.pointer (some ⟨g, 0, none⟩), .int .i32 (-1), .int .i32 (l : Int), .int .i32 (t : Nat)] w1 fun e w' => e = .returned (.tuple #[]) ∧ Done w1 g O1 (V.remember none l t) w') := fun t => HRm.out w1 O1 p1 t m1
  have hlv : V.lvl l = (V.giv.getD (l / 2) (0, none)).1 := rfl
  clear hp5 hpx hrow hfz hp4 hc4 m1 r1 HRm HV HWV hxc
  by_cases h0 : V.watch l = []
  · have HD : Hid (Done w g O T w1) := by rw [HTe.out, if_pos h0]; exact ⟨O1, p1, HM1.out, HF1.out⟩
    have hz : (V.watch l).length = 0 := by rw [h0]; rfl
    rw [hz] at kx
    clear HTe h0 hz HRm1
    go_wp2
    go_end0
    exact HPP.out _ HD.out
  · have hz : 0 < (V.watch l).length := Nat.pos_of_ne_zero (fun e => h0 (List.eq_nil_of_length_eq_zero e))
    rw [if_neg h0] at HTe
    rw [hlv] at HTe
    generalize (V.giv.getD (l / 2) (0, none)).1 = t at *
    generalize (V.watch l).length = m at *
    generalize l / 2 = ld at *
    have q3 : (0 : Int) < (m : Int) := by omega
    have HRt : Hid (Calls Try.prog 43 #[.pointer (some ⟨g, 0, none⟩), .int .i32 (-1), .int .i32 (l : Int), .int .i32 (t : Nat)] w1 fun e w' => e = .returned (.tuple #[]) ∧ Done w1 g O1 (V.remember none l t) w') := HRm1.out t
    clear HRm1 h0 hlv
    go_wp2_with fail
    refine HRt.out.mono ?_
    rintro e w2 ⟨rfl, hD⟩
    have HD : Hid (Done w g O T w2) := by rw [HTe.out]; exact Done.trans HF1.out hD
    clear hD
    go_wp2
    go_end0
    exact HPP.out _ HD.out
theorem Mem.taskAt {w : World} {g : Nat} {O : Nat → Prop} {S : ES} {p : Nat → Value} (h : Mem w g O S p) {k : Nat} (hk : k < S.tasks.length) : ∃ b c, p 9 = .slice (some ⟨b, 0, none⟩) S.tasks.length c ∧ w.cell? ⟨b, k * 4, none⟩ = some (.int .i32 (clI (S.tk k).cl)) ∧ w.cell? ⟨b, k * 4 + 1, none⟩ = some (.int .i32 ((S.tk k).lit : Int)) ∧ w.cell? ⟨b, k * 4 + 2, none⟩ = some (.int .i32 ((S.tk k).since : Int)) ∧ w.cell? ⟨b, k * 4 + 3, none⟩ = some (.int .i32 ((S.tk k).lv : Int)) ∧ ∀ j, w.frozen? ⟨b, j, none⟩ = false := by
  obtain ⟨b, c, h1, _, h2, h3⟩ := h.form (i := 9) (by unfold used; omega) (by show 0 < S.tasks.length; omega)
  have e0 : (lR S p 9)[k * 4 + 0]? = _ := fm_get tkF 4 (fun _ => rfl) S.tasks k 0 hk (by omega)
  have e1 : (lR S p 9)[k * 4 + 1]? = _ := fm_get tkF 4 (fun _ => rfl) S.tasks k 1 hk (by omega)
  have e2 : (lR S p 9)[k * 4 + 2]? = _ := fm_get tkF 4 (fun _ => rfl) S.tasks k 2 hk (by omega)
  have e3 : (lR S p 9)[k * 4 + 3]? = _ := fm_get tkF 4 (fun _ => rfl) S.tasks k 3 hk (by omega)
  have hb : ∀ i, i < 4 → k * 4 + i < nR S 9 * szR 9 := fun i hi => by show _ < S.tasks.length * 4; omega
  rw [← h2 _ (hb 0 (by omega))] at e0
  rw [← h2 _ (hb 1 (by omega))] at e1
  rw [← h2 _ (hb 2 (by omega))] at e2
  rw [← h2 _ (hb 3 (by omega))] at e3
  have e : S.tk k = S.tasks[k] := by unfold ES.tk; rw [getD_of _ _ _ hk]
  rw [Nat.add_zero] at e0
  exact ⟨b, c, h1, by rw [e0, e]; rfl, by rw [e1, e]; rfl, by rw [e2, e]; rfl, by rw [e3, e]; rfl, h3⟩
theorem again_def (S : ES) : S.again = match (S.tk S.done).cl with | none => S.mark.visit (S.tk S.done).lit | some k => S.mark.settle k (S.tk S.done).lit := rfl
set_option maxHeartbeats 4000000 in
theorem again_mem {w : World} {g : Nat} {O : Nat → Prop} {S : ES} {p : Nat → Value} (h : Mem w g O S p) (hw : WF S) (hd : S.done < S.tasks.length) (hT : S.tasks.length ≤ 8388608) (hW : ∀ x, (S.watch x).length ≤ 1048576) (hno : (S.tk S.done).cl = none → 2 ≤ (S.tk S.done).lit ∧ S.val (S.tk S.done).lit = -1) :
    Calls Try.prog 30 #[.pointer (some ⟨g, 0, none⟩)] w fun r w' => r = .returned (.tuple #[]) ∧ Done w g O S.again w' := by
  have hnn := hw.n
  have hmk := WF.marks_len hw
  have hlvv : S.level ≤ 1048576 := by unfold ES.level; omega
  have htk := hw.tks (S.tk S.done) (tk_mem hd)
  have hwm := hw.mark hd
  have HE : Hid (S.again = match (S.tk S.done).cl with | none => S.mark.visit (S.tk S.done).lit | some k => S.mark.settle k (S.tk S.done).lit) := again_def S
  have hkc := clI_lt hw.cll htk.2.2
  have HV : Hid (∀ W, Mem W g O S.mark p → (S.tk S.done).cl = none → Calls Try.prog 39 #[.pointer (some ⟨g, 0, none⟩), .int .i32 ((S.tk S.done).lit : Int)] W fun r w' => r = .returned (.tuple #[]) ∧ Done W g O (S.mark.visit (S.tk S.done).lit) w') := fun W m hc => visit_mem m hwm (hno hc).1 htk.1 (hno hc).2 hW
  have HS : Hid (∀ W k, Mem W g O S.mark p → Calls Try.prog 40 #[.pointer (some ⟨g, 0, none⟩), .int .i32 (k : Nat), .int .i32 ((S.tk S.done).lit : Int)] W fun r w' => r = .returned (.tuple #[]) ∧ DoneW W g O p (S.mark.settle k (S.tk S.done).lit) w') := fun W k m => settle_mem m hwm htk.2.1 htk.1
  generalize hPP : (fun (r : Ending) (w' : World) => r = .returned (.tuple #[]) ∧ Done w g O S.again w') = PP
  have HPP : Hid (∀ w', Done w g O S.again w' → PP (.returned (.tuple #[])) w') := fun w' h => by rw [← hPP]; exact ⟨rfl, h⟩
  obtain ⟨b, c, hp9, _, _, _, _, _⟩ := h.taskAt hd
  have k9 : w.cell? ⟨g, 9, none⟩ = some (.slice (some ⟨b, 0, none⟩) S.tasks.length c) := (h.gcell 9).trans (congrArg some hp9)
  have k10 : w.cell? ⟨g, 10, none⟩ = some (.int .i64 (S.done : Int)) := h.gcell 10
  have q1 : (S.done : Int) < (S.tasks.length : Int) := by omega
  have HW0 : Hid (∀ n, Mem (w.drewN n) g O S p ∧ Fr O w (w.drewN n) O) := fun n => ⟨h.drewN, (Fr.refl O w).drewN⟩
  have HMD : Hid (∀ t, S.mark.tk S.done = t → t.cl = (S.tk S.done).cl ∧ t.lit = (S.tk S.done).lit) := fun t ht => by rw [← ht, mark_tk hd, if_pos rfl]; exact ⟨rfl, rfl⟩
  have HST : Hid (∀ W, Mem W g O S p → (Mem (W.setCell ⟨b, S.done * 4 + 3, none⟩ (.int .i32 (S.level : Int))) g O { S with tasks := S.tasks.set S.done { S.tk S.done with lv := S.level } } p ∧ Fr O W (W.setCell ⟨b, S.done * 4 + 3, none⟩ (.int .i32 (S.level : Int))) O)) := fun W m => m.store (S' := { S with tasks := S.tasks.set S.done { S.tk S.done with lv := S.level } }) (i := 9) (by unfold used; omega) hp9 (S.done * 4 + 3) (.int .i32 (S.level : Int)) rfl rfl (same_of 9 (Or.inr rfl) (Or.inr rfl) (Or.inr rfl) (Or.inr rfl) rfl (Or.inr rfl) (Or.inr rfl) (Or.inl rfl)) (by show (S.tasks.set _ _).length = S.tasks.length; rw [List.length_set]) (by
    have e : S.tk S.done = S.tasks[S.done] := by unfold ES.tk; rw [getD_of _ _ _ hd]
    exact fm_set tkF 4 (fun _ => rfl) 3 _ _ (by omega) S.tasks S.done hd (by rw [← e]; rfl))
  have hd2 : S.done < S.mark.tasks.length := by unfold ES.mark; simp; exact hd
  clear hPP h hw hwm htk hno hW
  go_enter Try.func30, Try.ntmps30
  go_wp2
  go_quiet (fail)
  obtain ⟨m0, r0⟩ := HW0.out nq
  clear HW0 k9 k10
  generalize w.drewN nq = W0 at *
  have HF0 : Hid (Fr O w W0 O) := r0
  have HL1 : Hid (Calls Try.prog 17 #[.pointer (some ⟨g, 0, none⟩)] W0 fun e w' => e = .returned (.int .i64 (S.level : Int)) ∧ w' = W0) := level_mem m0
  obtain ⟨b', c', hp9', c0, c1, c2, c3, hfz⟩ := m0.taskAt hd
  have eb : b' = b := by rw [hp9] at hp9'; injection hp9' with h1 _ _; injection h1 with h1; injection h1 with h1 _ _; exact h1.symm
  subst eb
  have f3 := hfz (S.done * 4 + 3)
  obtain ⟨m1, r1⟩ := HST.out W0 m0
  have k10' : (W0.setCell ⟨b', S.done * 4 + 3, none⟩ (.int .i32 (S.level : Int))).cell? ⟨g, 10, none⟩ = some (.int .i64 (S.done : Int)) := m1.gcell 10
  have f10' := m1.gfrozen 10
  obtain ⟨m2, r2⟩ := m1.setg (S' := S.mark) 10 (.int .i64 ((S.done : Int) + 1)) rfl rfl (same_of 2 (Or.inr rfl) (Or.inr rfl) (Or.inr rfl) (Or.inr rfl) rfl (Or.inr rfl) (Or.inr rfl) (Or.inr rfl))
  obtain ⟨b3, c3', hp93, e0, e1, _, _, _⟩ := m2.taskAt hd2
  have eb : b3 = b' := by rw [hp9] at hp93; injection hp93 with h1 _ _; injection h1 with h1; injection h1 with h1 _ _; exact h1.symm
  subst eb
  obtain ⟨hq1, hq2⟩ := HMD.out _ rfl
  rw [hq1] at e0
  rw [hq2] at e1
  have HM2 : Hid (Mem ((W0.setCell ⟨b3, S.done * 4 + 3, none⟩ (.int .i32 (S.level : Int))).setCell ⟨g, 10, none⟩ (.int .i64 ((S.done : Int) + 1))) g O S.mark p ∧ Fr O w ((W0.setCell ⟨b3, S.done * 4 + 3, none⟩ (.int .i32 (S.level : Int))).setCell ⟨g, 10, none⟩ (.int .i64 ((S.done : Int) + 1))) O) := ⟨m2, HF0.out.trans (r1.trans r2)⟩
  clear m0 r0 hp9 hp9' hp93 c0 c1 c2 hfz HST m1 r1 m2 r2 HMD hq1 hq2 hd2 HF0
  generalize S.again = T at *
  generalize S.mark = M at *
  generalize S.tk S.done = t at *
  generalize S.level = lv at *
  generalize S.tasks.length = tn at *
  generalize S.done = dn at *
  go_wp2_with fail
  refine HL1.out.mono ?_
  rintro e w' ⟨rfl, hw'⟩
  obtain rfl := hw'.symm
  cases hcl : t.cl with
  | none =>
    have ec : clI t.cl = -1 := by rw [hcl]; rfl
    rw [ec] at e0
    rw [hcl] at HE
    have HV1 := HV.out _ HM2.out.1 hcl
    have HV2 : Hid (Calls Try.prog 39 #[.pointer (some ⟨g, 0, none⟩), .int .i32 (t.lit : Int)] ((W0.setCell ⟨b3, dn * 4 + 3, none⟩ (.int .i32 (lv : Int))).setCell ⟨g, 10, none⟩ (.int .i64 ((dn : Int) + 1))) fun r w' => r = .returned (.tuple #[]) ∧ Done ((W0.setCell ⟨b3, dn * 4 + 3, none⟩ (.int .i32 (lv : Int))).setCell ⟨g, 10, none⟩ (.int .i64 ((dn : Int) + 1))) g O (M.visit t.lit) w') := HV1
    clear HV HS hcl ec hkc HV1
    go_wp2_with fail
    refine HV2.out.mono ?_
    rintro e w2 ⟨rfl, hD⟩
    have HD : Hid (Done w g O T w2) := by rw [HE.out]; exact Done.trans HM2.out.2 hD
    clear hD
    go_wp2
    go_end0
    exact HPP.out _ HD.out
  | some k =>
    have ec : clI t.cl = (k : Int) := by rw [hcl]; rfl
    rw [ec] at e0 hkc
    rw [hcl] at HE
    have HV1 := HS.out _ k HM2.out.1.drew
    have HV2 : Hid (Calls Try.prog 40 #[.pointer (some ⟨g, 0, none⟩), .int .i32 (k : Int), .int .i32 (t.lit : Int)] ((W0.setCell ⟨b3, dn * 4 + 3, none⟩ (.int .i32 (lv : Int))).setCell ⟨g, 10, none⟩ (.int .i64 ((dn : Int) + 1))).drew fun r w' => r = .returned (.tuple #[]) ∧ DoneW ((W0.setCell ⟨b3, dn * 4 + 3, none⟩ (.int .i32 (lv : Int))).setCell ⟨g, 10, none⟩ (.int .i64 ((dn : Int) + 1))).drew g O p (M.settle k t.lit) w') := HV1
    have ek : ((k : Int) == -1) = false := beq_eq_false_iff_ne.2 (by omega)
    clear HV HS hcl ec hkc HV1
    go_wp2_with fail
    go_region_with (go_at_call 40; refine HV2.out.mono ?_; rintro e w2 ⟨rfl, hD⟩; have HD : Hid (Done w g O T w2) := (by rw [HE.out]; exact Done.trans (Fr.drew HM2.out.2) hD.done); clear hD)
    all_goals
      go_wp2
      go_end0
      exact HPP.out _ HD.out
end Go.Proofs.Ytfpmacnbfbcjgaa
