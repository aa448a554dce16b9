import Derived.Test.YtfpmacnbfbcjgaaEG
import Derived.Deep.DeepCutAuto
namespace Go.Proofs.Ytfpmacnbfbcjgaa
open Go.ChangeShapes Go.WideShapes Go.ChangeAt Go.RowKit
open Go.Pr
theorem WF.meet1 {S : ES} (h : WF S) {k f s : Nat} (hk : k < S.cls.length) (f1 : f < 2 * S.n + 2) (s1 : s < 2 * S.n + 2) (f2 : f ≠ 1) (s2 : s ≠ 1) : WF (S.meet1 k f s) ∧ Same S (S.meet1 k f s) := by
  have hc := h.clause_ok hk
  unfold ES.meet1
  split
  · obtain ⟨a1, a2⟩ := h.setC (c := { S.clause k with a := f, b := s }) rfl rfl hk hc.2.2.2.1 f1 s1 f2 s2
    obtain ⟨b1, b2⟩ := a1.addW (c := f) (k := k) (o := s) (by rw [a2.len]; exact hk) (by rw [a2.n]; exact s1) s2
    obtain ⟨c1, c2⟩ := b1.addW (c := s) (k := k) (o := f) (by rw [b2.len, a2.len]; exact hk) (by rw [b2.n, a2.n]; exact f1) f2
    exact ⟨c1, a2.trans (b2.trans c2)⟩
  · exact ⟨h, Same.refl S⟩
theorem watch_addW_len (S : ES) (c k o x : Nat) : ((S.addW c k o).watch x).length ≤ (S.watch x).length + 1 := by
  unfold ES.addW ES.watch
  simp only
  rw [List.getD_eq_getElem?_getD, List.getElem?_set]
  by_cases e : c = x
  · subst e
    rw [if_pos rfl]
    split
    · show ((S.wat.getD c []) ++ [(k, o)]).length ≤ _
      simp
    · simp
  · rw [if_neg e, ← List.getD_eq_getElem?_getD]
    omega
set_option maxHeartbeats 16000000 in
theorem meet_mem {w : World} {g : Nat} {O : Nat → Prop} {S : ES} {p : Nat → Value} (h : Mem w g O S p) (hw : WF S) {k : Nat} (hk : k < S.cls.length) (hT : S.tasks.length ≤ 8388608) (hW : ∀ x, (S.watch x).length ≤ 8388608) :
    Calls Try.prog 31 #[.pointer (some ⟨g, 0, none⟩), .int .i32 (k : Int)] w fun r w' => r = .returned (.tuple #[]) ∧ Done w g O (S.meet k) w' := by
  have HL : Hid (Calls Try.prog 41 #[.pointer (some ⟨g, 0, none⟩), .int .i32 (k : Int)] w fun r w' => r = .returned (.tuple #[.int .i32 ((S.last2 (S.inside k) 0 0).1 : Int), .int .i32 ((S.last2 (S.inside k) 0 0).2 : Int)]) ∧ Mem w' g O S p ∧ Fr O w w' O) := lastTwo_mem h hw hk
  have hco := last2_code hw k
  have HE : Hid (S.meet k = (S.meet1 k (S.last2 (S.inside k) 0 0).1 (S.last2 (S.inside k) 0 0).2).meet2 k (S.last2 (S.inside k) 0 0).1 (S.last2 (S.inside k) 0 0).2) := rfl
  generalize (S.last2 (S.inside k) 0 0).1 = f at *
  generalize (S.last2 (S.inside k) 0 0).2 = s at *
  obtain ⟨f1, s1, f2, s2⟩ := hco
  have hcll := hw.cll
  have hnn := hw.n
  have HW3 : Hid (WF (S.meet1 k f s) ∧ Same S (S.meet1 k f s)) := WF.meet1 hw hk f1 s1 f2 s2
  have HWL : Hid (S.wat.length = 2 * S.n + 2) := hw.wtl
  clear h
  generalize hPP : (fun (r : Ending) (w' : World) => r = .returned (.tuple #[]) ∧ Done w g O (S.meet k) w') = PP
  have HPP : Hid (∀ w', Done w g O (S.meet k) w' → PP (.returned (.tuple #[])) w') := fun w' h => by rw [← hPP]; exact ⟨rfl, h⟩
  clear hPP
  have q1 : (k : Int) < (S.cls.length : Int) := by omega
  have qf : (f : Int) < 2 * (S.n : Int) + 2 := by omega
  have qs : (s : Int) < 2 * (S.n : Int) + 2 := by omega
  by_cases h0 : s = 0
  · have e0 : ((s : Int) != 0) = false := by subst h0; rfl
    have hS3 : S.meet1 k f s = S := by unfold ES.meet1; rw [if_neg (fun h => h h0)]
    clear h0
    go_enter Try.func31, Try.ntmps31
    go_wp2_with fail
    refine HL.out.mono ?_
    rintro e W3 ⟨rfl, hM, hF⟩
    have HM3 : Hid (Mem W3 g O (S.meet1 k f s) p) := by rw [hS3]; exact hM
    have HF3 : Hid (Fr O w W3 O) := hF
    obtain ⟨O3, hO3⟩ : ∃ O3, O3 = O := ⟨_, rfl⟩
    obtain ⟨P3, hP3⟩ : ∃ P3, P3 = p := ⟨_, rfl⟩
    rw [← hO3, ← hP3] at HM3
    have HF3 : Hid (Fr O w W3 O3) := by rw [hO3]; exact hF
    clear hS3 hM hF hO3 hP3
    have HS : Hid (Calls Try.prog 42 #[.pointer (some ⟨g, 0, none⟩), .int .i32 (s : Int)] W3 fun e w' => e = .returned (.int .i32 ((S.meet1 k f s).fs s : Int)) ∧ w' = W3) := falseSince_mem HM3.out HW3.out.1 (by rw [HW3.out.2.n]; exact s1)
    have HQ : Hid (S.meet k = if (S.meet1 k f s).fs s = never then S.meet1 k f s else ((S.meet1 k f s).settle k f).remember (some k) f ((S.meet1 k f s).fs s)) := HE.out
    have HCt : Hid (Calls Try.prog 40 #[.pointer (some ⟨g, 0, none⟩), .int .i32 (k : Int), .int .i32 (f : Int)] W3 fun e w' => e = .returned (.tuple #[]) ∧ DoneW W3 g O3 P3 ((S.meet1 k f s).settle k f) w') := settle_mem HM3.out HW3.out.1 f2 (by rw [HW3.out.2.n]; exact f1)
    have HWs := HW3.out.1.settle (k := k) (l := f) (by rw [HW3.out.2.len]; exact hk) (by rw [HW3.out.2.n]; exact f1) f2
    have HTs : Hid (((S.meet1 k f s).settle k f).tasks.length ≤ 8388608) := by
      have e1 : ((S.meet1 k f s).settle k f).tasks = S.tasks := by
        unfold ES.settle ES.meet1
        split <;> split <;> (try split) <;> rfl
      show (((S.meet1 k f s).settle k f).tasks).length ≤ _
      rw [e1]
      exact hT
    have HRm : Hid (∀ W O5 p5 t, Mem W g O5 ((S.meet1 k f s).settle k f) p5 → Calls Try.prog 43 #[.pointer (some ⟨g, 0, none⟩), .int .i32 (k : Int), .int .i32 (f : Int), .int .i32 (t : Nat)] W fun e w' => e = .returned (.tuple #[]) ∧ Done W g O5 (((S.meet1 k f s).settle k f).remember (some k) f t) w') := fun W O5 p5 t m => remember_mem m HWs.1 (k := some k) HTs.out
    clear HE HWs HTs HW3
    obtain ⟨S3, hS3'⟩ : ∃ T, S.meet1 k f s = T := ⟨_, rfl⟩
    rw [hS3'] at HS HQ HCt HRm HM3
    clear hS3'
    go_wp2_with fail
    refine HS.out.mono ?_
    rintro e w' ⟨rfl, hw'⟩
    obtain rfl := hw'.symm
    generalize hfs : S3.fs s = t at *
    by_cases ht : t = never
    · have ht' : t = 2147483647 := ht
      have HD : Hid (Done w g O (S.meet k) W3) := by rw [HQ.out, if_pos ht]; exact ⟨O3, _, HM3.out, HF3.out⟩
      clear HQ hfs ht
      subst ht'
      go_wp2
      go_end0
      exact HPP.out _ HD.out
    · have ht' : ((t : Int) == 2147483647) = false := beq_eq_false_iff_ne.2 (by have : t ≠ 2147483647 := ht; omega)
      rw [if_neg ht] at HQ
      clear hfs ht
      go_wp2_with fail
      refine HCt.out.mono ?_
      rintro e w5 ⟨rfl, O5, p5, m5, r5, _⟩
      have HRm5 : Hid (Calls Try.prog 43 #[.pointer (some ⟨g, 0, none⟩), .int .i32 (k : Int), .int .i32 (f : Int), .int .i32 (t : Nat)] w5 fun e w' => e = .returned (.tuple #[]) ∧ Done w5 g O5 ((S3.settle k f).remember (some k) f t) w') := HRm.out w5 O5 p5 t m5
      go_wp2_with fail
      refine HRm5.out.mono ?_
      rintro e w6 ⟨rfl, hD⟩
      have HD : Hid (Done w g O (S.meet k) w6) := by rw [HQ.out]; exact Done.trans (HF3.out.trans r5) hD
      clear hD
      go_wp2
      go_end0
      exact HPP.out _ HD.out
  · have e0 : ((s : Int) != 0) = true := by simp; omega
    have HS3 : Hid (S.meet1 k f s = ((S.setC k { S.clause k with a := f, b := s }).addW f k s).addW s k f) := by unfold ES.meet1; rw [if_pos h0]; rfl
    go_enter Try.func31, Try.ntmps31
    go_wp2_with fail
    refine HL.out.mono ?_
    rintro e w1 ⟨rfl, hM, hF⟩
    obtain ⟨b, c, hp1, d0, d1, d2, d3, d4, hfz⟩ := hM.clauses hk
    have g1 : w1.cell? ⟨g, 1, none⟩ = some (.slice (some ⟨b, 0, none⟩) S.cls.length c) := (hM.gcell 1).trans (congrArg some hp1)
    obtain ⟨m1, r1, m2, r2⟩ := hM.setAB hk hp1 f s
    have z3 := hfz (k * 5 + 3)
    have z4 := hfz (k * 5 + 4)
    have HM2 : Hid (Mem ((w1.setCell ⟨b, k * 5 + 3, none⟩ (.int .i32 (f : Int))).setCell ⟨b, k * 5 + 3 + 1, none⟩ (.int .i32 (s : Int))) g O (S.setC k { S.clause k with a := f, b := s }) p ∧ Fr O w ((w1.setCell ⟨b, k * 5 + 3, none⟩ (.int .i32 (f : Int))).setCell ⟨b, k * 5 + 3 + 1, none⟩ (.int .i32 (s : Int))) O) := ⟨m2, hF.trans r2⟩
    clear hM hF m1 r1 m2 r2 d0 d1 d2
    go_upto_region 3 with fail
    have HWL1 : Hid ((S.setC k { S.clause k with a := f, b := s }).wat.length = 2 * (S.setC k { S.clause k with a := f, b := s }).n + 2) := HWL.out
    have hWL1 : Hid (∀ x, ((S.setC k { S.clause k with a := f, b := s }).watch x).length ≤ 8388609) := fun x => Nat.le_succ_of_le (hW x)
    have HWL2 : Hid (((S.setC k { S.clause k with a := f, b := s }).addW f k s).wat.length = 2 * ((S.setC k { S.clause k with a := f, b := s }).addW f k s).n + 2) := by show (S.wat.set _ _).length = _; rw [List.length_set]; exact HWL.out
    have hWL2 : Hid (∀ x, (((S.setC k { S.clause k with a := f, b := s }).addW f k s).watch x).length ≤ 8388609) := fun x => Nat.le_trans (watch_addW_len _ _ _ _ _) (Nat.succ_le_succ (hW x))
    clear z3 z4 d3 d4 g1 hfz HL hW hw
    go_cut [] (fun wx => ∃ O2 P2, Mem wx g O2 ((S.setC k { S.clause k with a := f, b := s }).addW f k s) P2 ∧ Fr O w wx O2)
    case first =>
      generalize (w1.setCell ⟨b, k * 5 + 3, none⟩ (.int .i32 (f : Int))).setCell ⟨b, k * 5 + 3 + 1, none⟩ (.int .i32 (s : Int)) = W2 at *
      have HA : Hid (Mem W2 g O (S.setC k { S.clause k with a := f, b := s }) p) := HM2.out.1
      have HAF : Hid (Fr O w W2 O) := HM2.out.2
      clear HM2
      obtain ⟨b51, c51, ax1, cx1, hp51, hpx1, hxc1, kx1, hrx1, hz51⟩ := HA.out.wats HWL1.out f1
      have k51 : W2.cell? ⟨g, 5, none⟩ = some (.slice (some ⟨b51, 0, none⟩) (2 * S.n + 2) c51) := (HA.out.gcell 5).trans (congrArg some hp51)
      have k5a1 : ∀ o, (W2.alloc o).cell? ⟨g, 5, none⟩ = some (.slice (some ⟨b51, 0, none⟩) (2 * S.n + 2) c51) := fun o => ((HA.out.alloc o).gcell 5).trans (congrArg some hp51)
      have hb51 : b51 < W2.heap.size := HA.out.osz _ (HA.out.own 5 (by unfold used; omega) b51 (by rw [hp51]; rfl))
      have kxa1 : ∀ o, (W2.alloc o).cell? ⟨b51, f, none⟩ = some (.slice ax1 ((S.setC k { S.clause k with a := f, b := s }).watch f).length cx1) := fun o => (World.cell?_of_block (Below.heap_alloc _ _ b51 hb51)).trans kx1
      have hlx1 : ((S.setC k { S.clause k with a := f, b := s }).watch f).length ≤ 8388609 := hWL1.out f
      have HRx1 : Hid (W2.ownsRow 0 87 2 (.slice ax1 ((S.setC k { S.clause k with a := f, b := s }).watch f).length cx1) ((S.setC k { S.clause k with a := f, b := s }).watch f).length (((S.setC k { S.clause k with a := f, b := s }).watch f).flatMap watF)) := hrx1
      have HP51 : Hid (p 5 = .slice (some ⟨b51, 0, none⟩) (2 * S.n + 2) c51) := hp51
      have HPx1 : Hid (p (f + 12) = .slice ax1 ((S.setC k { S.clause k with a := f, b := s }).watch f).length cx1) := hpx1
      have HXL1 : Hid (f < 2 * (S.setC k { S.clause k with a := f, b := s }).n + 2) := f1
      have HWs1 : Hid ((S.setC k { S.clause k with a := f, b := s }).watch f = (S.setC k { S.clause k with a := f, b := s }).watch f) := rfl
      clear hp51 hpx1 hxc1 hrx1 hz51 hb51 HWs1
      obtain ⟨wx1, hwx1⟩ : ∃ l, ((S.setC k { S.clause k with a := f, b := s }).watch f).length = l := ⟨_, rfl⟩
      have HWX1 : Hid (((S.setC k { S.clause k with a := f, b := s }).watch f).length = wx1) := hwx1
      rw [hwx1] at HRx1 kx1 kxa1 hlx1
      clear hwx1
      obtain ⟨i01, hi1, hz01, hz11, hz21⟩ := info_parts (P := Try.prog) (e := 87) (z := .agg #[.int .i32 0, .int .i32 0]) (size := 2) (bytes := 8) (by kernel_rfl)
      go_region_law (first
        | (refine step_append_lies _ (by rfl) _ _ _ (by rfl) 0 87 i01 _ 2 8 Try.underlying85 hi1 hz01 hz11 hz21 rfl (by omega) (.slice ax1 wx1 cx1) wx1 (((S.setC k { S.clause k with a := f, b := s }).watch f).flatMap watF) (by rfl) ((HRx1.out.alloc _).drew) ⟨W2.heap.size, 0, none⟩ 1 1 [.int .i32 (k : Int), .int .i32 (s : Int)] (by rfl) (by rfl) (World.news_of_block (cs := #[.int .i32 (k : Int), .int .i32 (s : Int)]) (t := 87) (fr := (0, 0)) (heap_alloc_new W2 _)) (by intro u hu; simp at hu; rcases hu with rfl | rfl <;> rfl) (by omega) (by unfold maxLen; omega) (by omega) (by omega) (W2.heap.size + 1) (by simp) ?_; intro g4 cap4 w4 hown4 hgrow4 hat4 hlt4; obtain ⟨ha1, ha2, ⟨zz, ha3⟩, ha4⟩ := Mem.addW (x := f) (k := k) (o := s) ((HA.out.alloc _).drew) HWL1.out HXL1.out HP51.out HPx1.out (by rw [HWX1.out]; exact hown4) (by rw [HWX1.out]; exact hgrow4) (by rw [HWX1.out]; rcases hat4 with e | e; exact Or.inl e; exact Or.inr (by rw [e]; simp)) hlt4; rw [HWX1.out] at ha1; have k541 : w4.cell? ⟨g, 5, none⟩ = some (.slice (some ⟨b51, 0, none⟩) (2 * S.n + 2) c51) := ((blk_cell ha2 5).trans (congrArg some HP51.out)); have HK1 : Hid (∃ O', Mem (w4.setCell ⟨b51, f, none⟩ (.slice (some ⟨g4, 0, none⟩) (wx1 + 1) cap4)) g O' ((S.setC k { S.clause k with a := f, b := s }).addW f k s) (upd p (f + 12) (.slice (some ⟨g4, 0, none⟩) (wx1 + 1) cap4)) ∧ Fr O W2 (w4.setCell ⟨b51, f, none⟩ (.slice (some ⟨g4, 0, none⟩) (wx1 + 1) cap4)) O') := (by obtain ⟨O', hm, hr⟩ := ha1; exact ⟨O', hm, ⟨hr.os, hr.tape, hr.output, Nat.le_trans (by simp) hr.size, fun k hk hO => (hr.kept k (by simp; omega) hO).trans (Below.heap_alloc _ _ k hk), fun k hk => (hr.new k hk).imp id (fun h => Nat.le_trans (by simp) h)⟩⟩); clear hown4 hgrow4 hat4 hlt4 ha1 ha2 HRx1))
      all_goals
        go_wp2_with fail
        go_meet
        obtain ⟨O2, m2, r2⟩ := HK1.out
        exact ⟨O2, _, m2, HAF.out.trans r2⟩
    case rest =>
      obtain ⟨O2, P2, m2, r2⟩ := hcut
      have HB : Hid (Mem wc g O2 ((S.setC k { S.clause k with a := f, b := s }).addW f k s) P2) := m2
      have HBF : Hid (Fr O w wc O2) := r2
      clear m2 r2 HM2
      go_upto_region 4 with fail
      go_cut [] (fun wx => ∃ O3 P3, Mem wx g O3 (S.meet1 k f s) P3 ∧ Fr O w wx O3)
      case first =>
        obtain ⟨b52, c52, ax2, cx2, hp52, hpx2, hxc2, kx2, hrx2, hz52⟩ := HB.out.wats HWL2.out s1
        have k52 : wc.cell? ⟨g, 5, none⟩ = some (.slice (some ⟨b52, 0, none⟩) (2 * S.n + 2) c52) := (HB.out.gcell 5).trans (congrArg some hp52)
        have k5a2 : ∀ o, (wc.alloc o).cell? ⟨g, 5, none⟩ = some (.slice (some ⟨b52, 0, none⟩) (2 * S.n + 2) c52) := fun o => ((HB.out.alloc o).gcell 5).trans (congrArg some hp52)
        have hb52 : b52 < wc.heap.size := HB.out.osz _ (HB.out.own 5 (by unfold used; omega) b52 (by rw [hp52]; rfl))
        have kxa2 : ∀ o, (wc.alloc o).cell? ⟨b52, s, none⟩ = some (.slice ax2 (((S.setC k { S.clause k with a := f, b := s }).addW f k s).watch s).length cx2) := fun o => (World.cell?_of_block (Below.heap_alloc _ _ b52 hb52)).trans kx2
        have hlx2 : (((S.setC k { S.clause k with a := f, b := s }).addW f k s).watch s).length ≤ 8388609 := hWL2.out s
        have HRx2 : Hid (wc.ownsRow 0 87 2 (.slice ax2 (((S.setC k { S.clause k with a := f, b := s }).addW f k s).watch s).length cx2) (((S.setC k { S.clause k with a := f, b := s }).addW f k s).watch s).length ((((S.setC k { S.clause k with a := f, b := s }).addW f k s).watch s).flatMap watF)) := hrx2
        have HP52 : Hid (P2 5 = .slice (some ⟨b52, 0, none⟩) (2 * S.n + 2) c52) := hp52
        have HPx2 : Hid (P2 (s + 12) = .slice ax2 (((S.setC k { S.clause k with a := f, b := s }).addW f k s).watch s).length cx2) := hpx2
        have HXL2 : Hid (s < 2 * ((S.setC k { S.clause k with a := f, b := s }).addW f k s).n + 2) := s1
        have HWs2 : Hid (((S.setC k { S.clause k with a := f, b := s }).addW f k s).watch s = ((S.setC k { S.clause k with a := f, b := s }).addW f k s).watch s) := rfl
        clear hp52 hpx2 hxc2 hrx2 hz52 hb52 HWs2
        obtain ⟨wx2, hwx2⟩ : ∃ l, (((S.setC k { S.clause k with a := f, b := s }).addW f k s).watch s).length = l := ⟨_, rfl⟩
        have HWX2 : Hid ((((S.setC k { S.clause k with a := f, b := s }).addW f k s).watch s).length = wx2) := hwx2
        rw [hwx2] at HRx2 kx2 kxa2 hlx2
        clear hwx2
        obtain ⟨i02, hi2, hz02, hz12, hz22⟩ := info_parts (P := Try.prog) (e := 87) (z := .agg #[.int .i32 0, .int .i32 0]) (size := 2) (bytes := 8) (by kernel_rfl)
        go_region_law (first
          | (refine step_append_lies _ (by rfl) _ _ _ (by rfl) 0 87 i02 _ 2 8 Try.underlying85 hi2 hz02 hz12 hz22 rfl (by omega) (.slice ax2 wx2 cx2) wx2 ((((S.setC k { S.clause k with a := f, b := s }).addW f k s).watch s).flatMap watF) (by rfl) ((HRx2.out.alloc _).drew) ⟨wc.heap.size, 0, none⟩ 1 1 [.int .i32 (k : Int), .int .i32 (f : Int)] (by rfl) (by rfl) (World.news_of_block (cs := #[.int .i32 (k : Int), .int .i32 (f : Int)]) (t := 87) (fr := (0, 0)) (heap_alloc_new wc _)) (by intro u hu; simp at hu; rcases hu with rfl | rfl <;> rfl) (by omega) (by unfold maxLen; omega) (by omega) (by omega) (wc.heap.size + 1) (by simp) ?_; intro g4 cap4 w4 hown4 hgrow4 hat4 hlt4; obtain ⟨ha1, ha2, ⟨zz, ha3⟩, ha4⟩ := Mem.addW (x := s) (k := k) (o := f) ((HB.out.alloc _).drew) HWL2.out HXL2.out HP52.out HPx2.out (by rw [HWX2.out]; exact hown4) (by rw [HWX2.out]; exact hgrow4) (by rw [HWX2.out]; rcases hat4 with e | e; exact Or.inl e; exact Or.inr (by rw [e]; simp)) hlt4; rw [HWX2.out] at ha1; have k542 : w4.cell? ⟨g, 5, none⟩ = some (.slice (some ⟨b52, 0, none⟩) (2 * S.n + 2) c52) := ((blk_cell ha2 5).trans (congrArg some HP52.out)); have HK2 : Hid (∃ O', Mem (w4.setCell ⟨b52, s, none⟩ (.slice (some ⟨g4, 0, none⟩) (wx2 + 1) cap4)) g O' (((S.setC k { S.clause k with a := f, b := s }).addW f k s).addW s k f) (upd P2 (s + 12) (.slice (some ⟨g4, 0, none⟩) (wx2 + 1) cap4)) ∧ Fr O2 wc (w4.setCell ⟨b52, s, none⟩ (.slice (some ⟨g4, 0, none⟩) (wx2 + 1) cap4)) O') := (by obtain ⟨O', hm, hr⟩ := ha1; exact ⟨O', hm, ⟨hr.os, hr.tape, hr.output, Nat.le_trans (by simp) hr.size, fun k hk hO => (hr.kept k (by simp; omega) hO).trans (Below.heap_alloc _ _ k hk), fun k hk => (hr.new k hk).imp id (fun h => Nat.le_trans (by simp) h)⟩⟩); clear hown4 hgrow4 hat4 hlt4 ha1 ha2 HRx2))
        all_goals
          go_wp2_with fail
          go_meet
          obtain ⟨O3, m3, r3⟩ := HK2.out
          exact ⟨O3, _, by rw [HS3.out]; exact m3, HBF.out.trans r3⟩
      case rest =>
        obtain ⟨O3, P3, m3, r3⟩ := hcut
        have HM3 : Hid (Mem wc g O3 (S.meet1 k f s) P3) := m3
        have HF3 : Hid (Fr O w wc O3) := r3
        clear m3 r3 HB HBF HS3
        have HS : Hid (Calls Try.prog 42 #[.pointer (some ⟨g, 0, none⟩), .int .i32 (s : Int)] wc fun e w' => e = .returned (.int .i32 ((S.meet1 k f s).fs s : Int)) ∧ w' = wc) := falseSince_mem HM3.out HW3.out.1 (by rw [HW3.out.2.n]; exact s1)
        have HQ : Hid (S.meet k = if (S.meet1 k f s).fs s = never then S.meet1 k f s else ((S.meet1 k f s).settle k f).remember (some k) f ((S.meet1 k f s).fs s)) := HE.out
        have HCt : Hid (Calls Try.prog 40 #[.pointer (some ⟨g, 0, none⟩), .int .i32 (k : Int), .int .i32 (f : Int)] wc fun e w' => e = .returned (.tuple #[]) ∧ DoneW wc g O3 P3 ((S.meet1 k f s).settle k f) w') := settle_mem HM3.out HW3.out.1 f2 (by rw [HW3.out.2.n]; exact f1)
        have HWs := HW3.out.1.settle (k := k) (l := f) (by rw [HW3.out.2.len]; exact hk) (by rw [HW3.out.2.n]; exact f1) f2
        have HTs : Hid (((S.meet1 k f s).settle k f).tasks.length ≤ 8388608) := by
          have e1 : ((S.meet1 k f s).settle k f).tasks = S.tasks := by
            unfold ES.settle ES.meet1
            split <;> split <;> (try split) <;> rfl
          show (((S.meet1 k f s).settle k f).tasks).length ≤ _
          rw [e1]
          exact hT
        have HRm : Hid (∀ W O5 p5 t, Mem W g O5 ((S.meet1 k f s).settle k f) p5 → Calls Try.prog 43 #[.pointer (some ⟨g, 0, none⟩), .int .i32 (k : Int), .int .i32 (f : Int), .int .i32 (t : Nat)] W fun e w' => e = .returned (.tuple #[]) ∧ Done W g O5 (((S.meet1 k f s).settle k f).remember (some k) f t) w') := fun W O5 p5 t m => remember_mem m HWs.1 (k := some k) HTs.out
        clear HE HWs HTs HW3
        obtain ⟨S3, hS3'⟩ : ∃ T, S.meet1 k f s = T := ⟨_, rfl⟩
        rw [hS3'] at HS HQ HCt HRm HM3
        clear hS3'
        go_wp2_with fail
        refine HS.out.mono ?_
        rintro e w' ⟨rfl, hw'⟩
        obtain rfl := hw'.symm
        generalize hfs : S3.fs s = t at *
        by_cases ht : t = never
        · have ht' : t = 2147483647 := ht
          have HD : Hid (Done w g O (S.meet k) wc) := by rw [HQ.out, if_pos ht]; exact ⟨O3, _, HM3.out, HF3.out⟩
          clear HQ hfs ht
          subst ht'
          go_wp2
          go_end0
          exact HPP.out _ HD.out
        · have ht' : ((t : Int) == 2147483647) = false := beq_eq_false_iff_ne.2 (by have : t ≠ 2147483647 := ht; omega)
          rw [if_neg ht] at HQ
          clear hfs ht
          go_wp2_with fail
          refine HCt.out.mono ?_
          rintro e w5 ⟨rfl, O5, p5, m5, r5, _⟩
          have HRm5 : Hid (Calls Try.prog 43 #[.pointer (some ⟨g, 0, none⟩), .int .i32 (k : Int), .int .i32 (f : Int), .int .i32 (t : Nat)] w5 fun e w' => e = .returned (.tuple #[]) ∧ Done w5 g O5 ((S3.settle k f).remember (some k) f t) w') := HRm.out w5 O5 p5 t m5
          go_wp2_with fail
          refine HRm5.out.mono ?_
          rintro e w6 ⟨rfl, hD⟩
          have HD : Hid (Done w g O (S.meet k) w6) := by rw [HQ.out]; exact Done.trans (HF3.out.trans r5) hD
          clear hD
          go_wp2
          go_end0
          exact HPP.out _ HD.out
end Go.Proofs.Ytfpmacnbfbcjgaa
