import Derived.Test.YtfpmacnbfbcjgaaEN
namespace Go.Proofs.Ytfpmacnbfbcjgaa
open Go.ChangeShapes Go.WideShapes Go.ChangeAt Go.RowKit
open Go.Pr
theorem has_mem {w : World} {g : Nat} {O : Nat → Prop} {S : ES} {p : Nat → Value} (h : Mem w g O S p) (hw : WF S) (l : Int) :
    Calls Try.prog 34 #[.pointer (some ⟨g, 0, none⟩), .int .i64 l] w fun e w' => e = .returned (.bool (hasB S.n l)) ∧ w' = w := by
  obtain ⟨bg, cg, hp4, _, _⟩ := h.givs hw
  exact has_any g _ S.n cg l w ((h.gcell 4).trans (congrArg some hp4)) hw.n
theorem cdI_code (l : Int) : cdI l = (codeN l : Int) := by
  unfold cdI codeN
  split <;> omega
theorem codeOf_mem (l : Int) (w : World) (h : -1048576 ≤ l ∧ l ≤ 1048576) : Calls Try.prog 35 #[.int .i64 l] w fun e w' => e = .returned (.int .i32 (codeN l : Int)) ∧ w' = w := by
  rw [← cdI_code]
  exact codeOf_any l w h
theorem hasB_true {n : Nat} {l : Int} (h : hasB n l = true) : l ≠ 0 ∧ -(n : Int) ≤ l ∧ l ≤ n := by
  unfold hasB at h
  simp at h
  omega
/-- what Decide answers -/
def decE (S : ES) (l : Int) : Int := if hasB S.n l = true then (if S.clash ≠ none then 31 else if S.val (codeN l) ≠ 0 then 30 else 0) else 20
def decS (S : ES) (l : Int) : ES := if decE S l = 0 then S.decide (codeN l) else S
set_option maxHeartbeats 4000000 in
theorem decide_mem {w : World} {g : Nat} {O : Nat → Prop} {S : ES} {p : Nat → Value} (h : Mem w g O S p) (hw : WF S) (l : Int) :
    Calls Try.prog 29 #[.pointer (some ⟨g, 0, none⟩), .int .i64 l] w fun r w' => r = .returned (.int .i64 (decE S l)) ∧ Done w g O (decS S l) w' := by
  have hnn := hw.n
  have hcll := hw.cll
  have HH : Hid (Calls Try.prog 34 #[.pointer (some ⟨g, 0, none⟩), .int .i64 l] w fun e w' => e = .returned (.bool (hasB S.n l)) ∧ w' = w) := has_mem h hw l
  generalize hPP : (fun (r : Ending) (w' : World) => r = .returned (.int .i64 (decE S l)) ∧ Done w g O (decS S l) w') = PP
  have HPP : Hid (∀ w', Done w g O (decS S l) w' → PP (.returned (.int .i64 (decE S l))) w') := fun w' h => by rw [← hPP]; exact ⟨rfl, h⟩
  clear hPP
  cases hh : hasB S.n l with
  | false =>
    have e0 : decE S l = 20 := by unfold decE; rw [hh]; rfl
    have HD : Hid (Done w g O (decS S l) w) := by unfold decS; rw [e0]; exact h.done
    rw [hh] at HH
    rw [e0] at HPP
    clear h hw
    go_enter Try.func29, Try.ntmps29
    go_wp2_with fail
    refine HH.out.mono ?_
    rintro e w' ⟨rfl, hw'⟩
    obtain rfl := hw'.symm
    go_wp2
    exact HPP.out _ HD.out
  | true =>
    have hb := hasB_true hh
    have k11 : w.cell? ⟨g, 11, none⟩ = some (.int .i32 (clI S.clash)) := h.gcell 11
    rw [hh] at HH
    cases hcl : S.clash with
    | some k =>
      have hk := hw.clash k hcl
      have e0 : decE S l = 31 := by unfold decE; rw [hh, hcl]; rfl
      have HD : Hid (Done w g O (decS S l) w) := by unfold decS; rw [e0]; exact h.done
      rw [hcl] at k11
      have k11' : w.cell? ⟨g, 11, none⟩ = some (.int .i32 (k : Int)) := k11
      have ek : ((k : Int) != -1) = true := by simp <;> omega
      rw [e0] at HPP
      clear h hw k11
      go_enter Try.func29, Try.ntmps29
      go_wp2_with fail
      refine HH.out.mono ?_
      rintro e w' ⟨rfl, hw'⟩
      obtain rfl := hw'.symm
      go_wp2
      exact HPP.out _ HD.out
    | none =>
      rw [hcl] at k11
      have k11' : w.cell? ⟨g, 11, none⟩ = some (.int .i32 (-1)) := k11
      have hc1 := code_ge hb.1
      have hc2 := code_lt hb.2.1 hb.2.2
      have HC : Hid (∀ W, Calls Try.prog 35 #[.int .i64 l] W fun e w' => e = .returned (.int .i32 (codeN l : Int)) ∧ w' = W) := fun W => codeOf_mem l W ⟨by omega, by omega⟩
      obtain ⟨bv, cv, hp3, hc3, hf3⟩ := h.vals hw
      have d3 : w.cell? ⟨g, 3, none⟩ = some (.slice (some ⟨bv, 0, none⟩) (2 * S.n + 2) cv) := (h.gcell 3).trans (by rw [← hp3]; rfl)
      have c0 := hc3 (codeN l) hc2
      have q1 : (codeN l : Int) < 2 * (S.n : Int) + 2 := by omega
      have hv3 := hw.val_of (codeN l)
      by_cases hv : S.val (codeN l) = 0
      · have e0 : decE S l = 0 := by unfold decE; rw [hh, hcl, hv]; rfl
        have eS : decS S l = S.decide (codeN l) := by unfold decS; rw [if_pos e0]
        rw [e0, eS] at HPP
        rw [hv] at c0
        have u8 : ∀ T : ES, used T 8 := fun T => by unfold used; omega
        obtain ⟨a8, c8, hp8, hc8⟩ := h.slice (u8 S)
        have hp8' : p 8 = .slice a8 S.marks.length c8 := hp8
        obtain ⟨a6, c6, hp6, _⟩ := h.slice (i := 6) (by unfold used; omega)
        have k8 : w.cell? ⟨g, 8, none⟩ = some (.slice a8 S.marks.length c8) := (h.gcell 8).trans (congrArg some hp8)
        have k6 : w.cell? ⟨g, 6, none⟩ = some (.slice a6 S.trail.length c6) := (h.gcell 6).trans (congrArg some hp6)
        have row8 : w.ownsRow 0 3 1 (.slice a8 S.marks.length c8) S.marks.length (mksV S.marks) := by have := h.row 8 (u8 S); rw [hp8'] at this; exact this
        have hmk := WF.marks_len hw
        have htl := hw.trail_len
        have HM : Hid (Mem w g O S p) := h
        have HR8 : Hid (w.ownsRow 0 3 1 (.slice a8 S.marks.length c8) S.marks.length (mksV S.marks)) := row8
        have HP8 : Hid (p 8 = .slice a8 S.marks.length c8) := hp8'
        have HSet : Hid (∀ W O5 p5, Mem W g O5 { S with marks := S.marks ++ [S.trail.length] } p5 → Calls Try.prog 38 #[.pointer (some ⟨g, 0, none⟩), .int .i32 (codeN l : Int), .int .i32 (-1)] W fun e w' => e = .returned (.tuple #[]) ∧ DoneW W g O5 p5 (S.decide (codeN l)) w') := fun W O5 p5 m => set_memL (S := { S with marks := S.marks ++ [S.trail.length] }) m hw.n (by show (S.marks ++ [_]).length ≤ _; rw [List.length_append]; show S.marks.length + 1 ≤ S.n + 1; omega) hw.trail_len hw.vall hw.givl hc1 hc2 none
        clear h hw hp3 hc3 hf3 hp8 hp8' hp6 row8 hv hcl k11 hh hc8 eS e0 hv3
        generalize codeN l = cl at *
        obtain ⟨i0, hi, hz0, hz1, hz2⟩ := info_parts (P := Try.prog) (e := 3) (z := .int .i64 0) (size := 1) (bytes := 8) (by kernel_rfl)
        have HW0 : Hid (∀ n, Mem (w.drewN n) g O S p ∧ Fr O w (w.drewN n) O) := fun n => ⟨HM.out.drewN, (Fr.refl O w).drewN⟩
        go_enter Try.func29, Try.ntmps29
        go_wp2_with fail
        refine HH.out.mono ?_
        rintro e w' ⟨rfl, hw'⟩
        obtain rfl := hw'.symm
        go_wp2_with fail
        go_quiet ((go_at_call 35; exact Calls.quiet_of_same (HC.out _)))
        go_wp2_with fail
        obtain ⟨m0, r0⟩ := HW0.out nq
        clear HW0 k8 k6 d3 c0 k11' HR8 HM HH
        generalize w.drewN nq = W0 at *
        have HM : Hid (Mem W0 g O S p) := m0
        have HF0 : Hid (Fr O w W0 O) := r0
        have row8 : W0.ownsRow 0 3 1 (.slice a8 S.marks.length c8) S.marks.length (mksV S.marks) := by have := m0.row 8 (u8 S); rw [HP8.out] at this; exact this
        have HR8 : Hid (W0.ownsRow 0 3 1 (.slice a8 S.marks.length c8) S.marks.length (mksV S.marks)) := row8
        have k8 : W0.cell? ⟨g, 8, none⟩ = some (.slice a8 S.marks.length c8) := (m0.gcell 8).trans (congrArg some HP8.out)
        obtain ⟨a6', c6', hp6', _⟩ := m0.slice (i := 6) (by unfold used; omega)
        have k6 : W0.cell? ⟨g, 6, none⟩ = some (.slice a6' S.trail.length c6') := (m0.gcell 6).trans (congrArg some hp6')
        have k8a : ∀ o, (W0.alloc o).cell? ⟨g, 8, none⟩ = some (.slice a8 S.marks.length c8) := fun o => ((m0.alloc o).gcell 8).trans (congrArg some HP8.out)
        have k6a : ∀ o, (W0.alloc o).cell? ⟨g, 6, none⟩ = some (.slice a6' S.trail.length c6') := fun o => ((m0.alloc o).gcell 6).trans (congrArg some hp6')
        clear m0 r0 row8 hp6'
        go_region_law (first
          | (refine step_append_lies _ (by rfl) _ _ _ (by rfl) 0 3 i0 _ 1 8 Try.underlying25 hi hz0 hz1 hz2 rfl (by omega) (.slice a8 S.marks.length c8) S.marks.length (mksV S.marks) (by rfl) ((HR8.out.alloc _).drew) ⟨W0.heap.size, 0, none⟩ 1 1 [.int .i64 (S.trail.length : Int)] (by rfl) (by rfl) (World.news_of_block (cs := #[.int .i64 (S.trail.length : Int)]) (t := 3) (fr := (0, 0)) (heap_alloc_new W0 _)) (by intro u hu; simp at hu; subst hu; rfl) (by omega) (by unfold maxLen; omega) (by omega) (by omega) (W0.heap.size + 1) (by simp) ?_; intro g4 cap4 w4 hown4 hgrow4 hat4 hlt4; have HO4 : Hid (w4.ownsRow 0 3 1 (.slice (some ⟨g4, 0, none⟩) (S.marks.length + 1) cap4) (S.marks.length + 1) (mksV S.marks ++ [.int .i64 (S.trail.length : Int)]) ∧ (W0.alloc (.cells #[.int .i64 (S.trail.length : Int)] 3)).grownBy w4 (Value.ownBlock (.slice a8 S.marks.length c8)) ∧ ((Value.slice a8 S.marks.length c8).ownBlock = some g4 ∨ g4 = W0.heap.size + 1) ∧ g4 < w4.heap.size) := ⟨hown4, ⟨hgrow4.os, hgrow4.tape, hgrow4.output, hgrow4.size, hgrow4.block⟩, hat4, hlt4⟩; have e8 : w4.cell? ⟨g, 8, none⟩ = some (.slice a8 S.marks.length c8) := (hgrow4.cell (k8a _) (fun e => (HM.out.alloc (.cells #[.int .i64 (S.trail.length : Int)] 3)).ne_g (u8 S) (by rw [HP8.out]; exact e.symm))); have f8 : w4.frozen? ⟨g, 8, none⟩ = false := ((World.frozen?_of_block (hgrow4.block g (by have := HM.out.osz g HM.out.og; simp; omega) (fun e => (HM.out.alloc (.cells #[.int .i64 (S.trail.length : Int)] 3)).ne_g (u8 S) (by rw [HP8.out]; exact e.symm)))).trans ((HM.out.alloc _).gfrozen 8)); clear hown4 hgrow4 hat4 hlt4))
        all_goals
          obtain ⟨o1, o2, o3, o4⟩ := HO4.out
          have m6 := HM.out.alloc (.cells #[.int .i64 (S.trail.length : Int)] 3)
          have hgr6 : (W0.alloc (.cells #[.int .i64 (S.trail.length : Int)] 3)).grownBy w4 (p 8).ownBlock := by rw [HP8.out]; exact o2
          obtain ⟨O', m7, r7⟩ := m6.rerow (S' := { S with marks := S.marks ++ [S.trail.length] }) (i := 8) (u8 _) (by omega) hgr6 (.slice (some ⟨g4, 0, none⟩) (S.marks.length + 1) cap4) (S.marks.length + 1) (mksV S.marks ++ [Value.int .i64 (S.trail.length : Int)]) o1 (by
              rw [HP8.out]
              rcases o3 with o3 | o3
              · exact Or.inl o3.symm
              · exact Or.inr ⟨g4, rfl, by rw [o3]; simp, o4⟩) rfl rfl (same_of 8 (Or.inr rfl) (Or.inr rfl) (Or.inr rfl) (Or.inr rfl) rfl (Or.inr rfl) (Or.inl rfl) (Or.inr rfl)) (by show (S.marks ++ [_]).length = _; simp) (by show mksV (S.marks ++ [_]) = _; unfold mksV; rw [List.map_append]; rfl)
          have HM7 : Hid (Mem (w4.setCell ⟨g, 8, none⟩ (.slice (some ⟨g4, 0, none⟩) (S.marks.length + 1) cap4)) g O' { S with marks := S.marks ++ [S.trail.length] } (upd p 8 (.slice (some ⟨g4, 0, none⟩) (S.marks.length + 1) cap4)) ∧ Fr O w (w4.setCell ⟨g, 8, none⟩ (.slice (some ⟨g4, 0, none⟩) (S.marks.length + 1) cap4)) O') := ⟨m7, (HF0.out.alloc _).trans r7⟩
          clear o1 o2 o3 o4 m6 hgr6 m7 r7 HO4 e8 f8 k8 k6 k8a k6a HR8 HM HF0 HP8
          generalize w4.setCell ⟨g, 8, none⟩ (.slice (some ⟨g4, 0, none⟩) (S.marks.length + 1) cap4) = W5 at *
          go_wp2_with fail
          refine (HC.out _).mono ?_
          rintro e w' ⟨rfl, hw'⟩
          obtain rfl := hw'.symm
          go_wp2_with fail
          refine (HSet.out _ _ _ HM7.out.1).mono ?_
          rintro e w9 ⟨rfl, hD⟩
          have HD : Hid (Done w g O (S.decide cl) w9) := Done.trans HM7.out.2 hD.done
          clear hD
          go_wp2
          exact HPP.out _ HD.out
      · have e0 : decE S l = 30 := by unfold decE; rw [hh, hcl]; simp [hv]
        have HD : Hid (∀ n, Done w g O (decS S l) (w.drewN n)) := fun n => by unfold decS; rw [e0]; exact h.done.drewN
        have hv' : (S.val (codeN l) != 0) = true := by simp [hv]
        rw [e0] at HPP
        clear h hw hp3 hc3 hf3 hv hcl k11 hh e0 hv3
        generalize codeN l = cl at *
        generalize S.val cl = vl at *
        go_enter Try.func29, Try.ntmps29
        go_wp2_with fail
        refine HH.out.mono ?_
        rintro e w' ⟨rfl, hw'⟩
        obtain rfl := hw'.symm
        go_wp2_with fail
        go_quiet ((go_at_call 35; exact Calls.quiet_of_same (HC.out _)))
        go_wp2
        exact HPP.out _ (HD.out _)
end Go.Proofs.Ytfpmacnbfbcjgaa
