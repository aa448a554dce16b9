import Derived.Test.YtpkbigjijihljaaRA
import Derived.Test.YtpkbigjijihljaaEC
namespace Go.Proofs.Ytpkbigjijihljaa
open Go.ChangeShapes Go.WideShapes Go.ChangeAt Go.RowKit
open Go.Pr
/-- how the document's engine is left -/
def RDone (w : World) (r : Nat) (O : Nat → Prop) (R : RS) (w' : World) : Prop := ∃ O' pA pT q, RM w' r O' R pA pT q ∧ Fr O w w' O'
theorem RM.done {w : World} {r : Nat} {O : Nat → Prop} {R : RS} {pA pT : Value} {q : Nat → Value} (h : RM w r O R pA pT q) : RDone w r O R w := ⟨O, pA, pT, q, h, Fr.refl O w⟩
theorem RDone.drewN {w w' : World} {r m : Nat} {O : Nat → Prop} {R : RS} (h : RDone w r O R w') : RDone w r O R (w'.drewN m) := by
  obtain ⟨O2, a, b, c, m2, r2⟩ := h
  exact ⟨O2, a, b, c, m2.drewN, r2.drewN⟩
theorem RDone.drew {w w' : World} {r : Nat} {O : Nat → Prop} {R : RS} (h : RDone w r O R w') : RDone w r O R w'.drew := by
  obtain ⟨O2, a, b, c, m2, r2⟩ := h
  exact ⟨O2, a, b, c, m2.drew, ⟨r2.os, r2.tape, r2.output, r2.size, r2.kept, r2.new⟩⟩
theorem RDone.trans {w w' w'' : World} {r : Nat} {O O' : Nat → Prop} {R : RS} (h : Fr O w w' O') (h2 : RDone w' r O' R w'') : RDone w r O R w'' := by
  obtain ⟨O2, a, b, c, m2, r2⟩ := h2
  exact ⟨O2, a, b, c, m2, h.trans r2⟩
theorem rmay_mem {w : World} {r : Nat} {O : Nat → Prop} {R : RS} {pA pT : Value} {q : Nat → Value} (h : RM w r O R pA pT q) (hn : R.n ≤ 1048576) (l : Int) :
    Calls Try.prog 46 #[.pointer (some ⟨r, 0, none⟩), .int .i64 l] w fun e w' => e = .returned (.bool (hasB R.n l)) ∧ w' = w := may_any r R.n l w (h.cell 0) hn
theorem rof_mem {w : World} {r : Nat} {O : Nat → Prop} {R : RS} {pA pT : Value} {q : Nat → Value} (h : RM w r O R pA pT q) (hl : R.tr.length ≤ 1048576) (l : Int) (hb : -1048576 ≤ l ∧ l ≤ 1048576) :
    Calls Try.prog 48 #[.pointer (some ⟨r, 0, none⟩), .int .i64 l] w fun e w' => e = .returned (.int .i64 (rof l R.tr)) ∧ w' = w := by
  obtain ⟨ad, c, e, _, ht⟩ := h.formT
  exact rof_any r ad R.tr c l w ((h.cell 4).trans (congrArg some e)) ht (by omega) hb
def rdecE (R : RS) (l : Int) : Int := if hasB R.n l = true then (if R.bad = true then 31 else if rof l R.tr ≠ 0 then 30 else 0) else 20
def rdecS (R : RS) (l : Int) : RS := if rdecE R l = 0 then { R with level := R.level + 1, tr := R.tr ++ [(l, (R.level : Int) + 1)] } else R
theorem hasB_lt {n : Nat} {l : Int} (h : hasB n l = true) (hn : n ≤ 1048576) : -1048576 ≤ l ∧ l ≤ 1048576 := by
  unfold hasB at h
  simp at h
  omega
set_option maxHeartbeats 4000000 in
theorem rdecide_mem {w : World} {r : Nat} {O : Nat → Prop} {R : RS} {pA pT : Value} {q : Nat → Value} (h : RM w r O R pA pT q) (hn : R.n ≤ 1048576) (hl : R.tr.length ≤ 1048576) (hlv : R.level ≤ 1048576) (l : Int) :
    Calls Try.prog 26 #[.pointer (some ⟨r, 0, none⟩), .int .i64 l] w fun e w' => e = .returned (.int .i64 (rdecE R l)) ∧ RDone w r O (rdecS R l) w' := by
  generalize hPP : (fun (e : Ending) (w' : World) => e = .returned (.int .i64 (rdecE R l)) ∧ RDone w r O (rdecS R l) w') = PP
  have HPP : Hid (∀ w', RDone w r O (rdecS R l) w' → PP (.returned (.int .i64 (rdecE R l))) w') := fun w' h => by rw [← hPP]; exact ⟨rfl, h⟩
  clear hPP
  have HMy : Hid (Calls Try.prog 46 #[.pointer (some ⟨r, 0, none⟩), .int .i64 l] w fun e w' => e = .returned (.bool (hasB R.n l)) ∧ w' = w) := rmay_mem h hn l
  have k5 : w.cell? ⟨r, 5, none⟩ = some (.bool R.bad) := h.cell 5
  have HM : Hid (RM w r O R pA pT q) := h
  cases hh : hasB R.n l with
  | false =>
    have e0 : rdecE R l = 20 := by unfold rdecE; rw [hh]; rfl
    have eS : rdecS R l = R := by unfold rdecS; rw [e0]; rfl
    rw [e0, eS] at HPP
    rw [hh] at HMy
    have HD : Hid (RDone w r O R w) := h.done
    clear h
    go_enter Try.func26, Try.ntmps26
    go_wp2_with fail
    refine HMy.out.mono ?_
    rintro e w' ⟨rfl, hw'⟩
    obtain rfl := hw'.symm
    go_wp2
    exact HPP.out _ HD.out
  | true =>
    rw [hh] at HMy
    cases hb : R.bad with
    | true =>
      have e0 : rdecE R l = 31 := by unfold rdecE; rw [hh, hb]; rfl
      have eS : rdecS R l = R := by unfold rdecS; rw [e0]; rfl
      rw [e0, eS] at HPP
      rw [hb] at k5
      have HD : Hid (RDone w r O R w) := h.done
      clear h
      go_enter Try.func26, Try.ntmps26
      go_wp2_with fail
      refine HMy.out.mono ?_
      rintro e w' ⟨rfl, hw'⟩
      obtain rfl := hw'.symm
      go_wp2
      exact HPP.out _ HD.out
    | false =>
      rw [hb] at k5
      have HO : Hid (Calls Try.prog 48 #[.pointer (some ⟨r, 0, none⟩), .int .i64 l] w fun e w' => e = .returned (.int .i64 (rof l R.tr)) ∧ w' = w) := rof_mem h hl l (hasB_lt hh hn)
      by_cases h0 : rof l R.tr = 0
      · have e0 : rdecE R l = 0 := by unfold rdecE; rw [hh, hb, h0]; rfl
        have eS : rdecS R l = { R with level := R.level + 1, tr := R.tr ++ [(l, (R.level : Int) + 1)] } := by unfold rdecS; rw [if_pos e0]
        rw [e0, eS] at HPP
        rw [h0] at HO
        have c1 : w.cell? ⟨r, 1, none⟩ = some (.int .i64 (R.level : Int)) := h.cell 1
        have f1 := h.frozen 1
        obtain ⟨m1, r1⟩ := h.setr (R' := { R with level := R.level + 1 }) 1 (.int .i64 ((R.level : Int) + 1)) rfl rfl rfl
        obtain ⟨ad, c, eT, hc, _⟩ := h.formT
        have HP : Hid (pT = .slice ad R.tr.length c) := eT
        have HM1 : Hid (RM (w.setCell ⟨r, 1, none⟩ (.int .i64 ((R.level : Int) + 1))) r O { R with level := R.level + 1 } pA pT q ∧ Fr O w (w.setCell ⟨r, 1, none⟩ (.int .i64 ((R.level : Int) + 1))) O) := ⟨m1, r1⟩
        clear h m1 r1 e0 eS hh hb eT
        go_enter Try.func26, Try.ntmps26
        go_wp2_with fail
        refine HMy.out.mono ?_
        rintro e w' ⟨rfl, hw'⟩
        obtain rfl := hw'.symm
        go_wp2_with fail
        refine HO.out.mono ?_
        rintro e w' ⟨rfl, hw'⟩
        obtain rfl := hw'.symm
        go_wp2
        obtain ⟨m1, r1⟩ := HM1.out
        generalize w.setCell ⟨r, 1, none⟩ (.int .i64 ((R.level : Int) + 1)) = W1 at *
        have k4 : W1.cell? ⟨r, 4, none⟩ = some (.slice ad R.tr.length c) := (m1.cell 4).trans (congrArg some HP.out)
        have k1 : W1.cell? ⟨r, 1, none⟩ = some (.int .i64 ((R.level : Int) + 1)) := m1.cell 1
        have k4a : ∀ o, (W1.alloc o).cell? ⟨r, 4, none⟩ = some (.slice ad R.tr.length c) := fun o => ((m1.alloc o).cell 4).trans (congrArg some HP.out)
        have k1a : ∀ o, (W1.alloc o).cell? ⟨r, 1, none⟩ = some (.int .i64 ((R.level : Int) + 1)) := fun o => (m1.alloc o).cell 1
        have HRT : Hid (W1.ownsRow 0 81 2 (.slice ad R.tr.length c) R.tr.length (R.tr.flatMap prF)) := by have h5 := m1.rT; rw [HP.out] at h5; exact h5
        obtain ⟨i0, hi, hz0, hz1, hz2⟩ := info_parts (P := Try.prog) (e := 81) (z := .agg #[.int .i64 0, .int .i64 0]) (size := 2) (bytes := 16) (by kernel_rfl)
        clear m1 r1 c1 f1 HMy HO k5
        first | (go_region_law (first
          | (refine step_append_lies _ (by rfl) _ _ _ (by rfl) 0 81 i0 _ 2 16 Try.underlying34 hi hz0 hz1 hz2 rfl (by omega) (.slice ad R.tr.length c) R.tr.length (R.tr.flatMap prF) (by rfl) ((HRT.out.alloc _).drew) ⟨W1.heap.size, 0, none⟩ 1 1 [.int .i64 l, .int .i64 ((R.level : Int) + 1)] (by rfl) (by rfl) (World.news_of_block (cs := #[.int .i64 l, .int .i64 ((R.level : Int) + 1)]) (t := 81) (fr := (0, 0)) (heap_alloc_new W1 _)) (by intro u hu; simp at hu; rcases hu with rfl | rfl <;> rfl) (by omega) (by unfold maxLen; omega) (by omega) (by omega) (W1.heap.size + 1) (by simp) ?_; intro g4 cap4 w4 hown4 hgrow4 hat4 hlt4; have HK7 : Hid (w4.heap[r]? = some (.cells (rcells { R with level := R.level + 1 } pA pT) 36 (0, 0)) ∧ ∃ O', RM (w4.setCell ⟨r, 4, none⟩ (.slice (some ⟨g4, 0, none⟩) (R.tr.length + 1) cap4)) r O' { R with level := R.level + 1, tr := R.tr ++ [(l, (R.level : Int) + 1)] } pA (.slice (some ⟨g4, 0, none⟩) (R.tr.length + 1) cap4) q ∧ Fr O (W1.alloc (.cells #[.int .i64 l, .int .i64 ((R.level : Int) + 1)] 81)) (w4.setCell ⟨r, 4, none⟩ (.slice (some ⟨g4, 0, none⟩) (R.tr.length + 1) cap4)) O') := ((HM1.out.1.alloc (.cells #[.int .i64 l, .int .i64 ((R.level : Int) + 1)] 81)).reT (w1 := w4) (by rw [HP.out]; exact ⟨hgrow4.os, hgrow4.tape, hgrow4.output, hgrow4.size, hgrow4.block⟩) (.slice (some ⟨g4, 0, none⟩) (R.tr.length + 1) cap4) (R.tr ++ [(l, (R.level : Int) + 1)]) (by rw [List.length_append, List.flatMap_append]; exact hown4) (by rw [HP.out]; rcases hat4 with e | e; exact Or.inl e.symm; exact Or.inr (Or.inr ⟨g4, rfl, by rw [e]; simp, hlt4⟩))); have e4 : w4.cell? ⟨r, 4, none⟩ = some (.slice ad R.tr.length c) := ((blk_cell HK7.out.1 4).trans (congrArg some HP.out)); have f4 : w4.frozen? ⟨r, 4, none⟩ = false := (by simp [World.frozen?, HK7.out.1]); clear hown4 hgrow4 hat4 hlt4))) | fail
        all_goals
          go_wp2
          obtain ⟨_, O', m7, r7⟩ := HK7.out
          exact HPP.out _ ⟨O', _, _, _, m7, (Fr.alloc HM1.out.2 _).trans r7⟩
      · have e0 : rdecE R l = 30 := by unfold rdecE; rw [hh, hb]; simp [h0]
        have eS : rdecS R l = R := by unfold rdecS; rw [e0]; rfl
        rw [e0, eS] at HPP
        have HD : Hid (RDone w r O R w) := h.done
        have h0' : (rof l R.tr != 0) = true := by simp [h0]
        clear h
        generalize rof l R.tr = ro at *
        go_enter Try.func26, Try.ntmps26
        go_wp2_with fail
        refine HMy.out.mono ?_
        rintro e w' ⟨rfl, hw'⟩
        obtain rfl := hw'.symm
        go_wp2_with fail
        refine HO.out.mono ?_
        rintro e w' ⟨rfl, hw'⟩
        obtain rfl := hw'.symm
        go_wp2
        exact HPP.out _ HD.out
end Go.Proofs.Ytpkbigjijihljaa
