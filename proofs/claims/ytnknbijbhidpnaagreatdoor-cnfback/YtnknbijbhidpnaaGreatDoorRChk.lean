import Derived.Test.YtnknbijbhidpnaaGreatDoorChk
namespace Go.Proofs.YtnknbijbhidpnaaGreatDoor
open Go.ChangeShapes Go.WideShapes Go.ChangeAt Go.RowKit Go.Cn

set_option maxHeartbeats 4000000 in
set_option maxRecDepth 100000 in
theorem rcheck_any (vars : Int) (ad : Option Addr) (cs : List (List Int)) (c : Nat) (w : World) (h : Cls w ad cs) (hl : cs.length ≤ 1000000000000000000) (hcl : ∀ j, j < cs.length → (cs.getD j []).length ≤ 1000000000000000000) :
    Calls Tryz.prog 17 #[.agg #[.int .i64 vars, .slice ad cs.length c]] w fun e w' => e = .returned (.tuple #[.int .i64 (ck vars cs).1, .int .i64 (ck vars cs).2]) ∧ Below w.heap.size w w' := by
  have HB0 : Aside (∀ o, Below w.heap.size w (w.alloc o)) := fun o => (Below.refl _ _).alloc (Nat.le_refl _) o
  by_cases h1 : vars < 0 ∨ 1048576 < vars
  · have HE : Aside (ck vars cs = (-1, 21)) := by show ck vars cs = _; unfold ck; rw [if_pos h1]
    clear h hl hcl
    generalize ck vars cs = R at *
    generalize cs.length = n at *
    rcases h1 with h1 | h1
    · go_enter Tryz.func17, Tryz.ntmps17
      go_wp2
      go_ret2
      exact ⟨ret_ck HE.out, HB0.out _⟩
    · have h2 : ¬ vars < 0 := by omega
      go_enter Tryz.func17, Tryz.ntmps17
      go_wp2
      go_ret2
      exact ⟨ret_ck HE.out, HB0.out _⟩
  by_cases h2 : 1048576 < cs.length
  · have HE : Aside (ck vars cs = (-1, 23)) := by show ck vars cs = _; unfold ck; rw [if_neg h1, if_pos h2]
    have h3 : ¬ vars < 0 := by omega
    have h4 : vars ≤ 1048576 := by omega
    clear h hcl h1
    generalize ck vars cs = R at *
    generalize cs.length = n at *
    go_enter Tryz.func17, Tryz.ntmps17
    go_wp2
    go_ret2
    exact ⟨ret_ck HE.out, HB0.out _⟩
  have h3 : 0 ≤ vars := by omega
  have h4 : vars ≤ 1048576 := by omega
  have HR : Aside (ckGo vars (cs.drop 0) 0 0 = ck vars cs) := by show _ = ck vars cs; unfold ck; rw [if_neg h1, if_neg h2]; rfl
  have HM : Aside (∀ j, j < cs.length → (cs.getD j []).length ≤ 1000000000000000000) := hcl
  have HLi : Hid (∀ l W, Calls Tryz.prog 35 #[.int .i64 l] W fun e w' => e = .returned (.bool (litB l)) ∧ w' = W) := fun l W => rlit_any l W
  have HI0 : Aside (∀ o, Cls (w.alloc o) ad cs) := fun o => h.below (HB0.out o)
  clear h hcl h1
  generalize ck vars cs = R at *
  generalize hn : cs.length = n at *
  have HL : Aside (cs.length = n) := hn
  clear hn
  go_enter Tryz.func17, Tryz.ntmps17
  go_wp2
  have x0 : (w.alloc (.cells #[.int .i64 vars, .slice ad n c] 24)).cell? ⟨w.heap.size, 0, none⟩ = some (.int .i64 vars) := by simp
  have x1 : (w.alloc (.cells #[.int .i64 vars, .slice ad n c] 24)).cell? ⟨w.heap.size, 1, none⟩ = some (.slice ad n c) := by simp
  have HI : Aside (Cls (w.alloc (.cells #[.int .i64 vars, .slice ad n c] 24)) ad cs) := HI0.out _
  have HB1 : Aside (Below w.heap.size w (w.alloc (.cells #[.int .i64 vars, .slice ad n c] 24))) := HB0.out _
  clear HI0 HB0
  generalize w.alloc (.cells #[.int .i64 vars, .slice ad n c] 24) = W1 at x0 x1 HI HB1 ⊢
  go_loopg [4, 5] n (fun gk s4 s5 wr => ∃ k m d : Nat, s4 = .int .i64 m ∧ s5 = .int .i64 k ∧ k + gk = n ∧ m ≤ 4194304 ∧ wr = W1.drewN d ∧ Aside (ckGo vars (cs.drop k) k m = R))
  case atStart => exact ⟨0, 0, 0, rfl, rfl, by omega, by omega, rfl, HR⟩
  case round =>
    obtain ⟨k, m, dd, rfl, rfl, hk, hm, rfl, HG⟩ := hrel
    by_cases hlt : k < n
    · obtain ⟨b, off, rfl, hb, hc⟩ := HI.out (by rw [HL.out]; omega)
      obtain ⟨aj, cj, ck1, hij⟩ := hc k (by rw [HL.out]; omega)
      have hm1 := HM.out k hlt
      have HG2 : Aside _ := (ckGo_step vars cs k m (by rw [HL.out]; exact hlt)).symm.trans HG.out
      clear hc HG
      generalize cs.getD k [] = C at *
      by_cases hbig : 65536 < C.length
      · have HE : Aside (R = ((k : Int), 22)) := by show R = _; rw [← HG2.out, if_pos hbig]
        clear HG2
        generalize C.length = q at *
        go_wp2
        go_ret2
        exact ⟨ret_ck HE.out, ⟨HB1.out.os, HB1.out.tape, HB1.out.output, HB1.out.size, HB1.out.block⟩⟩
      · have HJ : Aside (Ints W1 aj C) := hij
        have HG3 : Aside ((if C.all (amB vars) = false then ((k : Int), 20) else if 4194304 < m + C.length then ((k : Int), 23) else ckGo vars (cs.drop (k + 1)) (k + 1) (m + C.length)) = R) := by
          show _ = R
          rw [← HG2.out, if_neg hbig]
        clear HG2 hij
        generalize hq : C.length = q at *
        have HQ : Aside (C.length = q) := hq
        clear hq
        go_wp2
        go_loopg [7] q (fun gj s7 wr => ∃ j e : Nat, s7 = .int .i64 j ∧ j + gj = q ∧ wr = W1.drewN e ∧ Aside (∀ t, t < j → amB vars (C.getD t 0) = true))
        case atStart => exact ⟨0, dd, rfl, by omega, rfl, fun t ht => by omega⟩
        case round =>
          obtain ⟨j, ee, rfl, hj, rfl, HN⟩ := hrel
          by_cases hjq : j < q
          · obtain ⟨b2, off2, rfl, hb2, hc2⟩ := HJ.out (by rw [HQ.out]; omega)
            have cj1 := hc2 j (by rw [HQ.out]; omega)
            obtain ⟨y, hy⟩ : ∃ y, C.getD j 0 = y := ⟨_, rfl⟩
            rw [hy] at cj1
            have HY : Aside (C.getD j 0 = y) := hy
            clear hy hc2
            have c2d : (W1.drewN ee).cell? ⟨b2, off2 + j, none⟩ = some (.int .i64 y) := cj1
            have x0d : (W1.drewN ee).cell? ⟨w.heap.size, 0, none⟩ = some (.int .i64 vars) := x0
            have HW2 : Aside (∀ m, ∃ z, (W1.drewN ee).drewN m = W1.drewN z) := fun m => ⟨ee + m, by rw [World.drewN_drewN]⟩
            have q1 : (j : Int) < (q : Int) := by omega
            cases hly : amB vars y with
            | true =>
              have hlit : litB y = true := by unfold amB at hly; simp at hly; exact hly.1
              have hvr : vr y ≤ vars := by unfold amB at hly; simp at hly; exact hly.2
              have HC1 : Hid (∀ W, Calls Tryz.prog 35 #[.int .i64 y] W fun e w' => e = .returned (.bool true) ∧ w' = W) := by intro W; have := HLi.out y W; rw [hlit] at this; exact this
              have HC2 : Hid (∀ W, Calls Tryz.prog 36 #[.int .i64 y] W fun e w' => e = .returned (.int .i64 (vr y)) ∧ w' = W) := fun W => rvar_any y W hlit
              have HN2 : Aside (∀ t, t < j + 1 → amB vars (C.getD t 0) = true) := by
                intro t ht
                by_cases h1 : t < j
                · exact HN.out t h1
                · have : t = j := by omega
                  subst this
                  rw [HY.out]; exact hly
              clear hly hlit
              generalize vr y = p at *
              have hdec : decide (vars < p) = false := by simp; omega
              go_wp2
              generalize W1.drewN ee = WQ at c2d x0d HW2 ⊢
              go_quiet (first | ((go_at_call 35; exact Calls.quiet_of_same (HC1.out _))) | ((go_at_call 36; exact Calls.quiet_of_same (HC2.out _))))
              go_wp2
              obtain ⟨z, hz⟩ := HW2.out nq
              go_roundg (q - j - 1)
              case measure => omega
              case rel => exact ⟨j + 1, z, by simp, by omega, hz, HN2⟩
            | false =>
              have HE : Aside (R = ((k : Int), 20)) := by show R = _; rw [← HG3.out, if_pos (all_false (k := j) (by rw [HQ.out]; exact hjq) (by rw [HY.out]; exact hly))]
              have HB2 : Aside (∀ z, Below w.heap.size w (W1.drewN z)) := fun z => ⟨HB1.out.os, HB1.out.tape, HB1.out.output, HB1.out.size, HB1.out.block⟩
              cases hlit : litB y with
              | false =>
                have HC1 : Hid (∀ W, Calls Tryz.prog 35 #[.int .i64 y] W fun e w' => e = .returned (.bool false) ∧ w' = W) := by intro W; have := HLi.out y W; rw [hlit] at this; exact this
                clear hly HG3 hlit
                go_wp2
                generalize W1.drewN ee = WQ at c2d x0d HW2 ⊢
                go_quiet ((go_at_call 35; exact Calls.quiet_of_same (HC1.out _)))
                go_wp2
                obtain ⟨z, hz⟩ := HW2.out nq
                go_ret2
                exact ⟨ret_ck HE.out, by rw [hz]; exact HB2.out z⟩
              | true =>
                have hvr : vars < vr y := by unfold amB at hly; rw [hlit] at hly; simp at hly; exact hly
                have HC1 : Hid (∀ W, Calls Tryz.prog 35 #[.int .i64 y] W fun e w' => e = .returned (.bool true) ∧ w' = W) := by intro W; have := HLi.out y W; rw [hlit] at this; exact this
                have HC2 : Hid (∀ W, Calls Tryz.prog 36 #[.int .i64 y] W fun e w' => e = .returned (.int .i64 (vr y)) ∧ w' = W) := fun W => rvar_any y W hlit
                clear hly HG3 hlit
                generalize vr y = p at *
                have hdec : decide (vars < p) = true := by simp; omega
                go_wp2
                generalize W1.drewN ee = WQ at c2d x0d HW2 ⊢
                go_quiet (first | ((go_at_call 35; exact Calls.quiet_of_same (HC1.out _))) | ((go_at_call 36; exact Calls.quiet_of_same (HC2.out _))))
                go_wp2
                obtain ⟨z, hz⟩ := HW2.out nq
                go_ret2
                exact ⟨ret_ck HE.out, by rw [hz]; exact HB2.out z⟩
          · have hall : C.all (amB vars) = true := all_true (fun t ht => HN.out t (by rw [HQ.out] at ht; omega))
            have HG4 : Aside ((if 4194304 < m + q then ((k : Int), 23) else ckGo vars (cs.drop (k + 1)) (k + 1) (m + q)) = R) := by
              show _ = R
              rw [← HG3.out, hall]; rfl
            clear hall HG3
            by_cases hov : 4194304 < m + q
            · have HE : Aside (R = ((k : Int), 23)) := by show R = _; rw [← HG4.out, if_pos hov]
              clear HG4
              go_wp2
              go_ret2
              exact ⟨ret_ck HE.out, ⟨HB1.out.os, HB1.out.tape, HB1.out.output, HB1.out.size, HB1.out.block⟩⟩
            · have HG5 : Aside (ckGo vars (cs.drop (k + 1)) (k + 1) (m + q) = R) := by show _ = R; rw [← HG4.out, if_neg hov]
              clear HG4
              go_wp2
              go_roundg (n - k - 1)
              case measure => omega
              case rel => exact ⟨k + 1, m + q, _, by go_num, by simp, by omega, by omega, rfl, HG5⟩
    · have HE : Aside (R = (0, 0)) := by show R = _; rw [← HG.out, ckGo_end vars cs k k m (by rw [HL.out]; omega)]
      clear HG
      go_wp2
      go_ret2
      exact ⟨ret_ck HE.out, ⟨HB1.out.os, HB1.out.tape, HB1.out.output, HB1.out.size, HB1.out.block⟩⟩
end Go.Proofs.YtnknbijbhidpnaaGreatDoor
