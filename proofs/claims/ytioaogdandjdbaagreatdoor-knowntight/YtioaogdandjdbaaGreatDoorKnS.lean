import Derived.Test.YtioaogdandjdbaaGreatDoorKnR
namespace Go.Proofs.YtioaogdandjdbaaGreatDoor
open Go.ChangeShapes Go.WideShapes Go.ChangeAt Go.RowKit Go.Lib Go.Kn

theorem gcand_eq {a : Int} {T j : Nat} (zr : Nat) (hT : T ≤ mx a) (hj : j < bw a) : an T (2 ^ (j + 1) - 1) ||| an (2 ^ j - 1) zr = mx a - cand (mx a - T) zr j := by
  have hc : cand (mx a - T) zr j ≤ mx a := (mx_lt _ _).2 (cand_lt ((mx_lt _ _).1 (by omega)) hj)
  apply Nat.eq_of_testBit_eq
  intro i
  rw [neg_bit hc, cand_bit, Nat.testBit_or, an_bit, an_bit, Nat.testBit_two_pow_sub_one, Nat.testBit_two_pow_sub_one]
  by_cases h1 : i < j
  · rw [if_pos h1, decide_eq_true h1, decide_eq_true (show i < j + 1 by omega), decide_eq_true (show i < bw a by omega)]; simp
  · rw [if_neg h1, decide_eq_false h1]
    by_cases h2 : i = j
    · rw [if_pos h2, decide_eq_true (show i < j + 1 by omega)]; simp
    · rw [if_neg h2, decide_eq_false (show ¬ i < j + 1 by omega), neg_bit hT]
      by_cases h3 : i < bw a
      · simp [h3]
      · rw [tb_hi ((mx_lt _ _).1 hT) (by omega)]; simp [h3]
set_option maxHeartbeats 4000000 in
theorem rgreatest_any (f : Fc) (w : World) (hm : f.may) {x0 : Nat} (hx0 : f.word x0) : Calls Tryz.prog 32 #[fV f] w fun e w' => ∃ x, f.GW x ∧ x < 18446744073709551616 ∧ e = .returned (uV x) ∧ Below w.heap.size w w' := by
  have h64 := may64 hm
  have HM : Hid f.may := hm
  have HX0 : Hid (f.word x0) := hx0
  clear hx0
  have HWd : Hid (∀ W, Calls Tryz.prog 33 #[.int .i64 f.w] W fun e w' => e = .returned (.int .i64 (bw f.w : Int)) ∧ w' = W) := fun W => rwidth_any f.w W hm.1
  have HFt : Hid (∀ x W, x < 18446744073709551616 → Calls Tryz.prog 29 #[fV f, uV x] W fun e w' => ∃ b : Bool, (b = true ↔ fit f.one f.zero x) ∧ e = .returned (.bool b) ∧ Below W.heap.size W w') := fun x W hx => rfits_any f x W h64 hx
  obtain ⟨N, hN⟩ : ∃ N, bw f.w = N := ⟨_, rfl⟩
  have HN : Hid (bw f.w = N) := hN
  have hN64 : N ≤ 64 := by rw [← hN]; exact bw_le _ hm.2.1
  rw [hN] at HWd
  clear hm hN
  obtain ⟨w1, hw1⟩ : ∃ w1, w.alloc (.cells #[.int .i64 f.w, uV f.one, uV f.zero, uV f.least, uV f.top] 24) = w1 := ⟨_, rfl⟩
  have HS_w1 : Hid (BX w1 w.heap.size f ∧ Below w.heap.size w w1) := by
    rw [← hw1]
    exact boxes1 w f
  obtain ⟨c0, c1, c2, c3, c4⟩ := HS_w1.out.1.c
  go_enter Tryz.func32, Tryz.ntmps32
  go_wp2_with fail
  try rw [hw1]
  go_loopg [3] (N + 1) (fun gk v3 wr => ∃ i : Int, v3 = .int .i64 i ∧ ((i = -1 ∧ gk = N + 1) ∨ ∃ j : Nat, i = (j : Int) ∧ j + gk = N ∧ Aside (RS f.turned j)) ∧ Aside (BX wr w.heap.size f ∧ Below w.heap.size w wr))
  case atStart => exact ⟨-1, rfl, Or.inl ⟨rfl, rfl⟩, HS_w1.out⟩
  case round =>
    obtain ⟨i, rfl, hi, HA⟩ := hrel
    clear c0 c1 c2 c3 c4
    obtain ⟨c0, c1, c2, c3, c4⟩ := HA.out.1.c
    rcases hi with ⟨rfl, hgk⟩ | ⟨j, rfl, hj, HR⟩
    · have q0 : (-1 : Int) < (N : Int) := by omega
      have l64 := h64.top
      go_wp2_with (go_at_call 33; refine (HWd.out _).mono ?_; rintro e w' ⟨rfl, hw⟩; obtain rfl := hw.symm)
      refine (HFt.out _ _ l64).mono ?_
      rintro e w2 ⟨b, hbm, rfl, hb⟩
      have HA2 : Hid (BX w2 w.heap.size f ∧ Below w.heap.size w w2) := ⟨HA.out.1.next hb, nx HA.out.2 hb⟩
      have HB : Hid (b = true ↔ fit f.one f.zero f.top) := hbm
      clear c0 c1 c2 c3 c4 hbm hb HA
      obtain ⟨c0, c1, c2, c3, c4⟩ := HA2.out.1.c
      cases b with
      | true =>
        have HL : Hid (f.GW f.top) := ⟨⟨HM.out.2.2.2.2.2, HB.out.1 rfl, Nat.le_trans HX0.out.2.2.1 HX0.out.2.2.2, Nat.le_refl _⟩, fun y hy => hy.2.2.2⟩
        go_wp2_with fail
        go_ret
        exact ⟨f.top, HL.out, l64, rfl, HA2.out.2⟩
      | false =>
        have HNX : Hid (RS f.turned 0) := rs_start (fun h => absurd (HB.out.2 (fit_neg HM.out.2.2.2.2.2 HM.out.2.2.1 h)) (by simp))
        go_wp2_with fail
        go_roundg N
        case measure => omega
        case rel => exact ⟨0, rfl, Or.inr ⟨0, rfl, by omega, HNX.out⟩, HA2.out⟩
    · by_cases hlt : j < N
      · have q0 : (j : Int) < (N : Int) := by omega
        have l64 := h64.top
        have HBt : Hid (∀ W, Calls Tryz.prog 47 #[uV f.top, .int .i64 (j : Int)] W fun e w' => e = .returned (.bool (f.top.testBit j)) ∧ w' = W) := fun W => rbit_any f.top j W l64 (by omega)
        cases hbit : f.top.testBit j with
        | false =>
          rw [hbit] at HBt
          have HNX : Hid (RS f.turned (j + 1)) := rs_skip HR.out (by show (mx f.w - f.top).testBit j = true; rw [neg_bit HM.out.2.2.2.2.2, hbit, HN.out]; simp [hlt])
          clear hbit
          go_wp2_with (first | (go_at_call 33; refine (HWd.out _).mono ?_; rintro e w' ⟨rfl, hw⟩; obtain rfl := hw.symm) | (go_at_call 47; refine (HBt.out _).mono ?_; rintro e w' ⟨rfl, hw⟩; obtain rfl := hw.symm))
          go_roundg (N - (j + 1))
          case measure => omega
          case rel => exact ⟨(j : Int) + 1, rfl, Or.inr ⟨j + 1, by simp, by omega, HNX.out⟩, HA.out⟩
        | true =>
          rw [hbit] at HBt
          have HBI : Hid (f.turned.least.testBit j = false) := by show (mx f.w - f.top).testBit j = false; rw [neg_bit HM.out.2.2.2.2.2, hbit]; simp
          have HTB : Hid (f.top.testBit j = true) := hbit
          clear hbit
          have HLo : Hid (∀ W (i : Int), i = (j : Int) ∨ i = (j : Int) + 1 → Calls Tryz.prog 48 #[.int .i64 i] W fun e w' => e = .returned (uV (2 ^ i.toNat - 1)) ∧ w' = W) := fun W i hi => by
            obtain ⟨n, rfl⟩ : ∃ n : Nat, i = (n : Int) := ⟨i.toNat, by omega⟩
            exact rlow_any n W (by omega)
          have e1 : ((j : Int) + 1).toNat = j + 1 := by omega
          have b1 : 2 ^ (j + 1) - 1 < 18446744073709551616 := by
            have : 2 ^ (j + 1) ≤ 2 ^ 64 := Nat.pow_le_pow_right (by omega) (by omega)
            have hp := Nat.two_pow_pos (j + 1)
            have e64 : 2 ^ 64 = 18446744073709551616 := by decide
            omega
          have b2 : 2 ^ j - 1 < 18446744073709551616 := by have := pow64 j (by omega); omega
          have q1 := andn_u f.top (2 ^ (j + 1) - 1) l64 b1
          have b3 := an_lt (2 ^ (j + 1) - 1) l64
          have q3 := andn_u (2 ^ j - 1) f.zero b2 h64.zero
          have b4 := an_lt f.zero b2
          have q4 := or_u _ _ b3 b4
          have hcl : cand (mx f.w - f.top) f.zero j < 2 ^ bw f.w := cand_lt ((mx_lt _ _).1 (by omega)) (by rw [HN.out]; exact hlt)
          have hcm : cand (mx f.w - f.top) f.zero j ≤ mx f.w := (mx_lt _ _).2 hcl
          rw [gcand_eq f.zero HM.out.2.2.2.2.2 (by rw [HN.out]; exact hlt)] at q4
          have c64 : mx f.w - cand (mx f.w - f.top) f.zero j < 18446744073709551616 := by have := mx64 HM.out.2.1; omega
          have HFc : Hid (∀ W, Calls Tryz.prog 29 #[fV f, uV (mx f.w - cand (mx f.w - f.top) f.zero j)] W fun e w' => ∃ b : Bool, (b = true ↔ fit f.one f.zero (mx f.w - cand (mx f.w - f.top) f.zero j)) ∧ e = .returned (.bool b) ∧ Below W.heap.size W w') := fun W => HFt.out _ W c64
          have hiff : fit f.one f.zero (mx f.w - cand (mx f.w - f.top) f.zero j) ↔ fit f.zero f.one (cand (mx f.w - f.top) f.zero j) := fit_neg_iff hcm HM.out.2.2.2.1 HM.out.2.2.1
          have HYES : Hid (fit f.one f.zero (mx f.w - cand (mx f.w - f.top) f.zero j) → f.GW (mx f.w - cand (mx f.w - f.top) f.zero j)) := fun h => by
            have h1 := lw_of_lo (rs_found HM.out.turned HR.out (by show j < bw f.w; rw [HN.out]; exact hlt) HBI.out (hiff.1 h))
            have h2 := lw_turned HM.out HX0.out h1
            rw [h2] at h1
            exact (gw_of_lw HM.out h1).2
          have HNO : Hid (¬ fit f.one f.zero (mx f.w - cand (mx f.w - f.top) f.zero j) → RS f.turned (j + 1)) := fun h => rs_next HR.out (fun h2 => h (hiff.2 h2))
          clear hiff hcl hcm
          generalize mx f.w - cand (mx f.w - f.top) f.zero j = m at *
          generalize an f.top (2 ^ (j + 1) - 1) = r1 at *
          generalize an (2 ^ j - 1) f.zero = r2 at *
          clear b1 b2 b3 b4 HR
          go_wp2_with (first | (go_at_call 33; refine (HWd.out _).mono ?_; rintro e w' ⟨rfl, hw⟩; obtain rfl := hw.symm) | (go_at_call 47; refine (HBt.out _).mono ?_; rintro e w' ⟨rfl, hw⟩; obtain rfl := hw.symm))
          go_big_quiet ((go_at_call 48; exact Calls.quiet_of_same (HLo.out _ _ (by first | exact Or.inl rfl | exact Or.inr rfl))))
          obtain ⟨wa, hwa⟩ : ∃ wa, wr.drewN nq = wa := ⟨_, rfl⟩
          have HA1 : Hid (BX wa w.heap.size f ∧ Below w.heap.size w wa) := by
            rw [← hwa]; exact ⟨bx_dN HA.out.1 _, bel_drewN HA.out.2 _⟩
          rw [hwa]
          clear c0 c1 c2 c3 c4 HA hwa
          obtain ⟨c0, c1, c2, c3, c4⟩ := HA1.out.1.c
          go_wp2_with fail
          refine (HFc.out _).mono ?_
          rintro e w2 ⟨b, hbm, rfl, hb⟩
          have HA2 : Hid (BX w2 w.heap.size f ∧ Below w.heap.size w w2) := ⟨HA1.out.1.next hb, nx HA1.out.2 hb⟩
          have HB : Hid (b = true ↔ fit f.one f.zero m) := hbm
          clear c0 c1 c2 c3 c4 hbm hb HA1
          obtain ⟨c0, c1, c2, c3, c4⟩ := HA2.out.1.c
          cases b with
          | true =>
            have HL : Hid (f.GW m) := HYES.out (HB.out.1 rfl)
            go_wp2_with fail
            go_ret
            exact ⟨m, HL.out, c64, rfl, HA2.out.2⟩
          | false =>
            have HNX : Hid (RS f.turned (j + 1)) := HNO.out (fun h => absurd (HB.out.2 h) (by simp))
            go_wp2_with fail
            go_roundg (N - (j + 1))
            case measure => omega
            case rel => exact ⟨(j : Int) + 1, rfl, Or.inr ⟨j + 1, by simp, by omega, HNX.out⟩, HA2.out⟩
      · obtain rfl : j = N := by omega
        exact absurd ((turned_word HM.out HX0.out.1).2 HX0.out) (rs_none (f := f.turned) (by show RS f.turned (bw f.w); rw [HN.out]; exact HR.out) _)
end Go.Proofs.YtioaogdandjdbaaGreatDoor
