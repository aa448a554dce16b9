import Derived.Test.YtioaogdandjdbaaGreatDoorKnQ
namespace Go.Proofs.YtioaogdandjdbaaGreatDoor
open Go.ChangeShapes Go.WideShapes Go.ChangeAt Go.RowKit Go.Lib Go.Kn

theorem rcand_eq (L one k : Nat) : (an L (2 ^ (k + 1) - 1) ||| 2 ^ k) ||| (one &&& (2 ^ k - 1)) = cand L one k := by
  apply Nat.eq_of_testBit_eq
  intro i
  rw [cand_bit, Nat.testBit_or, Nat.testBit_or, an_bit, Nat.testBit_and, Nat.testBit_two_pow, Nat.testBit_two_pow_sub_one, Nat.testBit_two_pow_sub_one]
  by_cases h1 : i < k
  · rw [if_pos h1, decide_eq_true h1, decide_eq_false (show ¬ k = i by omega), decide_eq_true (show i < k + 1 by omega)]; simp
  · rw [if_neg h1, decide_eq_false h1]
    by_cases h2 : i = k
    · rw [if_pos h2, decide_eq_true h2.symm]; simp
    · rw [if_neg h2, decide_eq_false (show ¬ k = i by omega), decide_eq_false (show ¬ i < k + 1 by omega)]; simp
theorem bx_dN {W : World} {g : Nat} {f : Fc} (h : BX W g f) (n : Nat) : BX (W.drewN n) g f := h.next (bel_drewN (Below.refl _ _) n)
set_option maxHeartbeats 4000000 in
theorem rleast_any (f : Fc) (w : World) (hm : f.may) : Calls Tryz.prog 31 #[fV f] w fun e w' => ∃ x b, f.LW x b ∧ x < 18446744073709551616 ∧ e = .returned (.tuple #[uV x, .bool b]) ∧ Below w.heap.size w w' := by
  have h64 := may64 hm
  have HM : Hid f.may := hm
  have HWd : Hid (∀ W, Calls Tryz.prog 33 #[.int .i64 f.w] W fun e w' => e = .returned (.int .i64 (bw f.w : Int)) ∧ w' = W) := fun W => rwidth_any f.w W hm.1
  have HFt : Hid (∀ x W, x < 18446744073709551616 → Calls Tryz.prog 29 #[fV f, uV x] W fun e w' => ∃ b : Bool, (b = true ↔ fit f.one f.zero x) ∧ e = .returned (.bool b) ∧ Below W.heap.size W w') := fun x W hx => rfits_any f x W h64 hx
  obtain ⟨N, hN⟩ : ∃ N, bw f.w = N := ⟨_, rfl⟩
  have HN : Hid (bw f.w = N) := hN
  have hN64 : N ≤ 64 := by rw [← hN]; exact bw_le _ hm.2.1
  rw [hN] at HWd
  clear hm hN
  obtain ⟨w1, hw1⟩ : ∃ w1, w.alloc (.cells #[.int .i64 f.w, uV f.one, uV f.zero, uV f.least, uV f.top] 24) = w1 := ⟨_, rfl⟩
  have HS_w1 : Hid (BX w1 w.heap.size f ∧ Below w.heap.size w w1) := by
    rw [← hw1]
    exact boxes1 w f
  obtain ⟨c0, c1, c2, c3, c4⟩ := HS_w1.out.1.c
  go_enter Tryz.func31, Tryz.ntmps31
  go_wp2_with fail
  try rw [hw1]
  go_loopg [4] (N + 1) (fun gk v4 wr => ∃ i : Int, v4 = .int .i64 i ∧ ((i = -1 ∧ gk = N + 1) ∨ ∃ j : Nat, i = (j : Int) ∧ j + gk = N ∧ Aside (RS f j)) ∧ Aside (BX wr w.heap.size f ∧ Below w.heap.size w wr))
  case atStart => exact ⟨-1, rfl, Or.inl ⟨rfl, rfl⟩, HS_w1.out⟩
  case round =>
    obtain ⟨i, rfl, hi, HA⟩ := hrel
    clear c0 c1 c2 c3 c4
    obtain ⟨c0, c1, c2, c3, c4⟩ := HA.out.1.c
    rcases hi with ⟨rfl, hgk⟩ | ⟨j, rfl, hj, HR⟩
    · have q0 : (-1 : Int) < (N : Int) := by omega
      have l64 := h64.least
      go_wp2_with (go_at_call 33; refine (HWd.out _).mono ?_; rintro e w' ⟨rfl, hw⟩; obtain rfl := hw.symm)
      refine (HFt.out _ _ l64).mono ?_
      rintro e w2 ⟨b, hbm, rfl, hb⟩
      have HA2 : Hid (BX w2 w.heap.size f ∧ Below w.heap.size w w2) := ⟨HA.out.1.next hb, nx HA.out.2 hb⟩
      have HB : Hid (b = true ↔ fit f.one f.zero f.least) := hbm
      clear c0 c1 c2 c3 c4 hbm hb HA
      obtain ⟨c0, c1, c2, c3, c4⟩ := HA2.out.1.c
      cases b with
      | true =>
        have HL : Hid (f.LW f.least (decide (f.least ≤ f.top))) := lw_of_lo (lo_self HM.out (HB.out.1 rfl))
        go_wp2_with fail
        go_big_quiet (fail)
        go_wp2_with fail
        go_ret2
        exact ⟨f.least, decide (f.least ≤ f.top), HL.out, l64, rfl, bel_drewN HA2.out.2 _⟩
      | false =>
        have HNX : Hid (RS f 0) := rs_start (fun h => absurd (HB.out.2 h) (by simp))
        go_wp2_with fail
        go_roundg N
        case measure => omega
        case rel => exact ⟨0, rfl, Or.inr ⟨0, rfl, by omega, HNX.out⟩, HA2.out⟩
    · by_cases hlt : j < N
      · have q0 : (j : Int) < (N : Int) := by omega
        have l64 := h64.least
        have HBt : Hid (∀ W, Calls Tryz.prog 47 #[uV f.least, .int .i64 (j : Int)] W fun e w' => e = .returned (.bool (f.least.testBit j)) ∧ w' = W) := fun W => rbit_any f.least j W l64 (by omega)
        cases hbit : f.least.testBit j with
        | true =>
          rw [hbit] at HBt
          have HNX : Hid (RS f (j + 1)) := rs_skip HR.out hbit
          clear hbit
          go_wp2_with (first | (go_at_call 33; refine (HWd.out _).mono ?_; rintro e w' ⟨rfl, hw⟩; obtain rfl := hw.symm) | (go_at_call 47; refine (HBt.out _).mono ?_; rintro e w' ⟨rfl, hw⟩; obtain rfl := hw.symm))
          go_roundg (N - (j + 1))
          case measure => omega
          case rel => exact ⟨(j : Int) + 1, rfl, Or.inr ⟨j + 1, by simp, by omega, HNX.out⟩, HA.out⟩
        | false =>
          rw [hbit] at HBt
          have HBI : Hid (f.least.testBit j = false) := hbit
          clear hbit
          have HLo : Hid (∀ W (i : Int), i = (j : Int) ∨ i = (j : Int) + 1 → Calls Tryz.prog 48 #[.int .i64 i] W fun e w' => e = .returned (uV (2 ^ i.toNat - 1)) ∧ w' = W) := fun W i hi => by
            obtain ⟨n, rfl⟩ : ∃ n : Nat, i = (n : Int) := ⟨i.toNat, by omega⟩
            exact rlow_any n W (by omega)
          have e1 : ((j : Int) + 1).toNat = j + 1 := by omega
          have hu : IntKind.u64.wrap (j : Int) = (j : Int) := by rw [IntKind.wrap_u64]; omega
          have hw : IntKind.u64.wrap ((2 : Int) ^ j) = (2 : Int) ^ j := wp j (by omega)
          have b1 : 2 ^ (j + 1) - 1 < 18446744073709551616 := by
            have : 2 ^ (j + 1) ≤ 2 ^ 64 := Nat.pow_le_pow_right (by omega) (by omega)
            have hp := Nat.two_pow_pos (j + 1)
            have e64 : 2 ^ 64 = 18446744073709551616 := by decide
            omega
          have b2 : 2 ^ j - 1 < 18446744073709551616 := by have := pow64 j (by omega); omega
          have q1 := andn_u f.least (2 ^ (j + 1) - 1) l64 b1
          have b3 := an_lt (2 ^ (j + 1) - 1) l64
          have q2 := or_u _ (2 ^ j) b3 (pow64 j (by omega))
          rw [pow_cast] at q2
          have q3 := and_u f.one (2 ^ j - 1) h64.one b2
          have b4 : f.one &&& (2 ^ j - 1) < 18446744073709551616 := Nat.lt_of_le_of_lt Nat.and_le_left h64.one
          have q4 := or_u _ _ (or_lt64 b3 (pow64 j (by omega))) b4
          rw [rcand_eq] at q4
          have c64 : cand f.least f.one j < 18446744073709551616 := by rw [← rcand_eq]; exact or_lt64 (or_lt64 b3 (pow64 j (by omega))) b4
          have HFc : Hid (∀ W, Calls Tryz.prog 29 #[fV f, uV (cand f.least f.one j)] W fun e w' => ∃ b : Bool, (b = true ↔ fit f.one f.zero (cand f.least f.one j)) ∧ e = .returned (.bool b) ∧ Below W.heap.size W w') := fun W => HFt.out _ W c64
          have HYES : Hid (fit f.one f.zero (cand f.least f.one j) → f.LW (cand f.least f.one j) (decide (cand f.least f.one j ≤ f.top))) := fun h => lw_of_lo (rs_found HM.out HR.out (by rw [HN.out]; exact hlt) HBI.out h)
          have HNO : Hid (¬ fit f.one f.zero (cand f.least f.one j) → RS f (j + 1)) := fun h => rs_next HR.out h
          generalize cand f.least f.one j = m at *
          generalize (an f.least (2 ^ (j + 1) - 1) ||| 2 ^ j) = r1 at *
          generalize f.one &&& (2 ^ j - 1) = r2 at *
          generalize an f.least (2 ^ (j + 1) - 1) = r3 at *
          clear b1 b2 b3 b4 HR
          go_wp2_with (first | (go_at_call 33; refine (HWd.out _).mono ?_; rintro e w' ⟨rfl, hw⟩; obtain rfl := hw.symm) | (go_at_call 47; refine (HBt.out _).mono ?_; rintro e w' ⟨rfl, hw⟩; obtain rfl := hw.symm))
          go_big_quiet ((go_at_call 48; exact Calls.quiet_of_same (HLo.out _ _ (by first | exact Or.inl rfl | exact Or.inr rfl))))
          obtain ⟨wa, hwa⟩ : ∃ wa, wr.drewN nq = wa := ⟨_, rfl⟩
          have HA1 : Hid (BX wa w.heap.size f ∧ Below w.heap.size w wa) := by
            rw [← hwa]; exact ⟨bx_dN HA.out.1 _, bel_drewN HA.out.2 _⟩
          rw [hwa]
          clear c0 c1 c2 c3 c4 HA hwa
          obtain ⟨c0, c1, c2, c3, c4⟩ := HA1.out.1.c
          go_wp2_with fail
          refine (HFc.out _).mono ?_
          rintro e w2 ⟨b, hbm, rfl, hb⟩
          have HA2 : Hid (BX w2 w.heap.size f ∧ Below w.heap.size w w2) := ⟨HA1.out.1.next hb, nx HA1.out.2 hb⟩
          have HB : Hid (b = true ↔ fit f.one f.zero m) := hbm
          clear c0 c1 c2 c3 c4 hbm hb HA1
          obtain ⟨c0, c1, c2, c3, c4⟩ := HA2.out.1.c
          cases b with
          | true =>
            have HL : Hid (f.LW m (decide (m ≤ f.top))) := HYES.out (HB.out.1 rfl)
            go_wp2_with fail
            go_big_quiet (fail)
            go_wp2_with fail
            go_ret2
            exact ⟨m, decide (m ≤ f.top), HL.out, c64, rfl, bel_drewN HA2.out.2 _⟩
          | false =>
            have HNX : Hid (RS f (j + 1)) := HNO.out (fun h => absurd (HB.out.2 h) (by simp))
            go_wp2_with fail
            go_roundg (N - (j + 1))
            case measure => omega
            case rel => exact ⟨(j : Int) + 1, rfl, Or.inr ⟨j + 1, by simp, by omega, HNX.out⟩, HA2.out⟩
      · obtain rfl : j = N := by omega
        have HL : Hid (f.LW 0 false) := Or.inr ⟨rfl, rs_none (by rw [HN.out]; exact HR.out)⟩
        have q0 : ¬ (j : Int) < (j : Int) := by omega
        go_wp2_with (go_at_call 33; refine (HWd.out _).mono ?_; rintro e w' ⟨rfl, hw⟩; obtain rfl := hw.symm)
        go_ret2
        exact ⟨0, false, HL.out, by omega, rfl, HA.out.2⟩
end Go.Proofs.YtioaogdandjdbaaGreatDoor
