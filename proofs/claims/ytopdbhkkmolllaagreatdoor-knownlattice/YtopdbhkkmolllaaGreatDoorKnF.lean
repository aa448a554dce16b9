import Derived.Test.YtopdbhkkmolllaaGreatDoorKnE
import Derived.WalkMore
import Derived.ScopeJumps
namespace Go.Proofs.YtopdbhkkmolllaaGreatDoor
open Go.ChangeShapes Go.WideShapes Go.ChangeAt Go.RowKit Go.Lib Go.Kn

theorem above_eq (L one k : Nat) : (an L (2 ^ k - 1) ||| 2 ^ k) ||| (one &&& (2 ^ k - 1)) = cand L one k := by
  apply Nat.eq_of_testBit_eq
  intro i
  rw [cand_bit, Nat.testBit_or, Nat.testBit_or, an_bit, Nat.testBit_and, Nat.testBit_two_pow, Nat.testBit_two_pow_sub_one]
  by_cases h1 : i < k
  · rw [if_pos h1, decide_eq_true h1, decide_eq_false (by omega)]; simp
  · rw [if_neg h1, decide_eq_false h1]
    by_cases h2 : i = k
    · rw [if_pos h2, decide_eq_true h2.symm]; simp
    · rw [if_neg h2, decide_eq_false (by omega)]; simp
set_option maxHeartbeats 4000000 in
theorem above_any (f : Fc) (k : Nat) (w : World) (hf : F64 f) (hk : k < 64) : Calls Tryz.prog 34 #[fV f, uV (2 ^ k)] w fun e w' => e = .returned (uV (cand f.least f.one k)) ∧ Below w.heap.size w w' := by
  have hp := pow64 k hk
  have hp0 := Nat.two_pow_pos k
  have he : Hid (cand f.least f.one k = _) := (above_eq f.least f.one k).symm
  have q1 : IntKind.u64.wrap (((2 ^ k : Nat) : Int) - 1) = ((2 ^ k - 1 : Nat) : Int) := by
    rw [IntKind.wrap_u64]
    generalize 2 ^ k = p at *
    omega
  have l1 : 2 ^ k - 1 < 18446744073709551616 := by omega
  have q2 := andn_u f.least (2 ^ k - 1) hf.least l1
  have l2 := an_lt (2 ^ k - 1) hf.least
  have q3 := or_u _ (2 ^ k) l2 hp
  have q4 := and_u f.one (2 ^ k - 1) hf.one l1
  have l4 : f.one &&& (2 ^ k - 1) < 18446744073709551616 := Nat.lt_of_le_of_lt Nat.and_le_left hf.one
  have q5 := or_u _ _ (or_lt64 l2 hp) l4
  rw [he.out]
  clear l1 l2 l4 hp hp0 hf he
  generalize 2 ^ k = p at *
  generalize p - 1 = pm at *
  generalize an f.least pm = r1 at *
  generalize f.one &&& pm = r3 at *
  generalize r1 ||| p = r2 at *
  generalize r2 ||| r3 = r4 at *
  obtain ⟨fw, f1, f2, f3, f4⟩ := f
  dsimp only at *
  go_enter Tryz.func34, Tryz.ntmps34
  go_wp2_with fail
  go_ret
  exact ⟨rfl, bel1 _ _⟩
theorem and_pow (a r : Nat) : a &&& 2 ^ r = if a.testBit r then 2 ^ r else 0 := by
  apply Nat.eq_of_testBit_eq
  intro i
  rw [Nat.testBit_and, Nat.testBit_two_pow]
  by_cases e : r = i
  · subst e
    cases h : a.testBit r <;> simp
  · rw [decide_eq_false e, Bool.and_false]
    split
    · rw [Nat.testBit_two_pow, decide_eq_false e]
    · simp
theorem and_pu (a k : Nat) (b : Bool) (ha : a < 18446744073709551616) (hk : k < 64) (h : a.testBit k = b) : bits .and .u64 (a : Int) ((2 ^ k : Nat) : Int) = ((if b then 2 ^ k else 0 : Nat) : Int) := by
  rw [and_u a _ ha (pow64 k hk), and_pow, h]
theorem lw_no {f : Fc} {m : Nat} (h : LO (bw f.w) f.one f.zero f.least m) (ht : ¬ m ≤ f.top) : f.LW 0 false := by
  rcases lw_of_lo h with ⟨a, -⟩ | ⟨-, a⟩
  · exact absurd (of_decide_eq_true a) ht
  · exact Or.inr ⟨rfl, a⟩
theorem lw_yes {f : Fc} {m : Nat} (h : LO (bw f.w) f.one f.zero f.least m) (ht : m ≤ f.top) : f.LW m true := by
  have := lw_of_lo h
  rw [decide_eq_true ht] at this
  exact this
set_option maxHeartbeats 4000000 in
theorem first_any (f : Fc) (w : World) (hm : f.may) : Calls Tryz.prog 24 #[fV f] w fun e w' => ∃ x b, f.LW x b ∧ x < 18446744073709551616 ∧ e = .returned (.tuple #[uV x, .bool b]) ∧ Below w.heap.size w w' := by
  have h64 := may64 hm
  have q0 := and_u f.one f.zero h64.one h64.zero
  have HM : Hid f.may := hm
  by_cases hd : f.one &&& f.zero = 0
  · rw [hd] at q0
    have HD : Hid (f.one &&& f.zero = 0) := hd
    clear hd
    have HH : Hid (∀ W, Calls Tryz.prog 33 #[.int .i64 f.w] W fun e w' => e = .returned (uV (2 ^ bw f.w / 2)) ∧ w' = W) := fun W => by
      have e : 2 ^ bw f.w / 2 = 2 ^ (bw f.w - 1) := by
        have := bw_pos f.w hm.1
        obtain ⟨k, hk⟩ : ∃ k, bw f.w = k + 1 := ⟨bw f.w - 1, by omega⟩
        rw [hk, Nat.pow_succ, Nat.add_sub_cancel]; omega
      rw [e]
      exact highest_any f.w W hm.1 hm.2.1
    have HA : Hid (∀ W k, k < 64 → Calls Tryz.prog 34 #[fV f, uV (2 ^ k)] W fun e w' => e = .returned (uV (cand f.least f.one k)) ∧ Below W.heap.size W w') := fun W k h1 => above_any f k W h64 h1
    obtain ⟨N, hN⟩ : ∃ N, bw f.w = N := ⟨_, rfl⟩
    have HN : Hid (bw f.w = N) := hN
    have hN64 : N ≤ 64 := by rw [← hN]; exact bw_le _ hm.2.1
    have HP : Hid (PS f N 0) := by rw [← hN]; exact ps_start hm HD.out
    rw [hN] at HH
    obtain ⟨w1, hw1⟩ : ∃ w1, w.alloc (.cells #[.int .i64 f.w, uV f.one, uV f.zero, uV f.least, uV f.top] 24) = w1 := ⟨_, rfl⟩
    have HB : Hid (Below (w.heap.size + 1) w1 w1 ∧ Below w.heap.size w w1) := by rw [← hw1]; exact ⟨box_refl _ _, bel1 _ _⟩
    have HC : Hid (∀ W, Below (w.heap.size + 1) w1 W → W.cell? ⟨w.heap.size, 0, none⟩ = some (.int .i64 f.w) ∧ W.cell? ⟨w.heap.size, 1, none⟩ = some (uV f.one) ∧ W.cell? ⟨w.heap.size, 2, none⟩ = some (uV f.zero) ∧ W.cell? ⟨w.heap.size, 3, none⟩ = some (uV f.least) ∧ W.cell? ⟨w.heap.size, 4, none⟩ = some (uV f.top)) := by
      rw [← hw1]
      exact fun W hW => ⟨box_cells hW 0, box_cells hW 1, box_cells hW 2, box_cells hW 3, box_cells hW 4⟩
    obtain ⟨c0, c1, c2, c3, c4⟩ := HC.out w1 HB.out.1
    have HSZ : Hid (w1.heap.size = w.heap.size + 1) := by rw [← hw1]; simp [Hid]
    clear hm hN
    go_enter Tryz.func24, Tryz.ntmps24
    go_wp2_with fail
    try rw [hw1]
    refine wp_scope_straight ?_
    go_wp2_with fail
    refine wp_label ?_
    go_wp2_with (go_at_call 33; refine (HH.out _).mono ?_; rintro e w' ⟨rfl, hw⟩; obtain rfl := hw.symm)
    go_loopg [4, 5, 6] N (fun gk v4 v5 v6 wr => ∃ rise : Nat, v4 = uV rise ∧ v5 = uV f.least ∧ v6 = uV (2 ^ gk / 2) ∧ gk ≤ N ∧ Aside (PS f gk rise) ∧ Aside (Below (w.heap.size + 1) w1 wr))
    case atStart => exact ⟨0, rfl, rfl, rfl, Nat.le_refl _, HP.out, HB.out.1⟩
    case round =>
      obtain ⟨rise, rfl, rfl, rfl, hk, HS, HW⟩ := hrel
      obtain ⟨e0, e1, e2, e3, e4⟩ := HC.out wr HW.out
      rcases gk with _ | k
      · have HLO : Hid (LO (bw f.w) f.one f.zero f.least f.least) := lo_self HM.out (ps_end HS.out)
        have z : 2 ^ 0 / 2 = 0 := rfl
        rw [z]
        have hm64 : Hid (f.least < 18446744073709551616) := h64.least
        have HW9 : Aside (Below (w.heap.size + 1) w1 wr) := HW.out
        clear HW
        by_cases ht : f.least ≤ f.top
        · have q9 : ¬ (f.top : Int) < (f.least : Int) := by omega
          go_wp2_with fail
          try rw [Exit.noGoto_ret]
          go_ret2
          exact ⟨f.least, true, lw_yes HLO.out ht, hm64.out, rfl, HB.out.2.trans (HW9.out.mono (by omega))⟩
        · have q9 : (f.top : Int) < (f.least : Int) := by omega
          go_wp2_with fail
          try rw [Exit.noGoto_ret]
          go_ret2
          exact ⟨0, false, lw_no HLO.out ht, by omega, rfl, HB.out.2.trans (HW9.out.mono (by omega))⟩
      · have hk64 : k < 64 := by omega
        have ez : 2 ^ (k + 1) / 2 = 2 ^ k := by rw [Nat.pow_succ]; omega
        rw [ez]
        have hp0 := Nat.two_pow_pos k
        have hp1 := pow64 k hk64
        have qh : (((2 ^ k : Nat) : Int)) / 2 = ((2 ^ k / 2 : Nat) : Int) := by
          generalize 2 ^ k = p at *
          omega
        cases hL : f.least.testBit k with
        | false =>
          have qL := and_pu f.least k false h64.least hk64 hL
          simp only [if_false, Bool.false_eq_true] at qL
          cases hO : f.one.testBit k with
          | true =>
            have qO := and_pu f.one k true h64.one hk64 hO
            simp only [if_true] at qO
            have HLO : Hid (LO (bw f.w) f.one f.zero f.least (cand f.least f.one k)) := ps_up HM.out HS.out hL hO
            have HAk3 : Hid (∀ W, Calls Tryz.prog 34 #[fV f, uV (2 ^ k)] W fun e w' => e = .returned (uV (cand f.least f.one k)) ∧ Below W.heap.size W w') := fun W => HA.out W k hk64
            generalize cand f.least f.one k = m at *
            have hm64 : Hid (m < 18446744073709551616) := Nat.lt_of_lt_of_le HLO.out.1 (by rw [HN.out]; exact Nat.pow_le_pow_right (n := 2) (by omega) hN64)
            obtain ⟨p, hp⟩ : ∃ p, 2 ^ k = p := ⟨_, rfl⟩
            rw [hp] at qL qO HAk3 hp0 hp1 ⊢
            have p0 : (0 : Int) < (p : Int) := by omega
            have p1 : ((p : Int) != 0) = true := by simp; omega
            have p2 : ((p : Int) == 0) = false := by simp; omega
            clear hL hO qh hp
            go_wp2_with fail
            refine (HAk3.out _).mono ?_
            rintro e w9 ⟨rfl, hb9⟩
            have HW9 : Aside (Below (w.heap.size + 1) w1 w9) := HW.out.trans (hb9.mono (by have h5 := HW.out.size; have h6 := HSZ.out; omega))
            obtain ⟨d0, d1, d2, d3, d4⟩ := HC.out w9 HW9.out
            clear hb9 HW
            by_cases ht : m ≤ f.top
            · have q9 : ¬ (f.top : Int) < (m : Int) := by omega
              go_wp2_with fail
              try rw [Exit.noGoto_ret]
              go_ret2
              exact ⟨m, true, lw_yes HLO.out ht, hm64.out, rfl, HB.out.2.trans (HW9.out.mono (by omega))⟩
            · have q9 : (f.top : Int) < (m : Int) := by omega
              go_wp2_with fail
              try rw [Exit.noGoto_ret]
              go_ret2
              exact ⟨0, false, lw_no HLO.out ht, by omega, rfl, HB.out.2.trans (HW9.out.mono (by omega))⟩
          | false =>
            have qO := and_pu f.one k false h64.one hk64 hO
            simp only [if_false, Bool.false_eq_true] at qO
            cases hZ : f.zero.testBit k with
            | false =>
              have qZ := and_pu f.zero k false h64.zero hk64 hZ
              simp only [if_false, Bool.false_eq_true] at qZ
              have HNX : Hid (PS f k (2 ^ k)) := ps_rise HS.out hL hO hZ
              obtain ⟨ph, hph⟩ : ∃ ph, 2 ^ k / 2 = ph := ⟨_, rfl⟩
              have HPH : Hid (2 ^ k / 2 = ph) := hph
              rw [hph] at qh
              obtain ⟨p, hp⟩ : ∃ p, 2 ^ k = p := ⟨_, rfl⟩
              rw [hp] at qL qO qZ hp0 hp1 qh ⊢
              have p0 : (0 : Int) < (p : Int) := by omega
              have p1 : ((p : Int) != 0) = true := by simp; omega
              have p2 : ((p : Int) == 0) = false := by simp; omega
              have HPP : Hid (2 ^ k = p) := hp
              clear hL hO hZ hph hp
              go_wp2_with fail
              go_roundg k
              case measure => omega
              case rel => exact ⟨p, rfl, rfl, by rw [HPH.out], by omega, by rw [← HPP.out]; exact HNX.out, HW.out⟩
            | true =>
              have qZ := and_pu f.zero k true h64.zero hk64 hZ
              simp only [if_true] at qZ
              have HNX : Hid (PS f k rise) := ps_keep HS.out (fun _ => ⟨hO, hZ⟩) (fun h => by rw [hL] at h; simp at h)
              obtain ⟨ph, hph⟩ : ∃ ph, 2 ^ k / 2 = ph := ⟨_, rfl⟩
              have HPH : Hid (2 ^ k / 2 = ph) := hph
              rw [hph] at qh
              obtain ⟨p, hp⟩ : ∃ p, 2 ^ k = p := ⟨_, rfl⟩
              rw [hp] at qL qO qZ hp0 hp1 qh ⊢
              have p0 : (0 : Int) < (p : Int) := by omega
              have p1 : ((p : Int) != 0) = true := by simp; omega
              have p2 : ((p : Int) == 0) = false := by simp; omega
              clear hL hO hZ hph hp
              go_wp2_with fail
              go_roundg k
              case measure => omega
              case rel => exact ⟨rise, rfl, rfl, by rw [HPH.out], by omega, HNX.out, HW.out⟩
        | true =>
          have qL := and_pu f.least k true h64.least hk64 hL
          simp only [if_true] at qL
          cases hZ : f.zero.testBit k with
          | false =>
            have qZ := and_pu f.zero k false h64.zero hk64 hZ
            simp only [if_false, Bool.false_eq_true] at qZ
            have HNX : Hid (PS f k rise) := ps_keep HS.out (fun h => by rw [hL] at h; simp at h) (fun _ => hZ)
            obtain ⟨ph, hph⟩ : ∃ ph, 2 ^ k / 2 = ph := ⟨_, rfl⟩
            have HPH : Hid (2 ^ k / 2 = ph) := hph
            rw [hph] at qh
            obtain ⟨p, hp⟩ : ∃ p, 2 ^ k = p := ⟨_, rfl⟩
            rw [hp] at qL qZ hp0 hp1 qh ⊢
            have p0 : (0 : Int) < (p : Int) := by omega
            have p1 : ((p : Int) != 0) = true := by simp; omega
            have p2 : ((p : Int) == 0) = false := by simp; omega
            clear hL hZ hph hp
            go_wp2_with fail
            go_roundg k
            case measure => omega
            case rel => exact ⟨rise, rfl, rfl, by rw [HPH.out], by omega, HNX.out, HW.out⟩
          | true =>
            have qZ := and_pu f.zero k true h64.zero hk64 hZ
            simp only [if_true] at qZ
            by_cases hr : rise = 0
            · subst hr
              have HNO : Hid (∀ y, ¬ f.word y) := ps_down HS.out hL hZ
              obtain ⟨p, hp⟩ : ∃ p, 2 ^ k = p := ⟨_, rfl⟩
              rw [hp] at qL qZ hp0 hp1 ⊢
              have p0 : (0 : Int) < (p : Int) := by omega
              have p1 : ((p : Int) != 0) = true := by simp; omega
              have p2 : ((p : Int) == 0) = false := by simp; omega
              clear hL hZ qh hp
              go_wp2_with fail
              try rw [Exit.noGoto_ret]
              go_ret2
              exact ⟨0, false, Or.inr ⟨rfl, HNO.out⟩, by omega, rfl, HB.out.2.trans (HW.out.mono (by omega))⟩
            · obtain ⟨r, hrr⟩ : ∃ r, rise = 2 ^ r := by
                rcases HS.out.hr with ⟨a, -⟩ | ⟨r, a, -⟩
                · exact absurd a hr
                · exact ⟨r, a⟩
              subst hrr
              have hr3 := ps_over HM.out HS.out hL hZ
              have HLO : Hid (LO (bw f.w) f.one f.zero f.least (cand f.least f.one r)) := hr3.1
              have HAk3 : Hid (∀ W, Calls Tryz.prog 34 #[fV f, uV (2 ^ r)] W fun e w' => e = .returned (uV (cand f.least f.one r)) ∧ Below W.heap.size W w') := fun W => HA.out W r (by have := hr3.2.2; have := HN.out; omega)
              have r0 : (((2 ^ r : Nat) : Int) == 0) = false := by
                have := Nat.two_pow_pos r
                generalize 2 ^ r = rr at *
                simp; omega
              generalize cand f.least f.one r = m at *
              have hm64 : Hid (m < 18446744073709551616) := Nat.lt_of_lt_of_le HLO.out.1 (by rw [HN.out]; exact Nat.pow_le_pow_right (n := 2) (by omega) hN64)
              obtain ⟨p, hp⟩ : ∃ p, 2 ^ k = p := ⟨_, rfl⟩
              rw [hp] at qL qZ hp0 hp1 ⊢
              have p0 : (0 : Int) < (p : Int) := by omega
              have p1 : ((p : Int) != 0) = true := by simp; omega
              have p2 : ((p : Int) == 0) = false := by simp; omega
              clear hL hZ qh hp hr hr3 HS
              generalize 2 ^ r = rr at *
              go_wp2_with fail
              refine (HAk3.out _).mono ?_
              rintro e w9 ⟨rfl, hb9⟩
              have HW9 : Aside (Below (w.heap.size + 1) w1 w9) := HW.out.trans (hb9.mono (by have h5 := HW.out.size; have h6 := HSZ.out; omega))
              obtain ⟨d0, d1, d2, d3, d4⟩ := HC.out w9 HW9.out
              clear hb9 HW
              by_cases ht : m ≤ f.top
              · have q9 : ¬ (f.top : Int) < (m : Int) := by omega
                go_wp2_with fail
                try rw [Exit.noGoto_ret]
                go_ret2
                exact ⟨m, true, lw_yes HLO.out ht, hm64.out, rfl, HB.out.2.trans (HW9.out.mono (by omega))⟩
              · have q9 : (f.top : Int) < (m : Int) := by omega
                go_wp2_with fail
                try rw [Exit.noGoto_ret]
                go_ret2
                exact ⟨0, false, lw_no HLO.out ht, by omega, rfl, HB.out.2.trans (HW9.out.mono (by omega))⟩
  · have HNO : Hid (∀ y, ¬ f.word y) := dis_none hd
    have q1 : (((f.one &&& f.zero : Nat) : Int) != 0) = true := by simp; omega
    generalize f.one &&& f.zero = z at *
    clear hm
    go_enter Tryz.func24, Tryz.ntmps24
    go_wp2_with fail
    refine wp_scope_straight ?_
    go_wp2_with fail
    try rw [Exit.noGoto_ret]
    go_ret2
    exact ⟨0, false, Or.inr ⟨rfl, HNO.out⟩, by omega, rfl, bel1 _ _⟩
end Go.Proofs.YtopdbhkkmolllaaGreatDoor
