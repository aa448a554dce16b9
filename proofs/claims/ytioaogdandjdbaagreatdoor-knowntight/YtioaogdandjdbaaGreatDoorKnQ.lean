import Derived.Test.YtioaogdandjdbaaGreatDoorKnI
namespace Go.Proofs.YtioaogdandjdbaaGreatDoor
open Go.ChangeShapes Go.WideShapes Go.ChangeAt Go.RowKit Go.Lib Go.Kn

theorem wp (n : Nat) (h : n < 64) : IntKind.u64.wrap ((2 : Int) ^ n) = 2 ^ n := by
  have hp := pow64 n h
  rw [← pow_cast, IntKind.wrap_u64]
  generalize 2 ^ n = p at *
  omega
theorem wpm (n : Nat) (h : n < 64) : IntKind.u64.wrap ((2 : Int) ^ n - 1) = ((2 ^ n - 1 : Nat) : Int) := by
  have hp := pow64 n h
  have hp0 := Nat.two_pow_pos n
  rw [← pow_cast, IntKind.wrap_u64]
  generalize 2 ^ n = p at *
  omega
theorem rwidth_any (a : Int) (w : World) (h : 0 ≤ a) : Calls Tryz.prog 33 #[.int .i64 a] w fun e w' => e = .returned (.int .i64 (bw a : Int)) ∧ w' = w := by
  by_cases h0 : a = 0
  · subst h0
    go_enter Tryz.func33, Tryz.ntmps33
    go_wp2
    go_ret
    exact ⟨rfl, rfl⟩
  · have e : ((bw a : Nat) : Int) = a := by unfold bw; rw [if_neg h0]; omega
    rw [e]
    have q : (a == 0) = false := beq_eq_false_iff_ne.2 h0
    go_enter Tryz.func33, Tryz.ntmps33
    go_wp2
    go_ret
    exact ⟨rfl, rfl⟩
theorem rones_any (a : Int) (w : World) (h1 : 0 ≤ a) (h2 : a ≤ 64) : Calls Tryz.prog 23 #[.int .i64 a] w fun e w' => e = .returned (uV (mx a)) ∧ w' = w := by
  have HW : Hid (∀ W, Calls Tryz.prog 33 #[.int .i64 a] W fun e w' => e = .returned (.int .i64 (bw a : Int)) ∧ w' = W) := fun W => rwidth_any a W h1
  have hb := bw_le a h2
  unfold mx
  generalize bw a = n at *
  by_cases h3 : n = 64
  · subst h3
    go_enter Tryz.func23, Tryz.ntmps23
    go_wp2_with (go_at_call 33; refine (HW.out _).mono ?_; rintro e w' ⟨rfl, rfl⟩)
    go_ret
    exact ⟨rfl, rfl⟩
  · have hu : IntKind.u64.wrap (n : Int) = (n : Int) := by rw [IntKind.wrap_u64]; omega
    have hw : IntKind.u64.wrap (2 ^ n) = 2 ^ n := wp n (by omega)
    have hs : Hid (IntKind.u64.wrap ((2 : Int) ^ n - 1) = ((2 ^ n - 1 : Nat) : Int)) := wpm n (by omega)
    have q : ¬ (64 : Int) ≤ (n : Int) := by omega
    go_enter Tryz.func23, Tryz.ntmps23
    go_wp2_with (go_at_call 33; refine (HW.out _).mono ?_; rintro e w' ⟨rfl, rfl⟩)
    go_ret
    exact ⟨ret_int hs.out, rfl⟩
theorem rlow_any (n : Nat) (w : World) (h : n ≤ 64) : Calls Tryz.prog 48 #[.int .i64 (n : Int)] w fun e w' => e = .returned (uV (2 ^ n - 1)) ∧ w' = w := by
  by_cases h3 : n = 64
  · subst h3
    go_enter Tryz.func48, Tryz.ntmps48
    go_wp2
    go_ret
    exact ⟨rfl, rfl⟩
  · have hu : IntKind.u64.wrap (n : Int) = (n : Int) := by rw [IntKind.wrap_u64]; omega
    have hw : IntKind.u64.wrap (2 ^ n) = 2 ^ n := wp n (by omega)
    have hs : Hid (IntKind.u64.wrap ((2 : Int) ^ n - 1) = ((2 ^ n - 1 : Nat) : Int)) := wpm n (by omega)
    have q : ¬ (64 : Int) ≤ (n : Int) := by omega
    go_enter Tryz.func48, Tryz.ntmps48
    go_wp2
    go_ret
    exact ⟨ret_int hs.out, rfl⟩
theorem rbit_any (x i : Nat) (w : World) (hx : x < 18446744073709551616) (h : i < 64) : Calls Tryz.prog 47 #[uV x, .int .i64 (i : Int)] w fun e w' => e = .returned (.bool (x.testBit i)) ∧ w' = w := by
  have hu : IntKind.u64.wrap (i : Int) = (i : Int) := by rw [IntKind.wrap_u64]; omega
  have hd : (x : Int) / 2 ^ i = ((x / 2 ^ i : Nat) : Int) := by rw [← pow_cast]; rfl
  have hlt : x / 2 ^ i < 18446744073709551616 := Nat.lt_of_le_of_lt (Nat.div_le_self _ _) hx
  have ha : bits .and .u64 ((x / 2 ^ i : Nat) : Int) 1 = ((x / 2 ^ i % 2 : Nat) : Int) := by
    have := and_u (x / 2 ^ i) 1 hlt (by omega)
    rw [Nat.and_one_is_mod] at this
    exact this
  have hb : (((x / 2 ^ i % 2 : Nat) : Int) == 1) = x.testBit i := by
    rw [bit_div, Bool.eq_iff_iff]; simp; omega
  generalize x.testBit i = b at *
  generalize x / 2 ^ i % 2 = m at *
  generalize x / 2 ^ i = d at *
  go_enter Tryz.func47, Tryz.ntmps47
  go_wp2
  go_ret
  exact ⟨rfl, rfl⟩
theorem rfits_any (f : Fc) (x : Nat) (w : World) (h64 : F64 f) (hx : x < 18446744073709551616) : Calls Tryz.prog 29 #[fV f, uV x] w fun e w' => ∃ b : Bool, (b = true ↔ fit f.one f.zero x) ∧ e = .returned (.bool b) ∧ Below w.heap.size w w' := by
  have q1 := and_u x f.one hx h64.one
  have q2 := and_u x f.zero hx h64.zero
  have HY : Hid (fit f.one f.zero x ↔ x &&& f.one = f.one ∧ x &&& f.zero = 0) := Iff.rfl
  clear h64
  generalize fit f.one f.zero x = PW at *
  generalize x &&& f.one = xo at *
  generalize x &&& f.zero = xz at *
  by_cases a1 : xo = f.one
  · have p1 : ((xo : Int) == (f.one : Int)) = true := by simp; omega
    by_cases a2 : xz = 0
    · have p2 : ((xz : Int) == 0) = true := by simp; omega
      have HR : Hid PW := HY.out.2 ⟨a1, a2⟩
      clear a1 a2
      go_enter Tryz.func29, Tryz.ntmps29
      go_wp2_with fail
      go_ret
      exact ⟨true, ⟨fun _ => HR.out, fun _ => rfl⟩, rfl, bel1 _ _⟩
    · have p2 : ((xz : Int) == 0) = false := by simp; omega
      have HR : Hid (¬ PW) := fun a => a2 (HY.out.1 a).2
      clear a1 a2
      go_enter Tryz.func29, Tryz.ntmps29
      go_wp2_with fail
      go_ret
      exact ⟨false, ⟨fun a => absurd a (by simp), fun a => absurd a HR.out⟩, rfl, bel1 _ _⟩
  · have p1 : ((xo : Int) == (f.one : Int)) = false := by simp; omega
    have HR : Hid (¬ PW) := fun a => a1 (HY.out.1 a).1
    clear a1
    go_enter Tryz.func29, Tryz.ntmps29
    go_wp2_with fail
    go_ret
    exact ⟨false, ⟨fun a => absurd a (by simp), fun a => absurd a HR.out⟩, rfl, bel1 _ _⟩
set_option maxHeartbeats 4000000 in
theorem rmay_any (f : Fc) (w : World) : Calls Tryz.prog 13 #[fV f] w fun e w' => ∃ b : Bool, (b = true ↔ f.may) ∧ e = .returned (.bool b) ∧ Below w.heap.size w w' := by
  obtain ⟨fw, f1, f2, f3, f4⟩ := f
  by_cases h1 : fw < 0
  · have HY : Hid (¬ Fc.may ⟨fw, f1, f2, f3, f4⟩) := fun a => by have := a.1; simp at this; omega
    go_enter Tryz.func13, Tryz.ntmps13
    go_wp2_with fail
    go_ret
    first | exact ⟨false, ⟨fun a => absurd a (by simp), fun a => absurd a HY.out⟩, rfl, bel1 _ _⟩ | (simp; exact ⟨HY.out, bel1 _ _⟩)
  by_cases h2 : 64 < fw
  · have HY : Hid (¬ Fc.may ⟨fw, f1, f2, f3, f4⟩) := fun a => by have := a.2.1; simp at this; omega
    have q1 : decide (fw < 0) = false := decide_eq_false h1
    go_enter Tryz.func13, Tryz.ntmps13
    go_wp2_with fail
    go_ret
    first | exact ⟨false, ⟨fun a => absurd a (by simp), fun a => absurd a HY.out⟩, rfl, bel1 _ _⟩ | (simp; exact ⟨HY.out, bel1 _ _⟩)
  have HO : Hid (∀ W, Calls Tryz.prog 23 #[.int .i64 fw] W fun e w' => e = .returned (uV (mx fw)) ∧ w' = W) := fun W => rones_any fw W (by omega) (by omega)
  have HY : Hid (Fc.may ⟨fw, f1, f2, f3, f4⟩ ↔ f1 ≤ mx fw ∧ f2 ≤ mx fw ∧ f3 ≤ mx fw ∧ f4 ≤ mx fw) := ⟨fun a => a.2.2, fun a => ⟨by show 0 ≤ fw; omega, by show fw ≤ 64; omega, a⟩⟩
  have q1 : decide (fw < 0) = false := decide_eq_false h1
  have q2 : decide (64 < fw) = false := decide_eq_false h2
  generalize mx fw = m at *
  generalize Fc.may ⟨fw, f1, f2, f3, f4⟩ = PM at *
  go_enter Tryz.func13, Tryz.ntmps13
  go_wp2_with (go_at_call 23; refine (HO.out _).mono ?_; rintro e w' ⟨rfl, hw⟩; obtain rfl := hw.symm)
  all_goals go_ret
  all_goals refine ⟨_, ?_, rfl, bel1 _ _⟩
  all_goals (rw [HY.out]; simp; try omega)
set_option maxHeartbeats 4000000 in
theorem rhas_any (f : Fc) (x : Nat) (w : World) (h64 : F64 f) (hx : x < 18446744073709551616) : Calls Tryz.prog 15 #[fV f, uV x] w fun e w' => ∃ b : Bool, (b = true ↔ f.may ∧ f.word x) ∧ e = .returned (.bool b) ∧ Below w.heap.size w w' := by
  have HMy : Hid (∀ W, Calls Tryz.prog 13 #[fV f] W fun e w' => ∃ b : Bool, (b = true ↔ f.may) ∧ e = .returned (.bool b) ∧ Below W.heap.size W w') := fun W => rmay_any f W
  have HFt : Hid (∀ W, Calls Tryz.prog 29 #[fV f, uV x] W fun e w' => ∃ b : Bool, (b = true ↔ fit f.one f.zero x) ∧ e = .returned (.bool b) ∧ Below W.heap.size W w') := fun W => rfits_any f x W h64 hx
  have HOn : Hid (f.may → ∀ W, Calls Tryz.prog 23 #[.int .i64 f.w] W fun e w' => e = .returned (uV (mx f.w)) ∧ w' = W) := fun h W => rones_any f.w W h.1 h.2.1
  have HY : Hid (f.may ∧ f.word x ↔ f.may ∧ x ≤ mx f.w ∧ fit f.one f.zero x ∧ f.least ≤ x ∧ x ≤ f.top) := Iff.rfl
  clear h64
  generalize (f.may ∧ f.word x) = PW at *
  obtain ⟨w1, hw1⟩ : ∃ w1, w.alloc (.cells #[.int .i64 f.w, uV f.one, uV f.zero, uV f.least, uV f.top] 24) = w1 := ⟨_, rfl⟩
  have HS_w1 : Hid (BX w1 w.heap.size f ∧ Below w.heap.size w w1) := by
    rw [← hw1]
    exact boxes1 w f
  obtain ⟨c0, c1, c2, c3, c4⟩ := HS_w1.out.1.c
  go_enter Tryz.func15, Tryz.ntmps15
  go_wp2_with fail
  try rw [hw1]
  refine (HMy.out _).mono ?_
  rintro e w2 ⟨b, hbm, rfl, hb⟩
  have HS_w2 : Hid (BX w2 w.heap.size f ∧ Below w.heap.size w w2) := ⟨HS_w1.out.1.next hb, nx HS_w1.out.2 hb⟩
  have HBM : Hid (b = true ↔ f.may) := hbm
  clear c0 c1 c2 c3 c4 hb hbm HS_w1 hw1 w1
  obtain ⟨c0, c1, c2, c3, c4⟩ := HS_w2.out.1.c
  cases b with
  | false =>
    go_wp2_with fail
    go_ret
    exact ⟨false, by rw [HY.out, ← HBM.out]; simp, rfl, HS_w2.out.2⟩
  | true =>
    have HMM : Hid f.may := HBM.out.1 rfl
    have HO : Hid (∀ W, Calls Tryz.prog 23 #[.int .i64 f.w] W fun e w' => e = .returned (uV (mx f.w)) ∧ w' = W) := HOn.out HMM.out
    clear HOn
    by_cases a0 : x ≤ mx f.w
    · have p0 : decide (x ≤ mx f.w) = true := decide_eq_true a0
      have HX0 : Hid (x ≤ mx f.w) := a0
      generalize mx f.w = m at *
      go_wp2_with (go_at_call 23; refine (HO.out _).mono ?_; rintro e w' ⟨rfl, hw⟩; obtain rfl := hw.symm)
      refine (HFt.out _).mono ?_
      rintro e w3 ⟨b, hbm, rfl, hb⟩
      have HS_w3 : Hid (BX w3 w.heap.size f ∧ Below w.heap.size w w3) := ⟨HS_w2.out.1.next hb, nx HS_w2.out.2 hb⟩
      have HBF : Hid (b = true ↔ fit f.one f.zero x) := hbm
      clear c0 c1 c2 c3 c4 hb hbm HS_w2 w2
      obtain ⟨c0, c1, c2, c3, c4⟩ := HS_w3.out.1.c
      cases b with
      | false =>
        have HNF : Hid (¬ fit f.one f.zero x) := fun h => absurd (HBF.out.2 h) (by simp)
        go_wp2_with fail
        go_ret
        exact ⟨false, ⟨fun a => absurd a (by simp), fun a => absurd (HY.out.1 a).2.2.1 HNF.out⟩, rfl, HS_w3.out.2⟩
      | true =>
        have HFF : Hid (fit f.one f.zero x) := HBF.out.1 rfl
        by_cases a3 : f.least ≤ x
        · by_cases a4 : x ≤ f.top
          · have HR : Hid PW := HY.out.2 ⟨HMM.out, HX0.out, HFF.out, a3, a4⟩
            have p4 : decide (x ≤ f.top) = true := decide_eq_true a4
            have p3 : decide (f.least ≤ x) = true := decide_eq_true a3
            go_wp2_with fail
            go_ret
            exact ⟨true, ⟨fun _ => HR.out, fun _ => rfl⟩, rfl, HS_w3.out.2⟩
          · have HR : Hid (¬ PW) := fun a => a4 (HY.out.1 a).2.2.2.2
            have p4 : decide (x ≤ f.top) = false := decide_eq_false a4
            have p3 : decide (f.least ≤ x) = true := decide_eq_true a3
            go_wp2_with fail
            go_ret
            exact ⟨false, ⟨fun a => absurd a (by simp), fun a => absurd a HR.out⟩, rfl, HS_w3.out.2⟩
        · have HR : Hid (¬ PW) := fun a => a3 (HY.out.1 a).2.2.2.1
          have p3 : decide (f.least ≤ x) = false := decide_eq_false a3
          go_wp2_with fail
          go_ret
          exact ⟨false, ⟨fun a => absurd a (by simp), fun a => absurd a HR.out⟩, rfl, HS_w3.out.2⟩
    · have p0 : decide (x ≤ mx f.w) = false := decide_eq_false a0
      have HNX : Hid (¬ PW) := fun a => a0 (HY.out.1 a).2.1
      generalize mx f.w = m at *
      go_wp2_with (go_at_call 23; refine (HO.out _).mono ?_; rintro e w' ⟨rfl, hw⟩; obtain rfl := hw.symm)
      go_ret
      exact ⟨false, ⟨fun a => absurd a (by simp), fun a => absurd a HNX.out⟩, rfl, HS_w2.out.2⟩
end Go.Proofs.YtioaogdandjdbaaGreatDoor
