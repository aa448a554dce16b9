import Derived.Test.YtopdbhkkmolllaaGreatDoorKnH
namespace Go.Proofs.YtopdbhkkmolllaaGreatDoor
open Go.ChangeShapes Go.WideShapes Go.ChangeAt Go.RowKit Go.Lib Go.Kn

/-- what All answers -/
def AA (a : Int) (v : Fc) (e : Nat) : Prop := (¬ (0 ≤ a ∧ a ≤ 64) ∧ v = zF ∧ e = 5) ∨ ((0 ≤ a ∧ a ≤ 64) ∧ v = noth a ∧ e = 0)
theorem AA.same {a : Int} {v v' : Fc} {e e' : Nat} (h : AA a v e) (h' : AA a v' e') : v = v' ∧ e = e' := by
  rcases h with ⟨a, rfl, rfl⟩ | ⟨a, rfl, rfl⟩ <;> rcases h' with ⟨b, rfl, rfl⟩ | ⟨b, rfl, rfl⟩ <;> first | exact ⟨rfl, rfl⟩ | exact absurd a b | exact absurd b a
/-- what Alone answers -/
def AL (a : Int) (x : Nat) (v : Fc) (e : Nat) : Prop := (¬ ((0 ≤ a ∧ a ≤ 64) ∧ x ≤ mx a) ∧ v = zF ∧ e = 5) ∨ (((0 ≤ a ∧ a ≤ 64) ∧ x ≤ mx a) ∧ v = alon a x ∧ e = 0)
theorem AL.same {a : Int} {x : Nat} {v v' : Fc} {e e' : Nat} (h : AL a x v e) (h' : AL a x v' e') : v = v' ∧ e = e' := by
  rcases h with ⟨a, rfl, rfl⟩ | ⟨a, rfl, rfl⟩ <;> rcases h' with ⟨b, rfl, rfl⟩ | ⟨b, rfl, rfl⟩ <;> first | exact ⟨rfl, rfl⟩ | exact absurd a b | exact absurd b a
/-- what Meet answers -/
def MA (f g v : Fc) (e : Nat) : Prop := (¬ (f.may ∧ g.may ∧ f.w = g.w) ∧ v = zF ∧ e = 5) ∨ ((f.may ∧ g.may ∧ f.w = g.w) ∧ ∃ r : Option Fc, ST (ov f g) r ∧ v = r.getD zF ∧ e = if r.isSome then 0 else 1)
theorem MA.same {f g v v' : Fc} {e e' : Nat} (h : MA f g v e) (h' : MA f g v' e') : v = v' ∧ e = e' := by
  rcases h with ⟨a, rfl, rfl⟩ | ⟨a, r, h, rfl, rfl⟩
  · rcases h' with ⟨b, rfl, rfl⟩ | ⟨b, r, h, rfl, rfl⟩
    · exact ⟨rfl, rfl⟩
    · exact absurd b a
  · rcases h' with ⟨b, rfl, rfl⟩ | ⟨b, r', h', rfl, rfl⟩
    · exact absurd a b
    · obtain rfl := ST.same rfl (fun _ => Iff.rfl) h h'
      exact ⟨rfl, rfl⟩
theorem ma_of_sa {f g v : Fc} {e : Nat} (h : f.may ∧ g.may ∧ f.w = g.w) (hs : SA (ov f g) v e) : MA f g v e := by
  rcases hs with ⟨a, -⟩ | ⟨-, r, b⟩
  · exact absurd (ov_may h.2.2 h.1 h.2.1) a
  · exact Or.inr ⟨h, r, b⟩
set_option maxHeartbeats 4000000 in
theorem Alone_any (a : Int) (x : Nat) (w : World) : Calls Tryz.prog 11 #[.int .i64 a, uV x] w fun e w' => ∃ v c, AL a x v c ∧ e = .returned (.tuple #[fV v, eV c]) ∧ Below w.heap.size w w' := by
  have HI : Hid (∀ W, Calls Tryz.prog 18 #[.int .i64 a] W fun e w' => e = .returned (.bool (decide (0 ≤ a ∧ a ≤ 64))) ∧ w' = W) := fun W => isw_any a W
  obtain ⟨w1, hw1⟩ : ∃ w1, w.alloc (.cells #[.int .i64 0, .int .u64 0, .int .u64 0, .int .u64 0, .int .u64 0] 24) = w1 := ⟨_, rfl⟩
  have HS_w1 : Hid (BX w1 w.heap.size zF ∧ Below w.heap.size w w1) := by
    rw [← hw1]
    exact boxes1 w zF
  obtain ⟨z0, z1, z2, z3, z4⟩ := HS_w1.out.1.c
  obtain ⟨y0, y1, y2, y3, y4⟩ := HS_w1.out.1.fz
  by_cases h : 0 ≤ a ∧ a ≤ 64
  · rw [decide_eq_true h] at HI
    have HO : Hid (∀ W, Calls Tryz.prog 19 #[.int .i64 a] W fun e w' => e = .returned (uV (mx a)) ∧ w' = W) := fun W => ones_any a W h.1 h.2
    by_cases hx : x ≤ mx a
    · have HN : Hid (∀ W, Calls Tryz.prog 20 #[.int .i64 a, uV x] W fun e w' => e = .returned (fV (alon a x)) ∧ Below W.heap.size W w') := fun W => alone_any a x W h.1 h.2 hx
      have HY : Hid (AL a x (alon a x) 0) := Or.inr ⟨⟨h, hx⟩, rfl, rfl⟩
      have q : ¬ mx a < x := by omega
      have q2 : decide (mx a < x) = false := decide_eq_false q
      clear h
      generalize alon a x = na at *
      generalize mx a = m at *
      go_enter Tryz.func11, Tryz.ntmps11
      go_wp2_with (first | (go_at_call 18; refine (HI.out _).mono ?_; rintro e w' ⟨rfl, hw⟩; obtain rfl := hw.symm) | (go_at_call 19; refine (HO.out _).mono ?_; rintro e w' ⟨rfl, hw⟩; obtain rfl := hw.symm))
      try rw [hw1]
      refine (HN.out _).mono ?_
      rintro e w2 ⟨rfl, hb⟩
      have HS_w2 : Hid (BX w2 w.heap.size zF ∧ Below w.heap.size w w2) := ⟨HS_w1.out.1.next hb, nx HS_w1.out.2 hb⟩
      clear z0 z1 z2 z3 z4 y0 y1 y2 y3 y4 hb HS_w1 hw1 w1
      obtain ⟨z0, z1, z2, z3, z4⟩ := HS_w2.out.1.c
      obtain ⟨y0, y1, y2, y3, y4⟩ := HS_w2.out.1.fz
      go_wp2_with fail
      refine bodyPost_ret (res2 rfl _ _ w.heap.size _ _ _ _ rfl (set5_at HS_w2.out.1 _ _ _ _ _) rfl rfl) rfl ?_
      exact ⟨na, 0, HY.out, rfl, (set5_bel HS_w2.out.2 (by omega) _ _ _ _ _)⟩
    · have HY : Hid (AL a x zF 5) := Or.inl ⟨fun h => hx h.2, rfl, rfl⟩
      have q : mx a < x := by omega
      have q2 : decide (mx a < x) = true := decide_eq_true q
      clear h
      generalize mx a = m at *
      go_enter Tryz.func11, Tryz.ntmps11
      go_wp2_with (first | (go_at_call 18; refine (HI.out _).mono ?_; rintro e w' ⟨rfl, hw⟩; obtain rfl := hw.symm) | (go_at_call 19; refine (HO.out _).mono ?_; rintro e w' ⟨rfl, hw⟩; obtain rfl := hw.symm))
      try rw [hw1]
      refine bodyPost_ret (res2 rfl _ _ w.heap.size _ _ _ _ rfl (set5_at HS_w1.out.1 _ _ _ _ _) rfl rfl) rfl ?_
      exact ⟨zF, 5, HY.out, rfl, (set5_bel HS_w1.out.2 (by omega) _ _ _ _ _)⟩
  · rw [decide_eq_false h] at HI
    have HY : Hid (AL a x zF 5) := Or.inl ⟨fun h2 => h h2.1, rfl, rfl⟩
    clear h
    go_enter Tryz.func11, Tryz.ntmps11
    go_wp2_with (go_at_call 18; refine (HI.out _).mono ?_; rintro e w' ⟨rfl, hw⟩; obtain rfl := hw.symm)
    try rw [hw1]
    refine bodyPost_ret (res2 rfl _ _ w.heap.size _ _ _ _ rfl (set5_at HS_w1.out.1 _ _ _ _ _) rfl rfl) rfl ?_
    exact ⟨zF, 5, HY.out, rfl, (set5_bel HS_w1.out.2 (by omega) _ _ _ _ _)⟩
set_option maxHeartbeats 4000000 in
theorem Meet_any (f g : Fc) (w : World) : Calls Tryz.prog 9 #[fV f, fV g] w fun e w' => ∃ v c, MA f g v c ∧ e = .returned (.tuple #[fV v, eV c]) ∧ Below w.heap.size w w' := by
  have HMf : Hid (∀ W, Calls Tryz.prog 15 #[fV f] W fun e w' => ∃ b : Bool, (b = true ↔ f.may) ∧ e = .returned (.bool b) ∧ Below W.heap.size W w') := fun W => may_any f W
  have HMg : Hid (∀ W, Calls Tryz.prog 15 #[fV g] W fun e w' => ∃ b : Bool, (b = true ↔ g.may) ∧ e = .returned (.bool b) ∧ Below W.heap.size W w') := fun W => may_any g W
  have HOv : Hid (f.may → g.may → ∀ W, Calls Tryz.prog 16 #[fV f, fV g] W fun e w' => e = .returned (fV (ov f g)) ∧ Below W.heap.size W w') := fun h1 h2 W => overlap_any f g W (may64 h1) (may64 h2)
  have HSt : Hid (∀ W, Calls Tryz.prog 10 #[fV (ov f g)] W fun e w' => ∃ v c, SA (ov f g) v c ∧ e = .returned (.tuple #[fV v, eV c]) ∧ Below W.heap.size W w') := fun W => Settle_any (ov f g) W
  obtain ⟨w1, hw1⟩ : ∃ w1, ((w.alloc (.cells #[.int .i64 f.w, uV f.one, uV f.zero, uV f.least, uV f.top] 24)).alloc (.cells #[.int .i64 g.w, uV g.one, uV g.zero, uV g.least, uV g.top] 24)).alloc (.cells #[.int .i64 0, .int .u64 0, .int .u64 0, .int .u64 0, .int .u64 0] 24) = w1 := ⟨_, rfl⟩
  have HS_w1 : Hid (BX w1 w.heap.size f ∧ BX w1 (w.heap.size + 1) g ∧ BX w1 (w.heap.size + 1 + 1) zF ∧ Below w.heap.size w w1) := by
    rw [← hw1]
    exact boxes3 w f g zF
  obtain ⟨c0, c1, c2, c3, c4⟩ := HS_w1.out.1.c
  obtain ⟨d0, d1, d2, d3, d4⟩ := HS_w1.out.2.1.c
  go_enter Tryz.func9, Tryz.ntmps9
  go_wp2_with fail
  try rw [hw1]
  refine (HMf.out _).mono ?_
  rintro e w2 ⟨b, hbm, rfl, hb⟩
  have HS_w2 : Hid (BX w2 w.heap.size f ∧ BX w2 (w.heap.size + 1) g ∧ BX w2 (w.heap.size + 1 + 1) zF ∧ Below w.heap.size w w2) := ⟨HS_w1.out.1.next hb, HS_w1.out.2.1.next hb, HS_w1.out.2.2.1.next hb, nx HS_w1.out.2.2.2 hb⟩
  have HBM : Hid (b = true ↔ f.may) := hbm
  clear c0 c1 c2 c3 c4 d0 d1 d2 d3 d4 hb hbm HS_w1 hw1 w1
  obtain ⟨c0, c1, c2, c3, c4⟩ := HS_w2.out.1.c
  obtain ⟨d0, d1, d2, d3, d4⟩ := HS_w2.out.2.1.c
  obtain ⟨z0, z1, z2, z3, z4⟩ := HS_w2.out.2.2.1.c
  obtain ⟨y0, y1, y2, y3, y4⟩ := HS_w2.out.2.2.1.fz
  cases b with
  | false =>
    have HNO : Hid (MA f g zF 5) := Or.inl ⟨fun h => absurd (HBM.out.2 h.1) (by simp), rfl, rfl⟩
    go_wp2_with fail
    refine bodyPost_ret (res2 rfl _ _ (w.heap.size + 1 + 1) _ _ _ _ rfl (set5_at HS_w2.out.2.2.1 _ _ _ _ _) rfl rfl) rfl ?_
    exact ⟨zF, 5, HNO.out, rfl, (set5_bel HS_w2.out.2.2.2 (by omega) _ _ _ _ _)⟩
  | true =>
    have HMM : Hid f.may := HBM.out.1 rfl
    go_wp2_with fail
    refine (HMg.out _).mono ?_
    rintro e w3 ⟨b, hbm, rfl, hb⟩
    have HS_w3 : Hid (BX w3 w.heap.size f ∧ BX w3 (w.heap.size + 1) g ∧ BX w3 (w.heap.size + 1 + 1) zF ∧ Below w.heap.size w w3) := ⟨HS_w2.out.1.next hb, HS_w2.out.2.1.next hb, HS_w2.out.2.2.1.next hb, nx HS_w2.out.2.2.2 hb⟩
    have HBG : Hid (b = true ↔ g.may) := hbm
    clear c0 c1 c2 c3 c4 d0 d1 d2 d3 d4 z0 z1 z2 z3 z4 y0 y1 y2 y3 y4 hb hbm HS_w2 w2
    obtain ⟨c0, c1, c2, c3, c4⟩ := HS_w3.out.1.c
    obtain ⟨d0, d1, d2, d3, d4⟩ := HS_w3.out.2.1.c
    obtain ⟨z0, z1, z2, z3, z4⟩ := HS_w3.out.2.2.1.c
    obtain ⟨y0, y1, y2, y3, y4⟩ := HS_w3.out.2.2.1.fz
    cases b with
    | false =>
      have HNO : Hid (MA f g zF 5) := Or.inl ⟨fun h => absurd (HBG.out.2 h.2.1) (by simp), rfl, rfl⟩
      go_wp2_with fail
      refine bodyPost_ret (res2 rfl _ _ (w.heap.size + 1 + 1) _ _ _ _ rfl (set5_at HS_w3.out.2.2.1 _ _ _ _ _) rfl rfl) rfl ?_
      exact ⟨zF, 5, HNO.out, rfl, (set5_bel HS_w3.out.2.2.2 (by omega) _ _ _ _ _)⟩
    | true =>
      have HMG : Hid g.may := HBG.out.1 rfl
      by_cases hw : f.w = g.w
      · have HWW : Hid (f.w = g.w) := hw
        have q : (f.w != g.w) = false := by simp [hw]
        clear hw
        go_wp2_with fail
        refine (HOv.out HMM.out HMG.out _).mono ?_
        rintro e w4 ⟨rfl, hb⟩
        have HS_w4 : Hid (BX w4 w.heap.size f ∧ BX w4 (w.heap.size + 1) g ∧ BX w4 (w.heap.size + 1 + 1) zF ∧ Below w.heap.size w w4) := ⟨HS_w3.out.1.next hb, HS_w3.out.2.1.next hb, HS_w3.out.2.2.1.next hb, nx HS_w3.out.2.2.2 hb⟩
        clear c0 c1 c2 c3 c4 d0 d1 d2 d3 d4 z0 z1 z2 z3 z4 y0 y1 y2 y3 y4 hb HS_w3 w3
        go_wp2_with fail
        refine (HSt.out _).mono ?_
        rintro e w5 ⟨v, c, hv, rfl, hb⟩
        have HS_w5 : Hid (BX w5 w.heap.size f ∧ BX w5 (w.heap.size + 1) g ∧ BX w5 (w.heap.size + 1 + 1) zF ∧ Below w.heap.size w w5) := ⟨HS_w4.out.1.next hb, HS_w4.out.2.1.next hb, HS_w4.out.2.2.1.next hb, nx HS_w4.out.2.2.2 hb⟩
        have HMA : Hid (MA f g v c) := ma_of_sa ⟨HMM.out, HMG.out, HWW.out⟩ hv
        clear hb HS_w4 w4 hv
        obtain ⟨z0, z1, z2, z3, z4⟩ := HS_w5.out.2.2.1.c
        obtain ⟨y0, y1, y2, y3, y4⟩ := HS_w5.out.2.2.1.fz
        go_wp2_with fail
        refine bodyPost_ret (res2 rfl _ _ (w.heap.size + 1 + 1) _ _ _ _ rfl (set5_at HS_w5.out.2.2.1 _ _ _ _ _) rfl rfl) rfl ?_
        exact ⟨v, c, HMA.out, rfl, (set5_bel HS_w5.out.2.2.2 (by omega) _ _ _ _ _)⟩
      · have HNO : Hid (MA f g zF 5) := Or.inl ⟨fun h => hw h.2.2, rfl, rfl⟩
        have q : (f.w != g.w) = true := by simp [hw]
        clear hw
        go_wp2_with fail
        refine bodyPost_ret (res2 rfl _ _ (w.heap.size + 1 + 1) _ _ _ _ rfl (set5_at HS_w3.out.2.2.1 _ _ _ _ _) rfl rfl) rfl ?_
        exact ⟨zF, 5, HNO.out, rfl, (set5_bel HS_w3.out.2.2.2 (by omega) _ _ _ _ _)⟩
end Go.Proofs.YtopdbhkkmolllaaGreatDoor
