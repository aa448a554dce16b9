import Derived.Test.YtioaogdandjdbaaGreatDoorKnU
namespace Go.Proofs.YtioaogdandjdbaaGreatDoor
open Go.ChangeShapes Go.WideShapes Go.ChangeAt Go.RowKit Go.Lib Go.Kn

theorem F64z : F64 zF := ⟨by decide, by decide, by decide, by decide⟩
/-- settled facts meet as the facts themselves do -/
theorem ma_set {f g a b v : Fc} {c : Nat} (h : f.may ∧ g.may ∧ f.w = g.w) (h1 : SET f a) (h2 : SET g b) (hs : SA (ov a b) v c) : MA f g v c := by
  have hw : a.w = b.w := h1.w.trans (h.2.2.trans h2.w.symm)
  rcases hs with ⟨n, -⟩ | ⟨-, r, hr, e1, e2⟩
  · exact absurd (ov_may hw (h1.may h.1) (h2.may h.2.1)) n
  · refine Or.inr ⟨h, r, ?_, e1, e2⟩
    have hx : ∀ x, (ov f g).word x ↔ (ov a b).word x := fun x => by
      rw [ov_word h.2.2, ov_word hw, h1.word h.1, h2.word h.2.1]
    have hww : (ov f g).w = (ov a b).w := h1.w.symm
    cases r with
    | none => exact fun y hy => hr y ((hx y).1 hy)
    | some g' => exact SET.congr hww hx hr
theorem ma_none {f g : Fc} (h : f.may ∧ g.may ∧ f.w = g.w) (hn : (∀ y, ¬ f.word y) ∨ (∀ y, ¬ g.word y)) : MA f g zF 1 :=
  Or.inr ⟨h, none, fun y hy => by
    rw [ov_word h.2.2] at hy
    rcases hn with hn | hn
    · exact hn y hy.1
    · exact hn y hy.2, rfl, rfl⟩
theorem ja_set {f g a b v : Fc} {c : Nat} (h : f.may ∧ g.may ∧ f.w = g.w) (h1 : SET f a) (h2 : SET g b) (hs : SA (jn a b) v c) : JA f g v c := by
  have hw : a.w = b.w := h1.w.trans (h.2.2.trans h2.w.symm)
  rcases hs with ⟨n, -⟩ | ⟨-, r, hr, rfl, rfl⟩
  · exact absurd (jn_may hw (h1.may h.1) (h2.may h.2.1)) n
  · obtain rfl := ST.same (f := jn a b) rfl (fun _ => Iff.rfl) hr (show ST (jn a b) (some (jn a b)) from jn_set hw (h1.self h.1) (h2.self h.2.1))
    exact Or.inr (Or.inr ⟨h, a, b, h1, h2, rfl, rfl⟩)
theorem f64_ov {a b : Fc} (h1 : F64 a) (h2 : F64 b) : F64 (ov a b) := ⟨or_lt64 h1.one h2.one, or_lt64 h1.zero h2.zero, by show max a.least b.least < _; have := h1.least; have := h2.least; omega, by show min a.top b.top < _; have := h1.top; omega⟩
theorem f64_jn {a b : Fc} (h1 : F64 a) (h2 : F64 b) : F64 (jn a b) := ⟨Nat.lt_of_le_of_lt Nat.and_le_left h1.one, Nat.lt_of_le_of_lt Nat.and_le_left h1.zero, by show min a.least b.least < _; have := h1.least; omega, by show max a.top b.top < _; have := h1.top; have := h2.top; omega⟩
set_option maxHeartbeats 4000000 in
theorem rjoin_any (a b : Fc) (w : World) (h1 : F64 a) (h2 : F64 b) : Calls Tryz.prog 38 #[fV a, fV b] w fun e w' => e = .returned (fV (jn a b)) ∧ Below w.heap.size w w' := by
  have q1 := and_u a.one b.one h1.one h2.one
  have q2 := and_u a.zero b.zero h1.zero h2.zero
  unfold jn
  generalize a.one &&& b.one = r1 at *
  generalize a.zero &&& b.zero = r2 at *
  clear h1 h2
  obtain ⟨aw, a1, a2, a3, a4⟩ := a
  obtain ⟨bw, b1, b2, b3, b4⟩ := b
  dsimp only at *
  go_enter Tryz.func38, Tryz.ntmps38
  go_wp2_with fail
  all_goals refine bodyPost_ret (res1 rfl _ _ (w.heap.size + 1 + 1) _ _ _ rfl (at_alloc _ (hp3 _ _ _ _)) rfl) rfl ?_
  all_goals exact ⟨ret_f (by omega) (by omega), nxa (bel3 _ _ _ _) _⟩
set_option maxHeartbeats 4000000 in
theorem rMeet_any (f g : Fc) (w : World) (hf : F64 f) (hg : F64 g) : Calls Tryz.prog 19 #[fV f, fV g] w fun e w' => ∃ v c, MA f g v c ∧ e = .returned (.tuple #[fV v, eV c]) ∧ Below w.heap.size w w' := by
  have HBo : Hid (∀ W, Calls Tryz.prog 35 #[fV f, fV g] W fun e w' => ∃ va vb c, BP f g va vb c ∧ e = .returned (.tuple #[fV va, fV vb, eV c]) ∧ Below W.heap.size W w') := fun W => rboth_any f g W hf hg
  have HSt : Hid (∀ x W, F64 x → Calls Tryz.prog 17 #[fV x] W fun e w' => ∃ v c, SA x v c ∧ e = .returned (.tuple #[fV v, eV c]) ∧ Below W.heap.size W w') := fun x W h => rSettle_any x W h
  clear hf hg
  obtain ⟨w1, hw1⟩ : ∃ w1, ((w.alloc (.cells #[.int .i64 f.w, uV f.one, uV f.zero, uV f.least, uV f.top] 24)).alloc (.cells #[.int .i64 g.w, uV g.one, uV g.zero, uV g.least, uV g.top] 24)).alloc (.cells #[.int .i64 0, .int .u64 0, .int .u64 0, .int .u64 0, .int .u64 0] 24) = w1 := ⟨_, rfl⟩
  have HS_w1 : Hid (BX w1 w.heap.size f ∧ BX w1 (w.heap.size + 1) g ∧ BX w1 (w.heap.size + 1 + 1) zF ∧ Below w.heap.size w w1) := by
    rw [← hw1]
    exact boxes3 w f g zF
  obtain ⟨c0, c1, c2, c3, c4⟩ := HS_w1.out.1.c
  obtain ⟨d0, d1, d2, d3, d4⟩ := HS_w1.out.2.1.c
  go_enter Tryz.func19, Tryz.ntmps19
  go_wp2_with fail
  try rw [hw1]
  refine (HBo.out _).mono ?_
  rintro e w2 ⟨a, b, c, hp, rfl, hb⟩
  have HS_w2 : Hid (BX w2 w.heap.size f ∧ BX w2 (w.heap.size + 1) g ∧ BX w2 (w.heap.size + 1 + 1) zF ∧ Below w.heap.size w w2) := ⟨HS_w1.out.1.next hb, HS_w1.out.2.1.next hb, HS_w1.out.2.2.1.next hb, nx HS_w1.out.2.2.2 hb⟩
  have HP : Hid (BP f g a b c) := hp
  clear c0 c1 c2 c3 c4 d0 d1 d2 d3 d4 hb hp HS_w1 hw1 w1
  have hl : w.heap.size + 1 + 1 < w2.heap.size := HS_w2.out.2.2.1.lt
  obtain ⟨w3, hw3⟩ : ∃ w3, (w2.alloc (.cells #[.int .i64 a.w, uV a.one, uV a.zero, uV a.least, uV a.top] 24)).alloc (.cells #[.int .i64 b.w, uV b.one, uV b.zero, uV b.least, uV b.top] 24) = w3 := ⟨_, rfl⟩
  have HS3 : Hid (BX w3 w2.heap.size a ∧ BX w3 (w2.heap.size + 1) b ∧ BX w3 (w.heap.size + 1 + 1) zF ∧ Below w.heap.size w w3) := by
    rw [← hw3]; exact ⟨(BX.new _ _).alloc _, hp2 _ _ _, (HS_w2.out.2.2.1.alloc _).alloc _, nxa (nxa HS_w2.out.2.2.2 _) _⟩
  have a3 := HS3.out.1.c
  have b3 := HS3.out.2.1.c
  have z3 := HS3.out.2.2.1.c
  have y3 := HS3.out.2.2.1.fz
  rcases HP.out with ⟨hn, rfl⟩ | ⟨hg, hn, rfl⟩ | ⟨hg, h1, h2, rfl⟩
  · have HNO : Hid (MA f g zF 5) := Or.inl ⟨hn, rfl, rfl⟩
    clear hn
    go_wp2_with fail
    try rw [hw3]
    refine bodyPost_ret (res2 rfl _ _ (w.heap.size + 1 + 1) _ _ _ _ rfl (set5_at HS3.out.2.2.1 _ _ _ _ _) rfl rfl) rfl ?_
    exact ⟨zF, 5, HNO.out, rfl, set5_bel HS3.out.2.2.2 (by omega) _ _ _ _ _⟩
  · have HNO : Hid (MA f g zF 1) := ma_none hg hn
    clear hn hg
    go_wp2_with fail
    try rw [hw3]
    refine bodyPost_ret (res2 rfl _ _ (w.heap.size + 1 + 1) _ _ _ _ rfl (set5_at HS3.out.2.2.1 _ _ _ _ _) rfl rfl) rfl ?_
    exact ⟨zF, 1, HNO.out, rfl, set5_bel HS3.out.2.2.2 (by omega) _ _ _ _ _⟩
  · have HG : Hid (f.may ∧ g.may ∧ f.w = g.w) := hg
    have HSA : Hid (SET f a ∧ SET g b) := ⟨h1, h2⟩
    have ha := may64 (h1.may hg.1)
    have hb := may64 (h2.may hg.2.1)
    have q1 := or_u a.one b.one ha.one hb.one
    have q2 := or_u a.zero b.zero ha.zero hb.zero
    have HS4 : Hid (∀ W, Calls Tryz.prog 17 #[fV (ov a b)] W fun e w' => ∃ v c, SA (ov a b) v c ∧ e = .returned (.tuple #[fV v, eV c]) ∧ Below W.heap.size W w') := fun W => HSt.out _ W (f64_ov ha hb)
    have HMA : Hid (∀ v c, SA (ov a b) v c → MA f g v c) := fun v c h => ma_set HG.out h1 h2 h
    clear h1 h2 hg ha hb
    have HOV : Hid (ov a b = ⟨a.w, a.one ||| b.one, a.zero ||| b.zero, max a.least b.least, min a.top b.top⟩) := rfl
    generalize a.one ||| b.one = r1 at *
    generalize a.zero ||| b.zero = r2 at *
    generalize ov a b = o at *
    have k1 : ¬ w.heap.size + 1 + 1 = w3.heap.size := by have := HS3.out.2.2.1.lt; omega
    have k2 : ¬ w2.heap.size = w3.heap.size := by have := HS3.out.1.lt; omega
    have k3 : ¬ w2.heap.size + 1 = w3.heap.size := by have := HS3.out.2.1.lt; omega
    obtain ⟨w4, hw4⟩ : ∃ w4, w3.alloc (.cells #[.int .i64 a.w, .int .u64 (r1 : Int), .int .u64 (r2 : Int), .int .u64 (a.least : Int), .int .u64 (a.top : Int)] 24) = w4 := ⟨_, rfl⟩
    have HW4 : Hid (BX w4 w3.heap.size ⟨a.w, r1, r2, a.least, a.top⟩ ∧ BX w4 (w2.heap.size + 1) b ∧ BX w4 (w.heap.size + 1 + 1) zF ∧ Below w.heap.size w w4) := by
      rw [← hw4]; exact ⟨BX.new w3 ⟨a.w, r1, r2, a.least, a.top⟩, HS3.out.2.1.alloc _, HS3.out.2.2.1.alloc _, nxa HS3.out.2.2.2 _⟩
    have h4 := HW4.out.1.c
    have h4f := HW4.out.1.fz
    have b4 := HW4.out.2.1.c
    have k4 : ¬ w2.heap.size + 1 = w.heap.size + 1 + 1 := by omega
    have k5 : ¬ w3.heap.size = w2.heap.size + 1 := by have := HS3.out.2.1.lt; omega
    by_cases c1 : a.least < b.least
    · have e1 : (a.least : Int) < (b.least : Int) := by omega
      by_cases c2 : b.top < a.top
      · have e2 : (b.top : Int) < (a.top : Int) := by omega
        have ho : o = ⟨a.w, r1, r2, b.least, b.top⟩ := by rw [HOV.out]; congr 1 <;> omega
        have HS5 : Hid (∀ W, Calls Tryz.prog 17 #[.agg #[.int .i64 a.w, uV r1, uV r2, uV b.least, uV b.top]] W fun e w' => ∃ v c, SA o v c ∧ e = .returned (.tuple #[fV v, eV c]) ∧ Below W.heap.size W w') := fun W => by have := HS4.out W; rw [ho] at this ⊢; exact this
        clear ho HOV
        go_wp2_with fail
        try rw [hw3, hw4]
        refine (HS5.out _).mono ?_
        rintro e w5 ⟨v, c, hv, rfl, hb⟩
        have HM : Hid (MA f g v c ∧ BX w5 (w.heap.size + 1 + 1) zF ∧ Below w.heap.size w w5) := ⟨HMA.out v c hv, BX.next (bx_set (by have := HS3.out.2.2.1.lt; omega) _ _ (bx_set (by have := HS3.out.2.2.1.lt; omega) _ _ HW4.out.2.2.1)) hb, nx (bel_set (bel_set HW4.out.2.2.2 (by have := HS3.out.2.2.2.size; omega) _ _) (by have := HS3.out.2.2.2.size; omega) _ _) hb⟩
        clear hv hb a3 b3 z3 y3 h4 h4f b4
        have z5 := HM.out.2.1.c
        have y5 := HM.out.2.1.fz
        go_wp2_with fail
        refine bodyPost_ret (res2 rfl _ _ (w.heap.size + 1 + 1) _ _ _ _ rfl (set5_at HM.out.2.1 _ _ _ _ _) rfl rfl) rfl ?_
        exact ⟨v, c, HM.out.1, rfl, set5_bel HM.out.2.2 (by omega) _ _ _ _ _⟩
      · have e2 : ¬ (b.top : Int) < (a.top : Int) := by omega
        have ho : o = ⟨a.w, r1, r2, b.least, a.top⟩ := by rw [HOV.out]; congr 1 <;> omega
        have HS5 : Hid (∀ W, Calls Tryz.prog 17 #[.agg #[.int .i64 a.w, uV r1, uV r2, uV b.least, uV a.top]] W fun e w' => ∃ v c, SA o v c ∧ e = .returned (.tuple #[fV v, eV c]) ∧ Below W.heap.size W w') := fun W => by have := HS4.out W; rw [ho] at this ⊢; exact this
        clear ho HOV
        go_wp2_with fail
        try rw [hw3, hw4]
        refine (HS5.out _).mono ?_
        rintro e w5 ⟨v, c, hv, rfl, hb⟩
        have HM : Hid (MA f g v c ∧ BX w5 (w.heap.size + 1 + 1) zF ∧ Below w.heap.size w w5) := ⟨HMA.out v c hv, BX.next (bx_set (by have := HS3.out.2.2.1.lt; omega) _ _ HW4.out.2.2.1) hb, nx (bel_set HW4.out.2.2.2 (by have := HS3.out.2.2.2.size; omega) _ _) hb⟩
        clear hv hb a3 b3 z3 y3 h4 h4f b4
        have z5 := HM.out.2.1.c
        have y5 := HM.out.2.1.fz
        go_wp2_with fail
        refine bodyPost_ret (res2 rfl _ _ (w.heap.size + 1 + 1) _ _ _ _ rfl (set5_at HM.out.2.1 _ _ _ _ _) rfl rfl) rfl ?_
        exact ⟨v, c, HM.out.1, rfl, set5_bel HM.out.2.2 (by omega) _ _ _ _ _⟩
    · have e1 : ¬ (a.least : Int) < (b.least : Int) := by omega
      by_cases c2 : b.top < a.top
      · have e2 : (b.top : Int) < (a.top : Int) := by omega
        have ho : o = ⟨a.w, r1, r2, a.least, b.top⟩ := by rw [HOV.out]; congr 1 <;> omega
        have HS5 : Hid (∀ W, Calls Tryz.prog 17 #[.agg #[.int .i64 a.w, uV r1, uV r2, uV a.least, uV b.top]] W fun e w' => ∃ v c, SA o v c ∧ e = .returned (.tuple #[fV v, eV c]) ∧ Below W.heap.size W w') := fun W => by have := HS4.out W; rw [ho] at this ⊢; exact this
        clear ho HOV
        go_wp2_with fail
        try rw [hw3, hw4]
        refine (HS5.out _).mono ?_
        rintro e w5 ⟨v, c, hv, rfl, hb⟩
        have HM : Hid (MA f g v c ∧ BX w5 (w.heap.size + 1 + 1) zF ∧ Below w.heap.size w w5) := ⟨HMA.out v c hv, BX.next (bx_set (by have := HS3.out.2.2.1.lt; omega) _ _ HW4.out.2.2.1) hb, nx (bel_set HW4.out.2.2.2 (by have := HS3.out.2.2.2.size; omega) _ _) hb⟩
        clear hv hb a3 b3 z3 y3 h4 h4f b4
        have z5 := HM.out.2.1.c
        have y5 := HM.out.2.1.fz
        go_wp2_with fail
        refine bodyPost_ret (res2 rfl _ _ (w.heap.size + 1 + 1) _ _ _ _ rfl (set5_at HM.out.2.1 _ _ _ _ _) rfl rfl) rfl ?_
        exact ⟨v, c, HM.out.1, rfl, set5_bel HM.out.2.2 (by omega) _ _ _ _ _⟩
      · have e2 : ¬ (b.top : Int) < (a.top : Int) := by omega
        have ho : o = ⟨a.w, r1, r2, a.least, a.top⟩ := by rw [HOV.out]; congr 1 <;> omega
        have HS5 : Hid (∀ W, Calls Tryz.prog 17 #[.agg #[.int .i64 a.w, uV r1, uV r2, uV a.least, uV a.top]] W fun e w' => ∃ v c, SA o v c ∧ e = .returned (.tuple #[fV v, eV c]) ∧ Below W.heap.size W w') := fun W => by have := HS4.out W; rw [ho] at this ⊢; exact this
        clear ho HOV
        go_wp2_with fail
        try rw [hw3, hw4]
        refine (HS5.out _).mono ?_
        rintro e w5 ⟨v, c, hv, rfl, hb⟩
        have HM : Hid (MA f g v c ∧ BX w5 (w.heap.size + 1 + 1) zF ∧ Below w.heap.size w w5) := ⟨HMA.out v c hv, BX.next HW4.out.2.2.1 hb, nx HW4.out.2.2.2 hb⟩
        clear hv hb a3 b3 z3 y3 h4 h4f b4
        have z5 := HM.out.2.1.c
        have y5 := HM.out.2.1.fz
        go_wp2_with fail
        refine bodyPost_ret (res2 rfl _ _ (w.heap.size + 1 + 1) _ _ _ _ rfl (set5_at HM.out.2.1 _ _ _ _ _) rfl rfl) rfl ?_
        exact ⟨v, c, HM.out.1, rfl, set5_bel HM.out.2.2 (by omega) _ _ _ _ _⟩
end Go.Proofs.YtioaogdandjdbaaGreatDoor
