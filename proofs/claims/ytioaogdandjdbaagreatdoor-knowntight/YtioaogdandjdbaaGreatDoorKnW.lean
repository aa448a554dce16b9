import Derived.Test.YtioaogdandjdbaaGreatDoorKnV
namespace Go.Proofs.YtioaogdandjdbaaGreatDoor
open Go.ChangeShapes Go.WideShapes Go.ChangeAt Go.RowKit Go.Lib Go.Kn

set_option maxHeartbeats 4000000 in
theorem rJoin_any (f g : Fc) (w : World) (hf : F64 f) (hg : F64 g) : Calls Tryz.prog 21 #[fV f, fV g] w fun e w' => ∃ v c, JA f g v c ∧ e = .returned (.tuple #[fV v, eV c]) ∧ Below w.heap.size w w' := by
  have HBo : Hid (∀ W, Calls Tryz.prog 35 #[fV f, fV g] W fun e w' => ∃ va vb c, BP f g va vb c ∧ e = .returned (.tuple #[fV va, fV vb, eV c]) ∧ Below W.heap.size W w') := fun W => rboth_any f g W hf hg
  have HSt : Hid (∀ x W, F64 x → Calls Tryz.prog 17 #[fV x] W fun e w' => ∃ v c, SA x v c ∧ e = .returned (.tuple #[fV v, eV c]) ∧ Below W.heap.size W w') := fun x W h => rSettle_any x W h
  have HJn : Hid (∀ a b W, F64 a → F64 b → Calls Tryz.prog 38 #[fV a, fV b] W fun e w' => e = .returned (fV (jn a b)) ∧ Below W.heap.size W w') := fun a b W h1 h2 => rjoin_any a b W h1 h2
  clear hf hg
  obtain ⟨w1, hw1⟩ : ∃ w1, ((w.alloc (.cells #[.int .i64 f.w, uV f.one, uV f.zero, uV f.least, uV f.top] 24)).alloc (.cells #[.int .i64 g.w, uV g.one, uV g.zero, uV g.least, uV g.top] 24)).alloc (.cells #[.int .i64 0, .int .u64 0, .int .u64 0, .int .u64 0, .int .u64 0] 24) = w1 := ⟨_, rfl⟩
  have HS_w1 : Hid (BX w1 w.heap.size f ∧ BX w1 (w.heap.size + 1) g ∧ BX w1 (w.heap.size + 1 + 1) zF ∧ Below w.heap.size w w1) := by
    rw [← hw1]
    exact boxes3 w f g zF
  obtain ⟨c0, c1, c2, c3, c4⟩ := HS_w1.out.1.c
  obtain ⟨d0, d1, d2, d3, d4⟩ := HS_w1.out.2.1.c
  go_enter Tryz.func21, Tryz.ntmps21
  go_wp2_with fail
  try rw [hw1]
  refine (HBo.out _).mono ?_
  rintro e w2 ⟨a, b, c, hp, rfl, hb⟩
  have HS_w2 : Hid (BX w2 w.heap.size f ∧ BX w2 (w.heap.size + 1) g ∧ BX w2 (w.heap.size + 1 + 1) zF ∧ Below w.heap.size w w2) := ⟨HS_w1.out.1.next hb, HS_w1.out.2.1.next hb, HS_w1.out.2.2.1.next hb, nx HS_w1.out.2.2.2 hb⟩
  have HP : Hid (BP f g a b c) := hp
  clear c0 c1 c2 c3 c4 d0 d1 d2 d3 d4 hb hp HS_w1 hw1 w1
  have hl : w.heap.size + 1 + 1 < w2.heap.size := HS_w2.out.2.2.1.lt
  obtain ⟨w3, hw3⟩ : ∃ w3, (w2.alloc (.cells #[.int .i64 a.w, uV a.one, uV a.zero, uV a.least, uV a.top] 24)).alloc (.cells #[.int .i64 b.w, uV b.one, uV b.zero, uV b.least, uV b.top] 24) = w3 := ⟨_, rfl⟩
  have HS3 : Hid (BX w3 w2.heap.size a ∧ BX w3 (w2.heap.size + 1) b ∧ BX w3 (w.heap.size + 1 + 1) zF ∧ Below w.heap.size w w3) := by
    rw [← hw3]; exact ⟨(BX.new _ _).alloc _, hp2 _ _ _, (HS_w2.out.2.2.1.alloc _).alloc _, nxa (nxa HS_w2.out.2.2.2 _) _⟩
  have a3 := HS3.out.1.c
  have b3 := HS3.out.2.1.c
  have z3 := HS3.out.2.2.1.c
  have y3 := HS3.out.2.2.1.fz
  rcases HP.out with ⟨hn, rfl⟩ | ⟨hg, hn, rfl⟩ | ⟨hg, h1, h2, rfl⟩
  · have HNO : Hid (JA f g zF 5) := Or.inl ⟨hn, rfl, rfl⟩
    clear hn
    go_wp2_with fail
    try rw [hw3]
    refine bodyPost_ret (res2 rfl _ _ (w.heap.size + 1 + 1) _ _ _ _ rfl (set5_at HS3.out.2.2.1 _ _ _ _ _) rfl rfl) rfl ?_
    exact ⟨zF, 5, HNO.out, rfl, set5_bel HS3.out.2.2.2 (by omega) _ _ _ _ _⟩
  · have HNO : Hid (JA f g zF 1) := Or.inr (Or.inl ⟨hg, hn, rfl, rfl⟩)
    clear hn hg
    go_wp2_with fail
    try rw [hw3]
    refine bodyPost_ret (res2 rfl _ _ (w.heap.size + 1 + 1) _ _ _ _ rfl (set5_at HS3.out.2.2.1 _ _ _ _ _) rfl rfl) rfl ?_
    exact ⟨zF, 1, HNO.out, rfl, set5_bel HS3.out.2.2.2 (by omega) _ _ _ _ _⟩
  · have ha := may64 (h1.may hg.1)
    have hb := may64 (h2.may hg.2.1)
    have HS4 : Hid (∀ W, Calls Tryz.prog 17 #[fV (jn a b)] W fun e w' => ∃ v c, SA (jn a b) v c ∧ e = .returned (.tuple #[fV v, eV c]) ∧ Below W.heap.size W w') := fun W => HSt.out _ W (f64_jn ha hb)
    have HJ2 : Hid (∀ W, Calls Tryz.prog 38 #[fV a, fV b] W fun e w' => e = .returned (fV (jn a b)) ∧ Below W.heap.size W w') := fun W => HJn.out a b W ha hb
    have HMA : Hid (∀ v c, SA (jn a b) v c → JA f g v c) := fun v c h => ja_set hg h1 h2 h
    clear h1 h2 hg ha hb
    generalize jn a b = o at *
    go_wp2_with fail
    try rw [hw3]
    refine (HJ2.out _).mono ?_
    rintro e w4 ⟨rfl, hb⟩
    have HW4 : Hid (BX w4 (w.heap.size + 1 + 1) zF ∧ Below w.heap.size w w4) := ⟨HS3.out.2.2.1.next hb, nx HS3.out.2.2.2 hb⟩
    clear hb a3 b3 z3 y3 HS3
    go_wp2_with fail
    refine (HS4.out _).mono ?_
    rintro e w5 ⟨v, c, hv, rfl, hb⟩
    have HM : Hid (JA f g v c ∧ BX w5 (w.heap.size + 1 + 1) zF ∧ Below w.heap.size w w5) := ⟨HMA.out v c hv, HW4.out.1.next hb, nx HW4.out.2 hb⟩
    clear hv hb
    have z5 := HM.out.2.1.c
    have y5 := HM.out.2.1.fz
    go_wp2_with fail
    refine bodyPost_ret (res2 rfl _ _ (w.heap.size + 1 + 1) _ _ _ _ rfl (set5_at HM.out.2.1 _ _ _ _ _) rfl rfl) rfl ?_
    exact ⟨v, c, HM.out.1, rfl, set5_bel HM.out.2.2 (by omega) _ _ _ _ _⟩
end Go.Proofs.YtioaogdandjdbaaGreatDoor
