import Derived.Test.YtopdbhkkmolllaaGreatDoorKnJ
namespace Go.Proofs.YtopdbhkkmolllaaGreatDoor
open Go.ChangeShapes Go.WideShapes Go.ChangeAt Go.RowKit Go.Lib Go.Kn

/-- what Join answers -/
def JA (f g v : Fc) (e : Nat) : Prop := (¬ (f.may ∧ g.may ∧ f.w = g.w) ∧ v = zF ∧ e = 5) ∨
  ((f.may ∧ g.may ∧ f.w = g.w) ∧ ((∀ y, ¬ f.word y) ∨ (∀ y, ¬ g.word y)) ∧ v = zF ∧ e = 1) ∨
  ((f.may ∧ g.may ∧ f.w = g.w) ∧ ∃ a b, SET f a ∧ SET g b ∧ v = jn a b ∧ e = 0)
theorem JA.same {f g v v' : Fc} {e e' : Nat} (h : JA f g v e) (h' : JA f g v' e') : v = v' ∧ e = e' := by
  rcases h with ⟨a, rfl, rfl⟩ | ⟨a, b, rfl, rfl⟩ | ⟨a, p, q, h1, h2, rfl, rfl⟩
  · rcases h' with ⟨-, rfl, rfl⟩ | ⟨c, -⟩ | ⟨c, -⟩
    · exact ⟨rfl, rfl⟩
    · exact absurd c a
    · exact absurd c a
  · rcases h' with ⟨c, -⟩ | ⟨-, -, rfl, rfl⟩ | ⟨-, p, q, h1, h2, -⟩
    · exact absurd a c
    · exact ⟨rfl, rfl⟩
    · rcases b with b | b
      · exact absurd h1.lw (b _)
      · exact absurd h2.lw (b _)
  · rcases h' with ⟨c, -⟩ | ⟨-, b, -⟩ | ⟨-, p', q', k1, k2, rfl, rfl⟩
    · exact absurd a c
    · rcases b with b | b
      · exact absurd h1.lw (b _)
      · exact absurd h2.lw (b _)
    · rw [h1.uniq k1, h2.uniq k2]; exact ⟨rfl, rfl⟩
theorem row2 {W : World} {f g : Fc} : RowF (W.alloc (.cells #[.int .i64 f.w, uV f.one, uV f.zero, uV f.least, uV f.top, .int .i64 g.w, uV g.one, uV g.zero, uV g.least, uV g.top] 24)) W.heap.size 0 [f, g] := fun i hi => by
  have h := heap_alloc_new W (.cells #[.int .i64 f.w, uV f.one, uV f.zero, uV f.least, uV f.top, .int .i64 g.w, uV g.one, uV g.zero, uV g.least, uV g.top] 24)
  have hi : i < 2 := hi
  rcases (show i = 0 ∨ i = 1 by omega) with rfl | rfl
  · exact ⟨blk_cell h _, blk_cell h _, blk_cell h _, blk_cell h _, blk_cell h _⟩
  · exact ⟨blk_cell h _, blk_cell h _, blk_cell h _, blk_cell h _, blk_cell h _⟩
set_option maxHeartbeats 4000000 in
theorem Join_any (f g : Fc) (w : World) : Calls Tryz.prog 6 #[fV f, fV g] w fun e w' => ∃ v c, JA f g v c ∧ e = .returned (.tuple #[fV v, eV c]) ∧ Below w.heap.size w w' := by
  have HAl : Hid (∀ (W : World) G, G < W.heap.size → RowF W G 0 [f, g] → Calls Tryz.prog 13 #[.slice (some ⟨G, 0, none⟩) 2 2] W fun e w' => ∃ v c, AllP W w' [f, g] v c ∧ e = .returned (.tuple #[v, eV c]) ∧ Below W.heap.size W w') := fun W G h1 h2 => all_any [f, g] G 2 2 W rfl (by omega) h1 h2
  have HJn : Hid (∀ a b W, F64 a → F64 b → Calls Tryz.prog 14 #[fV a, fV b] W fun e w' => e = .returned (fV (jn a b)) ∧ Below W.heap.size W w') := fun a b W h1 h2 => join_any a b W h1 h2
  obtain ⟨w1, hw1⟩ : ∃ w1, ((w.alloc (.cells #[.int .i64 f.w, uV f.one, uV f.zero, uV f.least, uV f.top] 24)).alloc (.cells #[.int .i64 g.w, uV g.one, uV g.zero, uV g.least, uV g.top] 24)).alloc (.cells #[.int .i64 0, .int .u64 0, .int .u64 0, .int .u64 0, .int .u64 0] 24) = w1 := ⟨_, rfl⟩
  have HS_w1 : Hid (BX w1 w.heap.size f ∧ BX w1 (w.heap.size + 1) g ∧ BX w1 (w.heap.size + 1 + 1) zF ∧ Below w.heap.size w w1) := by
    rw [← hw1]
    exact boxes3 w f g zF
  obtain ⟨c0, c1, c2, c3, c4⟩ := HS_w1.out.1.c
  obtain ⟨d0, d1, d2, d3, d4⟩ := HS_w1.out.2.1.c
  obtain ⟨z0, z1, z2, z3, z4⟩ := HS_w1.out.2.2.1.c
  obtain ⟨y0, y1, y2, y3, y4⟩ := HS_w1.out.2.2.1.fz
  by_cases hw : f.w = g.w
  · have HWW : Hid (f.w = g.w) := hw
    have q : (f.w != g.w) = false := by simp [hw]
    clear hw
    go_enter Tryz.func6, Tryz.ntmps6
    go_wp2_with fail
    try rw [hw1]
    refine (HAl.out _ _ (by simp) row2).mono ?_
    rintro e w2 ⟨v, c, hp, rfl, hb⟩
    have hb2 : Below w1.heap.size w1 w2 := nx (bel1 _ _) hb
    have HS_w2 : Hid (BX w2 w.heap.size f ∧ BX w2 (w.heap.size + 1) g ∧ BX w2 (w.heap.size + 1 + 1) zF ∧ Below w.heap.size w w2) := ⟨HS_w1.out.1.next hb2, HS_w1.out.2.1.next hb2, HS_w1.out.2.2.1.next hb2, nx HS_w1.out.2.2.2 hb2⟩
    have HP : Hid (AllP (w1.alloc (.cells #[.int .i64 f.w, uV f.one, uV f.zero, uV f.least, uV f.top, .int .i64 g.w, uV g.one, uV g.zero, uV g.least, uV g.top] 24)) w2 [f, g] v c) := hp
    clear c0 c1 c2 c3 c4 d0 d1 d2 d3 d4 z0 z1 z2 z3 z4 y0 y1 y2 y3 y4 hb hb2 hp HS_w1 hw1 HAl
    obtain ⟨z0, z1, z2, z3, z4⟩ := HS_w2.out.2.2.1.c
    obtain ⟨y0, y1, y2, y3, y4⟩ := HS_w2.out.2.2.1.fz
    rcases HP.out with ⟨rfl, rfl, i, hi, hn⟩ | ⟨hm, rfl, rfl, i, hi, hn⟩ | ⟨hm, rfl, G, gs, rfl, hgl, hset, hrow, hG, hG2⟩
    · have HNO : Hid (JA f g zF 5) := Or.inl ⟨fun h => by
        have hi : i < 2 := hi
        rcases (show i = 0 ∨ i = 1 by omega) with rfl | rfl
        · exact hn h.1
        · exact hn h.2.1, rfl, rfl⟩
      clear hn hi HP
      go_wp2_with fail
      refine bodyPost_ret (res2 rfl _ _ (w.heap.size + 1 + 1) _ _ _ _ rfl (set5_at HS_w2.out.2.2.1 _ _ _ _ _) rfl rfl) rfl ?_
      exact ⟨zF, 5, HNO.out, rfl, (set5_bel HS_w2.out.2.2.2 (by omega) _ _ _ _ _)⟩
    · have HNO : Hid (JA f g zF 1) := Or.inr (Or.inl ⟨⟨hm 0 (by simp), hm 1 (by simp), HWW.out⟩, by
        have hi : i < 2 := hi
        rcases (show i = 0 ∨ i = 1 by omega) with rfl | rfl
        · exact Or.inl hn
        · exact Or.inr hn, rfl, rfl⟩)
      clear hn hi HP hm
      go_wp2_with fail
      refine bodyPost_ret (res2 rfl _ _ (w.heap.size + 1 + 1) _ _ _ _ rfl (set5_at HS_w2.out.2.2.1 _ _ _ _ _) rfl rfl) rfl ?_
      exact ⟨zF, 1, HNO.out, rfl, (set5_bel HS_w2.out.2.2.2 (by omega) _ _ _ _ _)⟩
    · have hs0 : SET f (gs.getD 0 zF) := hset 0 (by simp)
      have hs1 : SET g (gs.getD 1 zF) := hset 1 (by simp)
      have hmf : f.may := hm 0 (by simp)
      have hmg : g.may := hm 1 (by simp)
      obtain ⟨a0, a1, a2, a3, a4⟩ := hrow 0 (by rw [hgl]; simp)
      obtain ⟨b0, b1, b2, b3, b4⟩ := hrow 1 (by rw [hgl]; simp)
      have HYE : Hid (JA f g (jn (gs.getD 0 zF) (gs.getD 1 zF)) 0) := Or.inr (Or.inr ⟨⟨hmf, hmg, HWW.out⟩, _, _, hs0, hs1, rfl, rfl⟩)
      have HJ2 : Hid (∀ W, Calls Tryz.prog 14 #[fV (gs.getD 0 zF), fV (gs.getD 1 zF)] W fun e w' => e = .returned (fV (jn (gs.getD 0 zF) (gs.getD 1 zF))) ∧ Below W.heap.size W w') := fun W => HJn.out _ _ W (may64 (hs0.may hmf)) (may64 (hs1.may hmg))
      generalize gs.getD 0 zF = a at *
      generalize gs.getD 1 zF = b at *
      clear hs0 hs1 hmf hmg hrow hset hm HP HJn
      have el : [f, g].length = 2 := rfl
      simp only [Nat.zero_mul, Nat.zero_add, Nat.one_mul] at a0 a1 a2 a3 a4 b0 b1 b2 b3 b4
      rw [el]
      go_wp2_with fail
      generalize jn a b = ab at *
      first | (go_region_with (go_at_call 14; refine (HJ2.out _).mono ?_; rintro e w3 ⟨rfl, hb0⟩; have hb : Below w2.heap.size w2 w3 := nx (Below.refl _ _).drew hb0; have HS_w3 : Hid (BX w3 w.heap.size f ∧ BX w3 (w.heap.size + 1) g ∧ BX w3 (w.heap.size + 1 + 1) zF ∧ Below w.heap.size w w3) := ⟨HS_w2.out.1.next hb, HS_w2.out.2.1.next hb, HS_w2.out.2.2.1.next hb, nx HS_w2.out.2.2.2 hb⟩; obtain ⟨x0, x1, x2, x3, x4⟩ := HS_w3.out.2.2.1.c; obtain ⟨v0, v1, v2, v3, v4⟩ := HS_w3.out.2.2.1.fz; clear hb hb0)) | fail
      all_goals go_wp2_with fail
      all_goals refine bodyPost_ret (res2 rfl _ _ (w.heap.size + 1 + 1) _ _ _ _ rfl (set5_at HS_w3.out.2.2.1 _ _ _ _ _) rfl rfl) rfl ?_
      all_goals exact ⟨ab, 0, HYE.out, rfl, (set5_bel HS_w3.out.2.2.2 (by omega) _ _ _ _ _)⟩
  · have HNO : Hid (JA f g zF 5) := Or.inl ⟨fun h => hw h.2.2, rfl, rfl⟩
    have q : (f.w != g.w) = true := by simp [hw]
    clear hw
    go_enter Tryz.func6, Tryz.ntmps6
    go_wp2_with fail
    try rw [hw1]
    refine bodyPost_ret (res2 rfl _ _ (w.heap.size + 1 + 1) _ _ _ _ rfl (set5_at HS_w1.out.2.2.1 _ _ _ _ _) rfl rfl) rfl ?_
    exact ⟨zF, 5, HNO.out, rfl, (set5_bel HS_w1.out.2.2.2 (by omega) _ _ _ _ _)⟩
end Go.Proofs.YtopdbhkkmolllaaGreatDoor
