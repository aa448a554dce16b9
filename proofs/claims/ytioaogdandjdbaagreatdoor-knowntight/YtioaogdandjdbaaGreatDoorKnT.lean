import Derived.Test.YtioaogdandjdbaaGreatDoorKnS
import Derived.Deep.Cut
namespace Go.Proofs.YtioaogdandjdbaaGreatDoor
open Go.ChangeShapes Go.WideShapes Go.ChangeAt Go.RowKit Go.Lib Go.Kn

theorem set5_o {W : World} {g g' : Nat} {f : Fc} (h : BX W g f) (hne : g ≠ g') (a b c d e : Value) : BX (set5 W g' a b c d e) g f := by
  have st : ∀ {W : World} (i : Nat) (v : Value), BX W g f → BX (W.setCell ⟨g', i, none⟩ v) g f := fun i v h => (heap_setCell_other _ _ _ _ (fun e => hne e)).trans h
  exact st _ _ (st _ _ (st _ _ (st _ _ (st _ _ h))))
theorem bx_set {W : World} {g g' : Nat} {f : Fc} (hne : g ≠ g') (i : Nat) (v : Value) (h : BX W g f) : BX (W.setCell ⟨g', i, none⟩ v) g f := (heap_setCell_other _ _ _ _ (fun e => hne e)).trans h
theorem bx_a {W : World} {g : Nat} {f : Fc} (h : BX W g f) (o : Obj) : (W.alloc o).cell? ⟨g, 0, none⟩ = some (.int .i64 f.w) ∧ (W.alloc o).cell? ⟨g, 1, none⟩ = some (uV f.one) ∧ (W.alloc o).cell? ⟨g, 2, none⟩ = some (uV f.zero) ∧ (W.alloc o).cell? ⟨g, 3, none⟩ = some (uV f.least) ∧ (W.alloc o).cell? ⟨g, 4, none⟩ = some (uV f.top) := (h.alloc o).c
theorem bx_b {W : World} {g : Nat} {f : Fc} (h : BX W g f) (o : Obj) : (W.drew.alloc o).cell? ⟨g, 0, none⟩ = some (.int .i64 f.w) ∧ (W.drew.alloc o).cell? ⟨g, 1, none⟩ = some (uV f.one) ∧ (W.drew.alloc o).cell? ⟨g, 2, none⟩ = some (uV f.zero) ∧ (W.drew.alloc o).cell? ⟨g, 3, none⟩ = some (uV f.least) ∧ (W.drew.alloc o).cell? ⟨g, 4, none⟩ = some (uV f.top) := (BX.alloc (W := W.drew) h o).c
set_option maxHeartbeats 4000000 in
theorem rSettle_any (f : Fc) (w : World) (h64 : F64 f) : Calls Tryz.prog 17 #[fV f] w fun e w' => ∃ v c, SA f v c ∧ e = .returned (.tuple #[fV v, eV c]) ∧ Below w.heap.size w w' := by
  have HMy : Hid (∀ W, Calls Tryz.prog 13 #[fV f] W fun e w' => ∃ b : Bool, (b = true ↔ f.may) ∧ e = .returned (.bool b) ∧ Below W.heap.size W w') := fun W => rmay_any f W
  have HLe : Hid (∀ f W, f.may → Calls Tryz.prog 31 #[fV f] W fun e w' => ∃ x b, f.LW x b ∧ x < 18446744073709551616 ∧ e = .returned (.tuple #[uV x, .bool b]) ∧ Below W.heap.size W w') := fun f W h => rleast_any f W h
  have HGr : Hid (∀ x0 W, f.may → f.word x0 → Calls Tryz.prog 32 #[fV f] W fun e w' => ∃ x, f.GW x ∧ x < 18446744073709551616 ∧ e = .returned (uV x) ∧ Below W.heap.size W w') := fun x0 W h h2 => rgreatest_any f W h h2
  have HWd : Hid (f.may → ∀ W, Calls Tryz.prog 33 #[.int .i64 f.w] W fun e w' => e = .returned (.int .i64 (bw f.w : Int)) ∧ w' = W) := fun h W => rwidth_any f.w W h.1
  obtain ⟨w1, hw1⟩ : ∃ w1, (w.alloc (.cells #[.int .i64 f.w, uV f.one, uV f.zero, uV f.least, uV f.top] 24)).alloc (.cells #[.int .i64 0, .int .u64 0, .int .u64 0, .int .u64 0, .int .u64 0] 24) = w1 := ⟨_, rfl⟩
  have HS_w1 : Hid (BX w1 w.heap.size f ∧ BX w1 (w.heap.size + 1) zF ∧ Below w.heap.size w w1) := by
    rw [← hw1]
    exact boxes2 w f zF
  obtain ⟨c0, c1, c2, c3, c4⟩ := HS_w1.out.1.c
  go_enter Tryz.func17, Tryz.ntmps17
  go_wp2_with fail
  try rw [hw1]
  refine (HMy.out _).mono ?_
  rintro e w2 ⟨b, hbm, rfl, hb⟩
  have HS_w2 : Hid (BX w2 w.heap.size f ∧ BX w2 (w.heap.size + 1) zF ∧ Below w.heap.size w w2) := ⟨HS_w1.out.1.next hb, HS_w1.out.2.1.next hb, nx HS_w1.out.2.2 hb⟩
  have HBM : Hid (b = true ↔ f.may) := hbm
  clear c0 c1 c2 c3 c4 hb hbm HS_w1 hw1 w1
  obtain ⟨c0, c1, c2, c3, c4⟩ := HS_w2.out.1.c
  obtain ⟨z0, z1, z2, z3, z4⟩ := HS_w2.out.2.1.c
  obtain ⟨y0, y1, y2, y3, y4⟩ := HS_w2.out.2.1.fz
  cases b with
  | false =>
    go_wp2_with fail
    refine bodyPost_ret (res2 rfl _ _ (w.heap.size + 1) _ _ _ _ rfl (set5_at HS_w2.out.2.1 _ _ _ _ _) rfl rfl) rfl ?_
    exact ⟨zF, 5, Or.inl ⟨fun h => absurd (HBM.out.2 h) (by simp), rfl, rfl⟩, rfl, (set5_bel HS_w2.out.2.2 (by omega) _ _ _ _ _)⟩
  | true =>
    have HMM : Hid f.may := HBM.out.1 rfl
    go_wp2_with fail
    refine (HLe.out f _ HMM.out).mono ?_
    rintro e w3 ⟨lo, b, hl, hlo64, rfl, hb⟩
    have HS_w3 : Hid (BX w3 w.heap.size f ∧ BX w3 (w.heap.size + 1) zF ∧ Below w.heap.size w w3) := ⟨HS_w2.out.1.next hb, HS_w2.out.2.1.next hb, nx HS_w2.out.2.2 hb⟩
    have HL : Hid (f.LW lo b) := hl
    clear c0 c1 c2 c3 c4 z0 z1 z2 z3 z4 y0 y1 y2 y3 y4 hb hl HS_w2 w2
    obtain ⟨c0, c1, c2, c3, c4⟩ := HS_w3.out.1.c
    obtain ⟨z0, z1, z2, z3, z4⟩ := HS_w3.out.2.1.c
    obtain ⟨y0, y1, y2, y3, y4⟩ := HS_w3.out.2.1.fz
    cases b with
    | false =>
      have HNO : Hid (ST f none) := by
        rcases HL.out with ⟨a, -⟩ | ⟨-, a⟩
        · simp at a
        · exact a
      go_wp2_with fail
      refine bodyPost_ret (res2 rfl _ _ (w.heap.size + 1) _ _ _ _ rfl (set5_at HS_w3.out.2.1 _ _ _ _ _) rfl rfl) rfl ?_
      exact ⟨zF, 1, Or.inr ⟨HMM.out, none, HNO.out, rfl, rfl⟩, rfl, (set5_bel HS_w3.out.2.2 (by omega) _ _ _ _ _)⟩
    | true =>
      have HW0 : Hid (f.word lo) := by
        rcases HL.out with ⟨-, a, -⟩ | ⟨a, -⟩
        · exact a
        · simp at a
      have HG2 : Hid (∀ W, Calls Tryz.prog 32 #[fV f] W fun e w' => ∃ x, f.GW x ∧ x < 18446744073709551616 ∧ e = .returned (uV x) ∧ Below W.heap.size W w') := fun W => HGr.out lo W HMM.out HW0.out
      have hl3 : w.heap.size + 1 < w3.heap.size := HS_w3.out.2.1.lt
      have hn3 : ¬ w.heap.size + 1 = w3.heap.size := by omega
      have hn4 : ¬ w.heap.size = w3.heap.size := by omega
      have hn7 : ¬ w3.heap.size = w.heap.size := by omega
      go_wp2_with fail
      refine (fun (KEY : Hid (∀ (wg : World) (gG t : Nat), Hid (f.GW t ∧ t < 18446744073709551616 ∧ BX wg gG ⟨f.w, 0, 0, lo, t⟩ ∧ BX wg w.heap.size f ∧ BX wg (w.heap.size + 1) zF ∧ Below w.heap.size w wg ∧ w.heap.size + 1 < gG) → (?PHI : World → Nat → Nat → Prop) wg gG t)) => ?main) ?key
      case main =>
        go_region_held3 (fun W => W.cell? ⟨w.heap.size, 0, none⟩ = some (.int .i64 f.w) ∧ W.cell? ⟨w.heap.size, 1, none⟩ = some (uV f.one) ∧ W.cell? ⟨w.heap.size, 2, none⟩ = some (uV f.zero) ∧ W.cell? ⟨w.heap.size, 3, none⟩ = some (uV f.least) ∧ W.cell? ⟨w.heap.size, 4, none⟩ = some (uV f.top)) (go_keep) ((go_at_call 32; refine (HG2.out _).mono ?_; rintro e w4 ⟨t, hg, ht64, rfl, hb⟩; have hbw : Below w3.heap.size w3 w4 := nx (by first | exact (Below.refl _ _).drew | exact (bel1 _ _).drew | exact nxa (Below.refl _ _).drew _ | exact Below.refl _ _) hb; have HS4 : Hid (f.GW t ∧ t < 18446744073709551616 ∧ BX w4 w.heap.size f ∧ BX w4 (w.heap.size + 1) zF ∧ Below w.heap.size w w4 ∧ w3.heap.size ≤ w4.heap.size) := ⟨hg, ht64, HS_w3.out.1.next hbw, HS_w3.out.2.1.next hbw, nx HS_w3.out.2.2 hbw, hbw.size⟩; (first | (have hz : BX w4 w3.heap.size zF := (show BX (w3.alloc (.cells #[.int .i64 0, .int .u64 0, .int .u64 0, .int .u64 0, .int .u64 0] 24)).drew w3.heap.size zF from BX.new w3 zF).next hb; have HZ4 : Hid (BX w4 w3.heap.size zF) := hz; obtain ⟨x0, x1, x2, x3, x4⟩ := hz.c; obtain ⟨v0, v1, v2, v3, v4⟩ := hz.fz; clear hz) | skip); obtain ⟨e0, e1, e2, e3, e4⟩ := HS4.out.2.2.1.c; have hn5 : ¬ w.heap.size = w4.heap.size := (by have h9 := HS4.out.2.2.2.2.2; omega); have hn6 : ¬ w4.heap.size = w.heap.size := (by have h9 := HS4.out.2.2.2.2.2; omega); clear hg ht64 hb hbw))
        all_goals first
          | (have H9 : Hid (f.GW t ∧ t < 18446744073709551616 ∧ BX (((((w4.setCell ⟨w3.heap.size, 0, none⟩ (.int .i64 f.w)).setCell ⟨w3.heap.size, 1, none⟩ (.int .u64 0)).setCell ⟨w3.heap.size, 2, none⟩ (.int .u64 0)).setCell ⟨w3.heap.size, 3, none⟩ (.int .u64 (lo : Int))).setCell ⟨w3.heap.size, 4, none⟩ (.int .u64 (t : Int))) w3.heap.size ⟨f.w, 0, 0, lo, t⟩ ∧ BX (((((w4.setCell ⟨w3.heap.size, 0, none⟩ (.int .i64 f.w)).setCell ⟨w3.heap.size, 1, none⟩ (.int .u64 0)).setCell ⟨w3.heap.size, 2, none⟩ (.int .u64 0)).setCell ⟨w3.heap.size, 3, none⟩ (.int .u64 (lo : Int))).setCell ⟨w3.heap.size, 4, none⟩ (.int .u64 (t : Int))) w.heap.size f ∧ BX (((((w4.setCell ⟨w3.heap.size, 0, none⟩ (.int .i64 f.w)).setCell ⟨w3.heap.size, 1, none⟩ (.int .u64 0)).setCell ⟨w3.heap.size, 2, none⟩ (.int .u64 0)).setCell ⟨w3.heap.size, 3, none⟩ (.int .u64 (lo : Int))).setCell ⟨w3.heap.size, 4, none⟩ (.int .u64 (t : Int))) (w.heap.size + 1) zF ∧ Below w.heap.size w (((((w4.setCell ⟨w3.heap.size, 0, none⟩ (.int .i64 f.w)).setCell ⟨w3.heap.size, 1, none⟩ (.int .u64 0)).setCell ⟨w3.heap.size, 2, none⟩ (.int .u64 0)).setCell ⟨w3.heap.size, 3, none⟩ (.int .u64 (lo : Int))).setCell ⟨w3.heap.size, 4, none⟩ (.int .u64 (t : Int))) ∧ w.heap.size + 1 < w3.heap.size) := ⟨HS4.out.1, HS4.out.2.1, set5_at HZ4.out _ _ _ _ _, set5_o HS4.out.2.2.1 (by omega) _ _ _ _ _, set5_o HS4.out.2.2.2.1 (by omega) _ _ _ _ _, set5_bel HS4.out.2.2.2.2.1 (by omega) _ _ _ _ _, hl3⟩
             generalize (((((w4.setCell ⟨w3.heap.size, 0, none⟩ (.int .i64 f.w)).setCell ⟨w3.heap.size, 1, none⟩ (.int .u64 0)).setCell ⟨w3.heap.size, 2, none⟩ (.int .u64 0)).setCell ⟨w3.heap.size, 3, none⟩ (.int .u64 (lo : Int))).setCell ⟨w3.heap.size, 4, none⟩ (.int .u64 (t : Int))) = wg at H9 ⊢
             generalize w3.heap.size = gG at H9 ⊢
             exact KEY.out wg gG t H9)
          | (have H9 : Hid (f.GW t ∧ t < 18446744073709551616 ∧ BX (w4.alloc (.cells #[.int .i64 f.w, .int .u64 0, .int .u64 0, .int .u64 (lo : Int), .int .u64 (t : Int)] 24)) w4.heap.size ⟨f.w, 0, 0, lo, t⟩ ∧ BX (w4.alloc (.cells #[.int .i64 f.w, .int .u64 0, .int .u64 0, .int .u64 (lo : Int), .int .u64 (t : Int)] 24)) w.heap.size f ∧ BX (w4.alloc (.cells #[.int .i64 f.w, .int .u64 0, .int .u64 0, .int .u64 (lo : Int), .int .u64 (t : Int)] 24)) (w.heap.size + 1) zF ∧ Below w.heap.size w (w4.alloc (.cells #[.int .i64 f.w, .int .u64 0, .int .u64 0, .int .u64 (lo : Int), .int .u64 (t : Int)] 24)) ∧ w.heap.size + 1 < w4.heap.size) := ⟨HS4.out.1, HS4.out.2.1, BX.new w4 ⟨f.w, 0, 0, lo, t⟩, HS4.out.2.2.1.alloc _, HS4.out.2.2.2.1.alloc _, nxa HS4.out.2.2.2.2.1 _, by have h9 := HS4.out.2.2.2.2.2; omega⟩
             generalize (w4.alloc (.cells #[.int .i64 f.w, .int .u64 0, .int .u64 0, .int .u64 (lo : Int), .int .u64 (t : Int)] 24)) = wg at H9 ⊢
             generalize w4.heap.size = gG at H9 ⊢
             exact KEY.out wg gG t H9)
      case key =>
        intro wg gG t HK
        have HGW : Hid (f.GW t) := HK.out.1
        obtain ⟨N, hN⟩ : ∃ N, bw f.w = N := ⟨_, rfl⟩
        have HN : Hid (bw f.w = N) := hN
        have hN64 : N ≤ 64 := by rw [← hN]; exact bw_le _ HMM.out.2.1
        have HW2 : Hid (∀ W, Calls Tryz.prog 33 #[.int .i64 f.w] W fun e w' => e = .returned (.int .i64 (N : Int)) ∧ w' = W) := fun W => by rw [← hN]; exact HWd.out HMM.out W
        have hgG := HK.out.2.2.2.2.2.2
        have HI0 : Hid (RT f 0 0 0 ∧ BX wg gG ⟨f.w, 0, 0, lo, t⟩ ∧ BX wg w.heap.size f ∧ BX wg (w.heap.size + 1) zF ∧ Below w.heap.size w wg) := ⟨rt_start f, HK.out.2.2.1, HK.out.2.2.2.1, HK.out.2.2.2.2.1, HK.out.2.2.2.2.2.1⟩
        clear hN HK
        go_wp2_with fail
        go_loopg [7] N (fun gk v7 wr => ∃ (k one zr : Nat), v7 = .int .i64 (k : Int) ∧ k + gk = N ∧ Aside (RT f k one zr ∧ BX wr gG ⟨f.w, one, zr, lo, t⟩ ∧ BX wr w.heap.size f ∧ BX wr (w.heap.size + 1) zF ∧ Below w.heap.size w wr ∧ one < 18446744073709551616 ∧ zr < 18446744073709551616))
        case atStart => exact ⟨0, 0, 0, rfl, by omega, HI0.out.1, HI0.out.2.1, HI0.out.2.2.1, HI0.out.2.2.2.1, HI0.out.2.2.2.2, by omega, by omega⟩
        case round =>
          obtain ⟨k, one, zr, rfl, hk, HA⟩ := hrel
          obtain ⟨c0, c1, c2, c3, c4⟩ := HA.out.2.2.1.c
          by_cases hlt : k < N
          · have q0 : (k : Int) < (N : Int) := by omega
            have hu : IntKind.u64.wrap (k : Int) = (k : Int) := by rw [IntKind.wrap_u64]; omega
            have hw : IntKind.u64.wrap ((2 : Int) ^ k) = (2 : Int) ^ k := wp k (by omega)
            have hp64 := pow64 k (show k < 64 by omega)
            have q1 := or_u f.zero (2 ^ k) h64.zero hp64
            have q2 := or_u f.one (2 ^ k) h64.one hp64
            have q3 := or_u one (2 ^ k) HA.out.2.2.2.2.2.1 hp64
            have q4 := or_u zr (2 ^ k) HA.out.2.2.2.2.2.2 hp64
            rw [pow_cast] at q1 q2 q3 q4
            obtain ⟨z1, hz1⟩ : ∃ z1, f.zero ||| 2 ^ k = z1 := ⟨_, rfl⟩
            obtain ⟨o1, ho1⟩ : ∃ o1, f.one ||| 2 ^ k = o1 := ⟨_, rfl⟩
            obtain ⟨o2, ho2⟩ : ∃ o2, one ||| 2 ^ k = o2 := ⟨_, rfl⟩
            obtain ⟨z2, hz2⟩ : ∃ z2, zr ||| 2 ^ k = z2 := ⟨_, rfl⟩
            have ewz : f.wz k = ⟨f.w, f.one, z1, f.least, f.top⟩ := by rw [← hz1]; rfl
            have ewo : f.wo k = ⟨f.w, o1, f.zero, f.least, f.top⟩ := by rw [← ho1]; rfl
            have HL1 : Hid (∀ W, Calls Tryz.prog 31 #[.agg #[.int .i64 f.w, uV f.one, uV z1, uV f.least, uV f.top]] W fun e w' => ∃ x b, (f.wz k).LW x b ∧ x < 18446744073709551616 ∧ e = .returned (.tuple #[uV x, .bool b]) ∧ Below W.heap.size W w') := fun W => by
              have := HLe.out (f.wz k) W (may_wz HMM.out (by rw [HN.out]; exact hlt))
              rw [ewz] at this ⊢
              exact this
            have HL2 : Hid (∀ W, Calls Tryz.prog 31 #[.agg #[.int .i64 f.w, uV o1, uV f.zero, uV f.least, uV f.top]] W fun e w' => ∃ x b, (f.wo k).LW x b ∧ x < 18446744073709551616 ∧ e = .returned (.tuple #[uV x, .bool b]) ∧ Below W.heap.size W w') := fun W => by
              have := HLe.out (f.wo k) W (may_wo HMM.out (by rw [HN.out]; exact hlt))
              rw [ewo] at this ⊢
              exact this
            have HRT : Hid (RT f k one zr ∧ o2 < 18446744073709551616 ∧ z2 < 18446744073709551616 ∧ one ||| 2 ^ k = o2 ∧ zr ||| 2 ^ k = z2 ∧ one < 18446744073709551616 ∧ zr < 18446744073709551616) := ⟨HA.out.1, by rw [← ho2]; exact or_lt64 HA.out.2.2.2.2.2.1 hp64, by rw [← hz2]; exact or_lt64 HA.out.2.2.2.2.2.2 hp64, ho2, hz2, HA.out.2.2.2.2.2⟩
            rw [hz1] at q1
            rw [ho1] at q2
            rw [ho2] at q3
            rw [hz2] at q4
            have hp0 : Hid (2 ^ k < 18446744073709551616) := hp64
            clear hz1 ho1 ho2 hz2 ewz ewo hp64
            have hgl : w.heap.size + 1 < wr.heap.size := HA.out.2.2.2.1.lt
            have hgl2 : gG < wr.heap.size := HA.out.2.1.lt
            obtain ⟨gh, hgh⟩ : ∃ gh, wr.heap.size = gh := ⟨_, rfl⟩
            obtain ⟨wh, hwh⟩ : ∃ wh, wr.alloc (.cells #[.int .i64 f.w, uV f.one, uV f.zero, uV f.least, uV f.top] 24) = wh := ⟨_, rfl⟩
            have HH : Hid (BX wh gh f ∧ BX wh gG ⟨f.w, one, zr, lo, t⟩ ∧ BX wh w.heap.size f ∧ BX wh (w.heap.size + 1) zF ∧ Below w.heap.size w wh) := by
              rw [← hwh, ← hgh]
              exact ⟨BX.new _ _, HA.out.2.1.alloc _, HA.out.2.2.1.alloc _, HA.out.2.2.2.1.alloc _, nxa HA.out.2.2.2.2.1 _⟩
            have hne1 : ¬ w.heap.size = gh := by omega
            have hne2 : ¬ gh = w.heap.size := by omega
            have hne3 : gG ≠ gh := by omega
            have hne4 : w.heap.size + 1 ≠ gh := by omega
            have d := HH.out.1.c
            have dd := HH.out.1.fz
            have ee := HH.out.2.2.1.c
            go_wp2_with (go_at_call 33; refine (HW2.out _).mono ?_; rintro e w' ⟨rfl, hw⟩; obtain rfl := hw.symm)
            refine (HL1.out _).mono ?_
            rintro e w5 ⟨x1, b1, hx1, hx64, rfl, hb⟩
            have hz1 : BX (wh.setCell ⟨gh, 2, none⟩ (uV z1)) gh ⟨f.w, f.one, z1, f.least, f.top⟩ := Go.heap_setCell_same _ gh 2 _ _ _ HH.out.1
            have H5 : Hid ((f.wz k).LW x1 b1 ∧ BX w5 gh ⟨f.w, f.one, z1, f.least, f.top⟩ ∧ BX w5 gG ⟨f.w, one, zr, lo, t⟩ ∧ BX w5 w.heap.size f ∧ BX w5 (w.heap.size + 1) zF ∧ Below w.heap.size w w5) := ⟨hx1, hz1.next hb, (bx_set hne3 _ _ HH.out.2.1).next hb, (bx_set hne1 _ _ HH.out.2.2.1).next hb, (bx_set hne4 _ _ HH.out.2.2.2.1).next hb, nx (bel_set HH.out.2.2.2.2 (by omega) _ _) hb⟩
            clear hx1 hz1 hb d dd ee HH
            clear hwh c0 c1 c2 c3 c4
            have d := H5.out.2.1.c
            have dd := H5.out.2.1.fz
            have ee := H5.out.2.2.2.1.c
            go_upto_region 15 with fail
            have H6 : Hid (BX (((((w5.setCell ⟨gh, 0, none⟩ (.int .i64 f.w)).setCell ⟨gh, 1, none⟩ (.int .u64 (f.one : Int))).setCell ⟨gh, 2, none⟩ (.int .u64 (f.zero : Int))).setCell ⟨gh, 3, none⟩ (.int .u64 (f.least : Int))).setCell ⟨gh, 4, none⟩ (.int .u64 (f.top : Int))) gh f ∧ BX (((((w5.setCell ⟨gh, 0, none⟩ (.int .i64 f.w)).setCell ⟨gh, 1, none⟩ (.int .u64 (f.one : Int))).setCell ⟨gh, 2, none⟩ (.int .u64 (f.zero : Int))).setCell ⟨gh, 3, none⟩ (.int .u64 (f.least : Int))).setCell ⟨gh, 4, none⟩ (.int .u64 (f.top : Int))) gG ⟨f.w, one, zr, lo, t⟩ ∧ BX (((((w5.setCell ⟨gh, 0, none⟩ (.int .i64 f.w)).setCell ⟨gh, 1, none⟩ (.int .u64 (f.one : Int))).setCell ⟨gh, 2, none⟩ (.int .u64 (f.zero : Int))).setCell ⟨gh, 3, none⟩ (.int .u64 (f.least : Int))).setCell ⟨gh, 4, none⟩ (.int .u64 (f.top : Int))) w.heap.size f ∧ BX (((((w5.setCell ⟨gh, 0, none⟩ (.int .i64 f.w)).setCell ⟨gh, 1, none⟩ (.int .u64 (f.one : Int))).setCell ⟨gh, 2, none⟩ (.int .u64 (f.zero : Int))).setCell ⟨gh, 3, none⟩ (.int .u64 (f.least : Int))).setCell ⟨gh, 4, none⟩ (.int .u64 (f.top : Int))) (w.heap.size + 1) zF ∧ Below w.heap.size w (((((w5.setCell ⟨gh, 0, none⟩ (.int .i64 f.w)).setCell ⟨gh, 1, none⟩ (.int .u64 (f.one : Int))).setCell ⟨gh, 2, none⟩ (.int .u64 (f.zero : Int))).setCell ⟨gh, 3, none⟩ (.int .u64 (f.least : Int))).setCell ⟨gh, 4, none⟩ (.int .u64 (f.top : Int)))) := ⟨set5_at H5.out.2.1 _ _ _ _ _, set5_o H5.out.2.2.1 hne3 _ _ _ _ _, set5_o H5.out.2.2.2.1 hne1 _ _ _ _ _, set5_o H5.out.2.2.2.2.1 hne4 _ _ _ _ _, set5_bel H5.out.2.2.2.2.2 (by omega) _ _ _ _ _⟩
            have HX1 : Hid ((f.wz k).LW x1 b1) := H5.out.1
            generalize (((((w5.setCell ⟨gh, 0, none⟩ (.int .i64 f.w)).setCell ⟨gh, 1, none⟩ (.int .u64 (f.one : Int))).setCell ⟨gh, 2, none⟩ (.int .u64 (f.zero : Int))).setCell ⟨gh, 3, none⟩ (.int .u64 (f.least : Int))).setCell ⟨gh, 4, none⟩ (.int .u64 (f.top : Int))) = w6 at H6 ⊢
            clear d dd ee H5
            have d := H6.out.1.c
            have dd := H6.out.1.fz
            have ee := H6.out.2.2.1.c
            go_wp2_with fail
            refine (HL2.out _).mono ?_
            rintro e w7 ⟨x2, b2, hx2, hx264, rfl, hb⟩
            have H7 : Hid (BX w7 gG ⟨f.w, one, zr, lo, t⟩ ∧ BX w7 w.heap.size f ∧ BX w7 (w.heap.size + 1) zF ∧ Below w.heap.size w w7) := ⟨(bx_set hne3 _ _ H6.out.2.1).next hb, (bx_set hne1 _ _ H6.out.2.2.1).next hb, (bx_set hne4 _ _ H6.out.2.2.2.1).next hb, nx (bel_set H6.out.2.2.2.2 (by omega) _ _) hb⟩
            have HNX : Hid (RT f (k + 1) (if !b1 then o2 else one) (if !b2 then z2 else zr)) := by
              have := rt_step HRT.out.1 HX1.out hx2
              rw [HRT.out.2.2.2.1, HRT.out.2.2.2.2.1] at this
              exact this
            clear d dd ee H6 hx2 hb HX1
            have d := H7.out.1.c
            have dd := H7.out.1.fz
            cases b1 with
            | false =>
              cases b2 with
              | false =>
                have HNY : Hid (RT f (k + 1) o2 z2) := HNX.out
                clear HNX
                go_wp2_with fail
                go_roundg (N - (k + 1))
                case measure => omega
                case rel =>
                  exact ⟨k + 1, o2, z2, by simp, by omega, HNY.out, (Go.heap_setCell_same _ gG 2 _ _ _ (Go.heap_setCell_same _ gG 1 _ _ _ H7.out.1)), (bx_set (by omega) _ _ (bx_set (by omega) _ _ H7.out.2.1)), (bx_set (by omega) _ _ (bx_set (by omega) _ _ H7.out.2.2.1)), (bel_set (bel_set H7.out.2.2.2 (by omega) _ _) (by omega) _ _), HRT.out.2.1, HRT.out.2.2.1⟩
              | true =>
                have HNY : Hid (RT f (k + 1) o2 zr) := HNX.out
                clear HNX
                go_wp2_with fail
                go_roundg (N - (k + 1))
                case measure => omega
                case rel =>
                  exact ⟨k + 1, o2, zr, by simp, by omega, HNY.out, (Go.heap_setCell_same _ gG 1 _ _ _ H7.out.1), (bx_set (by omega) _ _ H7.out.2.1), (bx_set (by omega) _ _ H7.out.2.2.1), (bel_set H7.out.2.2.2 (by omega) _ _), HRT.out.2.1, HRT.out.2.2.2.2.2.2⟩
            | true =>
              cases b2 with
              | false =>
                have HNY : Hid (RT f (k + 1) one z2) := HNX.out
                clear HNX
                go_wp2_with fail
                go_roundg (N - (k + 1))
                case measure => omega
                case rel =>
                  exact ⟨k + 1, one, z2, by simp, by omega, HNY.out, (Go.heap_setCell_same _ gG 2 _ _ _ H7.out.1), (bx_set (by omega) _ _ H7.out.2.1), (bx_set (by omega) _ _ H7.out.2.2.1), (bel_set H7.out.2.2.2 (by omega) _ _), HRT.out.2.2.2.2.2.1, HRT.out.2.2.1⟩
              | true =>
                have HNY : Hid (RT f (k + 1) one zr) := HNX.out
                clear HNX
                go_wp2_with fail
                go_roundg (N - (k + 1))
                case measure => omega
                case rel =>
                  exact ⟨k + 1, one, zr, by simp, by omega, HNY.out, H7.out.1, H7.out.2.1, H7.out.2.2.1, H7.out.2.2.2, HRT.out.2.2.2.2.2.1, HRT.out.2.2.2.2.2.2⟩
          · obtain rfl : k = N := by omega
            have q0 : ¬ (k : Int) < (k : Int) := by omega
            have HST : Hid (SET f ⟨f.w, one, zr, lo, t⟩) := rt_end (by rw [HN.out]; exact HA.out.1) HL.out HGW.out
            have d := HA.out.2.1.c
            have dz := HA.out.2.2.2.1.c
            have dy := HA.out.2.2.2.1.fz
            go_wp2_with (go_at_call 33; refine (HW2.out _).mono ?_; rintro e w' ⟨rfl, hw⟩; obtain rfl := hw.symm)
            refine bodyPost_ret (res2 rfl _ _ (w.heap.size + 1) _ _ _ _ rfl (set5_at HA.out.2.2.2.1 _ _ _ _ _) rfl rfl) rfl ?_
            exact ⟨⟨f.w, one, zr, lo, t⟩, 0, Or.inr ⟨HMM.out, some _, HST.out, rfl, rfl⟩, rfl, set5_bel HA.out.2.2.2.2.1 (by omega) _ _ _ _ _⟩
end Go.Proofs.YtioaogdandjdbaaGreatDoor
