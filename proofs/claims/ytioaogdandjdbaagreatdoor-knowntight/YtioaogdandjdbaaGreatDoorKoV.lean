import Derived.Test.YtioaogdandjdbaaGreatDoorKoT
import Derived.Deep.Cut
namespace Go.Proofs.YtioaogdandjdbaaGreatDoor
open Go.ChangeShapes Go.WideShapes Go.ChangeAt Go.RowKit Go.Lib Go.Kn

/-- the boxes of KnownTight -/
def KT (w : World) (f v u : Fc) (gg gh : Nat) (W : World) : Prop := Aside (BX W w.heap.size f ∧ BX W gg v ∧ BX W gh u ∧ Below w.heap.size w W)
theorem KT.out {w : World} {f v u : Fc} {gg gh : Nat} {W : World} (h : KT w f v u gg gh W) : BX W w.heap.size f ∧ BX W gg v ∧ BX W gh u ∧ Below w.heap.size w W := Aside.out h
theorem KT.drew {w : World} {f v u : Fc} {gg gh : Nat} {W : World} (h : KT w f v u gg gh W) : KT w f v u gg gh W.drew := ⟨h.out.1, h.out.2.1, h.out.2.2.1, h.out.2.2.2.drew⟩
theorem KT.next {w : World} {f v u : Fc} {gg gh : Nat} {W W' : World} (h : KT w f v u gg gh W) (hb : Below W.heap.size W W') : KT w f v u gg gh W' := ⟨h.out.1.next hb, h.out.2.1.next hb, h.out.2.2.1.next hb, nx h.out.2.2.2 hb⟩
theorem has_is (f : Fc) : ∃ hb : Nat → Bool, ∀ y, hb y = true ↔ f.may ∧ f.word y := ⟨fun y => @decide _ (Classical.propDecidable (f.may ∧ f.word y)), fun y => by simp⟩
set_option maxHeartbeats 8000000 in
set_option maxRecDepth 100000 in
theorem tight_walk (f : Fc) (x : Nat) (w : World) (hf : F64 f) (hx : x < 18446744073709551616) : Calls Tryz.prog 4 #[fV f, uV x] w fun e w' => e = .returned (.bool true) ∧ Below w.heap.size w w' := by
  have HLv : Hid (∀ W, Calls Tryz.prog 9 #[] W fun e w' => e = .returned (.bool true) ∧ Below W.heap.size W w') := fun W => live_any W
  have HSd : Hid (∀ f W, Calls Tryz.prog 22 #[fV f] W fun e w' => ∃ v c, SA f v c ∧ e = .returned (.tuple #[fV v, .bool (decide (c = 0))]) ∧ Below W.heap.size W w') := fun f W => settled_any f W
  have HMy : Hid (∀ W, Calls Tryz.prog 13 #[fV f] W fun e w' => ∃ b : Bool, (b = true ↔ f.may) ∧ e = .returned (.bool b) ∧ Below W.heap.size W w') := fun W => rmay_any f W
  obtain ⟨hb, hhb⟩ := has_is f
  have HHs : Hid (∀ y W, y < 18446744073709551616 → Calls Tryz.prog 15 #[fV f, uV y] W fun e w' => e = .returned (.bool (hb y)) ∧ Below W.heap.size W w') := fun y W hy => (rhas_any f y W hf hy).mono (by rintro e w' ⟨b, h, rfl, hbl⟩; obtain rfl := bool_of_iff (h.trans (hhb y).symm); exact ⟨rfl, hbl⟩)
  have HHB : Hid (∀ y, hb y = true ↔ f.may ∧ f.word y) := hhb
  clear hhb
  obtain ⟨w1, hw1⟩ : ∃ w1, w.alloc (.cells #[.int .i64 f.w, uV f.one, uV f.zero, uV f.least, uV f.top] 24) = w1 := ⟨_, rfl⟩
  have HS1 : Hid (BX w1 w.heap.size f ∧ Below w.heap.size w w1) := by rw [← hw1]; exact boxes1 w f
  go_enter Tryz.func4, Tryz.ntmps4
  go_wp2_with fail
  try rw [hw1]
  refine (HLv.out _).mono ?_
  rintro e w2 ⟨rfl, hbl⟩
  have HS2 : Hid (BX w2 w.heap.size f ∧ Below w.heap.size w w2) := ⟨HS1.out.1.next hbl, nx HS1.out.2 hbl⟩
  clear hbl HS1 hw1 w1
  have cf := HS2.out.1.c
  go_wp2_with fail
  refine (HSd.out f _).mono ?_
  rintro e w3 ⟨v, c, hv, rfl, hbl⟩
  have HV : Hid (SA f v c) := hv
  have HS3 : Hid (BX w3 w.heap.size f ∧ Below w.heap.size w w3) := ⟨HS2.out.1.next hbl, nx HS2.out.2 hbl⟩
  clear hbl HS2 hv cf
  obtain ⟨gg, hgg⟩ : ∃ gg, w3.heap.size = gg := ⟨_, rfl⟩
  obtain ⟨w4, hw4⟩ : ∃ w4, w3.alloc (.cells #[.int .i64 v.w, .int .u64 (v.one : Int), .int .u64 (v.zero : Int), .int .u64 (v.least : Int), .int .u64 (v.top : Int)] 24) = w4 := ⟨_, rfl⟩
  have HS4 : Hid (BX w4 w.heap.size f ∧ BX w4 gg v ∧ Below w.heap.size w w4 ∧ w.heap.size < gg) := by
    rw [← hw4, ← hgg]; exact ⟨HS3.out.1.alloc _, BX.new w3 v, nxa HS3.out.2 _, HS3.out.1.lt⟩
  have cf := HS4.out.1.c
  have cg := HS4.out.2.1.c
  go_wp2_with fail
  try rw [hw4]
  refine (HMy.out _).mono ?_
  rintro e w5 ⟨b, hbm, rfl, hbl⟩
  have HS5 : Hid (BX w5 w.heap.size f ∧ BX w5 gg v ∧ Below w.heap.size w w5 ∧ w.heap.size < gg) := ⟨HS4.out.1.next hbl, HS4.out.2.1.next hbl, nx HS4.out.2.2.1 hbl, HS4.out.2.2.2⟩
  have HBM : Hid (b = true ↔ f.may) := hbm
  clear hbl hbm HS4 hw4 hgg cf cg HS3
  have cf := HS5.out.1.c
  have cg := HS5.out.2.1.c
  have ez := fun W => eq_n 0 0 0 0 0 W
  cases b with
  | false =>
    have hnm : ¬ f.may := fun h => absurd (HBM.out.2 h) (by simp)
    rcases HV.out with ⟨-, rfl, rfl⟩ | ⟨h, -⟩
    · have cz : ∀ (W : World), BX W gg zF → W.cell? ⟨gg, 0, none⟩ = some (.int .i64 0) ∧ W.cell? ⟨gg, 1, none⟩ = some (.int .u64 0) ∧ W.cell? ⟨gg, 2, none⟩ = some (.int .u64 0) ∧ W.cell? ⟨gg, 3, none⟩ = some (.int .u64 0) ∧ W.cell? ⟨gg, 4, none⟩ = some (.int .u64 0) := fun W h => h.c
      have cg2 := cz w5 HS5.out.2.1
      clear cz cg
      go_wp2_with fail
      go_ret
      exact ⟨rfl, HS5.out.2.2.1⟩
    · exact absurd h hnm
  | true =>
    have HMM : Hid f.may := HBM.out.1 rfl
    rcases HV.out with ⟨h, -⟩ | ⟨-, r, hr, rfl, rfl⟩
    · exact absurd HMM.out h
    cases r with
    | none =>
      have hno : ∀ y, hb y = false := fun y => by
        cases h : hb y with
        | false => rfl
        | true => exact absurd ((HHB.out y).1 h).2 (hr y)
      have HH0 : Hid (∀ y W, y < 18446744073709551616 → Calls Tryz.prog 15 #[fV f, uV y] W fun e w' => e = .returned (.bool false) ∧ Below W.heap.size W w') := fun y W hy => by rw [← hno y]; exact HHs.out y W hy
      dsimp only [Option.getD, Option.isSome] at cg HS5 ⊢
      have l64 := hf.least
      have t64 := hf.top
      go_wp2_with fail
      refine (HH0.out _ _ hx).mono ?_
      rintro e w6 ⟨rfl, hbl⟩
      have HS6 : Hid (BX w6 w.heap.size f ∧ Below w.heap.size w w6) := ⟨HS5.out.1.next hbl, nx HS5.out.2.2.1 hbl⟩
      clear hbl cf cg HS5
      have cf := HS6.out.1.c
      go_wp2_with fail
      refine (HH0.out _ _ l64).mono ?_
      rintro e w7 ⟨rfl, hbl⟩
      have HS7 : Hid (BX w7 w.heap.size f ∧ Below w.heap.size w w7) := ⟨HS6.out.1.next hbl, nx HS6.out.2 hbl⟩
      clear hbl cf HS6
      have cf := HS7.out.1.c
      go_wp2_with fail
      refine (HH0.out _ _ t64).mono ?_
      rintro e w8 ⟨rfl, hbl⟩
      have HS8 : Hid (Below w.heap.size w w8) := nx HS7.out.2 hbl
      clear hbl cf HS7
      go_wp2_with fail
      go_ret
      exact ⟨rfl, HS8.out⟩
    | some v =>
      dsimp only [Option.getD, Option.isSome] at cg HS5 ⊢
      have HSV : Hid (SET f v) := hr
      have HSS : Hid (∀ W, Calls Tryz.prog 22 #[fV v] W fun e w' => e = .returned (.tuple #[fV v, .bool true]) ∧ Below W.heap.size W w') := fun W => (HSd.out v W).mono (by
        rintro e w' ⟨v', c', hv', rfl, hbl⟩
        obtain ⟨rfl, rfl⟩ := SA.same hv' (Or.inr ⟨HSV.out.may HMM.out, some v, HSV.out.self HMM.out, rfl, rfl⟩)
        exact ⟨rfl, hbl⟩)
      clear hr
      go_wp2_with fail
      refine (HSS.out _).mono ?_
      rintro e w6 ⟨rfl, hbl⟩
      have HS6 : Hid (BX w6 w.heap.size f ∧ BX w6 gg v ∧ Below w.heap.size w w6 ∧ w.heap.size < gg) := ⟨HS5.out.1.next hbl, HS5.out.2.1.next hbl, nx HS5.out.2.2.1 hbl, HS5.out.2.2.2⟩
      clear hbl HS5 cf cg
      obtain ⟨gh, hgh⟩ : ∃ gh, w6.heap.size = gh := ⟨_, rfl⟩
      obtain ⟨w7, hw7⟩ : ∃ w7, w6.alloc (.cells #[.int .i64 v.w, .int .u64 (v.one : Int), .int .u64 (v.zero : Int), .int .u64 (v.least : Int), .int .u64 (v.top : Int)] 24) = w7 := ⟨_, rfl⟩
      have K7 : KT w f v v gg gh w7 := by
        rw [← hw7, ← hgh]; exact ⟨HS6.out.1.alloc _, HS6.out.2.1.alloc _, BX.new w6 v, nxa HS6.out.2.2.1 _⟩
      have l7 : gg < gh := by rw [← hgh]; exact HS6.out.2.1.lt
      have HL1 : Hid (w.heap.size < gg) := HS6.out.2.2.2
      have hv64 := may64 (HSV.out.may HMM.out)
      have qw : (v.w != f.w) = false := by simp [HSV.out.w]
      have HH1 : Hid (∀ W y, y < 18446744073709551616 → KT w f v v gg gh W → Calls Tryz.prog 15 #[fV f, uV y] W fun e w' => e = .returned (.bool (hb y)) ∧ KT w f v v gg gh w') := fun W y hy hk => (HHs.out y W hy).mono (by rintro e w' ⟨rfl, hbl⟩; exact ⟨rfl, hk.next hbl⟩)
      have HH2 : Hid (∀ W, KT w f v v gg gh W → Calls Tryz.prog 14 #[fV v, uV x] W fun e w' => e = .returned (.bool (hb x)) ∧ KT w f v v gg gh w') := fun W hk => (has_any v x W hv64 hx).mono (by
        rintro e w' ⟨b, h, rfl, hbl⟩
        obtain rfl := bool_of_iff (h.trans (show v.may ∧ v.word x ↔ hb x = true from by rw [HHB.out x, HSV.out.word HMM.out x]; exact ⟨fun a => ⟨HMM.out, a.2⟩, fun a => ⟨HSV.out.may HMM.out, a.2⟩⟩))
        exact ⟨rfl, hk.next hbl⟩)
      have q1 : hb v.least = true := (HHB.out _).2 ⟨HMM.out, HSV.out.lw⟩
      have q2 : hb v.top = true := (HHB.out _).2 ⟨HMM.out, HSV.out.tw⟩
      have l64 := hv64.least
      have t64 := hv64.top
      have qx : (hb x != hb x) = false := by simp
      have nq := fun W => neq_f v W
      have cf := K7.out.1.c
      have cg := K7.out.2.1.c
      have ch := K7.out.2.2.1.c
      clear HS6
      go_wp2_with fail
      try rw [hw7]
      have K8 : KT w f v v gg gh w7.drew := K7.drew
      go_region_held3 (fun W => KT w f v v gg gh W ∧ W.cell? ⟨w.heap.size, 0, none⟩ = some (.int .i64 f.w) ∧ W.cell? ⟨w.heap.size, 1, none⟩ = some (uV f.one) ∧ W.cell? ⟨w.heap.size, 2, none⟩ = some (uV f.zero) ∧ W.cell? ⟨w.heap.size, 3, none⟩ = some (uV f.least) ∧ W.cell? ⟨w.heap.size, 4, none⟩ = some (uV f.top) ∧ W.cell? ⟨gg, 0, none⟩ = some (.int .i64 v.w) ∧ W.cell? ⟨gg, 1, none⟩ = some (uV v.one) ∧ W.cell? ⟨gg, 2, none⟩ = some (uV v.zero) ∧ W.cell? ⟨gg, 3, none⟩ = some (uV v.least) ∧ W.cell? ⟨gg, 4, none⟩ = some (uV v.top) ∧ W.cell? ⟨gh, 0, none⟩ = some (.int .i64 v.w) ∧ W.cell? ⟨gh, 1, none⟩ = some (uV v.one) ∧ W.cell? ⟨gh, 2, none⟩ = some (uV v.zero) ∧ W.cell? ⟨gh, 3, none⟩ = some (uV v.least) ∧ W.cell? ⟨gh, 4, none⟩ = some (uV v.top)) (first | (refine ⟨by first | assumption | exact KT.drew (by assumption), ?_, ?_, ?_, ?_, ?_, ?_, ?_, ?_, ?_, ?_, ?_, ?_, ?_, ?_, ?_⟩ <;> go_keep) | go_keep) (first | (go_at_call 15; refine (HH1.out _ _ (by first | exact l64 | exact t64 | exact hx) (by first | assumption | exact And.left (by assumption) | exact KT.drew (by assumption))).mono ?_; rintro e w9 ⟨rfl, hk⟩; obtain ⟨f0, f1, f2, f3, f4⟩ := hk.out.1.c; obtain ⟨a0, a1, a2, a3, a4⟩ := hk.out.2.1.c; obtain ⟨b0, b1, b2, b3, b4⟩ := hk.out.2.2.1.c) | (go_at_call 14; refine (HH2.out _ (by first | assumption | exact And.left (by assumption) | exact KT.drew (by assumption))).mono ?_; rintro e w9 ⟨rfl, hk⟩; obtain ⟨f0, f1, f2, f3, f4⟩ := hk.out.1.c; obtain ⟨a0, a1, a2, a3, a4⟩ := hk.out.2.1.c; obtain ⟨b0, b1, b2, b3, b4⟩ := hk.out.2.2.1.c))
      have K9 : Hid (KT w f v v gg gh w9) := hk
      have HO : Hid (∀ W, Calls Tryz.prog 23 #[.int .i64 f.w] W fun e w' => e = .returned (uV (mx f.w)) ∧ w' = W) := fun W => rones_any f.w W HMM.out.1 HMM.out.2.1
      by_cases h8 : 8 < f.w
      · have q8 : decide (8 < f.w) = true := decide_eq_true h8
        go_wp2_with fail
        go_ret
        exact ⟨rfl, K9.out.out.2.2.2⟩
      · have q8 : decide (8 < f.w) = false := decide_eq_false h8
        have hm255 : mx f.w ≤ 255 := by
          have h1 : bw f.w ≤ 8 := by unfold bw; split <;> omega
          have h2 : 2 ^ bw f.w ≤ 2 ^ 8 := Nat.pow_le_pow_right (by omega) h1
          unfold mx
          omega
        obtain ⟨M, hM⟩ : ∃ M, mx f.w = M := ⟨_, rfl⟩
        have HMx : Hid (mx f.w = M) := hM
        rw [hM] at HO hm255
        clear hM
        go_wp2_with (go_at_call 23; refine (HO.out _).mono ?_; rintro e w' ⟨rfl, hw⟩; obtain rfl := hw.symm)
        go_loopg [10, 11, 12, 13, 14] (M + 1) (fun gk v10 v11 v12 v13 v14 wr => ∃ (y one any lo hi : Nat), v10 = uV one ∧ v11 = uV any ∧ v12 = uV lo ∧ v13 = uV hi ∧ v14 = uV y ∧ y + gk = M + 1 ∧ Aside (TL f y one any lo hi ∧ one < 18446744073709551616 ∧ any < 18446744073709551616 ∧ KT w f v v gg gh wr))
        case atStart => exact ⟨0, M, 0, M, 0, rfl, rfl, rfl, rfl, rfl, by omega, by rw [← HMx.out]; exact tl_start f, by omega, by omega, K9.out⟩
        case round =>
          obtain ⟨y, one, any, lo, hi, rfl, rfl, rfl, rfl, rfl, hy, HA⟩ := hrel
          have cf2 := HA.out.2.2.2.out.1.c
          have cg2 := HA.out.2.2.2.out.2.1.c
          by_cases hlt : y ≤ M
          · have q3 : decide (y ≤ M) = true := decide_eq_true hlt
            have y64 : y < 18446744073709551616 := by omega
            have qy : IntKind.u64.wrap ((y : Int) + 1) = (y : Int) + 1 := by rw [IntKind.wrap_u64]; omega
            go_wp2_with fail
            refine (HH1.out _ y y64 HA.out.2.2.2).mono ?_
            rintro e wb ⟨rfl, hkb⟩
            have KB : Hid (KT w f v v gg gh wb) := hkb
            clear hkb cf2 cg2
            cases hby : hb y with
            | false =>
              have HT : Hid (TL f (y + 1) one any lo hi) := tl_skip HA.out.1 (fun h => by have := (HHB.out y).2 ⟨HMM.out, h⟩; rw [hby] at this; simp at this)
              go_wp2_with fail
              go_roundg (M - y)
              case measure => omega
              case rel => exact ⟨y + 1, one, any, lo, hi, rfl, rfl, rfl, rfl, by simp, by omega, HT.out, HA.out.2.1, HA.out.2.2.1, KB.out⟩
            | true =>
              have hwy : f.word y := ((HHB.out y).1 hby).2
              have HT : Hid (TL f (y + 1) (one &&& y) (any ||| y) (if y < lo then y else lo) y) := tl_step HA.out.1 hwy
              have p1 := and_u one y HA.out.2.1 y64
              have p2 := or_u any y HA.out.2.2.1 y64
              have HB64 : Hid (one &&& y < 18446744073709551616 ∧ any ||| y < 18446744073709551616) := ⟨Nat.lt_of_le_of_lt Nat.and_le_left HA.out.2.1, or_lt64 HA.out.2.2.1 y64⟩
              generalize one &&& y = one2 at *
              generalize any ||| y = any2 at *
              by_cases hlo : y < lo
              · rw [if_pos hlo] at HT
                have q4 : (y : Int) < (lo : Int) := by omega
                go_wp2_with fail
                go_roundg (M - y)
                case measure => omega
                case rel => exact ⟨y + 1, one2, any2, y, y, rfl, rfl, rfl, rfl, by simp, by omega, HT.out, HB64.out.1, HB64.out.2, KB.out⟩
              · rw [if_neg hlo] at HT
                have q4 : ¬ (y : Int) < (lo : Int) := by omega
                go_wp2_with fail
                go_roundg (M - y)
                case measure => omega
                case rel => exact ⟨y + 1, one2, any2, lo, y, rfl, rfl, rfl, rfl, by simp, by omega, HT.out, HB64.out.1, HB64.out.2, KB.out⟩
          · obtain rfl : y = M + 1 := by omega
            have q3 : decide (M + 1 ≤ M) = false := decide_eq_false (by omega)
            have ev : v = ⟨f.w, one, an M any, lo, hi⟩ := tl_end HSV.out (by rw [HMx.out]; exact HA.out.1) (fun i => by rw [an_bit, ← HMx.out, mx_bit])
            have p1 := andn_u M any (by omega) HA.out.2.2.1
            have en := fun W => eq_n f.w one (an M any) lo hi W
            have HFin : Hid (Below w.heap.size w wr) := HA.out.2.2.2.out.2.2.2
            rw [ev] at cg2
            clear ev
            generalize an M any = zz at *
            dsimp only at cg2
            go_wp2_with fail
            go_ret
            exact ⟨rfl, HFin.out⟩
end Go.Proofs.YtioaogdandjdbaaGreatDoor
