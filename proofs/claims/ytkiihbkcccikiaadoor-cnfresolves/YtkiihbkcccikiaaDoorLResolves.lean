import Derived.Test.YtkiihbkcccikiaaDoorLend
import Derived.Test.YtkiihbkcccikiaaDoorRRes
namespace Go.Proofs.YtkiihbkcccikiaaDoor
open Go.ChangeShapes Go.WideShapes Go.ChangeAt Go.RowKit Go.Cn

theorem dn_below {w w' : World} {m : Nat} (h : w' = w.drewN m) : Below w.heap.size w w' := by rw [h]; exact below_dn (Below.refl _ _) m
set_option maxHeartbeats 4000000 in
set_option maxRecDepth 100000 in
theorem resolves_walk (ad bd : Option Addr) (xs ys : List Int) (c d : Nat) (v : Int) (w : World) (hs : Sl w ad c xs) (hs2 : Sl w bd d ys) (hl : xs.length ≤ 17592186044416) (hl2 : ys.length ≤ 17592186044416) (hv : -9223372036854775808 ≤ v ∧ v ≤ 9223372036854775807) (hlv : LV w) :
    Calls Tryd.prog 6 #[.slice ad xs.length c, .slice bd ys.length d, .int .i64 v] w fun e w' => e = .returned (.bool true) ∧ Below w.heap.size w w' := by
  have HS : Hid (Sl w ad c xs ∧ Sl w bd d ys) := ⟨hs, hs2⟩
  have HV : Hid (LV w) := hlv
  have HN : Hid (∀ x W, Calls Tryd.prog 12 #[.int .i64 x] W fun e w' => e = .returned (.int .i64 x) ∧ w' = W) := fun x W => no_any x W
  clear hs hs2 hlv
  go_enter Tryd.func6, Tryd.ntmps6
  go_wp2_with fail
  refine (lent_any ad xs c w HS.out.1 hl).mono ?_
  rintro e w1 ⟨rfl, hL1, hb1⟩
  have HL1 : Hid (Lent w1 w.heap.size xs) := hL1
  have HB1 : Hid (Below w.heap.size w w1) := hb1
  clear hL1 hb1
  go_wp2_with fail
  refine (lent_any bd ys d w1 (HS.out.2.below HB1.out) hl2).mono ?_
  rintro e w2 ⟨rfl, hM2, hb2⟩
  have HM2 : Hid (Lent w2 w1.heap.size ys) := hM2
  have HL2 : Hid (Lent w2 w.heap.size xs) := HL1.out.below hb2
  have HB2 : Hid (Below w.heap.size w w2) := below_next HB1.out hb2
  clear hM2 hb2 HL1
  have HNx : Hid (∀ W, Below w2.heap.size w2 W → Calls Tryd.prog 10 #[.slice (some ⟨w.heap.size, 0, none⟩) xs.length (xs.length + 2)] W (NormPost xs W)) := fun W hW => norm_any w.heap.size 0 (xs.length + 2) xs W (HL2.out.below hW).ints (by omega)
  have HNy : Hid (∀ W, Below w2.heap.size w2 W → Calls Tryd.prog 10 #[.slice (some ⟨w1.heap.size, 0, none⟩) ys.length (ys.length + 2)] W (NormPost ys W)) := fun W hW => norm_any w1.heap.size 0 (ys.length + 2) ys W (HM2.out.below hW).ints (by omega)
  have HRes : Hid (Calls Tryd.prog 28 #[.slice (some ⟨w.heap.size, 0, none⟩) xs.length (xs.length + 2), .slice (some ⟨w1.heap.size, 0, none⟩) ys.length (ys.length + 2), .int .i64 v] w2 (ResPost xs ys v w2)) := resolve_of _ _ xs ys v w2 hv (HNx.out w2 (Below.refl _ _)) (fun W hW => HNy.out W hW)
  go_wp2_with fail
  refine HRes.out.mono ?_
  rintro e w3 ⟨v3, rfl, ho3, hb3⟩
  obtain ⟨ad3, cap3, rfl, hi3⟩ := own_ints ho3
  have HB23 : Hid (Below w2.heap.size w2 w3) := hb3
  have HB3 : Hid (Below w.heap.size w w3) := below_next HB2.out hb3
  have HI3 : Hid (Ints w3 ad3 (rSet xs ys v)) := hi3
  clear ho3 hb3 hi3 HRes
  have HRef : Hid (Calls Tryd.prog 29 #[.slice ad xs.length c, .slice bd ys.length d, .int .i64 v] w3 (ResPost xs ys v w3)) := rresolve_any ad bd xs ys c d v w3 (HS.out.1.ints.below HB3.out) (HS.out.2.ints.below HB3.out) (by omega) (by omega)
  go_wp2_with fail
  refine HRef.out.mono ?_
  rintro e w4 ⟨v4, rfl, ho4, hb4⟩
  obtain ⟨ad4, cap4, rfl, hi4⟩ := own_ints ho4
  have HB24 : Hid (Below w2.heap.size w2 w4) := below_next HB23.out hb4
  have HB4 : Hid (Below w.heap.size w w4) := below_next HB3.out hb4
  have hrl : (rSet xs ys v).length ≤ 65536 := by
    unfold rSet
    split
    · next h =>
      unfold rErr at h
      split at h
      · contradiction
      · split at h
        · contradiction
        · split at h
          · omega
          · split at h
            · omega
            · split at h
              · omega
              · omega
    · simp
  have HSame : Hid (Calls Tryd.prog 13 #[.slice ad3 (rSet xs ys v).length cap3, .slice ad4 (rSet xs ys v).length cap4] w4 fun e w' => e = .returned (.bool true) ∧ ∃ m, w' = w4.drewN m) := by
    have := lsame_any ad3 ad4 (rSet xs ys v) (rSet xs ys v) cap3 cap4 w4 (HI3.out.below hb4) hi4 (by omega)
    rw [decide_eq_true rfl] at this
    exact this
  clear ho4 hb4 hi4 HRef HI3 hrl
  generalize rErr xs ys v = E at *
  generalize (rSet xs ys v).length = q at *
  go_wp2_with fail
  refine (HN.out _ _).mono ?_
  rintro e w' ⟨rfl, hw⟩
  obtain rfl := hw.symm
  go_wp2_with fail
  refine HSame.out.mono ?_
  rintro e w5 ⟨rfl, m5, hw5⟩
  have HB25 : Hid (Below w2.heap.size w2 w5) := below_next HB24.out (dn_below hw5)
  have HB5 : Hid (Below w.heap.size w w5) := below_next HB4.out (dn_below hw5)
  clear hw5 HSame
  have HQ1 : Hid (Calls Tryd.prog 30 #[.slice (some ⟨w.heap.size, 0, none⟩) xs.length (xs.length + 2), .slice (some ⟨w1.heap.size, 0, none⟩) ys.length (ys.length + 2)] w5 fun e w' => e = .returned (.bool (subB xs ys)) ∧ Below w5.heap.size w5 w') := subsumes_of _ _ xs ys w5 (HNx.out w5 HB25.out) (fun W hW => HNy.out W (below_next HB25.out hW))
  go_wp2_with fail
  refine HQ1.out.mono ?_
  rintro e w6 ⟨rfl, hb6⟩
  have HB26 : Hid (Below w2.heap.size w2 w6) := below_next HB25.out hb6
  have HB6 : Hid (Below w.heap.size w w6) := below_next HB5.out hb6
  clear hb6 HQ1
  have HQ2 : Hid (Calls Tryd.prog 31 #[.slice ad xs.length c, .slice bd ys.length d] w6 fun e w' => e = .returned (.bool (subB xs ys)) ∧ Below w6.heap.size w6 w') := rsubsumes_any ad bd xs ys c d w6 (HS.out.1.ints.below HB6.out) (HS.out.2.ints.below HB6.out) (by omega) (by omega)
  go_wp2_with fail
  refine HQ2.out.mono ?_
  rintro e w7 ⟨rfl, hb7⟩
  have HB27 : Hid (Below w2.heap.size w2 w7) := below_next HB26.out hb7
  have HB7 : Hid (Below w.heap.size w w7) := below_next HB6.out hb7
  clear hb7 HQ2
  have HQ3 : Hid (Calls Tryd.prog 30 #[.slice (some ⟨w1.heap.size, 0, none⟩) ys.length (ys.length + 2), .slice (some ⟨w.heap.size, 0, none⟩) xs.length (xs.length + 2)] w7 fun e w' => e = .returned (.bool (subB ys xs)) ∧ Below w7.heap.size w7 w') := subsumes_of _ _ ys xs w7 (HNy.out w7 HB27.out) (fun W hW => HNx.out W (below_next HB27.out hW))
  generalize subB xs ys = r1 at *
  go_wp2_with fail
  refine HQ3.out.mono ?_
  rintro e w8 ⟨rfl, hb8⟩
  have HB28 : Hid (Below w2.heap.size w2 w8) := below_next HB27.out hb8
  have HB8 : Hid (Below w.heap.size w w8) := below_next HB7.out hb8
  clear hb8 HQ3
  have HQ4 : Hid (Calls Tryd.prog 31 #[.slice bd ys.length d, .slice ad xs.length c] w8 fun e w' => e = .returned (.bool (subB ys xs)) ∧ Below w8.heap.size w8 w') := rsubsumes_any bd ad ys xs d c w8 (HS.out.2.ints.below HB8.out) (HS.out.1.ints.below HB8.out) (by omega) (by omega)
  go_wp2_with fail
  refine HQ4.out.mono ?_
  rintro e w9 ⟨rfl, hb9⟩
  have HB29 : Hid (Below w2.heap.size w2 w9) := below_next HB28.out hb9
  have HB9 : Hid (Below w.heap.size w w9) := below_next HB8.out hb9
  clear hb9 HQ4
  have HK1 : Hid (Calls Tryd.prog 16 #[.slice (some ⟨w.heap.size, 0, none⟩) xs.length (xs.length + 2), .slice ad xs.length c] w9 fun e w' => e = .returned (.bool true) ∧ ∃ m, w' = w9.drewN m) := kept_any w.heap.size ad xs c w9 (HL2.out.below HB29.out) (HS.out.1.ints.below HB9.out) hl
  generalize subB ys xs = r2 at *
  go_wp2_with fail
  refine HK1.out.mono ?_
  rintro e w10 ⟨rfl, m10, hw10⟩
  have HB210 : Hid (Below w2.heap.size w2 w10) := below_next HB29.out (dn_below hw10)
  have HB10 : Hid (Below w.heap.size w w10) := below_next HB9.out (dn_below hw10)
  clear hw10 HK1
  have HK2 : Hid (Calls Tryd.prog 16 #[.slice (some ⟨w1.heap.size, 0, none⟩) ys.length (ys.length + 2), .slice bd ys.length d] w10 fun e w' => e = .returned (.bool true) ∧ ∃ m, w' = w10.drewN m) := kept_any w1.heap.size bd ys d w10 (HM2.out.below HB210.out) (HS.out.2.ints.below HB10.out) hl2
  go_wp2_with fail
  refine HK2.out.mono ?_
  rintro e w11 ⟨rfl, m11, hw11⟩
  have HB11 : Hid (Below w.heap.size w w11) := below_next HB10.out (dn_below hw11)
  clear hw11 HK2
  have HLv : Hid (Calls Tryd.prog 17 #[] w11 fun e w' => e = .returned (.bool true) ∧ Below w11.heap.size w11 w') := live_any w11 (HV.out.below HB11.out)
  go_wp2_with fail
  refine HLv.out.mono ?_
  rintro e w12 ⟨rfl, hb12⟩
  have HB12 : Hid (Below w.heap.size w w12) := below_next HB11.out hb12
  clear hb12
  go_wp2
  go_ret
  exact ⟨rfl, HB12.out⟩
end Go.Proofs.YtkiihbkcccikiaaDoor
