import Derived.Test.YtkiihbkcccikiaaDoorLend
namespace Go.Proofs.YtkiihbkcccikiaaDoor
open Go.ChangeShapes Go.WideShapes Go.ChangeAt Go.RowKit Go.Cn

set_option maxHeartbeats 4000000 in
set_option maxRecDepth 100000 in
theorem norms_walk (ad : Option Addr) (xs : List Int) (c : Nat) (l : Int) (w : World) (hs : Sl w ad c xs) (hl : xs.length ≤ 17592186044416) (hv : LV w) :
    Calls Tryd.prog 3 #[.slice ad xs.length c, .int .i64 l] w fun e w' => e = .returned (.bool true) ∧ Below w.heap.size w w' := by
  have HS : Hid (Sl w ad c xs) := hs
  have HV : Hid (LV w) := hv
  have HN : Hid (∀ x W, Calls Tryd.prog 12 #[.int .i64 x] W fun e w' => e = .returned (.int .i64 x) ∧ w' = W) := fun x W => no_any x W
  clear hs hv
  go_enter Tryd.func3, Tryd.ntmps3
  go_wp2_with fail
  refine (lent_any ad xs c w HS.out hl).mono ?_
  rintro e w1 ⟨rfl, hL1, hb1⟩
  have HL1 : Hid (Lent w1 w.heap.size xs) := hL1
  have HB1 : Hid (Below w.heap.size w w1) := hb1
  clear hL1 hb1
  have H1 : Hid (Calls Tryd.prog 10 #[.slice (some ⟨w.heap.size, 0, none⟩) xs.length (xs.length + 2)] w1 (NormPost xs w1)) := norm_any w.heap.size 0 (xs.length + 2) xs w1 HL1.out.ints (by omega)
  go_wp2_with fail
  refine H1.out.mono ?_
  rintro e w2 ⟨v2, rfl, ho2, hb2⟩
  obtain ⟨ad2, cap2, rfl, _⟩ := own_ints ho2
  have HO2 : Hid (w2.ownsRow w1.heap.size 3 1 (.slice ad2 (nSet xs).length cap2) (nSet xs).length ((nSet xs).map (Value.int .i64))) := ho2
  have HB2 : Hid (Below w.heap.size w w2) := below_next HB1.out hb2
  have HL2 : Hid (Lent w2 w.heap.size xs) := HL1.out.below hb2
  clear ho2 hb2 H1 HL1
  have H2 : Hid (Calls Tryd.prog 11 #[.slice ad xs.length c] w2 (NormPost xs w2)) := rnorm_any ad xs c w2 (HS.out.ints.below HB2.out) (by omega)
  go_wp2_with fail
  refine H2.out.mono ?_
  rintro e w3 ⟨v3, rfl, ho3, hb3⟩
  obtain ⟨ad3, cap3, rfl, hi3⟩ := own_ints ho3
  obtain ⟨_, _, e2, hi2⟩ := own_ints HO2.out
  cases e2
  have hnl : (nSet xs).length ≤ xs.length := by unfold nSet; split; exact setL_len xs; simp
  have HSame : Hid (Calls Tryd.prog 13 #[.slice ad2 (nSet xs).length cap2, .slice ad3 (nSet xs).length cap3] w3 fun e w' => e = .returned (.bool true) ∧ ∃ m, w' = w3.drewN m) := by
    have := lsame_any ad2 ad3 (nSet xs) (nSet xs) cap2 cap3 w3 (hi2.below hb3) hi3 (by omega)
    rw [decide_eq_true rfl] at this
    exact this
  have HB3 : Hid (Below w.heap.size w w3) := below_next HB2.out hb3
  have HL3 : Hid (Lent w3 w.heap.size xs) := HL2.out.below hb3
  clear ho3 hb3 hi3 hi2 H2 HO2 HL2
  generalize nErr xs = E at *
  generalize nTwo xs = T at *
  generalize (nSet xs).length = q at *
  go_wp2_with fail
  refine (HN.out _ _).mono ?_
  rintro e w' ⟨rfl, hw⟩
  obtain rfl := hw.symm
  go_wp2_with fail
  refine HSame.out.mono ?_
  rintro e w4 ⟨rfl, m4, hw4⟩
  have HB4 : Hid (Below w.heap.size w w4) := by rw [hw4]; exact below_dn HB3.out m4
  have HL4 : Hid (Lent w4 w.heap.size xs) := HL3.out.below (by rw [hw4]; exact below_dn (Below.refl _ _) m4)
  clear hw4 HSame HL3
  go_wp2_with fail
  refine (lit_any l _).mono ?_
  rintro e w' ⟨rfl, hw⟩
  obtain rfl := hw.symm
  go_wp2_with fail
  refine (rlit_any l _).mono ?_
  rintro e w' ⟨rfl, hw⟩
  obtain rfl := hw.symm
  have HK : Hid (Calls Tryd.prog 16 #[.slice (some ⟨w.heap.size, 0, none⟩) xs.length (xs.length + 2), .slice ad xs.length c] w4 fun e w' => e = .returned (.bool true) ∧ ∃ m, w' = w4.drewN m) := kept_any w.heap.size ad xs c w4 HL4.out (HS.out.ints.below HB4.out) hl
  generalize litB l = L at *
  go_wp2_with fail
  refine HK.out.mono ?_
  rintro e w5 ⟨rfl, m5, hw5⟩
  have HB5 : Hid (Below w.heap.size w w5) := by rw [hw5]; exact below_dn HB4.out m5
  clear hw5 HK
  have HLv : Hid (Calls Tryd.prog 17 #[] w5 fun e w' => e = .returned (.bool true) ∧ Below w5.heap.size w5 w') := live_any w5 (HV.out.below HB5.out)
  go_wp2_with fail
  refine HLv.out.mono ?_
  rintro e w6 ⟨rfl, hb6⟩
  have HB6 : Hid (Below w.heap.size w w6) := below_next HB5.out hb6
  clear hb6
  go_wp2
  go_ret
  exact ⟨rfl, HB6.out⟩
end Go.Proofs.YtkiihbkcccikiaaDoor
