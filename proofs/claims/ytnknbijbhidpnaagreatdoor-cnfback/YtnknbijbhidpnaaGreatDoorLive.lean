import Derived.Test.YtnknbijbhidpnaaGreatDoorRef1
namespace Go.Proofs.YtnknbijbhidpnaaGreatDoor
open Go.ChangeShapes Go.WideShapes Go.ChangeAt Go.RowKit Go.Cn

/-- the package-level variables that the examples read -/
structure LV (w : World) : Prop where
  pow : PowT w.heap.size w
  l0 : w.cell? ⟨0, 0, none⟩ = some (.int .u64 12297829382473034410)
  l1 : w.cell? ⟨0, 1, none⟩ = some (.int .u64 14757395258967641292)
theorem LV.below {w w' : World} (h : LV w) (hb : Below w.heap.size w w') : LV w' :=
  have g0 : 0 < w.heap.size := block_lt_of_cell h.l0
  ⟨fun W hW => h.pow W (hb.trans (hW.mono hb.size)), (hb.cell (p := ⟨0, 0, none⟩) g0).trans h.l0, (hb.cell (p := ⟨0, 1, none⟩) g0).trans h.l1⟩
theorem ints_new (w : World) (xs : List Int) (cs : Array Value) (t : TypeId) (h : cs = (xs.map (Value.int .i64)).toArray) : Ints (w.alloc (.cells cs t)) (some ⟨w.heap.size, 0, none⟩) xs := by
  intro _
  refine ⟨w.heap.size, 0, rfl, by rw [sz1]; omega, fun j hj => ?_⟩
  rw [Nat.zero_add, blk_cell (heap_alloc_at w _) j, h, List.getElem?_toArray]
  exact map_get xs j hj
theorem ex1 : nErr [3, -1, 3, 1] = 0 ∧ nTwo [3, -1, 3, 1] = true ∧ nSet [3, -1, 3, 1] = [1, -1, 3] := by decide
theorem ex2 : rErr [1, 2] [-1, 3] 1 = 0 ∧ rSet [1, 2] [-1, 3] 1 = [2, 3] := by decide
theorem below_a (w : World) (o : Obj) : Below w.heap.size w (w.alloc o) := (Below.refl _ _).alloc (Nat.le_refl _) o
set_option maxHeartbeats 4000000 in
set_option maxRecDepth 100000 in
theorem live_any (w : World) (h : LV w) : Calls Tryz.prog 4 #[] w fun e w' => e = .returned (.bool true) ∧ Below w.heap.size w w' := by
  have H1 : Hid (Calls Tryz.prog 10 #[.slice (some ⟨w.heap.size, 0, none⟩) 4 4] (w.alloc (.cells #[.int .i64 3, .int .i64 (-1), .int .i64 3, .int .i64 1] 3)) fun e w' => ∃ v, e = .returned (.tuple #[v, .bool true, .int .i64 0]) ∧ w'.ownsRow w.heap.size 3 1 v 3 ([1, -1, 3].map (Value.int .i64)) ∧ Below w.heap.size w w') := by
    have hn := norm_any w.heap.size 0 4 [3, -1, 3, 1] (w.alloc (.cells #[.int .i64 3, .int .i64 (-1), .int .i64 3, .int .i64 1] 3)) (ints_new w _ _ _ rfl) (by decide)
    refine hn.mono fun e w' ⟨v, he, ho, hb⟩ => ⟨v, ?_, ?_, below_next (below_a _ _) hb⟩
    · rw [he, ex1.1, ex1.2.1]
    · rw [ex1.2.2] at ho; exact own_up ho (by rw [sz1]; omega)
  go_enter Tryz.func4, Tryz.ntmps4
  go_wp2_with fail
  refine H1.out.mono ?_
  rintro e w1 ⟨v1, rfl, ho1, hb1⟩
  obtain ⟨ad1, cap1, rfl, _⟩ := own_ints (xs := [1, -1, 3]) ho1
  have HO1 : Hid (w1.ownsRow w.heap.size 3 1 (.slice ad1 3 cap1) 3 ([1, -1, 3].map (Value.int .i64))) := ho1
  have HB1 : Hid (Below w.heap.size w w1) := hb1
  clear ho1 hb1 H1
  have H2 : Hid (Calls Tryz.prog 11 #[.slice (some ⟨w1.heap.size, 0, none⟩) 2 2, .slice (some ⟨w1.heap.size + 1, 0, none⟩) 2 2, .int .i64 1] ((w1.alloc (.cells #[.int .i64 1, .int .i64 2] 3)).alloc (.cells #[.int .i64 (-1), .int .i64 3] 3)) fun e w' => ∃ v, e = .returned (.tuple #[v, .int .i64 0]) ∧ w'.ownsRow w.heap.size 3 1 v 2 ([2, 3].map (Value.int .i64)) ∧ Below w1.heap.size w1 w') := by
    have hb2 := (below_a w1 (.cells #[.int .i64 1, .int .i64 2] 3)).trans ((below_a (w1.alloc (.cells #[.int .i64 1, .int .i64 2] 3)) (.cells #[.int .i64 (-1), .int .i64 3] 3)).mono (by rw [sz1]; omega))
    have i1 : Ints ((w1.alloc (.cells #[.int .i64 1, .int .i64 2] 3)).alloc (.cells #[.int .i64 (-1), .int .i64 3] 3)) (some ⟨w1.heap.size, 0, none⟩) [1, 2] := (ints_new w1 [1, 2] _ _ rfl).below (below_a _ _)
    have i2 : Ints ((w1.alloc (.cells #[.int .i64 1, .int .i64 2] 3)).alloc (.cells #[.int .i64 (-1), .int .i64 3] 3)) (some ⟨w1.heap.size + 1, 0, none⟩) [-1, 3] := by
      have := ints_new (w1.alloc (.cells #[.int .i64 1, .int .i64 2] 3)) [-1, 3] #[.int .i64 (-1), .int .i64 3] 3 rfl
      rw [sz1] at this
      exact this
    have hr := resolve_of (.slice (some ⟨w1.heap.size, 0, none⟩) 2 2) (.slice (some ⟨w1.heap.size + 1, 0, none⟩) 2 2) [1, 2] [-1, 3] 1 _ (by decide) (norm_any w1.heap.size 0 2 [1, 2] _ i1 (by decide)) (fun W hW => norm_any (w1.heap.size + 1) 0 2 [-1, 3] W (i2.below hW) (by decide))
    refine hr.mono fun e w' ⟨v, he, ho, hb⟩ => ⟨v, ?_, ?_, below_next hb2 hb⟩
    · rw [he, ex2.1]
    · rw [ex2.2] at ho; exact own_up ho (by rw [sz2]; have := HB1.out.size; omega)
  go_wp2_with fail
  refine H2.out.mono ?_
  rintro e w2 ⟨v2, rfl, ho2, hb2⟩
  obtain ⟨ad2, cap2, rfl, _⟩ := own_ints (xs := [2, 3]) ho2
  have HO2 : Hid (w2.ownsRow w.heap.size 3 1 (.slice ad2 2 cap2) 2 ([2, 3].map (Value.int .i64))) := ho2
  have HO12 : Hid (w2.ownsRow w.heap.size 3 1 (.slice ad1 3 cap1) 3 ([1, -1, 3].map (Value.int .i64))) := own_below HO1.out hb2
  have HB2 : Hid (Below w.heap.size w w2) := below_next HB1.out hb2
  clear ho2 hb2 H2 HO1
  have H3 : Hid (Calls Tryz.prog 12 #[.agg #[.int .i64 2, .slice (some ⟨w2.heap.size + 1, 0, none⟩) 1 1]] ((w2.alloc (.cells #[.int .i64 1, .int .i64 2] 3)).alloc (.cells #[.slice (some ⟨w2.heap.size, 0, none⟩) 2 2] 37)) fun e w' => e = .returned (.tuple #[.int .u64 3, .int .i64 0]) ∧ Below w2.heap.size w2 w') := by
    have hb3 := (below_a w2 (.cells #[.int .i64 1, .int .i64 2] 3)).trans ((below_a (w2.alloc (.cells #[.int .i64 1, .int .i64 2] 3)) (.cells #[.slice (some ⟨w2.heap.size, 0, none⟩) 2 2] 37)).mono (by rw [sz1]; omega))
    have lv := (h.below HB2.out).below hb3
    have hc := count_one (some ⟨w2.heap.size + 1, 0, none⟩) 1 ((w2.alloc (.cells #[.int .i64 1, .int .i64 2] 3)).alloc (.cells #[.slice (some ⟨w2.heap.size, 0, none⟩) 2 2] 37)) (by
      intro _
      refine ⟨w2.heap.size + 1, 0, rfl, by rw [sz2]; omega, fun j hj => ?_⟩
      obtain rfl : j = 0 := by simpa using hj
      refine ⟨some ⟨w2.heap.size, 0, none⟩, 2, ?_, (ints_new w2 [1, 2] _ _ rfl).below (below_a _ _)⟩
      rw [Nat.zero_add, blk_cell (heap_alloc2_new w2 _ _) 0]; rfl) lv.pow lv.l0 lv.l1
    exact hc.mono fun e w' ⟨he, hb⟩ => ⟨he, below_next hb3 hb⟩
  go_wp2_with fail
  refine H3.out.mono ?_
  rintro e w3 ⟨rfl, hb3⟩
  have HO13 : Hid (w3.ownsRow w.heap.size 3 1 (.slice ad1 3 cap1) 3 ([1, -1, 3].map (Value.int .i64))) := own_below HO12.out hb3
  have HO23 : Hid (w3.ownsRow w.heap.size 3 1 (.slice ad2 2 cap2) 2 ([2, 3].map (Value.int .i64))) := own_below HO2.out hb3
  have HB3 : Hid (Below w.heap.size w w3) := below_next HB2.out hb3
  clear hb3 H3 HO12 HO2
  have HN : Hid (∀ x W, Calls Tryz.prog 6 #[.int .i64 x] W fun e w' => e = .returned (.int .i64 x) ∧ w' = W) := fun x W => no_any x W
  go_wp2_with fail
  refine (HN.out _ _).mono ?_
  rintro e w' ⟨rfl, hw⟩
  obtain rfl := hw.symm
  have S1 : Hid (Calls Tryz.prog 13 #[.slice ad1 3 cap1, .slice (some ⟨w3.heap.size, 0, none⟩) 3 3] (w3.alloc (.cells #[.int .i64 1, .int .i64 (-1), .int .i64 3] 3)) fun e w' => e = .returned (.bool true) ∧ ∃ m, w' = (w3.alloc (.cells #[.int .i64 1, .int .i64 (-1), .int .i64 3] 3)).drewN m) := by
    obtain ⟨_, _, e1, i1⟩ := own_ints (xs := [1, -1, 3]) HO13.out
    cases e1
    exact lsame_any ad1 (some ⟨w3.heap.size, 0, none⟩) [1, -1, 3] [1, -1, 3] cap1 3 _ (i1.below (below_a _ _)) (ints_new w3 [1, -1, 3] _ _ rfl) (by decide)
  go_wp2_with fail
  refine S1.out.mono ?_
  rintro e w4 ⟨rfl, m4, hw4⟩
  have hb4 : Below w3.heap.size w3 w4 := by rw [hw4]; exact below_dn (below_a _ _) m4
  have HB4 : Hid (Below w.heap.size w w4) := below_next HB3.out hb4
  have HO24 : Hid (w4.ownsRow w.heap.size 3 1 (.slice ad2 2 cap2) 2 ([2, 3].map (Value.int .i64))) := own_below HO23.out hb4
  clear hw4 hb4 S1
  go_wp2_with fail
  refine (HN.out _ _).mono ?_
  rintro e w' ⟨rfl, hw⟩
  obtain rfl := hw.symm
  have S2 : Hid (Calls Tryz.prog 13 #[.slice ad2 2 cap2, .slice (some ⟨w4.heap.size, 0, none⟩) 2 2] (w4.alloc (.cells #[.int .i64 2, .int .i64 3] 3)) fun e w' => e = .returned (.bool true) ∧ ∃ m, w' = (w4.alloc (.cells #[.int .i64 2, .int .i64 3] 3)).drewN m) := by
    obtain ⟨_, _, e1, i1⟩ := own_ints (xs := [2, 3]) HO24.out
    cases e1
    exact lsame_any ad2 (some ⟨w4.heap.size, 0, none⟩) [2, 3] [2, 3] cap2 2 _ (i1.below (below_a _ _)) (ints_new w4 [2, 3] _ _ rfl) (by decide)
  go_wp2_with fail
  refine S2.out.mono ?_
  rintro e w5 ⟨rfl, m5, hw5⟩
  have hb5 : Below w4.heap.size w4 w5 := by rw [hw5]; exact below_dn (below_a _ _) m5
  have HB5 : Hid (Below w.heap.size w w5) := below_next HB4.out hb5
  clear hw5 hb5 S2
  go_wp2_with fail
  refine (HN.out _ _).mono ?_
  rintro e w' ⟨rfl, hw⟩
  obtain rfl := hw.symm
  go_wp2
  go_ret
  exact ⟨rfl, HB5.out⟩
end Go.Proofs.YtnknbijbhidpnaaGreatDoor
