import Derived.Test.YtokpjegiinggdaaGreatDoorSubs
namespace Go.Proofs.YtokpjegiinggdaaGreatDoor
open Go.ChangeShapes Go.WideShapes Go.ChangeAt Go.RowKit Go.Cn

theorem wo_lits {xs : List Int} {v : Int} (h : ∀ x ∈ xs, litB x = true) : ∀ x ∈ wo xs v, litB x = true := fun x hx => h x ((mem_wo x v xs).1 hx).1
set_option maxHeartbeats 4000000 in
set_option maxRecDepth 100000 in
theorem rresolve_any (ad bd : Option Addr) (xs ys : List Int) (c d : Nat) (v : Int) (w : World) (hi : Ints w ad xs) (hj : Ints w bd ys) (hl : xs.length ≤ 1000000000000000000) (hl2 : ys.length ≤ 1000000000000000000) :
    Calls Tryz.prog 22 #[.slice ad xs.length c, .slice bd ys.length d, .int .i64 v] w (ResPost xs ys v w) := by
  have HA : Hid (Calls Tryz.prog 49 #[.slice ad xs.length c] w (NormPost xs w)) := rnorm_any ad xs c w hi hl
  have HB : Hid (∀ W, Below w.heap.size w W → Calls Tryz.prog 49 #[.slice bd ys.length d] W (NormPost ys W)) := fun W hW => rnorm_any bd ys d W (hj.below hW) hl2
  have HI : Hid (∀ W, Below w.heap.size w W → Ints W ad xs ∧ Ints W bd ys) := fun W hW => ⟨hi.below hW, hj.below hW⟩
  clear hi hj
  by_cases h1 : nErr xs = 0
  rotate_left
  · have HP : Hid (∀ w', Below w.heap.size w w' → ResPost xs ys v w (.returned (.tuple #[.slice none 0 0, .int .i64 (nErr xs)])) w') := fun w' hb => resPost_bad (by unfold rErr; rw [if_pos h1]) h1 hb
    have hne : (nErr xs == 0) = false := by simpa using h1
    clear h1
    go_enter Tryz.func22, Tryz.ntmps22
    go_wp2_with fail
    refine HA.out.mono ?_
    rintro e w1 ⟨u, rfl, hown, hb1⟩
    have HB1 : Hid (Below w.heap.size w w1) := hb1
    clear hown hb1
    generalize nErr xs = E at *
    generalize hpost : ResPost xs ys v w = PP at *
    go_wp2
    first | go_ret2 | skip
    exact HP.out _ HB1.out
  by_cases h2 : nErr ys = 0
  rotate_left
  · have HP : Hid (∀ w', Below w.heap.size w w' → ResPost xs ys v w (.returned (.tuple #[.slice none 0 0, .int .i64 (nErr ys)])) w') := fun w' hb => resPost_bad (by unfold rErr; rw [if_neg (by simpa using h1), if_pos h2]) h2 hb
    have hne : (nErr ys == 0) = false := by simpa using h2
    clear h2
    go_enter Tryz.func22, Tryz.ntmps22
    go_wp2_with fail
    refine HA.out.mono ?_
    rintro e w1 ⟨u, rfl, hown, hb1⟩
    have HB1 : Hid (Below w.heap.size w w1) := hb1
    clear hown hb1
    rw [h1]
    go_wp2_with fail
    refine (HB.out _ HB1.out).mono ?_
    rintro e w2 ⟨u2, rfl, hown2, hb2⟩
    have HB2 : Hid (Below w.heap.size w w2) := below_next HB1.out hb2
    clear hown2 hb2
    generalize nErr ys = E at *
    generalize hpost : ResPost xs ys v w = PP at *
    go_wp2
    first | go_ret2 | skip
    exact HP.out _ HB2.out
  obtain ⟨lx, nx, _⟩ := nErr_zero h1
  obtain ⟨ly, ny, _⟩ := nErr_zero h2
  have HE : Hid (rErr xs ys v = if v < 1 ∨ 1048576 < v then 20 else if v ∉ xs ∨ -v ∉ ys then 22 else if 65536 < (rAll xs ys v).length then 22 else 0) := by
    show rErr xs ys v = _
    unfold rErr
    rw [if_neg (by simpa using h1), if_neg (by simpa using h2)]
  by_cases hr : v < 1 ∨ 1048576 < v
  · have HP : Hid (∀ w', Below w.heap.size w w' → ResPost xs ys v w (.returned (.tuple #[.slice none 0 0, .int .i64 20])) w') := fun w' hb => resPost_bad (by rw [HE.out, if_pos hr]) (by omega) hb
    generalize hpost : ResPost xs ys v w = PP at *
    rcases hr with hr | hr
    · go_enter Tryz.func22, Tryz.ntmps22
      go_wp2_with fail
      refine HA.out.mono ?_
      rintro e w1 ⟨u, rfl, hown, hb1⟩
      have HB1 : Hid (Below w.heap.size w w1) := hb1
      clear hown hb1
      rw [h1]
      go_wp2_with fail
      refine (HB.out _ HB1.out).mono ?_
      rintro e w2 ⟨u2, rfl, hown2, hb2⟩
      have HB2 : Hid (Below w.heap.size w w2) := below_next HB1.out hb2
      clear hown2 hb2
      rw [h2]
      go_wp2
      first | go_ret2 | skip
      exact HP.out _ HB2.out
    · have hr1 : ¬ v < 1 := by omega
      go_enter Tryz.func22, Tryz.ntmps22
      go_wp2_with fail
      refine HA.out.mono ?_
      rintro e w1 ⟨u, rfl, hown, hb1⟩
      have HB1 : Hid (Below w.heap.size w w1) := hb1
      clear hown hb1
      rw [h1]
      go_wp2_with fail
      refine (HB.out _ HB1.out).mono ?_
      rintro e w2 ⟨u2, rfl, hown2, hb2⟩
      have HB2 : Hid (Below w.heap.size w w2) := below_next HB1.out hb2
      clear hown2 hb2
      rw [h2]
      go_wp2
      first | go_ret2 | skip
      exact HP.out _ HB2.out
  have hr1 : 1 ≤ v := by omega
  have hr2 : v ≤ 1048576 := by omega
  have HE2 : Hid (rErr xs ys v = if v ∉ xs ∨ -v ∉ ys then 22 else if 65536 < (rAll xs ys v).length then 22 else 0) := by
    show rErr xs ys v = _
    rw [HE.out, if_neg hr]
  clear hr HE
  have HH1 : Hid (∀ W, Below w.heap.size w W → Calls Tryz.prog 21 #[.slice ad xs.length c, .int .i64 v] W fun e w' => e = .returned (.bool (decide (v ∈ xs))) ∧ w' = W) := fun W hW => rhas_any ad xs c v W (HI.out W hW).1 hl
  have HH2 : Hid (∀ W, Below w.heap.size w W → Calls Tryz.prog 21 #[.slice bd ys.length d, .int .i64 (-v)] W fun e w' => e = .returned (.bool (decide (-v ∈ ys))) ∧ w' = W) := fun W hW => rhas_any bd ys d (-v) W (HI.out W hW).2 hl2
  by_cases hm1 : v ∈ xs
  rotate_left
  · have HP : Hid (∀ w', Below w.heap.size w w' → ResPost xs ys v w (.returned (.tuple #[.slice none 0 0, .int .i64 22])) w') := fun w' hb => resPost_bad (by rw [HE2.out, if_pos (Or.inl hm1)]) (by omega) hb
    have HH3 : Hid (∀ W, Below w.heap.size w W → Calls Tryz.prog 21 #[.slice ad xs.length c, .int .i64 v] W fun e w' => e = .returned (.bool false) ∧ w' = W) := by
      intro W hW; have := HH1.out W hW; rw [decide_eq_false hm1] at this; exact this
    clear hm1
    generalize hpost : ResPost xs ys v w = PP at *
    go_enter Tryz.func22, Tryz.ntmps22
    go_wp2_with fail
    refine HA.out.mono ?_
    rintro e w1 ⟨u, rfl, hown, hb1⟩
    have HB1 : Hid (Below w.heap.size w w1) := hb1
    clear hown hb1
    rw [h1]
    go_wp2_with fail
    refine (HB.out _ HB1.out).mono ?_
    rintro e w2 ⟨u2, rfl, hown2, hb2⟩
    have HB2 : Hid (Below w.heap.size w w2) := below_next HB1.out hb2
    clear hown2 hb2
    rw [h2]
    go_wp2_with fail
    refine (HH3.out _ HB2.out).mono ?_
    rintro e w3 ⟨rfl, hw3⟩
    obtain rfl := hw3.symm
    go_wp2
    first | go_ret2 | skip
    exact HP.out _ HB2.out
  have HH3 : Hid (∀ W, Below w.heap.size w W → Calls Tryz.prog 21 #[.slice ad xs.length c, .int .i64 v] W fun e w' => e = .returned (.bool true) ∧ w' = W) := by
    intro W hW; have := HH1.out W hW; rw [decide_eq_true hm1] at this; exact this
  by_cases hm2 : -v ∈ ys
  rotate_left
  · have HP : Hid (∀ w', Below w.heap.size w w' → ResPost xs ys v w (.returned (.tuple #[.slice none 0 0, .int .i64 22])) w') := fun w' hb => resPost_bad (by rw [HE2.out, if_pos (Or.inr hm2)]) (by omega) hb
    have HH4 : Hid (∀ W, Below w.heap.size w W → Calls Tryz.prog 21 #[.slice bd ys.length d, .int .i64 (-v)] W fun e w' => e = .returned (.bool false) ∧ w' = W) := by
      intro W hW; have := HH2.out W hW; rw [decide_eq_false hm2] at this; exact this
    clear hm1 hm2
    generalize hpost : ResPost xs ys v w = PP at *
    go_enter Tryz.func22, Tryz.ntmps22
    go_wp2_with fail
    refine HA.out.mono ?_
    rintro e w1 ⟨u, rfl, hown, hb1⟩
    have HB1 : Hid (Below w.heap.size w w1) := hb1
    clear hown hb1
    rw [h1]
    go_wp2_with fail
    refine (HB.out _ HB1.out).mono ?_
    rintro e w2 ⟨u2, rfl, hown2, hb2⟩
    have HB2 : Hid (Below w.heap.size w w2) := below_next HB1.out hb2
    clear hown2 hb2
    rw [h2]
    go_wp2_with fail
    refine (HH3.out _ HB2.out).mono ?_
    rintro e w3 ⟨rfl, hw3⟩
    obtain rfl := hw3.symm
    go_wp2_with fail
    refine (HH4.out _ HB2.out).mono ?_
    rintro e w3 ⟨rfl, hw3⟩
    obtain rfl := hw3.symm
    go_wp2
    first | go_ret2 | skip
    exact HP.out _ HB2.out
  have HH4 : Hid (∀ W, Below w.heap.size w W → Calls Tryz.prog 21 #[.slice bd ys.length d, .int .i64 (-v)] W fun e w' => e = .returned (.bool true) ∧ w' = W) := by
    intro W hW; have := HH2.out W hW; rw [decide_eq_true hm2] at this; exact this
  have HE3 : Hid (rErr xs ys v = if 65536 < (rAll xs ys v).length then 22 else 0) := by
    show rErr xs ys v = _
    rw [HE2.out, if_neg]
    rintro (h | h)
    · exact h hm1
    · exact h hm2
  have HP1 : Hid (65536 < (rAll xs ys v).length → ∀ w', Below w.heap.size w w' → ResPost xs ys v w (.returned (.tuple #[.slice none 0 0, .int .i64 22])) w') := fun h w' hb => resPost_bad (by rw [HE3.out, if_pos h]) (by omega) hb
  have HP2 : Hid (¬ 65536 < (rAll xs ys v).length → ∀ w' u, w'.ownsRow w.heap.size 3 1 u (rAll xs ys v).length ((rAll xs ys v).map (Value.int .i64)) → Below w.heap.size w w' → ResPost xs ys v w (.returned (.tuple #[u, .int .i64 0])) w') := fun h w' u ho hb => resPost_ok (by rw [HE3.out, if_neg h]) ho hb
  have hlenR : (rAll xs ys v).length ≤ 131072 := by
    have h1 := setL_len (wo xs v ++ wo ys (-v))
    rw [List.length_append] at h1
    have h2 := wo_len xs v
    have h3 := wo_len ys (-v)
    unfold rAll
    omega
  have HSet : Hid (∀ W ad1 cap1, Ints W ad1 (wo xs v ++ wo ys (-v)) → Calls Tryz.prog 46 #[.slice ad1 (wo xs v ++ wo ys (-v)).length cap1] W fun e w' => ∃ u, e = .returned u ∧ w'.ownsRow W.heap.size 3 1 u (rAll xs ys v).length ((rAll xs ys v).map (Value.int .i64)) ∧ Below W.heap.size W w') := by
    intro W ad1 cap1 hin
    have h2 := wo_len xs v
    have h3 := wo_len ys (-v)
    exact rset_any ad1 (wo xs v ++ wo ys (-v)) cap1 W hin (by rw [List.length_append]; omega) (fun x hx => by
      rcases List.mem_append.1 hx with h | h
      · exact wo_lits lx x h
      · exact wo_lits ly x h)
  obtain ⟨i0, hi0, hz0, hz1, hz2⟩ := info_parts Tryz.info3
  have HWl : Hid (∀ k, (wo (xs.take k) v).length ≤ k) := fun k => Nat.le_trans (wo_len _ _) (by simp; omega)
  have HWm : Hid (∀ k, (wo xs v ++ wo (ys.take k) (-v)).length ≤ xs.length + k) := fun k => by
    rw [List.length_append]
    have h2 := wo_len xs v
    have h3 := wo_len (ys.take k) (-v)
    simp at h3
    omega
  have HF1 : Hid (wo (xs.take xs.length) v = wo xs v ++ wo (ys.take 0) (-v)) := by show wo (xs.take xs.length) v = _; simp [wo]
  have HF2 : Hid (ys.take ys.length = ys) := List.take_length
  clear hm1 hm2 HH1 HH2 HE2 HE3 lx ly
  generalize hpost : ResPost xs ys v w = PP at *
  clear hpost
  go_enter Tryz.func22, Tryz.ntmps22
  go_wp2_with fail
  refine HA.out.mono ?_
  rintro e w1 ⟨u, rfl, hown, hb1⟩
  have HB1 : Hid (Below w.heap.size w w1) := hb1
  clear hown hb1
  rw [h1]
  go_wp2_with fail
  refine (HB.out _ HB1.out).mono ?_
  rintro e w2 ⟨u2, rfl, hown2, hb2⟩
  have HB2 : Hid (Below w.heap.size w w2) := below_next HB1.out hb2
  clear hown2 hb2
  rw [h2]
  clear h1 h2 HA HB
  go_wp2_with fail
  refine (HH3.out _ HB2.out).mono ?_
  rintro e w3 ⟨rfl, hw3⟩
  obtain rfl := hw3.symm
  go_wp2_with fail
  refine (HH4.out _ HB2.out).mono ?_
  rintro e w3 ⟨rfl, hw3⟩
  obtain rfl := hw3.symm
  have hs2 : w.heap.size ≤ w2.heap.size := HB2.out.size
  go_wp2
  go_loopg [11, 12] xs.length (fun gk s i wr => ∃ k : Nat, i = .int .i64 k ∧ k + gk = xs.length ∧ Aside (wr.ownsRow w2.heap.size 3 1 s (wo (xs.take k) v).length ((wo (xs.take k) v).map (Value.int .i64))) ∧ Aside (Below w2.heap.size w2 wr))
  case atStart => exact ⟨0, rfl, by omega, World.ownsRow_nil _ _ _ _, Below.refl _ _⟩
  case round =>
    obtain ⟨k, rfl, hk, HO, HBl⟩ := hrel
    by_cases hlt : k < xs.length
    · obtain ⟨b, off, rfl, hb, hc⟩ := (HI.out wr (below_next HB2.out HBl.out)).1 (by omega)
      have ck := hc k hlt
      have HX0 : Aside (xs.take (k + 1) = xs.take k ++ [xs.getD k 0]) := take_succ_getD xs k hlt
      generalize xs.getD k 0 = x at *
      have hSl := HWl.out k
      have hsz := HBl.out.size
      by_cases he : x = v
      · have HS : Aside (wo (xs.take (k + 1)) v = wo (xs.take k) v) := by
          show wo (xs.take (k + 1)) v = _
          rw [HX0.out, he]; exact wo_snoc_eq _ _
        subst he
        clear hc
        go_wp2
        go_roundg (gk - 1)
        case measure => omega
        case rel => exact ⟨k + 1, by simp, by omega, by rw [HS.out]; exact HO, HBl⟩
      · have heb : (x == v) = false := by simpa using he
        have HS : Aside (wo (xs.take (k + 1)) v = wo (xs.take k) v ++ [x]) := by
          show wo (xs.take (k + 1)) v = _
          rw [HX0.out]; exact wo_snoc_ne _ he
        clear he hc
        go_wp2_with (at_builtin; refine wpList_append_own _ rfl _ _ 36 rfl w2.heap.size 3 i0 (.int .i64 0) 1 8 Tryz.underlying36 hi0 hz0 hz1 hz2 rfl (by decide) _ _ _ rfl (HO.out.alloc _) ⟨wr.heap.size, 0, none⟩ 1 1 [.int .i64 x] rfl rfl (cell_one_new _ _ _) (ints_oneCell .i64 [x]) (by unfold maxLen; omega) (by omega) (by simp; omega) ?_; intro v4 w4 hown4 hgrow4 hnil4; have HO4 : Aside (w4.ownsRow w2.heap.size 3 1 v4 ((wo (xs.take k) v).length + 1) ((wo (xs.take k) v).map (Value.int .i64) ++ [.int .i64 x])) := hown4; have HB4 : Aside (Below w2.heap.size w2 w4) := below_append HBl.out hsz HO.out hgrow4; clear hown4 hgrow4 hnil4)
        go_roundg (gk - 1)
        case measure => omega
        case rel =>
          refine ⟨k + 1, by simp, by omega, ?_, HB4⟩
          rw [HS.out, List.map_append, List.length_append]
          exact HO4
    · obtain rfl : k = xs.length := by omega
      have HO5 : Aside (wr.ownsRow w2.heap.size 3 1 u11 (wo xs v ++ wo (ys.take 0) (-v)).length ((wo xs v ++ wo (ys.take 0) (-v)).map (Value.int .i64))) := by
        rw [← HF1.out]; exact HO
      clear HO
      go_wp2
      go_loopg [11, 13] ys.length (fun gj s i ws => ∃ k : Nat, i = .int .i64 k ∧ k + gj = ys.length ∧ Aside (ws.ownsRow w2.heap.size 3 1 s (wo xs v ++ wo (ys.take k) (-v)).length ((wo xs v ++ wo (ys.take k) (-v)).map (Value.int .i64))) ∧ Aside (Below w2.heap.size w2 ws))
      case atStart => exact ⟨0, rfl, by omega, HO5, HBl⟩
      case round =>
        clear HO5 HBl
        obtain ⟨k, rfl, hk, HO, HBl⟩ := hrel
        by_cases hlt : k < ys.length
        · obtain ⟨b, off, rfl, hb, hc⟩ := (HI.out wr (below_next HB2.out HBl.out)).2 (by omega)
          have ck := hc k hlt
          have HX0 : Aside (ys.take (k + 1) = ys.take k ++ [ys.getD k 0]) := take_succ_getD ys k hlt
          generalize ys.getD k 0 = x at *
          have hSl := HWm.out k
          have hsz := HBl.out.size
          by_cases he : x = -v
          · have HS : Aside (wo xs v ++ wo (ys.take (k + 1)) (-v) = wo xs v ++ wo (ys.take k) (-v)) := by
              show wo xs v ++ wo (ys.take (k + 1)) (-v) = _
              rw [HX0.out, he, wo_snoc_eq]
            subst he
            clear hc
            go_wp2
            go_roundg (ys.length - k - 1)
            case measure => omega
            case rel => exact ⟨k + 1, by simp, by omega, by rw [HS.out]; exact HO, HBl⟩
          · have heb : (x == -v) = false := by simpa using he
            have HS : Aside (wo xs v ++ wo (ys.take (k + 1)) (-v) = wo xs v ++ wo (ys.take k) (-v) ++ [x]) := by
              show wo xs v ++ wo (ys.take (k + 1)) (-v) = _
              rw [HX0.out, wo_snoc_ne _ he, List.append_assoc]
            clear he hc
            generalize wo xs v ++ wo (ys.take k) (-v) = Q at *
            go_wp2_with (at_builtin; refine wpList_append_own _ rfl _ _ 36 rfl w2.heap.size 3 i0 (.int .i64 0) 1 8 Tryz.underlying36 hi0 hz0 hz1 hz2 rfl (by decide) _ _ _ rfl (HO.out.alloc _) ⟨wr.heap.size, 0, none⟩ 1 1 [.int .i64 x] rfl rfl (cell_one_new _ _ _) (ints_oneCell .i64 [x]) (by unfold maxLen; omega) (by omega) (by simp; omega) ?_; intro v4 w4 hown4 hgrow4 hnil4; have HO4 : Aside (w4.ownsRow w2.heap.size 3 1 v4 (Q.length + 1) (Q.map (Value.int .i64) ++ [.int .i64 x])) := hown4; have HB4 : Aside (Below w2.heap.size w2 w4) := below_append HBl.out hsz HO.out hgrow4; clear hown4 hgrow4 hnil4)
            go_roundg (ys.length - k - 1)
            case measure => omega
            case rel =>
              refine ⟨k + 1, by simp, by omega, ?_, HB4⟩
              rw [HS.out, List.map_append, List.length_append]
              exact HO4
        · obtain rfl : k = ys.length := by omega
          have hO6 := HO.out
          rw [HF2.out] at hO6
          obtain ⟨ad6, cap6, rfl, hi6⟩ := own_ints hO6
          have HB6 : Hid (Below w.heap.size w wr) := below_next HB2.out HBl.out
          have HS6 : Hid (Calls Tryz.prog 46 #[.slice ad6 (wo xs v ++ wo ys (-v)).length cap6] wr fun e w' => ∃ u, e = .returned u ∧ w'.ownsRow wr.heap.size 3 1 u (rAll xs ys v).length ((rAll xs ys v).map (Value.int .i64)) ∧ Below wr.heap.size wr w') := HSet.out wr ad6 cap6 hi6
          clear hO6 hi6 HO HSet HF2 HF1
          generalize (wo xs v ++ wo ys (-v)).length = q at *
          generalize rAll xs ys v = RR at *
          by_cases hbig : 65536 < RR.length
          · have HP3 : Hid _ := HP1.out hbig
            go_wp2_with fail
            refine HS6.out.mono ?_
            rintro e w7 ⟨u7, rfl, ho7, hb7⟩
            obtain ⟨ad7, cap7, rfl, _⟩ := own_ints ho7
            have HB7 : Hid (Below w.heap.size w w7) := below_next HB6.out hb7
            clear ho7 hb7
            go_wp2
            first | go_ret2 | skip
            exact HP3.out _ HB7.out
          · have HP3 : Hid _ := HP2.out hbig
            go_wp2_with fail
            refine HS6.out.mono ?_
            rintro e w7 ⟨u7, rfl, ho7, hb7⟩
            obtain ⟨ad7, cap7, rfl, _⟩ := own_ints ho7
            have HB7 : Hid (Below w.heap.size w w7) := below_next HB6.out hb7
            have HO7 : Hid (w7.ownsRow w.heap.size 3 1 (.slice ad7 RR.length cap7) RR.length (RR.map (Value.int .i64))) := own_up ho7 HB6.out.size
            clear ho7 hb7
            go_wp2
            first | go_ret2 | skip
            exact HP3.out _ _ HO7.out HB7.out
end Go.Proofs.YtokpjegiinggdaaGreatDoor
