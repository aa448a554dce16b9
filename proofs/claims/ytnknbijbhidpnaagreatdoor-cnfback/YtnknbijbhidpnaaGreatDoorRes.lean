import Derived.Test.YtnknbijbhidpnaaGreatDoorUni
namespace Go.Proofs.YtnknbijbhidpnaaGreatDoor
open Go.ChangeShapes Go.WideShapes Go.ChangeAt Go.RowKit Go.Cn

/-- Resolve: what is left, and the error -/
def rAll (xs ys : List Int) (v : Int) : List Int := setL (wo xs v ++ wo ys (-v))
def rErr (xs ys : List Int) (v : Int) : Int :=
  if nErr xs ≠ 0 then nErr xs else if nErr ys ≠ 0 then nErr ys else if v < 1 ∨ 1048576 < v then 20 else if v ∉ xs ∨ -v ∉ ys then 22 else if 65536 < (rAll xs ys v).length then 22 else 0
def rSet (xs ys : List Int) (v : Int) : List Int := if rErr xs ys v = 0 then rAll xs ys v else []
def ResPost (xs ys : List Int) (v : Int) (w : World) (e : Ending) (w' : World) : Prop :=
  ∃ u, e = .returned (.tuple #[u, .int .i64 (rErr xs ys v)]) ∧ w'.ownsRow w.heap.size 3 1 u (rSet xs ys v).length ((rSet xs ys v).map (Value.int .i64)) ∧ Below w.heap.size w w'
theorem resPost_bad {xs ys : List Int} {v x : Int} {w w' : World} (h : rErr xs ys v = x) (h0 : x ≠ 0) (hb : Below w.heap.size w w') : ResPost xs ys v w (.returned (.tuple #[.slice none 0 0, .int .i64 x])) w' := by
  refine ⟨.slice none 0 0, by rw [h], ?_, hb⟩
  have e : rSet xs ys v = [] := by unfold rSet; rw [h, if_neg h0]
  rw [e]
  exact World.ownsRow_nil _ _ _ _
theorem resPost_ok {xs ys : List Int} {v : Int} {w w' : World} {u : Value} (h : rErr xs ys v = 0) (ho : w'.ownsRow w.heap.size 3 1 u (rAll xs ys v).length ((rAll xs ys v).map (Value.int .i64))) (hb : Below w.heap.size w w') : ResPost xs ys v w (.returned (.tuple #[u, .int .i64 0])) w' := by
  refine ⟨u, by rw [h], ?_, hb⟩
  have e : rSet xs ys v = rAll xs ys v := by unfold rSet; rw [if_pos h]
  rw [e]
  exact ho
theorem nErr_zero {xs : List Int} (h : nErr xs = 0) : (∀ x ∈ xs, litB x = true) ∧ xs.length ≤ 65536 ∧ nSet xs = setL xs := by
  have h' := h
  unfold nErr at h
  split at h
  · omega
  · split at h
    · next hb ha => exact ⟨List.all_eq_true.1 ha, by omega, by unfold nSet; rw [if_pos h']⟩
    · omega
theorem mem_wo (x v : Int) (l : List Int) : x ∈ wo l v ↔ x ∈ l ∧ x ≠ v := by
  unfold wo; rw [List.mem_filter]; simp
theorem setC_wo {l : List Int} (h : SetC l) (v : Int) : SetC (wo l v) := by
  unfold SetC at *
  exact h.sublist List.filter_sublist
theorem rAll_set (xs ys : List Int) (v : Int) : setL (wo (setL xs) v ++ wo (setL ys) (-v)) = rAll xs ys v := by
  unfold rAll
  apply setC_ext (setC_setL _) (setC_setL _)
  intro x
  rw [mem_setL, mem_setL, List.mem_append, List.mem_append, mem_wo, mem_wo, mem_wo, mem_wo, mem_setL, mem_setL]
theorem own_up {w : World} {B B' e n : Nat} {v : Value} {L : List Value} (h : w.ownsRow B e 1 v n L) (hB : B' ≤ B) : w.ownsRow B' e 1 v n L := by
  refine ⟨h.1, ?_⟩
  rcases h.2 with h0 | ⟨g, cap, cur, h1, h2, h3⟩
  · exact Or.inl h0
  · exact Or.inr ⟨g, cap, cur, h1, Nat.le_trans hB h2, h3⟩
/-- what is owned is old to whoever comes later -/
theorem own_below {w w' : World} {B e n : Nat} {v : Value} {L : List Value} (h : w.ownsRow B e 1 v n L) (hb : Below w.heap.size w w') : w'.ownsRow B e 1 v n L := by
  refine ⟨h.1, ?_⟩
  rcases h.2 with h0 | ⟨g, cap, cur, h1, h2, h3, h4⟩
  · exact Or.inl h0
  · exact Or.inr ⟨g, cap, cur, h1, h2, by rw [hb.block g (Array.getElem?_eq_some_iff.1 h3).1]; exact h3, h4⟩
theorem below_next {w w1 w2 : World} (h : Below w.heap.size w w1) (h2 : Below w1.heap.size w1 w2) : Below w.heap.size w w2 := h.trans (h2.mono h.size)
set_option maxHeartbeats 4000000 in
set_option maxRecDepth 100000 in
theorem resolve_of (va vb : Value) (xs ys : List Int) (v : Int) (w : World) (hv : -9223372036854775808 ≤ v ∧ v ≤ 9223372036854775807)
    (ha : Calls Tryz.prog 10 #[va] w (NormPost xs w)) (hb : ∀ W, Below w.heap.size w W → Calls Tryz.prog 10 #[vb] W (NormPost ys W)) :
    Calls Tryz.prog 11 #[va, vb, .int .i64 v] w (ResPost xs ys v w) := by
  have HA : Hid (Calls Tryz.prog 10 #[va] w (NormPost xs w)) := ha
  have HB : Hid (∀ W, Below w.heap.size w W → Calls Tryz.prog 10 #[vb] W (NormPost ys W)) := hb
  clear ha hb
  by_cases h1 : nErr xs = 0
  rotate_left
  · have HP : Hid (∀ w', Below w.heap.size w w' → ResPost xs ys v w (.returned (.tuple #[.slice none 0 0, .int .i64 (nErr xs)])) w') := fun w' hb => resPost_bad (by unfold rErr; rw [if_pos h1]) h1 hb
    have hne : (nErr xs == 0) = false := by simpa using h1
    clear h1
    go_enter Tryz.func11, Tryz.ntmps11
    go_wp2_with fail
    refine HA.out.mono ?_
    rintro e w1 ⟨u, rfl, hown, hb1⟩
    have HB1 : Hid (Below w.heap.size w w1) := hb1
    clear hown hb1
    generalize nErr xs = E at *
    generalize hpost : ResPost xs ys v w = PP at *
    go_wp2
    first | go_ret2 | skip
    exact HP.out _ HB1.out
  by_cases h2 : nErr ys = 0
  rotate_left
  · have HP : Hid (∀ w', Below w.heap.size w w' → ResPost xs ys v w (.returned (.tuple #[.slice none 0 0, .int .i64 (nErr ys)])) w') := fun w' hb => resPost_bad (by unfold rErr; rw [if_neg (by simpa using h1), if_pos h2]) h2 hb
    have hne : (nErr ys == 0) = false := by simpa using h2
    clear h2
    go_enter Tryz.func11, Tryz.ntmps11
    go_wp2_with fail
    refine HA.out.mono ?_
    rintro e w1 ⟨u, rfl, hown, hb1⟩
    have HB1 : Hid (Below w.heap.size w w1) := hb1
    clear hown hb1
    rw [h1]
    go_wp2_with fail
    refine (HB.out _ HB1.out).mono ?_
    rintro e w2 ⟨u2, rfl, hown2, hb2⟩
    have HB2 : Hid (Below w.heap.size w w2) := below_next HB1.out hb2
    clear hown2 hb2
    generalize nErr ys = E at *
    generalize hpost : ResPost xs ys v w = PP at *
    go_wp2
    first | go_ret2 | skip
    exact HP.out _ HB2.out
  obtain ⟨lx, nx, ex⟩ := nErr_zero h1
  obtain ⟨ly, ny, ey⟩ := nErr_zero h2
  have HE : Hid (rErr xs ys v = if v < 1 ∨ 1048576 < v then 20 else if v ∉ xs ∨ -v ∉ ys then 22 else if 65536 < (rAll xs ys v).length then 22 else 0) := by
    show rErr xs ys v = _
    unfold rErr
    rw [if_neg (by simpa using h1), if_neg (by simpa using h2)]
  have HA2 : Hid (Calls Tryz.prog 10 #[va] w fun e w' => ∃ ad cap, e = .returned (.tuple #[.slice ad (setL xs).length cap, .bool (nTwo xs), .int .i64 0]) ∧ w'.ownsRow w.heap.size 3 1 (.slice ad (setL xs).length cap) (setL xs).length ((setL xs).map (Value.int .i64)) ∧ Below w.heap.size w w') :=
    HA.out.mono fun e w' ⟨u, he, ho, hb⟩ => by
      rw [ex] at ho
      obtain ⟨ad, cap, hu, _⟩ := own_ints ho
      exact ⟨ad, cap, by rw [he, h1, hu], by rw [← hu]; exact ho, hb⟩
  have HB2 : Hid (∀ W, Below w.heap.size w W → Calls Tryz.prog 10 #[vb] W fun e w' => ∃ ad cap, e = .returned (.tuple #[.slice ad (setL ys).length cap, .bool (nTwo ys), .int .i64 0]) ∧ w'.ownsRow W.heap.size 3 1 (.slice ad (setL ys).length cap) (setL ys).length ((setL ys).map (Value.int .i64)) ∧ Below W.heap.size W w') :=
    fun W hW => (HB.out W hW).mono fun e w' ⟨u, he, ho, hb⟩ => by
      rw [ey] at ho
      obtain ⟨ad, cap, hu, _⟩ := own_ints ho
      exact ⟨ad, cap, by rw [he, h2, hu], by rw [← hu]; exact ho, hb⟩
  have HM : Hid ((v ∈ setL xs ↔ v ∈ xs) ∧ (-v ∈ setL ys ↔ -v ∈ ys)) := ⟨mem_setL _ _, mem_setL _ _⟩
  have HS : Hid (SetC (setL xs) ∧ SetC (setL ys) ∧ (∀ x ∈ setL xs, litB x = true) ∧ (∀ x ∈ setL ys, litB x = true)) := ⟨setC_setL _, setC_setL _, fun x hx => lx x ((mem_setL x _).1 hx), fun x hx => ly x ((mem_setL x _).1 hx)⟩
  have HR : Hid (setL (wo (setL xs) v ++ wo (setL ys) (-v)) = rAll xs ys v) := rAll_set xs ys v
  have sx := Nat.le_trans (setL_len xs) nx
  have sy := Nat.le_trans (setL_len ys) ny
  clear HA HB h1 h2 lx ly ex ey nx ny
  generalize setL xs = Sx at *
  generalize setL ys = Sy at *
  generalize nTwo xs = tx at *
  generalize nTwo ys = ty at *
  by_cases hr : v < 1 ∨ 1048576 < v
  · have HP : Hid (∀ w', Below w.heap.size w w' → ResPost xs ys v w (.returned (.tuple #[.slice none 0 0, .int .i64 20])) w') := fun w' hb => resPost_bad (by rw [HE.out, if_pos hr]) (by omega) hb
    generalize hpost : ResPost xs ys v w = PP at *
    rcases hr with hr | hr
    · go_enter Tryz.func11, Tryz.ntmps11
      go_wp2_with fail
      refine HA2.out.mono ?_
      rintro e w1 ⟨ad, cap, rfl, ho1, hb1⟩
      have HB1 : Hid (Below w.heap.size w w1) := hb1
      clear ho1 hb1
      go_wp2_with fail
      refine (HB2.out _ HB1.out).mono ?_
      rintro e w2 ⟨ad2, cap2, rfl, ho2, hb2⟩
      have HBb : Hid (Below w.heap.size w w2) := below_next HB1.out hb2
      clear ho2 hb2
      go_wp2
      first | go_ret2 | skip
      exact HP.out _ HBb.out
    · have hr1 : ¬ v < 1 := by omega
      go_enter Tryz.func11, Tryz.ntmps11
      go_wp2_with fail
      refine HA2.out.mono ?_
      rintro e w1 ⟨ad, cap, rfl, ho1, hb1⟩
      have HB1 : Hid (Below w.heap.size w w1) := hb1
      clear ho1 hb1
      go_wp2_with fail
      refine (HB2.out _ HB1.out).mono ?_
      rintro e w2 ⟨ad2, cap2, rfl, ho2, hb2⟩
      have HBb : Hid (Below w.heap.size w w2) := below_next HB1.out hb2
      clear ho2 hb2
      go_wp2
      first | go_ret2 | skip
      exact HP.out _ HBb.out
  have hlv : litB v = true := by rw [litB_iff]; omega
  have hln : litB (-v) = true := litB_neg hlv
  have HL : Hid (litB v = true ∧ litB (-v) = true) := ⟨hlv, hln⟩
  have hr1 : 1 ≤ v := by omega
  have hr2 : v ≤ 1048576 := by omega
  have HE2 : Hid (rErr xs ys v = if v ∉ xs ∨ -v ∉ ys then 22 else if 65536 < (rAll xs ys v).length then 22 else 0) := by
    show rErr xs ys v = _
    rw [HE.out, if_neg hr]
  clear hlv hln hr HE
  have HH1 : Hid (∀ W ad cap B, W.ownsRow B 3 1 (.slice ad Sx.length cap) Sx.length (Sx.map (Value.int .i64)) → Calls Tryz.prog 25 #[.slice ad Sx.length cap, .int .i64 v] W fun e w' => e = .returned (.bool (decide (v ∈ Sx))) ∧ Below W.heap.size W w') :=
    fun W ad cap B ho => has_any _ B Sx v W ho (by omega) HS.out.1 HS.out.2.2.1 HL.out.1
  have HH2 : Hid (∀ W ad cap B, W.ownsRow B 3 1 (.slice ad Sy.length cap) Sy.length (Sy.map (Value.int .i64)) → Calls Tryz.prog 25 #[.slice ad Sy.length cap, .int .i64 (-v)] W fun e w' => e = .returned (.bool (decide (-v ∈ Sy))) ∧ Below W.heap.size W w') :=
    fun W ad cap B ho => has_any _ B Sy (-v) W ho (by omega) HS.out.2.1 HS.out.2.2.2 HL.out.2
  by_cases hm1 : v ∈ Sx
  rotate_left
  · have HP : Hid (∀ w', Below w.heap.size w w' → ResPost xs ys v w (.returned (.tuple #[.slice none 0 0, .int .i64 22])) w') := fun w' hb => resPost_bad (by rw [HE2.out, if_pos (Or.inl (fun h => hm1 (HM.out.1.2 h)))]) (by omega) hb
    have HH3 : Hid (∀ W ad cap B, W.ownsRow B 3 1 (.slice ad Sx.length cap) Sx.length (Sx.map (Value.int .i64)) → Calls Tryz.prog 25 #[.slice ad Sx.length cap, .int .i64 v] W fun e w' => e = .returned (.bool false) ∧ Below W.heap.size W w') := by
      intro W ad cap B ho
      have := HH1.out W ad cap B ho
      rw [decide_eq_false hm1] at this
      exact this
    clear hm1
    generalize hpost : ResPost xs ys v w = PP at *
    go_enter Tryz.func11, Tryz.ntmps11
    go_wp2_with fail
    refine HA2.out.mono ?_
    rintro e w1 ⟨ad, cap, rfl, ho1, hb1⟩
    have HB1 : Hid (Below w.heap.size w w1) := hb1
    have HO1 : Hid (w1.ownsRow w.heap.size 3 1 (.slice ad Sx.length cap) Sx.length (Sx.map (Value.int .i64))) := ho1
    clear ho1 hb1
    go_wp2_with fail
    refine (HB2.out _ HB1.out).mono ?_
    rintro e w2 ⟨ad2, cap2, rfl, ho2, hb2⟩
    have HBb : Hid (Below w.heap.size w w2) := below_next HB1.out hb2
    have HH4 : Hid (Calls Tryz.prog 25 #[.slice ad Sx.length cap, .int .i64 v] w2 fun e w' => e = .returned (.bool false) ∧ Below w2.heap.size w2 w') := HH3.out w2 ad cap _ (own_below HO1.out hb2)
    clear ho2 hb2
    go_wp2_with fail
    refine HH4.out.mono ?_
    rintro e w3 ⟨rfl, hb3⟩
    have HBc : Hid (Below w.heap.size w w3) := below_next HBb.out hb3
    clear hb3
    go_wp2
    first | go_ret2 | skip
    exact HP.out _ HBc.out
  have HH3 : Hid (∀ W ad cap B, W.ownsRow B 3 1 (.slice ad Sx.length cap) Sx.length (Sx.map (Value.int .i64)) → Calls Tryz.prog 25 #[.slice ad Sx.length cap, .int .i64 v] W fun e w' => e = .returned (.bool true) ∧ Below W.heap.size W w') := by
    intro W ad cap B ho
    have := HH1.out W ad cap B ho
    rw [decide_eq_true hm1] at this
    exact this
  by_cases hm2 : -v ∈ Sy
  rotate_left
  · have HP : Hid (∀ w', Below w.heap.size w w' → ResPost xs ys v w (.returned (.tuple #[.slice none 0 0, .int .i64 22])) w') := fun w' hb => resPost_bad (by rw [HE2.out, if_pos (Or.inr (fun h => hm2 (HM.out.2.2 h)))]) (by omega) hb
    have HH5 : Hid (∀ W ad cap B, W.ownsRow B 3 1 (.slice ad Sy.length cap) Sy.length (Sy.map (Value.int .i64)) → Calls Tryz.prog 25 #[.slice ad Sy.length cap, .int .i64 (-v)] W fun e w' => e = .returned (.bool false) ∧ Below W.heap.size W w') := by
      intro W ad cap B ho
      have := HH2.out W ad cap B ho
      rw [decide_eq_false hm2] at this
      exact this
    clear hm1 hm2
    generalize hpost : ResPost xs ys v w = PP at *
    go_enter Tryz.func11, Tryz.ntmps11
    go_wp2_with fail
    refine HA2.out.mono ?_
    rintro e w1 ⟨ad, cap, rfl, ho1, hb1⟩
    have HB1 : Hid (Below w.heap.size w w1) := hb1
    have HO1 : Hid (w1.ownsRow w.heap.size 3 1 (.slice ad Sx.length cap) Sx.length (Sx.map (Value.int .i64))) := ho1
    clear ho1 hb1
    go_wp2_with fail
    refine (HB2.out _ HB1.out).mono ?_
    rintro e w2 ⟨ad2, cap2, rfl, ho2, hb2⟩
    have HBb : Hid (Below w.heap.size w w2) := below_next HB1.out hb2
    have HO2 : Hid (w2.ownsRow w1.heap.size 3 1 (.slice ad2 Sy.length cap2) Sy.length (Sy.map (Value.int .i64))) := ho2
    have HH4 : Hid (Calls Tryz.prog 25 #[.slice ad Sx.length cap, .int .i64 v] w2 fun e w' => e = .returned (.bool true) ∧ Below w2.heap.size w2 w') := HH3.out w2 ad cap _ (own_below HO1.out hb2)
    clear ho2 hb2
    go_wp2_with fail
    refine HH4.out.mono ?_
    rintro e w3 ⟨rfl, hb3⟩
    have HBc : Hid (Below w.heap.size w w3) := below_next HBb.out hb3
    have HH6 : Hid (Calls Tryz.prog 25 #[.slice ad2 Sy.length cap2, .int .i64 (-v)] w3 fun e w' => e = .returned (.bool false) ∧ Below w3.heap.size w3 w') := HH5.out w3 ad2 cap2 _ (own_below HO2.out hb3)
    clear hb3
    go_wp2_with fail
    refine HH6.out.mono ?_
    rintro e w4 ⟨rfl, hb4⟩
    have HBd : Hid (Below w.heap.size w w4) := below_next HBc.out hb4
    clear hb4
    go_wp2
    first | go_ret2 | skip
    exact HP.out _ HBd.out
  have HH5 : Hid (∀ W ad cap B, W.ownsRow B 3 1 (.slice ad Sy.length cap) Sy.length (Sy.map (Value.int .i64)) → Calls Tryz.prog 25 #[.slice ad Sy.length cap, .int .i64 (-v)] W fun e w' => e = .returned (.bool true) ∧ Below W.heap.size W w') := by
    intro W ad cap B ho
    have := HH2.out W ad cap B ho
    rw [decide_eq_true hm2] at this
    exact this
  have HE3 : Hid (rErr xs ys v = if 65536 < (rAll xs ys v).length then 22 else 0) := by
    show rErr xs ys v = _
    rw [HE2.out, if_neg]
    rintro (h | h)
    · exact h (HM.out.1.1 hm1)
    · exact h (HM.out.2.1 hm2)
  have HW : Hid (∀ W ad cap B (S : List Int) (l : Int), S.length ≤ 65536 → W.ownsRow B 3 1 (.slice ad S.length cap) S.length (S.map (Value.int .i64)) → Calls Tryz.prog 27 #[.slice ad S.length cap, .int .i64 l] W fun e w' => ∃ ad1 cap1, e = .returned (.slice ad1 (wo S l).length cap1) ∧ Sl w' ad1 cap1 (wo S l) ∧ Below W.heap.size W w') := by
    intro W ad cap B S l hs ho
    obtain ⟨ad0, cap0, e0, hi0⟩ := own_ints ho
    cases e0
    exact (without_any ad S cap l W hi0 (by omega)).mono fun e w' ⟨u, he, ho1, _, hb⟩ => by
      obtain ⟨ad1, cap1, hu, hsl⟩ := own_sl ho1
      exact ⟨ad1, cap1, by rw [he, hu], hsl, hb⟩
  have HU : Hid (∀ W ad cap ad1 cap1, Sl W ad cap (wo Sx v) → Sl W ad1 cap1 (wo Sy (-v)) → Calls Tryz.prog 26 #[.slice ad (wo Sx v).length cap, .slice ad1 (wo Sy (-v)).length cap1] W fun e w' => ∃ ad2 cap2, e = .returned (.slice ad2 (rAll xs ys v).length cap2) ∧ w'.ownsRow W.heap.size 3 1 (.slice ad2 (rAll xs ys v).length cap2) (rAll xs ys v).length ((rAll xs ys v).map (Value.int .i64)) ∧ Below W.heap.size W w') := by
    intro W ad cap ad1 cap1 s1 s2
    have hl1 := wo_len Sx v
    have hl2 := wo_len Sy (-v)
    have h := union_any ad ad1 (wo Sx v) (wo Sy (-v)) cap cap1 W s1 s2 (setC_wo HS.out.1 v) (setC_wo HS.out.2.1 (-v)) (fun x hx => HS.out.2.2.1 x ((mem_wo x v Sx).1 hx).1) (fun x hx => HS.out.2.2.2 x ((mem_wo x (-v) Sy).1 hx).1) (by omega) (by omega)
    rw [HR.out] at h
    exact h.mono fun e w' ⟨u, he, ho1, _, hb⟩ => by
      obtain ⟨ad1, cap1, hu, hsl⟩ := own_sl ho1
      exact ⟨ad1, cap1, by rw [he, hu], by rw [← hu]; exact ho1, hb⟩
  have HP1 : Hid (65536 < (rAll xs ys v).length → ∀ w', Below w.heap.size w w' → ResPost xs ys v w (.returned (.tuple #[.slice none 0 0, .int .i64 22])) w') := fun h w' hb => resPost_bad (by rw [HE3.out, if_pos h]) (by omega) hb
  have HP2 : Hid (¬ 65536 < (rAll xs ys v).length → ∀ w' u, w'.ownsRow w.heap.size 3 1 u (rAll xs ys v).length ((rAll xs ys v).map (Value.int .i64)) → Below w.heap.size w w' → ResPost xs ys v w (.returned (.tuple #[u, .int .i64 0])) w') := fun h w' u ho hb => resPost_ok (by rw [HE3.out, if_neg h]) ho hb
  have hlenR : (rAll xs ys v).length ≤ 131072 := by
    have h1 := setL_len (wo Sx v ++ wo Sy (-v))
    rw [HR.out, List.length_append] at h1
    have h2 := wo_len Sx v
    have h3 := wo_len Sy (-v)
    omega
  have HW1 : Hid (∀ W ad cap B, W.ownsRow B 3 1 (.slice ad Sx.length cap) Sx.length (Sx.map (Value.int .i64)) → Calls Tryz.prog 27 #[.slice ad Sx.length cap, .int .i64 v] W fun e w' => ∃ ad1 cap1, e = .returned (.slice ad1 (wo Sx v).length cap1) ∧ Sl w' ad1 cap1 (wo Sx v) ∧ Below W.heap.size W w') := fun W ad cap B ho => HW.out W ad cap B Sx v sx ho
  have HW2 : Hid (∀ W ad cap B, W.ownsRow B 3 1 (.slice ad Sy.length cap) Sy.length (Sy.map (Value.int .i64)) → Calls Tryz.prog 27 #[.slice ad Sy.length cap, .int .i64 (-v)] W fun e w' => ∃ ad1 cap1, e = .returned (.slice ad1 (wo Sy (-v)).length cap1) ∧ Sl w' ad1 cap1 (wo Sy (-v)) ∧ Below W.heap.size W w') := fun W ad cap B ho => HW.out W ad cap B Sy (-v) sy ho
  clear hm1 hm2 HH1 HH2 HR HM HS HE2 HE3 HW
  generalize rAll xs ys v = RR at *
  generalize wo Sx v = Ax at *
  generalize wo Sy (-v) = Ay at *
  generalize hpost : ResPost xs ys v w = PP at *
  clear hpost
  by_cases hbig : 65536 < RR.length
  · have HP3 : Hid _ := HP1.out hbig
    go_enter Tryz.func11, Tryz.ntmps11
    go_wp2_with fail
    refine HA2.out.mono ?_
    rintro e w1 ⟨ad, cap, rfl, ho1, hb1⟩
    have HB1 : Hid (Below w.heap.size w w1) := hb1
    have HO1 : Hid (w1.ownsRow w.heap.size 3 1 (.slice ad Sx.length cap) Sx.length (Sx.map (Value.int .i64))) := ho1
    clear ho1 hb1
    go_wp2_with fail
    refine (HB2.out _ HB1.out).mono ?_
    rintro e w2 ⟨ad2, cap2, rfl, ho2, hb2⟩
    have HBb : Hid (Below w.heap.size w w2) := below_next HB1.out hb2
    have HO2 : Hid (w2.ownsRow w1.heap.size 3 1 (.slice ad2 Sy.length cap2) Sy.length (Sy.map (Value.int .i64))) := ho2
    have HO12 : Hid (w2.ownsRow w.heap.size 3 1 (.slice ad Sx.length cap) Sx.length (Sx.map (Value.int .i64))) := own_below HO1.out hb2
    have HH4 : Hid (Calls Tryz.prog 25 #[.slice ad Sx.length cap, .int .i64 v] w2 fun e w' => e = .returned (.bool true) ∧ Below w2.heap.size w2 w') := HH3.out w2 ad cap _ HO12.out
    clear ho2 hb2
    go_wp2_with fail
    refine HH4.out.mono ?_
    rintro e w3 ⟨rfl, hb3⟩
    have HBc : Hid (Below w.heap.size w w3) := below_next HBb.out hb3
    have HO23 : Hid (w3.ownsRow w1.heap.size 3 1 (.slice ad2 Sy.length cap2) Sy.length (Sy.map (Value.int .i64))) := own_below HO2.out hb3
    have HO13 : Hid (w3.ownsRow w.heap.size 3 1 (.slice ad Sx.length cap) Sx.length (Sx.map (Value.int .i64))) := own_below HO12.out hb3
    have HH6 : Hid (Calls Tryz.prog 25 #[.slice ad2 Sy.length cap2, .int .i64 (-v)] w3 fun e w' => e = .returned (.bool true) ∧ Below w3.heap.size w3 w') := HH5.out w3 ad2 cap2 _ HO23.out
    clear hb3
    go_wp2_with fail
    refine HH6.out.mono ?_
    rintro e w4 ⟨rfl, hb4⟩
    have HBd : Hid (Below w.heap.size w w4) := below_next HBc.out hb4
    have HO24 : Hid (w4.ownsRow w1.heap.size 3 1 (.slice ad2 Sy.length cap2) Sy.length (Sy.map (Value.int .i64))) := own_below HO23.out hb4
    have HW3 : Hid (Calls Tryz.prog 27 #[.slice ad Sx.length cap, .int .i64 v] w4 fun e w' => ∃ ad1 cap1, e = .returned (.slice ad1 Ax.length cap1) ∧ Sl w' ad1 cap1 Ax ∧ Below w4.heap.size w4 w') := HW1.out w4 ad cap _ (own_below HO13.out hb4)
    clear hb4
    go_wp2_with fail
    refine HW3.out.mono ?_
    rintro e w5 ⟨ad5, cap5, rfl, hs5, hb5⟩
    have HBe : Hid (Below w.heap.size w w5) := below_next HBd.out hb5
    have HS5 : Hid (Sl w5 ad5 cap5 Ax) := hs5
    have HW4 : Hid (Calls Tryz.prog 27 #[.slice ad2 Sy.length cap2, .int .i64 (-v)] w5 fun e w' => ∃ ad1 cap1, e = .returned (.slice ad1 Ay.length cap1) ∧ Sl w' ad1 cap1 Ay ∧ Below w5.heap.size w5 w') := HW2.out w5 ad2 cap2 _ (own_below HO24.out hb5)
    clear hb5 hs5
    go_wp2_with fail
    refine HW4.out.mono ?_
    rintro e w6 ⟨ad6, cap6, rfl, hs6, hb6⟩
    have HBf : Hid (Below w.heap.size w w6) := below_next HBe.out hb6
    have HU2 : Hid (Calls Tryz.prog 26 #[.slice ad5 Ax.length cap5, .slice ad6 Ay.length cap6] w6 fun e w' => ∃ ad2 cap2, e = .returned (.slice ad2 RR.length cap2) ∧ w'.ownsRow w6.heap.size 3 1 (.slice ad2 RR.length cap2) RR.length (RR.map (Value.int .i64)) ∧ Below w6.heap.size w6 w') := HU.out w6 ad5 cap5 ad6 cap6 (HS5.out.below hb6) hs6
    clear hb6 hs6
    go_wp2_with fail
    refine HU2.out.mono ?_
    rintro e w7 ⟨ad7, cap7, rfl, ho7, hb7⟩
    have HBg : Hid (Below w.heap.size w w7) := below_next HBf.out hb7
    have HO7 : Hid (w7.ownsRow w.heap.size 3 1 (.slice ad7 RR.length cap7) RR.length (RR.map (Value.int .i64))) := own_up ho7 HBf.out.size
    clear hb7 ho7
    go_wp2
    first | go_ret2 | skip
    exact HP3.out _ HBg.out
  · have HP3 : Hid _ := HP2.out hbig
    go_enter Tryz.func11, Tryz.ntmps11
    go_wp2_with fail
    refine HA2.out.mono ?_
    rintro e w1 ⟨ad, cap, rfl, ho1, hb1⟩
    have HB1 : Hid (Below w.heap.size w w1) := hb1
    have HO1 : Hid (w1.ownsRow w.heap.size 3 1 (.slice ad Sx.length cap) Sx.length (Sx.map (Value.int .i64))) := ho1
    clear ho1 hb1
    go_wp2_with fail
    refine (HB2.out _ HB1.out).mono ?_
    rintro e w2 ⟨ad2, cap2, rfl, ho2, hb2⟩
    have HBb : Hid (Below w.heap.size w w2) := below_next HB1.out hb2
    have HO2 : Hid (w2.ownsRow w1.heap.size 3 1 (.slice ad2 Sy.length cap2) Sy.length (Sy.map (Value.int .i64))) := ho2
    have HO12 : Hid (w2.ownsRow w.heap.size 3 1 (.slice ad Sx.length cap) Sx.length (Sx.map (Value.int .i64))) := own_below HO1.out hb2
    have HH4 : Hid (Calls Tryz.prog 25 #[.slice ad Sx.length cap, .int .i64 v] w2 fun e w' => e = .returned (.bool true) ∧ Below w2.heap.size w2 w') := HH3.out w2 ad cap _ HO12.out
    clear ho2 hb2
    go_wp2_with fail
    refine HH4.out.mono ?_
    rintro e w3 ⟨rfl, hb3⟩
    have HBc : Hid (Below w.heap.size w w3) := below_next HBb.out hb3
    have HO23 : Hid (w3.ownsRow w1.heap.size 3 1 (.slice ad2 Sy.length cap2) Sy.length (Sy.map (Value.int .i64))) := own_below HO2.out hb3
    have HO13 : Hid (w3.ownsRow w.heap.size 3 1 (.slice ad Sx.length cap) Sx.length (Sx.map (Value.int .i64))) := own_below HO12.out hb3
    have HH6 : Hid (Calls Tryz.prog 25 #[.slice ad2 Sy.length cap2, .int .i64 (-v)] w3 fun e w' => e = .returned (.bool true) ∧ Below w3.heap.size w3 w') := HH5.out w3 ad2 cap2 _ HO23.out
    clear hb3
    go_wp2_with fail
    refine HH6.out.mono ?_
    rintro e w4 ⟨rfl, hb4⟩
    have HBd : Hid (Below w.heap.size w w4) := below_next HBc.out hb4
    have HO24 : Hid (w4.ownsRow w1.heap.size 3 1 (.slice ad2 Sy.length cap2) Sy.length (Sy.map (Value.int .i64))) := own_below HO23.out hb4
    have HW3 : Hid (Calls Tryz.prog 27 #[.slice ad Sx.length cap, .int .i64 v] w4 fun e w' => ∃ ad1 cap1, e = .returned (.slice ad1 Ax.length cap1) ∧ Sl w' ad1 cap1 Ax ∧ Below w4.heap.size w4 w') := HW1.out w4 ad cap _ (own_below HO13.out hb4)
    clear hb4
    go_wp2_with fail
    refine HW3.out.mono ?_
    rintro e w5 ⟨ad5, cap5, rfl, hs5, hb5⟩
    have HBe : Hid (Below w.heap.size w w5) := below_next HBd.out hb5
    have HS5 : Hid (Sl w5 ad5 cap5 Ax) := hs5
    have HW4 : Hid (Calls Tryz.prog 27 #[.slice ad2 Sy.length cap2, .int .i64 (-v)] w5 fun e w' => ∃ ad1 cap1, e = .returned (.slice ad1 Ay.length cap1) ∧ Sl w' ad1 cap1 Ay ∧ Below w5.heap.size w5 w') := HW2.out w5 ad2 cap2 _ (own_below HO24.out hb5)
    clear hb5 hs5
    go_wp2_with fail
    refine HW4.out.mono ?_
    rintro e w6 ⟨ad6, cap6, rfl, hs6, hb6⟩
    have HBf : Hid (Below w.heap.size w w6) := below_next HBe.out hb6
    have HU2 : Hid (Calls Tryz.prog 26 #[.slice ad5 Ax.length cap5, .slice ad6 Ay.length cap6] w6 fun e w' => ∃ ad2 cap2, e = .returned (.slice ad2 RR.length cap2) ∧ w'.ownsRow w6.heap.size 3 1 (.slice ad2 RR.length cap2) RR.length (RR.map (Value.int .i64)) ∧ Below w6.heap.size w6 w') := HU.out w6 ad5 cap5 ad6 cap6 (HS5.out.below hb6) hs6
    clear hb6 hs6
    go_wp2_with fail
    refine HU2.out.mono ?_
    rintro e w7 ⟨ad7, cap7, rfl, ho7, hb7⟩
    have HBg : Hid (Below w.heap.size w w7) := below_next HBf.out hb7
    have HO7 : Hid (w7.ownsRow w.heap.size 3 1 (.slice ad7 RR.length cap7) RR.length (RR.map (Value.int .i64))) := own_up ho7 HBf.out.size
    clear hb7 ho7
    go_wp2
    first | go_ret2 | skip
    exact HP3.out _ _ HO7.out HBg.out
end Go.Proofs.YtnknbijbhidpnaaGreatDoor
