import Derived.Test.YtkiihbkcccikiabDoorRes
namespace Go.Proofs.YtkiihbkcccikiabDoor
open Go.ChangeShapes Go.WideShapes Go.ChangeAt Go.RowKit Go.Cn

/-- Subsumes -/
def subB (xs ys : List Int) : Bool := if nErr xs ≠ 0 ∨ nErr ys ≠ 0 then false else xs.all fun x => decide (x ∈ ys)
theorem all_set (xs ys : List Int) : ((setL xs).all fun x => decide (x ∈ setL ys)) = xs.all fun x => decide (x ∈ ys) := by
  rw [Bool.eq_iff_iff, List.all_eq_true, List.all_eq_true]
  constructor
  · intro h x hx
    have := h x ((mem_setL x xs).2 hx)
    simpa [mem_setL] using this
  · intro h x hx
    have := h x ((mem_setL x xs).1 hx)
    simpa [mem_setL] using this
set_option maxHeartbeats 4000000 in
set_option maxRecDepth 100000 in
theorem subsumes_of (va vb : Value) (xs ys : List Int) (w : World)
    (ha : Calls Tryd.prog 15 #[va] w (NormPost xs w)) (hb : ∀ W, Below w.heap.size w W → Calls Tryd.prog 15 #[vb] W (NormPost ys W)) :
    Calls Tryd.prog 19 #[va, vb] w fun e w' => e = .returned (.bool (subB xs ys)) ∧ Below w.heap.size w w' := by
  have HA : Hid (Calls Tryd.prog 15 #[va] w (NormPost xs w)) := ha
  have HB : Hid (∀ W, Below w.heap.size w W → Calls Tryd.prog 15 #[vb] W (NormPost ys W)) := hb
  clear ha hb
  by_cases h1 : nErr xs = 0
  rotate_left
  · have HP : Hid (subB xs ys = false) := by show subB xs ys = false; unfold subB; rw [if_pos (Or.inl h1)]
    have hne : (nErr xs == 0) = false := by simpa using h1
    clear h1
    go_enter Tryd.func19, Tryd.ntmps19
    go_wp2_with fail
    refine HA.out.mono ?_
    rintro e w1 ⟨u, rfl, hown, hb1⟩
    have HB1 : Hid (Below w.heap.size w w1) := hb1
    clear hown hb1
    generalize nErr xs = E at *
    go_wp2
    go_ret
    exact ⟨ret_bool HP.out.symm, HB1.out⟩
  by_cases h2 : nErr ys = 0
  rotate_left
  · have HP : Hid (subB xs ys = false) := by show subB xs ys = false; unfold subB; rw [if_pos (Or.inr h2)]
    have hne : (nErr ys == 0) = false := by simpa using h2
    clear h2
    go_enter Tryd.func19, Tryd.ntmps19
    go_wp2_with fail
    refine HA.out.mono ?_
    rintro e w1 ⟨u, rfl, hown, hb1⟩
    have HB1 : Hid (Below w.heap.size w w1) := hb1
    clear hown hb1
    rw [h1]
    go_wp2_with fail
    refine (HB.out _ HB1.out).mono ?_
    rintro e w2 ⟨u2, rfl, hown2, hb2⟩
    have HB2 : Hid (Below w.heap.size w w2) := below_next HB1.out hb2
    clear hown2 hb2
    generalize nErr ys = E at *
    go_wp2
    go_ret
    exact ⟨ret_bool HP.out.symm, HB2.out⟩
  obtain ⟨lx, nx, ex⟩ := nErr_zero h1
  obtain ⟨ly, ny, ey⟩ := nErr_zero h2
  have HR : Hid (((setL xs).all fun x => decide (x ∈ setL ys)) = subB xs ys) := by
    show _ = subB xs ys
    rw [all_set]
    unfold subB
    rw [if_neg (by simp [h1, h2])]
  have HA2 : Hid (Calls Tryd.prog 15 #[va] w fun e w' => ∃ ad cap, e = .returned (.tuple #[.slice ad (setL xs).length cap, .bool (nTwo xs), .int .i64 0]) ∧ w'.ownsRow w.heap.size 3 1 (.slice ad (setL xs).length cap) (setL xs).length ((setL xs).map (Value.int .i64)) ∧ Below w.heap.size w w') :=
    HA.out.mono fun e w' ⟨u, he, ho, hb⟩ => by
      rw [ex] at ho
      obtain ⟨ad, cap, hu, _⟩ := own_ints ho
      exact ⟨ad, cap, by rw [he, h1, hu], by rw [← hu]; exact ho, hb⟩
  have HB2 : Hid (∀ W, Below w.heap.size w W → Calls Tryd.prog 15 #[vb] W fun e w' => ∃ ad cap, e = .returned (.tuple #[.slice ad (setL ys).length cap, .bool (nTwo ys), .int .i64 0]) ∧ w'.ownsRow W.heap.size 3 1 (.slice ad (setL ys).length cap) (setL ys).length ((setL ys).map (Value.int .i64)) ∧ Below W.heap.size W w') :=
    fun W hW => (HB.out W hW).mono fun e w' ⟨u, he, ho, hb⟩ => by
      rw [ey] at ho
      obtain ⟨ad, cap, hu, _⟩ := own_ints ho
      exact ⟨ad, cap, by rw [he, h2, hu], by rw [← hu]; exact ho, hb⟩
  have HS : Hid (SetC (setL ys) ∧ (∀ x ∈ setL xs, litB x = true) ∧ (∀ x ∈ setL ys, litB x = true)) := ⟨setC_setL _, fun x hx => lx x ((mem_setL x _).1 hx), fun x hx => ly x ((mem_setL x _).1 hx)⟩
  have sx := Nat.le_trans (setL_len xs) nx
  have sy := Nat.le_trans (setL_len ys) ny
  clear HA HB h1 h2 lx ly ex ey nx ny
  generalize setL xs = Sx at *
  generalize setL ys = Sy at *
  generalize nTwo xs = tx at *
  generalize nTwo ys = ty at *
  generalize subB xs ys = r at *
  go_enter Tryd.func19, Tryd.ntmps19
  go_wp2_with fail
  refine HA2.out.mono ?_
  rintro e w1 ⟨ad, cap, rfl, ho1, hb1⟩
  have HB1 : Hid (Below w.heap.size w w1) := hb1
  have HO1 : Hid (w1.ownsRow w.heap.size 3 1 (.slice ad Sx.length cap) Sx.length (Sx.map (Value.int .i64))) := ho1
  clear ho1 hb1
  go_wp2_with fail
  refine (HB2.out _ HB1.out).mono ?_
  rintro e w2 ⟨ad2, cap2, rfl, ho2, hb2⟩
  have HBb : Hid (Below w.heap.size w w2) := below_next HB1.out hb2
  have HO2 : Hid (w2.ownsRow w1.heap.size 3 1 (.slice ad2 Sy.length cap2) Sy.length (Sy.map (Value.int .i64))) := ho2
  have HI : Hid (Ints w2 ad Sx) := by
    obtain ⟨_, _, e, h⟩ := own_ints (own_below HO1.out hb2)
    cases e
    exact h
  clear ho2 hb2 HO1 HA2 HB2
  go_wp2
  go_loopg [30] Sx.length (fun gk i wr => ∃ k : Nat, i = .int .i64 k ∧ k + gk = Sx.length ∧ Aside (Below w2.heap.size w2 wr) ∧ Aside (∀ j, j < k → Sx.getD j 0 ∈ Sy))
  case atStart => exact ⟨0, rfl, by omega, Below.refl _ _, fun j hj => by omega⟩
  case round =>
    obtain ⟨k, rfl, hk, HBr, HN⟩ := hrel
    by_cases hlt : k < Sx.length
    · obtain ⟨b, off, rfl, hb, hc⟩ := (HI.out.below HBr.out) (by omega)
      have ck := hc k hlt
      obtain ⟨y, hy⟩ : ∃ y, Sx.getD k 0 = y := ⟨_, rfl⟩
      rw [hy] at ck
      have HY : Aside (Sx.getD k 0 = y) := hy
      have hm0 : y ∈ Sx := by rw [← hy]; exact getD_mem hlt
      have HM0 : Aside (y ∈ Sx) := hm0
      clear hy hc hm0
      have HC := has_any (.slice ad2 Sy.length cap2) w1.heap.size Sy y wr (own_below HO2.out HBr.out) (by omega) HS.out.1 HS.out.2.2 (HS.out.2.1 y HM0.out)
      by_cases he : y ∈ Sy
      · rw [decide_eq_true he] at HC
        have HC2 : Hid (Calls Tryd.prog 37 #[.slice ad2 Sy.length cap2, .int .i64 y] wr fun e w' => e = .returned (.bool true) ∧ Below wr.heap.size wr w') := HC
        have HN2 : Aside (∀ j, j < k + 1 → Sx.getD j 0 ∈ Sy) := by
          intro j hj
          by_cases h1 : j < k
          · exact HN.out j h1
          · have : j = k := by omega
            subst this
            rw [HY.out]; exact he
        clear he HC
        go_wp2_with (go_at_call 37; refine HC2.out.mono ?_; rintro e w3 ⟨rfl, hb3⟩; have HB3 : Aside (Below w2.heap.size w2 w3) := below_next HBr.out hb3; clear hb3)
        go_roundg (gk - 1)
        case measure => omega
        case rel => exact ⟨k + 1, by simp, by omega, HB3, HN2⟩
      · rw [decide_eq_false he] at HC
        have HC2 : Hid (Calls Tryd.prog 37 #[.slice ad2 Sy.length cap2, .int .i64 y] wr fun e w' => e = .returned (.bool false) ∧ Below wr.heap.size wr w') := HC
        have HX : Aside (r = false) := by
          show r = false
          rw [← HR.out, Bool.eq_false_iff]
          intro ha
          rw [List.all_eq_true] at ha
          have := ha y HM0.out
          simp [he] at this
        clear he HC
        go_wp2_with (go_at_call 37; refine HC2.out.mono ?_; rintro e w3 ⟨rfl, hb3⟩; have HB3 : Aside (Below w.heap.size w w3) := below_next HBb.out (below_next HBr.out hb3); clear hb3)
        go_ret
        exact ⟨ret_bool HX.out.symm, HB3.out⟩
    · have HX : Aside (r = true) := by
        show r = true
        rw [← HR.out, List.all_eq_true]
        intro x hx
        obtain ⟨i, hi, ei⟩ := mem_getD hx
        have := HN.out i (by omega)
        rw [ei] at this
        simpa using this
      go_wp2
      go_ret
      exact ⟨ret_bool HX.out.symm, below_next HBb.out HBr.out⟩
end Go.Proofs.YtkiihbkcccikiabDoor
