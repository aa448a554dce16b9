import Derived.Test.YtnknbijbhidpnaaGreatDoorReads
namespace Go.Proofs.YtnknbijbhidpnaaGreatDoor
open Go.ChangeShapes Go.WideShapes Go.ChangeAt Go.RowKit Go.Cn

set_option maxHeartbeats 1000000 in
theorem rsame_any (ad bd : Option Addr) (xs ys : List Int) (c d : Nat) (w : World) (h : Ints w ad xs) (h2 : Ints w bd ys) (hl : xs.length ≤ 1000000000000000000) :
    Calls Tryz.prog 31 #[.slice ad xs.length c, .slice bd ys.length d] w fun e w' => e = .returned (.bool (decide (xs = ys))) ∧ ∃ m, w' = w.drewN m := by
  have HI : Aside (Ints w ad xs) := h
  have HJ : Aside (Ints w bd ys) := h2
  clear h h2
  generalize hr : decide (xs = ys) = r
  have HR : Aside (decide (xs = ys) = r) := hr
  clear hr
  by_cases hlen : xs.length = ys.length
  · rw [← hlen]
    generalize hn : xs.length = n
    have HL : Aside (xs.length = n ∧ ys.length = n) := ⟨hn, by omega⟩
    rw [hn] at hl
    clear hn hlen
    go_enter Tryz.func31, Tryz.ntmps31
    go_wp2
    go_loopg [5] n (fun gk i wr => ∃ k m : Nat, i = .int .i64 k ∧ k + gk = n ∧ wr = w.drewN m ∧ Aside (∀ j, j < k → xs.getD j 0 = ys.getD j 0))
    case atStart => exact ⟨0, 0, rfl, by omega, rfl, fun j hj => absurd hj (Nat.not_lt_zero _)⟩
    case round =>
      obtain ⟨k, m, rfl, hk, rfl, HN⟩ := hrel
      by_cases hlt : k < n
      · obtain ⟨b, off, rfl, hb, hc⟩ := HI.out (by rw [HL.out.1]; omega)
        have ck := hc k (by rw [HL.out.1]; omega)
        obtain ⟨b2, off2, rfl, hb2, hc2⟩ := HJ.out (by rw [HL.out.2]; omega)
        have ck2 := hc2 k (by rw [HL.out.2]; omega)
        obtain ⟨y, hy⟩ : ∃ y, xs.getD k 0 = y := ⟨_, rfl⟩
        obtain ⟨z, hz⟩ : ∃ z, ys.getD k 0 = z := ⟨_, rfl⟩
        rw [hy] at ck
        rw [hz] at ck2
        have HY : Aside (xs.getD k 0 = y ∧ ys.getD k 0 = z) := ⟨hy, hz⟩
        clear hy hc hz hc2
        by_cases he : y = z
        · have HN2 : Aside (∀ j, j < k + 1 → xs.getD j 0 = ys.getD j 0) := by
            intro j hj
            by_cases h1 : j < k
            · exact HN.out j h1
            · have : j = k := by omega
              subst this
              rw [HY.out.1, HY.out.2, he]
          subst he
          go_wp2
          go_region
          go_wp2
          go_roundg (gk - 1)
          case measure => omega
          case rel => exact ⟨k + 1, _, by simp, by omega, rfl, HN2⟩
        · have heb : (y == z) = false := by simpa using he
          have HX : Aside (r = false) := by
            show r = false
            rw [← HR.out]
            simp only [decide_eq_false_iff_not]
            intro e
            rw [e, HY.out.2] at HY
            exact he HY.out.1.symm
          clear he
          go_wp2
          go_region
          go_wp2
          go_ret
          exact ⟨ret_bool HX.out.symm, _, rfl⟩
      · have HX : Aside (r = true) := by
          show r = true
          rw [← HR.out]
          simp only [decide_eq_true_eq]
          apply List.ext_getElem
          · rw [HL.out.1, HL.out.2]
          · intro i h1 h2
            have := HN.out i (by have := HL.out.1; omega)
            simpa [List.getD_eq_getElem?_getD, h1, h2] using this
        go_wp2
        go_ret
        exact ⟨ret_bool HX.out.symm, _, rfl⟩
  · have HX : Aside (r = false) := by
      show r = false
      rw [← HR.out]
      simp only [decide_eq_false_iff_not]
      intro e
      exact hlen (by rw [e])
    generalize xs.length = n at *
    generalize ys.length = n2 at *
    have hne : ((n : Int) == (n2 : Int)) = false := by simp; omega
    clear hlen
    go_enter Tryz.func31, Tryz.ntmps31
    go_wp2
    go_ret
    exact ⟨ret_bool HX.out.symm, 0, rfl⟩
theorem lsame_any (ad bd : Option Addr) (xs ys : List Int) (c d : Nat) (w : World) (h : Ints w ad xs) (h2 : Ints w bd ys) (hl : xs.length ≤ 1000000000000000000) :
    Calls Tryz.prog 13 #[.slice ad xs.length c, .slice bd ys.length d] w fun e w' => e = .returned (.bool (decide (xs = ys))) ∧ ∃ m, w' = w.drewN m := by
  have H : Hid (Calls Tryz.prog 31 #[.slice ad xs.length c, .slice bd ys.length d] w fun e w' => e = .returned (.bool (decide (xs = ys))) ∧ ∃ m, w' = w.drewN m) := rsame_any ad bd xs ys c d w h h2 hl
  clear h h2 hl
  generalize decide (xs = ys) = r at *
  generalize xs.length = n at *
  generalize ys.length = n2 at *
  go_enter Tryz.func13, Tryz.ntmps13
  go_wp2_with (go_at_call 31; refine H.out.mono ?_; rintro e w' ⟨rfl, m, rfl⟩)
  go_ret
  exact ⟨rfl, _, rfl⟩
theorem no_any (x : Int) (w : World) :
    Calls Tryz.prog 6 #[.int .i64 x] w fun e w' => e = .returned (.int .i64 x) ∧ w' = w := by
  go_enter Tryz.func6, Tryz.ntmps6
  go_wp2
  go_ret
  exact ⟨rfl, rfl⟩
end Go.Proofs.YtnknbijbhidpnaaGreatDoor
