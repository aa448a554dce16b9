import Derived.Test.YtnknbijbhidpnaaGreatDoorSame
namespace Go.Proofs.YtnknbijbhidpnaaGreatDoor
open Go.ChangeShapes Go.WideShapes Go.ChangeAt Go.RowKit Go.Cn

set_option maxHeartbeats 1000000 in
theorem twofold_any (ad : Option Addr) (xs : List Int) (c : Nat) (w : World) (h : Ints w ad xs) (hl : xs.length ≤ 1000000000000000000) (hlit : ∀ x ∈ xs, litB x = true) (hset : SetC xs) :
    Calls Tryz.prog 24 #[.slice ad xs.length c] w fun e w' => e = .returned (.bool (two xs)) ∧ ∃ m, w' = w.drewN m := by
  have HI : Aside (Ints w ad xs) := h
  have HT : Aside (two xs = true ↔ ∃ k, 1 ≤ k ∧ k < xs.length ∧ xs.getD k 0 = -xs.getD (k - 1) 0) := two_iff hset (fun x hx => (litB_iff.1 (hlit x hx)).1)
  have HB : Aside (∀ j, j < xs.length → -1048576 ≤ xs.getD j 0 ∧ xs.getD j 0 ≤ 1048576) := fun j hj => (litB_iff.1 (hlit _ (getD_mem hj))).2
  clear h hlit hset
  generalize hr : two xs = r
  have HR : Aside (two xs = r) := hr
  clear hr
  generalize hn : xs.length = n
  have HL : Aside (xs.length = n) := hn
  rw [hn] at hl
  clear hn
  go_enter Tryz.func24, Tryz.ntmps24
  go_wp2
  go_loopg [3] n (fun gk i wr => ∃ k m : Nat, i = .int .i64 k ∧ 1 ≤ k ∧ n ≤ k + gk ∧ (k ≤ n ∨ k = 1) ∧ wr = w.drewN m ∧ Aside (∀ j, 1 ≤ j → j < k → xs.getD j 0 ≠ -xs.getD (j - 1) 0))
  case atStart => exact ⟨1, 0, rfl, Nat.le_refl _, by omega, Or.inr rfl, rfl, fun j h1 hj => by omega⟩
  case round =>
    obtain ⟨k, m, rfl, hk1, hk, hkn, rfl, HN⟩ := hrel
    by_cases hlt : k < n
    · obtain ⟨b, off, rfl, hb, hc⟩ := HI.out (by rw [HL.out]; omega)
      have ck := hc k (by rw [HL.out]; omega)
      have ck1 := hc (k - 1) (by rw [HL.out]; omega)
      have hbd := HB.out k (by rw [HL.out]; omega)
      have hbd1 := HB.out (k - 1) (by rw [HL.out]; omega)
      obtain ⟨y, hy⟩ : ∃ y, xs.getD k 0 = y := ⟨_, rfl⟩
      obtain ⟨z, hz⟩ : ∃ z, xs.getD (k - 1) 0 = z := ⟨_, rfl⟩
      rw [hy] at ck hbd
      rw [hz] at ck1 hbd1
      have HY : Aside (xs.getD k 0 = y ∧ xs.getD (k - 1) 0 = z) := ⟨hy, hz⟩
      clear hy hc hz
      by_cases he : y = -z
      · have HX : Aside (r = true) := by
          show r = true
          rw [← HR.out, HT.out]
          exact ⟨k, hk1, by rw [HL.out]; exact hlt, by rw [HY.out.1, HY.out.2]; exact he⟩
        subst he
        go_wp2
        go_region
        go_wp2
        go_ret
        exact ⟨ret_bool HX.out.symm, _, rfl⟩
      · have heb : (y == -z) = false := by simpa using he
        have HN2 : Aside (∀ j, 1 ≤ j → j < k + 1 → xs.getD j 0 ≠ -xs.getD (j - 1) 0) := by
          intro j h0 hj
          by_cases h1 : j < k
          · exact HN.out j h0 h1
          · have : j = k := by omega
            subst this
            rw [HY.out.1, HY.out.2]; exact he
        clear he
        go_wp2
        go_region
        go_wp2
        go_roundg (gk - 1)
        case measure => omega
        case rel => exact ⟨k + 1, _, by simp, by omega, by omega, by omega, rfl, HN2⟩
    · have HX : Aside (r = false) := by
        show r = false
        cases hr : r with
        | false => rfl
        | true =>
          have := HR.out.trans hr
          rw [HT.out] at this
          obtain ⟨j, h1, h2, h3⟩ := this
          exact absurd h3 (HN.out j h1 (by rw [HL.out] at h2; omega))
      go_wp2
      go_ret
      exact ⟨ret_bool HX.out.symm, _, rfl⟩
theorem ahead_eq {a b : Int} (ha : litB a = true) (hb : litB b = true) : (if vr a = vr b then decide (b < a) else decide (vr a < vr b)) = decide (rk a < rk b) := by
  have h1 := litB_iff.1 ha
  have h2 := litB_iff.1 hb
  unfold vr rk
  by_cases c1 : a < 0 <;> by_cases c2 : b < 0
  all_goals simp only [c1, c2, if_true, if_false]
  all_goals split
  all_goals (rw [Bool.eq_iff_iff]; simp; try omega)
end Go.Proofs.YtnknbijbhidpnaaGreatDoor
