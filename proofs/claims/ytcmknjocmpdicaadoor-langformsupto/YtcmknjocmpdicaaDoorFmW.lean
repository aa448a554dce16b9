import Derived.Test.YtcmknjocmpdicaaDoorFmE
namespace Go.Proofs.YtcmknjocmpdicaaDoor
open Go.ChangeShapes Go.WideShapes Go.ChangeAt Go.RowKit Go.Bn

/-- what is asked of a declaration -/
def okD (k : Int) (s : ByteArray) (z : Int) (n : Nat) : Prop := (1 ≤ k ∧ k ≤ 5) ∧ nameB s = true ∧ 0 ≤ z ∧ (k = 3 ↔ 0 < n) ∧ (k = 3 → 0 < z)
/-- what is asked of its size and words -/
def okZ (k z : Int) (n : Nat) : Prop := 0 ≤ z ∧ (k = 3 ↔ 0 < n) ∧ (k = 3 → 0 < z)
set_option maxHeartbeats 8000000 in
theorem formSize_any (k : Int) (s : ByteArray) (z : Int) (a : Option Addr) (n c : Nat) (W : World) : Calls Tryd.prog 14 #[.agg #[.int .i64 k, .string s, .int .i64 z, .slice a n c]] W (BP (okZ k z n) W) := by
  have HB : Hid (Below W.heap.size W (W.alloc (.cells #[.int .i64 k, .string s, .int .i64 z, .slice a n c] 33))) := lbel _ _
  by_cases hk : k = 3
  · subst hk
    by_cases hz : 0 < z
    · by_cases hn : 0 < n
      · have HF : Hid (okZ 3 z n) := ⟨by omega, ⟨fun _ => hn, fun _ => rfl⟩, fun _ => hz⟩
        have tn : (0 : Int) < (n : Int) := by omega
        go_enter Tryd.func14, Tryd.ntmps14
        go_wp2
        go_ret
        exact BP.t HF.out HB.out
      · have HF : Hid (¬ okZ 3 z n) := fun h => hn (h.2.1.1 rfl)
        have tn : ¬ (0 : Int) < (n : Int) := by omega
        go_enter Tryd.func14, Tryd.ntmps14
        go_wp2
        go_ret
        exact BP.f HF.out HB.out
    · have HF : Hid (¬ okZ 3 z n) := fun h => hz (h.2.2 rfl)
      go_enter Tryd.func14, Tryd.ntmps14
      go_wp2
      go_ret
      exact BP.f HF.out HB.out
  · have tk : (k == 3) = false := by simpa using hk
    by_cases hz : 0 ≤ z
    · by_cases hn : n = 0
      · have HF : Hid (okZ k z n) := ⟨hz, ⟨fun h => absurd h hk, fun h => absurd h (by omega)⟩, fun h => absurd h hk⟩
        subst hn
        go_enter Tryd.func14, Tryd.ntmps14
        go_wp2
        go_ret
        exact BP.t HF.out HB.out
      · have HF : Hid (¬ okZ k z n) := fun h => hk (h.2.1.2 (by omega))
        have tn : ((n : Int) == 0) = false := by simp; omega
        go_enter Tryd.func14, Tryd.ntmps14
        go_wp2
        go_ret
        exact BP.f HF.out HB.out
    · have HF : Hid (¬ okZ k z n) := fun h => hz h.1
      go_enter Tryd.func14, Tryd.ntmps14
      go_wp2
      go_ret
      exact BP.f HF.out HB.out
set_option maxHeartbeats 8000000 in
theorem declForm_any (k : Int) (s : ByteArray) (z : Int) (a : Option Addr) (n c : Nat) (W : World) (hs : s.size ≤ maxLen) : Calls Tryd.prog 10 #[.agg #[.int .i64 k, .string s, .int .i64 z, .slice a n c]] W (BP (okD k s z n) W) := by
  have HB : Hid (Below W.heap.size W (W.alloc (.cells #[.int .i64 k, .string s, .int .i64 z, .slice a n c] 33))) := lbel _ _
  have HN : Hid (∀ X, Calls Tryd.prog 9 #[.string s] X fun e w' => e = .returned (.bool (nameB s)) ∧ Below X.heap.size X w') := fun X => rName_any s X hs
  clear hs
  by_cases hk1 : k < 1
  · have HF : Hid (¬ okD k s z n) := fun h => by have := h.1.1; omega
    go_enter Tryd.func10, Tryd.ntmps10
    go_wp2
    go_ret
    exact BP.f HF.out HB.out
  · by_cases hk5 : 5 < k
    · have HF : Hid (¬ okD k s z n) := fun h => by have := h.1.2; omega
      go_enter Tryd.func10, Tryd.ntmps10
      go_wp2
      go_ret
      exact BP.f HF.out HB.out
    · have HK : Hid (1 ≤ k ∧ k ≤ 5) := by show _ ∧ _; omega
      obtain ⟨W1, hW1⟩ : ∃ W1, W.alloc (.cells #[.int .i64 k, .string s, .int .i64 z, .slice a n c] 33) = W1 := ⟨_, rfl⟩
      have HY : Hid (W1.heap[W.heap.size]? = some (.cells #[.int .i64 k, .string s, .int .i64 z, .slice a n c] 33 (0, 0)) ∧ Below W.heap.size W W1) := by rw [← hW1]; exact ⟨heap_alloc_new _ _, lbel _ _⟩
      have HW1e : Hid (W.alloc (.cells #[.int .i64 k, .string s, .int .i64 z, .slice a n c] 33) = W1) := hW1
      clear hW1 HB
      have hc : (nameB s = false) ∨ (nameB s = true ∧ z < 0) ∨ (nameB s = true ∧ 0 ≤ z) := by cases nameB s <;> simp; omega
      have HC : Hid ((nameB s = false) ∨ (nameB s = true ∧ z < 0) ∨ (nameB s = true ∧ 0 ≤ z)) := hc
      clear hc
      go_enter Tryd.func10, Tryd.ntmps10
      go_wp2_with fail
      rw [HW1e.out]
      clear HW1e
      refine (HN.out _).mono ?_
      rintro e w2 ⟨he, hb2⟩
      have HY2 : Hid (w2.heap[W.heap.size]? = some (.cells #[.int .i64 k, .string s, .int .i64 z, .slice a n c] 33 (0, 0)) ∧ Below W.heap.size W w2) := ⟨(hb2.block _ (Array.getElem?_eq_some_iff.1 HY.out.1).1).trans HY.out.1, bnext HY.out.2 hb2⟩
      clear hb2 HY
      have b0 := lc HY2.out.1 0
      have b2 := lc HY2.out.1 2
      have b3 := lc HY2.out.1 3
      rcases HC.out with hnm | ⟨hnm, hz⟩ | ⟨hnm, hz⟩
      · rw [hnm] at he
        subst he
        have HF : Hid (¬ okD k s z n) := fun h => absurd h.2.1 (by rw [hnm]; decide)
        go_wp2
        go_ret
        exact BP.f HF.out HY2.out.2
      · rw [hnm] at he
        subst he
        have HF : Hid (¬ okD k s z n) := fun h => by have := h.2.2.1; omega
        go_wp2
        go_ret
        exact BP.f HF.out HY2.out.2
      · rw [hnm] at he
        subst he
        have hzn : ¬ z < 0 := by omega
        have HO : Hid (okD k s z n ↔ (k = 3 ↔ 0 < n) ∧ (k = 3 → 0 < z)) := ⟨fun h => h.2.2.2, fun h => ⟨HK.out, hnm, hz, h⟩⟩
        by_cases hk : k = 3
        · subst hk
          by_cases hn : 0 < n
          · have tn : (0 : Int) < (n : Int) := by omega
            by_cases hz0 : 0 < z
            · have HF : Hid (okD 3 s z n) := HO.out.2 ⟨⟨fun _ => hn, fun _ => rfl⟩, fun _ => hz0⟩
              go_wp2
              go_ret
              exact BP.t HF.out HY2.out.2
            · have HF : Hid (¬ okD 3 s z n) := fun h => hz0 ((HO.out.1 h).2 rfl)
              have dz : decide (0 < z) = false := decide_eq_false hz0
              go_wp2
              go_ret
              exact BP.f HF.out HY2.out.2
          · have tn : ¬ (0 : Int) < (n : Int) := by omega
            have HF : Hid (¬ okD 3 s z n) := fun h => hn ((HO.out.1 h).1.1 rfl)
            go_wp2
            go_ret
            exact BP.f HF.out HY2.out.2
        · have tk : (k == 3) = false := by simpa using hk
          have tk2 : (k != 3) = true := by simpa using hk
          by_cases hn : 0 < n
          · have tn : (0 : Int) < (n : Int) := by omega
            have HF : Hid (¬ okD k s z n) := fun h => hk ((HO.out.1 h).1.2 hn)
            go_wp2
            go_ret
            exact BP.f HF.out HY2.out.2
          · have HF : Hid (okD k s z n) := HO.out.2 ⟨⟨fun h => absurd h hk, fun h => absurd h hn⟩, fun h => absurd h hk⟩
            obtain rfl : n = 0 := by omega
            go_wp2
            go_ret
            exact BP.t HF.out HY2.out.2
end Go.Proofs.YtcmknjocmpdicaaDoor
