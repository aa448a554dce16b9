import Derived.Test.YtclgkmihabpohaaRdC
namespace Go.Proofs.Ytclgkmihabpohaa
open Go.ChangeShapes Go.WideShapes Go.ChangeAt Go.RowKit Go.Lib

/-- what is answered of two traces -/
def ans (t u : List S3) : Value := if pre t u < t.length ∨ pre t u < u.length then .tuple #[.int .i64 (pre t u : Int), .bool true] else .tuple #[.int .i64 0, .bool false]
set_option maxHeartbeats 4000000 in
theorem parting_any (w0 w : World) (C : Nat) (a : Option Addr) (n c same : Nat) (apart : Bool) (h : CNT w0 w C a n c same apart) (v : Value) (hv : (if apart = true ∨ same < n then .tuple #[.int .i64 (same : Int), .bool true] else .tuple #[.int .i64 0, .bool false]) = v) :
    Calls Try.prog 7 #[.pointer (some ⟨C, 0, none⟩)] w fun e w' => e = .returned v ∧ Below w.heap.size w w' := by
  obtain ⟨_, o0, o1, o2, hC⟩ := h
  have HC : Hid (∀ m, Calls Try.prog 9 #[.pointer (some ⟨C, 0, none⟩), .int .i64 same] (w.drewN m) fun e w' => e = .returned (.bool (decide (same < n))) ∧ w' = w.drewN m) := fun m => has_any _ C a n c same (cell_of hC 0)
  have c1 : w.cell? ⟨C, 1, none⟩ = some (.int .i64 (same : Int)) := cell_of hC 1
  have c2 : w.cell? ⟨C, 2, none⟩ = some (.bool apart) := cell_of hC 2
  have d1 : ∀ m, (w.drewN m).cell? ⟨C, 1, none⟩ = some (.int .i64 (same : Int)) := fun m => c1
  have hbm : ∀ m, Below w.heap.size w (w.drewN m) := fun m => ⟨rfl, rfl, rfl, by simp, fun _ _ => rfl⟩
  have HB : Hid (∀ m, Below w.heap.size w (w.drewN m)) := hbm
  clear hC hbm
  cases apart with
  | true =>
    rw [if_pos (Or.inl rfl)] at hv
    subst hv
    go_enter Try.func7, Try.ntmps7
    go_wp2_with fail
    go_big_quiet ((go_at_call 9; exact Calls.quiet_of_same (HC.out _)))
    have e1 := d1 nq
    go_wp2_with fail
    go_ret2
    exact ⟨rfl, HB.out _⟩
  | false =>
    by_cases hlt : same < n
    · have hk : decide (same < n) = true := by simp [hlt]
      rw [hk] at HC
      rw [if_pos (Or.inr hlt)] at hv
      subst hv
      clear hk
      go_enter Try.func7, Try.ntmps7
      go_wp2_with fail
      go_big_quiet ((go_at_call 9; exact Calls.quiet_of_same (HC.out _)))
      have e1 := d1 nq
      go_wp2_with fail
      go_ret2
      exact ⟨rfl, HB.out _⟩
    · have hk : decide (same < n) = false := by simp [hlt]
      rw [hk] at HC
      rw [if_neg (by simp; omega)] at hv
      subst hv
      clear hk hlt
      go_enter Try.func7, Try.ntmps7
      go_wp2_with fail
      go_big_quiet ((go_at_call 9; exact Calls.quiet_of_same (HC.out _)))
      go_wp2_with fail
      go_ret2
      exact ⟨rfl, HB.out _⟩
set_option maxHeartbeats 8000000 in
theorem differ_any (w : World) (a1 a2 : Option Addr) (t u : List S3) (cp1 cp2 : Nat) (h1 : EVS w a1 t) (h2 : EVS w a2 u) (ht : t.length ≤ 1000000000000000) (hu : u.length ≤ 1000000000000000) :
    Calls Try.prog 4 #[.slice a1 t.length cp1, .slice a2 u.length cp2] w fun e w' => e = .returned (ans t u) ∧ Below w.heap.size w w' := by
  obtain ⟨p, hp⟩ : ∃ p, pre t u = p := ⟨_, rfl⟩
  have HP : Hid (p ≤ t.length ∧ p ≤ u.length ∧ (∀ i, i < p → t.getD i z3 = u.getD i z3) ∧ (p < t.length → p < u.length → t.getD p z3 ≠ u.getD p z3)) := hp ▸ ⟨(pre_le t u).1, (pre_le t u).2, pre_eq t u, pre_ne t u⟩
  obtain ⟨C, hC⟩ : ∃ C, C = w.heap.size := ⟨_, rfl⟩
  have HS : Hid (∀ W j, j < u.length → CNT w W C a1 t.length cp1 (min j p) (decide (p < j)) → ∀ x, x = u.getD j z3 → Calls Try.prog 6 #[.pointer (some ⟨C, 0, none⟩), evV x] W fun e w' => (∃ v, e = .returned v) ∧ CNT w w' C a1 t.length cp1 (min (j + 1) p) (decide (p < j + 1))) := fun W j hj hW x hx => by
    obtain ⟨p1, p2, p3, p4⟩ := HP.out
    by_cases hl : p < j
    · have e1 : min j p = p := by omega
      have e2 : min (j + 1) p = p := by omega
      have e3 : decide (p < j) = true := by simp [hl]
      have e4 : decide (p < j + 1) = true := by simp; omega
      rw [e1, e3] at hW
      rw [e2, e4]
      exact see_apart w W C a1 _ _ p x hW
    · have e1 : min j p = j := by omega
      have e3 : decide (p < j) = false := by simp; omega
      rw [e1, e3] at hW
      by_cases he : j = p
      · subst he
        have h5 := see_on w W C a1 t cp1 j x hW (by omega) hC h1 false (by
          apply decide_eq_false
          rintro ⟨h6, h7⟩
          exact p4 h6 hj (h7.trans hx))
        have e2 : min (j + 1) j = j := by omega
        have e4 : decide (j < j + 1) = true := by simp
        rw [e2, e4]
        exact h5
      · have h5 := see_on w W C a1 t cp1 j x hW (by omega) hC h1 true (by
          apply decide_eq_true
          exact ⟨by omega, (p3 j (by omega)).trans hx.symm⟩)
        have e2 : min (j + 1) p = j + 1 := by omega
        have e4 : decide (p < j + 1) = false := by simp; omega
        rw [e2, e4]
        exact h5
  have HE : Hid (∀ W, CNT w W C a1 t.length cp1 (min u.length p) (decide (p < u.length)) → Calls Try.prog 7 #[.pointer (some ⟨C, 0, none⟩)] W fun e w' => e = .returned (ans t u) ∧ Below w.heap.size w w') := fun W hW => by
    obtain ⟨p1, p2, p3, p4⟩ := HP.out
    refine (parting_any w W C a1 _ _ _ _ hW (ans t u) ?_).mono ?_
    · unfold ans
      rw [hp]
      by_cases hl : p < u.length
      · rw [if_pos (Or.inl (by simp [hl])), if_pos (Or.inr hl), show min u.length p = p by omega]
      · rw [show min u.length p = p by omega]
        by_cases hl2 : p < t.length
        · rw [if_pos (Or.inr hl2), if_pos (Or.inl hl2)]
        · rw [if_neg (by simp; omega), if_neg (by omega)]
    · rintro e w' ⟨rfl, hb⟩
      refine ⟨rfl, ?_⟩
      have := hW.1
      rw [hC] at this
      exact nx this hb
  have HU : Hid (∀ W, Below C w W → EVS W a2 u) := fun W hW => h2.below (hC ▸ hW)
  have H0 : Hid (CNT w (w.alloc (.cells #[.slice a1 t.length cp1, .int .i64 0, .bool false, .int .i64 0, .int .u64 0, .int .u64 0] 32)) C a1 t.length cp1 (min 0 p) (decide (p < 0))) := by
    rw [show min 0 p = 0 by omega, show decide (p < 0) = false by simp]
    exact ⟨hC ▸ bel1 _ _, 0, 0, 0, hC ▸ heap_alloc_new _ _⟩
  clear HP hp h1 h2
  obtain ⟨kk, bb, hAN⟩ : ∃ kk bb, ans t u = .tuple #[.int .i64 kk, .bool bb] := by
    unfold ans
    split
    · exact ⟨_, _, rfl⟩
    · exact ⟨_, _, rfl⟩
  rw [hAN] at HE ⊢
  clear hAN
  generalize hN1 : t.length = n1 at *
  generalize hN2 : u.length = n2 at *
  have HN2 : Hid (u.length = n2) := hN2
  clear hN1 hN2
  go_enter Try.func4, Try.ntmps4
  go_wp2_with fail
  rw [← hC]
  generalize w.alloc (.cells #[.slice a1 n1 cp1, .int .i64 0, .bool false, .int .i64 0, .int .u64 0, .int .u64 0] 32) = w1 at *
  clear hC
  go_loopg [14] n2 (fun gk v14 wr => ∃ j : Nat, v14 = .int .i64 (j : Int) ∧ j + gk = n2 ∧ Aside (CNT w wr C a1 n1 cp1 (min j p) (decide (p < j))))
  case atStart => exact ⟨0, rfl, by omega, H0.out⟩
  case round =>
    clear H0
    obtain ⟨j, rfl, hj, HR⟩ := hrel
    by_cases hlt : j < n2
    · have q1 : (j : Int) < (n2 : Int) := by omega
      obtain ⟨b2, f2, rfl, hb2, hc2⟩ := HU.out wr HR.out.1 (by rw [HN2.out]; omega)
      obtain ⟨y0, y1, y2⟩ := hc2 j (by rw [HN2.out]; exact hlt)
      have hx : Hid ((u.getD j z3).1 = (u.getD j z3).1) := rfl
      obtain ⟨x, hxe⟩ : ∃ x, x = u.getD j z3 := ⟨_, rfl⟩
      rw [← hxe] at y0 y1 y2
      have HX : Hid (x = u.getD j z3) := hxe
      obtain ⟨x0, x1, x2⟩ := x
      dsimp only at y0 y1 y2
      clear hxe hc2 hx
      have HS2 : Hid (Calls Try.prog 6 #[.pointer (some ⟨C, 0, none⟩), evV (x0, x1, x2)] (wr.alloc (.cells #[.int .i64 x0, .int .u64 x1, .int .u64 x2] 30)) fun e w' => (∃ v, e = .returned v) ∧ CNT w w' C a1 n1 cp1 (min (j + 1) p) (decide (p < j + 1))) := HS.out _ j hlt (HR.out.next (bel1 _ _)) _ HX.out
      clear HR HX
      go_wp2_with fail
      refine HS2.out.mono ?_
      rintro e w5 ⟨⟨v5, rfl⟩, hc5⟩
      have HC5 : Hid (CNT w w5 C a1 n1 cp1 (min (j + 1) p) (decide (p < j + 1))) := hc5
      clear hc5 HS2 y0 y1 y2
      go_wp2_with fail
      go_roundg (n2 - (j + 1))
      case measure => omega
      case rel => exact ⟨j + 1, by simp, by omega, HC5.out⟩
    · obtain rfl : j = n2 := by omega
      have q1 : ¬ (j : Int) < (j : Int) := by omega
      have HE2 : Hid (Calls Try.prog 7 #[.pointer (some ⟨C, 0, none⟩)] wr fun e w' => e = .returned (.tuple #[.int .i64 kk, .bool bb]) ∧ Below w.heap.size w w') := HE.out wr HR.out
      clear HR
      go_wp2_with fail
      refine HE2.out.mono ?_
      rintro e w5 ⟨rfl, hb5⟩
      have HB5 : Hid (Below w.heap.size w w5) := hb5
      clear hb5 HE2
      go_wp2_with fail
      go_ret2
      exact ⟨rfl, HB5.out⟩
end Go.Proofs.Ytclgkmihabpohaa
