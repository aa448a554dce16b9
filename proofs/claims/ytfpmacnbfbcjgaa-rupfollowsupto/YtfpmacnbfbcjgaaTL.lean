import Derived.Test.YtfpmacnbfbcjgaaCC
import Derived.Test.YtfpmacnbfbcjgaaPA
namespace Go.Proofs.Ytfpmacnbfbcjgaa
open Go.ChangeShapes Go.WideShapes Go.ChangeAt Go.RowKit
set_option maxHeartbeats 2000000 in
theorem literals_any (ad : Option Addr) (xs : List Int) (c n : Nat) (w : World) (h : Ints w ad xs) (hl : xs.length ≤ 1000000000000000000) (hn0 : n ≤ 1048576) :
    Calls Try.prog 10 #[.slice ad xs.length c, .int .i64 (n : Int)] w fun e w' => e = .returned (.bool (xs.all (hasB n))) ∧ w' = w := by
  have HI : Aside (Ints w ad xs) := h
  clear h
  generalize hr : xs.all (hasB n) = r
  have HR : Aside (xs.all (hasB n) = r) := hr
  clear hr
  generalize hq : xs.length = q at *
  have HL : Aside (xs.length = q) := hq
  clear hq
  have hw1 : IntKind.wrap .i64 (-(n : Int)) = -(n : Int) := by unfold IntKind.wrap; simp [IntKind.bits, IntKind.signed]; omega
  go_enter Try.func10, Try.ntmps10
  go_wp2
  go_loopg [9] q (fun gk i wr => ∃ k : Nat, i = .int .i64 k ∧ k + gk = q ∧ w = wr ∧ Aside (∀ j, j < k → hasB n (xs.getD j 0) = true))
  case atStart => exact ⟨0, rfl, by omega, rfl, fun j hj => absurd hj (Nat.not_lt_zero _)⟩
  case round =>
    obtain ⟨k, rfl, hk, rfl, HN⟩ := hrel
    by_cases hlt : k < q
    · obtain ⟨b, off, rfl, hb, hc⟩ := HI.out (by rw [HL.out]; omega)
      have ck := hc k (by rw [HL.out]; omega)
      obtain ⟨y, hy⟩ : ∃ y, xs.getD k 0 = y := ⟨_, rfl⟩
      rw [hy] at ck
      have HY : Aside (xs.getD k 0 = y) := hy
      clear hy hc
      cases he : hasB n y with
      | false =>
        have HX : Aside (r = false) := by
          show r = false
          rw [← HR.out]
          exact Go.Cn.all_false (k := k) (by rw [HL.out]; exact hlt) (by rw [HY.out]; exact he)
        have h3 : y = 0 ∨ (y ≠ 0 ∧ y < -(n : Int)) ∨ (y ≠ 0 ∧ ¬ y < -(n : Int) ∧ (n : Int) < y) := by
          unfold hasB at he
          simp at he
          omega
        clear he
        rcases h3 with h3 | h3 | h3
        · subst h3
          go_wp2
          go_ret
          exact ⟨ret_bool HX.out.symm, rfl⟩
        · have hq0 : (y == 0) = false := by simp; exact h3.1
          have hq1 : y < -(n : Int) := h3.2
          clear h3
          go_wp2
          go_ret
          exact ⟨ret_bool HX.out.symm, rfl⟩
        · have hq0 : (y == 0) = false := by simp; exact h3.1
          have hq1 : ¬ y < -(n : Int) := h3.2.1
          have hq2 : (n : Int) < y := h3.2.2
          clear h3
          go_wp2
          go_ret
          exact ⟨ret_bool HX.out.symm, rfl⟩
      | true =>
        have HN2 : Aside (∀ j, j < k + 1 → hasB n (xs.getD j 0) = true) := by
          intro j hj
          by_cases h1 : j < k
          · exact HN.out j h1
          · have : j = k := by omega
            subst this
            rw [HY.out]; exact he
        have hq0 : (y == 0) = false := by unfold hasB at he; simp at he; simp; omega
        have hq1 : ¬ y < -(n : Int) := by unfold hasB at he; simp at he; omega
        have hq2 : ¬ (n : Int) < y := by unfold hasB at he; simp at he; omega
        clear he
        go_wp2
        go_roundg (gk - 1)
        case measure => omega
        case rel => exact ⟨k + 1, by simp, by omega, rfl, HN2⟩
    · have HX : Aside (r = true) := by
        show r = true
        rw [← HR.out]
        exact Go.Cn.all_true (fun j hj => HN.out j (by rw [HL.out] at hj; omega))
      go_wp2
      go_ret
      exact ⟨ret_bool HX.out.symm, rfl⟩
set_option maxHeartbeats 2000000 in
theorem may_any (ad : Option Addr) (xs : List Int) (c n : Nat) (w : World) (h : Ints w ad xs) (hl : xs.length ≤ 1000000000000000000) (hn0 : n ≤ 1048576) :
    Calls Try.prog 14 #[.slice ad xs.length c, .int .i64 (n : Int)] w fun e w' => e = .returned (.bool (xs.all (hasB n))) ∧ w' = w := by
  have HI : Aside (Ints w ad xs) := h
  clear h
  generalize hr : xs.all (hasB n) = r
  have HR : Aside (xs.all (hasB n) = r) := hr
  clear hr
  generalize hq : xs.length = q at *
  have HL : Aside (xs.length = q) := hq
  clear hq
  have hw1 : IntKind.wrap .i64 (-(n : Int)) = -(n : Int) := by unfold IntKind.wrap; simp [IntKind.bits, IntKind.signed]; omega
  go_enter Try.func14, Try.ntmps14
  go_wp2
  go_loopg [5] q (fun gk i wr => ∃ k : Nat, i = .int .i64 k ∧ k + gk = q ∧ w = wr ∧ Aside (∀ j, j < k → hasB n (xs.getD j 0) = true))
  case atStart => exact ⟨0, rfl, by omega, rfl, fun j hj => absurd hj (Nat.not_lt_zero _)⟩
  case round =>
    obtain ⟨k, rfl, hk, rfl, HN⟩ := hrel
    by_cases hlt : k < q
    · obtain ⟨b, off, rfl, hb, hc⟩ := HI.out (by rw [HL.out]; omega)
      have ck := hc k (by rw [HL.out]; omega)
      obtain ⟨y, hy⟩ : ∃ y, xs.getD k 0 = y := ⟨_, rfl⟩
      rw [hy] at ck
      have HY : Aside (xs.getD k 0 = y) := hy
      clear hy hc
      cases he : hasB n y with
      | false =>
        have HX : Aside (r = false) := by
          show r = false
          rw [← HR.out]
          exact Go.Cn.all_false (k := k) (by rw [HL.out]; exact hlt) (by rw [HY.out]; exact he)
        have h3 : y = 0 ∨ (y ≠ 0 ∧ y < -(n : Int)) ∨ (y ≠ 0 ∧ ¬ y < -(n : Int) ∧ (n : Int) < y) := by
          unfold hasB at he
          simp at he
          omega
        clear he
        rcases h3 with h3 | h3 | h3
        · subst h3
          go_wp2
          go_ret
          exact ⟨ret_bool HX.out.symm, rfl⟩
        · have hq0 : (y == 0) = false := by simp; exact h3.1
          have hq1 : y < -(n : Int) := h3.2
          clear h3
          go_wp2
          go_ret
          exact ⟨ret_bool HX.out.symm, rfl⟩
        · have hq0 : (y == 0) = false := by simp; exact h3.1
          have hq1 : ¬ y < -(n : Int) := h3.2.1
          have hq2 : (n : Int) < y := h3.2.2
          clear h3
          go_wp2
          go_ret
          exact ⟨ret_bool HX.out.symm, rfl⟩
      | true =>
        have HN2 : Aside (∀ j, j < k + 1 → hasB n (xs.getD j 0) = true) := by
          intro j hj
          by_cases h1 : j < k
          · exact HN.out j h1
          · have : j = k := by omega
            subst this
            rw [HY.out]; exact he
        have hq0 : (y == 0) = false := by unfold hasB at he; simp at he; simp; omega
        have hq1 : ¬ y < -(n : Int) := by unfold hasB at he; simp at he; omega
        have hq2 : ¬ (n : Int) < y := by unfold hasB at he; simp at he; omega
        clear he
        go_wp2
        go_roundg (gk - 1)
        case measure => omega
        case rel => exact ⟨k + 1, by simp, by omega, rfl, HN2⟩
    · have HX : Aside (r = true) := by
        show r = true
        rw [← HR.out]
        exact Go.Cn.all_true (fun j hj => HN.out j (by rw [HL.out] at hj; omega))
      go_wp2
      go_ret
      exact ⟨ret_bool HX.out.symm, rfl⟩
set_option maxHeartbeats 1000000 in
theorem equal_any (ad bd : Option Addr) (xs : List Int) (c d : Nat) (w : World) (h : Ints w ad xs) (h2 : Ints w bd xs) (hl : xs.length ≤ 1000000000000000000) :
    Calls Try.prog 8 #[.slice ad xs.length c, .slice bd xs.length d] w fun e w' => e = .returned (.bool true) ∧ ∃ m, w' = w.drewN m := by
  have HI : Aside (Ints w ad xs) := h
  have HJ : Aside (Ints w bd xs) := h2
  clear h h2
  generalize hn : xs.length = n at *
  have HL : Aside (xs.length = n) := hn
  clear hn
  go_enter Try.func8, Try.ntmps8
  go_wp2
  go_loopg [5] n (fun gk i wr => ∃ k m : Nat, i = .int .i64 k ∧ k + gk = n ∧ wr = w.drewN m)
  case atStart => exact ⟨0, 0, rfl, by omega, rfl⟩
  case round =>
    obtain ⟨k, m, rfl, hk, rfl⟩ := hrel
    by_cases hlt : k < n
    · obtain ⟨b, off, rfl, hb, hc⟩ := HI.out (by rw [HL.out]; omega)
      have ck := hc k (by rw [HL.out]; omega)
      obtain ⟨b2, off2, rfl, hb2, hc2⟩ := HJ.out (by rw [HL.out]; omega)
      have ck2 := hc2 k (by rw [HL.out]; omega)
      obtain ⟨y, hy⟩ : ∃ y, xs.getD k 0 = y := ⟨_, rfl⟩
      rw [hy] at ck ck2
      clear hy hc hc2
      go_wp2
      go_region
      go_wp2
      go_roundg (gk - 1)
      case measure => omega
      case rel => exact ⟨k + 1, _, by simp, by omega, rfl⟩
    · go_wp2
      go_ret
      exact ⟨rfl, _, rfl⟩
theorem Ints.dn {w : World} {ad : Option Addr} {xs : List Int} (h : Ints w ad xs) (m : Nat) : Ints (w.drewN m) ad xs := h
set_option maxHeartbeats 4000000 in
set_option maxRecDepth 20000 in
theorem formulas_any (vars : Int) (ad bd : Option Addr) (cs : List (List Int)) (c d : Nat) (w : World) (h : Cls w ad cs) (h2 : Cls w bd cs) (hl : cs.length ≤ 1048576) (hcl : ∀ j, j < cs.length → (cs.getD j []).length ≤ 1048576) :
    Calls Try.prog 7 #[.agg #[.int .i64 vars, .slice ad cs.length c], .agg #[.int .i64 vars, .slice bd cs.length d]] w fun e w' => e = .returned (.bool true) ∧ Below w.heap.size w w' := by
  have HB0 : Aside (∀ o o2, Below w.heap.size w ((w.alloc o).alloc o2)) := fun o o2 => ((Below.refl _ _).alloc (Nat.le_refl _) o).alloc (by simp) o2
  have HC : Aside (∀ o o2, Cls ((w.alloc o).alloc o2) ad cs ∧ Cls ((w.alloc o).alloc o2) bd cs) := fun o o2 => ⟨h.below (HB0.out o o2), h2.below (HB0.out o o2)⟩
  have HM : Aside (∀ j, j < cs.length → (cs.getD j []).length ≤ 1048576) := hcl
  clear h h2 hcl
  generalize hn : cs.length = n at *
  have HLn : Aside (cs.length = n) := hn
  clear hn
  go_enter Try.func7, Try.ntmps7
  go_wp2_with fail
  have HB1 : Aside (Below w.heap.size w ((w.alloc (.cells #[.int .i64 vars, .slice ad n c] 24)).alloc (.cells #[.int .i64 vars, .slice bd n d] 24))) := HB0.out _ _
  have x1 : ((w.alloc (.cells #[.int .i64 vars, .slice ad n c] 24)).alloc (.cells #[.int .i64 vars, .slice bd n d] 24)).cell? ⟨w.heap.size, 1, none⟩ = some (.slice ad n c) := by
    have h5 : ((w.alloc (.cells #[.int .i64 vars, .slice ad n c] 24)).alloc (.cells #[.int .i64 vars, .slice bd n d] 24)).heap[w.heap.size]? = some (.cells #[.int .i64 vars, .slice ad n c] 24 (0, 0)) := (Below.heap_alloc _ _ _ (by simp)).trans (heap_alloc_new _ _)
    exact blk_cell h5 1
  have x2 : ((w.alloc (.cells #[.int .i64 vars, .slice ad n c] 24)).alloc (.cells #[.int .i64 vars, .slice bd n d] 24)).cell? ⟨w.heap.size + 1, 1, none⟩ = some (.slice bd n d) := by
    have h5 := heap_alloc_new (w.alloc (.cells #[.int .i64 vars, .slice ad n c] 24)) (.cells #[.int .i64 vars, .slice bd n d] 24)
    rw [show (w.alloc (.cells #[.int .i64 vars, .slice ad n c] 24)).heap.size = w.heap.size + 1 by simp] at h5
    exact blk_cell h5 1
  have HC1 := HC.out (.cells #[.int .i64 vars, .slice ad n c] 24) (.cells #[.int .i64 vars, .slice bd n d] 24)
  clear HC HB0
  generalize (w.alloc (.cells #[.int .i64 vars, .slice ad n c] 24)).alloc (.cells #[.int .i64 vars, .slice bd n d] 24) = W1 at *
  have HC : Aside (Cls W1 ad cs ∧ Cls W1 bd cs) := HC1
  clear HC1
  go_loopg [5] n (fun gk s5 wr => ∃ k e : Nat, s5 = .int .i64 k ∧ k + gk = n ∧ wr = W1.drewN e)
  case atStart => exact ⟨0, 0, rfl, by omega, rfl⟩
  case round =>
    obtain ⟨k, dd, rfl, hk, rfl⟩ := hrel
    have y1 : (W1.drewN dd).cell? ⟨w.heap.size, 1, none⟩ = some (.slice ad n c) := x1
    have y2 : (W1.drewN dd).cell? ⟨w.heap.size + 1, 1, none⟩ = some (.slice bd n d) := x2
    by_cases hlt : k < n
    · obtain ⟨b, off, rfl, hb, hc⟩ := HC.out.1 (by rw [HLn.out]; omega)
      obtain ⟨aj, cj, ck, hij⟩ := hc k (by rw [HLn.out]; exact hlt)
      obtain ⟨b2, off2, rfl, hb2, hc2⟩ := HC.out.2 (by rw [HLn.out]; omega)
      obtain ⟨aj2, cj2, ck2, hij2⟩ := hc2 k (by rw [HLn.out]; exact hlt)
      have hm := HM.out k hlt
      have HK : Hid (∀ m, Calls Try.prog 8 #[.slice aj (cs.getD k []).length cj, .slice aj2 (cs.getD k []).length cj2] ((W1.drewN dd).drewN m) fun e w' => e = .returned (.bool true) ∧ ∃ m', w' = ((W1.drewN dd).drewN m).drewN m') :=
        fun m => equal_any aj aj2 (cs.getD k []) cj cj2 _ ((hij.dn dd).dn m) ((hij2.dn dd).dn m) (by omega)
      have q1 : (k : Int) < (n : Int) := by omega
      have HW2 : Aside (∀ m, ∃ z, (W1.drewN dd).drewN m = W1.drewN z) := fun m => ⟨dd + m, by rw [World.drewN_drewN]⟩
      have y3 : (W1.drewN dd).cell? ⟨b, off + k, none⟩ = some (.slice aj (cs.getD k []).length cj) := ck
      have y4 : (W1.drewN dd).cell? ⟨b2, off2 + k, none⟩ = some (.slice aj2 (cs.getD k []).length cj2) := ck2
      clear hc hij ck hc2 hij2 ck2 x1 x2
      go_wp2
      generalize W1.drewN dd = WQ at y1 y2 y3 y4 HK HW2 ⊢
      generalize cs.getD k [] = C at *
      go_quiet ((go_at_call 8; exact Calls.quiet_of (HK.out _)))
      go_wp2
      obtain ⟨z, hz⟩ := HW2.out nq
      go_roundg (gk - 1)
      case measure => omega
      case rel => exact ⟨k + 1, z, by simp, by omega, hz⟩
    · go_wp2
      go_ret
      exact ⟨rfl, ⟨HB1.out.os, HB1.out.tape, HB1.out.output, HB1.out.size, HB1.out.block⟩⟩
end Go.Proofs.Ytfpmacnbfbcjgaa
