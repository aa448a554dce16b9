import Derived.Test.YtekdmdnnpcjaoaaAgLa
namespace Go.Proofs.Ytekdmdnnpcjaoaa
open Go.ChangeShapes Go.WideShapes Go.ChangeAt Go.RowKit Go.Lib Go.Ag Go.WideMaps Go.Maps Go.ChangeMaps Go.Cn

abbrev ns2 : Nds := [none, none]
abbrev ns5 : Nds := [none, none, some (2, 4), some (3, 5), some (7, 9)]
theorem lv_and : andN ns2 2 4 = some (6, [none, none, some (2, 4)]) := by decide +kernel
theorem lv_and2 : andN [none, none, some (2, 4)] 2 4 = some (6, [none, none, some (2, 4)]) := by decide +kernel
theorem lv_and3 : andN [none, none, some (2, 4)] (notN 2) (notN 4) = some (8, [none, none, some (2, 4), some (3, 5)]) := by decide +kernel
theorem lv_and4 : andN [none, none, some (2, 4), some (3, 5)] (notN 6) (notN 8) = some (10, ns5) := by decide +kernel
theorem lv_cone : (coneS ns5 [10]).2 = [1, 2, 3, 4, 5] := by decide +kernel
theorem lv_eval : evalB ns5 [true, false] [6, 10, 11] = [false, true, false] := by decide +kernel
theorem GK.set (w : World) (R : Nat) (vb vg : Value) (M : Option Nat) (i : Nat) (v : Value) : GK w R vb vg M (w.setCell ⟨R, i, none⟩ v) vb vg M :=
  ⟨rfl, rfl, rfl, by simp, fun j _ hn => heap_setCell_other _ _ _ _ (fun e => hn (Or.inl e)), fun _ hj => Or.inl hj⟩
theorem gk_bel {w w1 w' : World} {B : Nat} {vb vg : Value} {M : Option Nat} (h : Below B w w1) (hB : B < w1.heap.size) (hk : GK w1 B (.slice none 0 0) (.slice none 0 0) none w' vb vg M) : Below B w w' :=
  ⟨hk.os.trans h.os, hk.tape.trans h.tape, hk.output.trans h.output, Nat.le_trans h.size hk.size, fun x hx => (hk.kp x (by omega) (fun e => by
    rcases e with e | e | e | e
    · omega
    · cases e
    · cases e
    · cases e)).trans (h.block x hx)⟩
set_option maxHeartbeats 4000000 in
theorem live_any (w : World) : Calls Try.prog 5 #[] w fun e w' => e = .returned (.bool true) ∧ Below w.heap.size w w' := by
  obtain ⟨B, hB⟩ : ∃ B, w.heap.size = B := ⟨_, rfl⟩
  rw [hB]
  have HNew : Hid (Calls Try.prog 4 #[] w fun e w' => e = .returned (.pointer (some ⟨B, 0, none⟩)) ∧ w' = w.alloc (.cells #[.int .i64 0, .slice none 0 0, .slice none 0 0, .map none] 54)) := by rw [← hB]; exact new_any w
  go_enter Try.func5, Try.ntmps5
  go_wp2_with fail
  refine HNew.out.mono ?_
  rintro e w1 ⟨rfl, hw1⟩
  have hB1 : B < w1.heap.size := by rw [hw1]; simp; omega
  have HG1 : Hid (GM w1 B B [] 0 (.slice none 0 0) (.slice none 0 0) none (.map []) ∧ Below B w w1 ∧ B < w1.heap.size) := by
    refine ⟨?_, ?_, hB1⟩
    · rw [hw1]
      exact GM.new (by rw [← hB]; exact heap_alloc_new _ _) (Nat.le_refl _)
    · rw [hw1, ← hB]
      exact ag_bel1 _ _
  clear hw1 HNew
  go_wp2_with fail
  refine (input_any w1 HG1.out.1 (by decide)).mono ?_
  rintro e w2 ⟨rfl, hw2⟩
  have HG2 : Hid (GM w2 B B [none] 0 (.slice none 0 0) (.slice none 0 0) none (.map []) ∧ GK w1 B (.slice none 0 0) (.slice none 0 0) none w2 (.slice none 0 0) (.slice none 0 0) none) := by
    rw [hw2]
    exact ⟨HG1.out.1.input (by decide), GK.set _ _ _ _ _ _ _⟩
  clear hw2
  go_wp2_with fail
  refine (input_any w2 HG2.out.1 (by decide)).mono ?_
  rintro e w3 ⟨rfl, hw3⟩
  have HG3 : Hid (GM w3 B B ns2 0 (.slice none 0 0) (.slice none 0 0) none (.map []) ∧ GK w1 B (.slice none 0 0) (.slice none 0 0) none w3 (.slice none 0 0) (.slice none 0 0) none) := by
    rw [hw3]
    exact ⟨HG2.out.1.input (by decide), HG2.out.2.trans (GK.set _ _ _ _ _ _ _)⟩
  clear hw3 HG2
  go_wp2_with fail
  refine (And_any w3 HG3.out.1 (by have := HG3.out.2.size; omega) 2 4 (by decide) (by decide) (by decide)).mono ?_
  rintro e w4 ⟨l4, ns4, nb4, vb4, vg4, M4, D4, rfl, hn4, hg4, hk4⟩
  rw [lv_and] at hn4
  cases hn4
  have HG4 : Hid (GM w4 B B [none, none, some (2, 4)] nb4 vb4 vg4 M4 D4 ∧ GK w1 B (.slice none 0 0) (.slice none 0 0) none w4 vb4 vg4 M4) := ⟨hg4, HG3.out.2.trans hk4⟩
  clear hg4 hk4 HG3
  go_wp2_with fail
  refine (Xor_any w4 HG4.out.1 (by have := HG4.out.2.size; omega) 2 4 (by decide) (by decide) (by decide)).mono ?_
  rintro e w5 ⟨p5, q5, l5, na, nc, ns5', nb5, vb5, vg5, M5, D5, rfl, hna, hnc, hnd, hg5, hk5⟩
  rw [lv_and2] at hna
  cases hna
  rw [lv_and3] at hnc
  cases hnc
  rw [lv_and4] at hnd
  cases hnd
  have HG5 : Hid (GM w5 B B ns5 nb5 vb5 vg5 M5 D5 ∧ Below B w w5 ∧ B ≤ w5.heap.size) := ⟨hg5, gk_bel HG1.out.2.1 HG1.out.2.2 (HG4.out.2.trans hk5), by have := (HG4.out.2.trans hk5).size; omega⟩
  clear hg5 hk5 HG4 HG1 hB1
  have HC : Hid (Calls Try.prog 9 #[.pointer (some ⟨B, 0, none⟩), .slice (some ⟨w5.heap.size, 0, none⟩) 1 1] (w5.alloc (.cells #[.int .u32 10] 44)) fun e w' => ∃ vC, e = .returned (.tuple #[vC, .int .i64 0]) ∧ Below w5.heap.size w5 w' ∧ w'.ownsRow w5.heap.size 3 1 vC 5 (natV [1, 2, 3, 4, 5])) := by
    have h7 := Cone_ok (w5.alloc (.cells #[.int .u32 10] 44)) (HG5.out.1.over (ag_bel1 _ _)) (some ⟨w5.heap.size, 0, none⟩) [10] 1 (fun _ => ⟨w5.heap.size, 0, rfl, by simp, fun j hj => by
      have hj2 : j < 1 := hj
      rw [ag_cell (heap_alloc_new w5 _)]
      match j, hj2 with
      | 0, _ => rfl⟩) (by intro l hl; simp at hl; omega) (by intro l hl; simp at hl; subst hl; decide) (by simp)
    rw [lv_cone] at h7
    exact h7.mono (by
      rintro e w' ⟨vC, rfl, h1, h2⟩
      exact ⟨vC, rfl, ag_next (ag_bel1 _ _) h1, row_low h2 (by simp)⟩)
  go_wp2_with fail
  refine HC.out.mono ?_
  rintro e w6 ⟨vC, rfl, hb6, hr6⟩
  obtain ⟨aC, cC, rfl, _, _⟩ := row_form hr6
  have HG6 : Hid (GM w6 B B ns5 nb5 vb5 vg5 M5 D5 ∧ Below B w w6 ∧ B ≤ w6.heap.size ∧ Nts w6 aC [1, 2, 3, 4, 5]) := ⟨HG5.out.1.over hb6, HG5.out.2.1.trans (hb6.mono HG5.out.2.2), Nat.le_trans HG5.out.2.2 hb6.size, nts_of hr6⟩
  clear hr6 hb6 HC HG5
  have hx9 : bits .xor .u32 10 1 = 11 := by decide
  have HE : Hid (Calls Try.prog 10 #[.pointer (some ⟨B, 0, none⟩), .slice (some ⟨w6.heap.size, 0, none⟩) 2 2, .slice (some ⟨w6.heap.size + 1, 0, none⟩) 3 3] ((w6.alloc (.cells #[.bool true, .bool false] 4)).alloc (.cells #[.int .u32 6, .int .u32 10, .int .u32 11] 44)) fun e w' => ∃ v, e = .returned (.tuple #[v, .int .i64 0]) ∧ Below w6.heap.size w6 w' ∧ w'.ownsRow w6.heap.size 4 1 v 3 (blV [false, true, false])) := by
    have hs1 : (w6.alloc (.cells #[.bool true, .bool false] 4)).heap.size = w6.heap.size + 1 := by simp
    have h2 := heap_alloc_new (w6.alloc (.cells #[.bool true, .bool false] 4)) (.cells #[.int .u32 6, .int .u32 10, .int .u32 11] 44)
    rw [hs1] at h2
    have h3 := (Below.heap_alloc (w6.alloc (.cells #[.bool true, .bool false] 4)) (.cells #[.int .u32 6, .int .u32 10, .int .u32 11] 44) w6.heap.size (by omega)).trans (heap_alloc_new w6 (.cells #[.bool true, .bool false] 4))
    have hbel := ag_next (ag_bel1 w6 (.cells #[.bool true, .bool false] 4)) (ag_bel1 _ (.cells #[.int .u32 6, .int .u32 10, .int .u32 11] 44))
    have hs2 : ((w6.alloc (.cells #[.bool true, .bool false] 4)).alloc (.cells #[.int .u32 6, .int .u32 10, .int .u32 11] 44)).heap.size = w6.heap.size + 2 := by simp
    have h7 := Eval_ok _ (HG6.out.1.over hbel) (some ⟨w6.heap.size, 0, none⟩) [true, false] 2 (fun _ => ⟨w6.heap.size, 0, rfl, by omega, fun j hj => by
      have hj2 : j < 2 := hj
      rw [ag_cell h3]
      match j, hj2 with
      | 0, _ => rfl
      | 1, _ => rfl⟩) (by decide) (some ⟨w6.heap.size + 1, 0, none⟩) [6, 10, 11] 3 (fun _ => ⟨w6.heap.size + 1, 0, rfl, by omega, fun j hj => by
      have hj2 : j < 3 := hj
      rw [ag_cell h2]
      match j, hj2 with
      | 0, _ => rfl
      | 1, _ => rfl
      | 2, _ => rfl⟩) (by intro l hl; simp at hl; omega) (by intro l hl; simp at hl; rcases hl with rfl | rfl | rfl <;> decide) (by simp)
    rw [lv_eval] at h7
    exact h7.mono (by
      rintro e w' ⟨vC, rfl, h1, h2⟩
      exact ⟨vC, rfl, ag_next hbel h1, row_low h2 (by omega)⟩)
  go_wp2_with fail
  refine HE.out.mono ?_
  rintro e w7 ⟨vE, rfl, hb7, hr7⟩
  obtain ⟨aE, cE, rfl, _, _⟩ := row_form hr7
  have HG7 : Hid (Below B w w7 ∧ B ≤ w7.heap.size ∧ Nts w7 aC [1, 2, 3, 4, 5] ∧ Bls w7 aE [false, true, false]) := ⟨HG6.out.2.1.trans (hb7.mono HG6.out.2.2.1), Nat.le_trans HG6.out.2.2.1 hb7.size, HG6.out.2.2.2.below hb7, bls_of hr7⟩
  clear hr7 hb7 HE HG6
  have HNo : Hid (∀ W, Calls Try.prog 13 #[.int .i64 0] W fun e w' => e = .returned (.int .i64 0) ∧ w' = W) := fun W => no_any 0 W
  have HSI : Hid (Calls Try.prog 14 #[.slice aC 5 cC, .slice (some ⟨w7.heap.size, 0, none⟩) 5 5] (w7.alloc (.cells #[.int .i64 1, .int .i64 2, .int .i64 3, .int .i64 4, .int .i64 5] 3)) fun e w' => e = .returned (.bool true) ∧ Below w7.heap.size w7 w') := by
    have h7 := sameInts_eq (w7.alloc (.cells #[.int .i64 1, .int .i64 2, .int .i64 3, .int .i64 4, .int .i64 5] 3)) aC (some ⟨w7.heap.size, 0, none⟩) cC 5 [1, 2, 3, 4, 5] (HG7.out.2.2.1.below (ag_bel1 _ _)) (fun _ => ⟨w7.heap.size, 0, rfl, by simp, fun j hj => by
      have hj2 : j < 5 := hj
      rw [ag_cell (heap_alloc_new w7 _)]
      match j, hj2 with
      | 0, _ => rfl
      | 1, _ => rfl
      | 2, _ => rfl
      | 3, _ => rfl
      | 4, _ => rfl⟩) (by simp)
    exact h7.mono (by
      rintro e w' ⟨rfl, d, rfl⟩
      exact ⟨rfl, ag_next (ag_bel1 _ _) (drw_bel _ _)⟩)
  have HSB : Hid (∀ W, Below w7.heap.size w7 W → Calls Try.prog 16 #[.slice aE 3 cE, .slice (some ⟨W.heap.size, 0, none⟩) 3 3] (W.alloc (.cells #[.bool false, .bool true, .bool false] 4)) fun e w' => e = .returned (.bool true) ∧ Below B w w') := fun W hW => by
    have h7 := sameBools_eq (W.alloc (.cells #[.bool false, .bool true, .bool false] 4)) aE (some ⟨W.heap.size, 0, none⟩) cE 3 [false, true, false] ((HG7.out.2.2.2.below hW).below (ag_bel1 _ _)) (fun _ => ⟨W.heap.size, 0, rfl, by simp, fun j hj => by
      have hj2 : j < 3 := hj
      rw [ag_cell (heap_alloc_new W _)]
      match j, hj2 with
      | 0, _ => rfl
      | 1, _ => rfl
      | 2, _ => rfl⟩) (by simp)
    exact h7.mono (by
      rintro e w' ⟨rfl, d, rfl⟩
      exact ⟨rfl, HG7.out.1.trans ((ag_next (ag_next hW (ag_bel1 _ _)) (drw_bel _ _)).mono HG7.out.2.1)⟩)
  go_wp2_with (go_at_call 13; refine (HNo.out _).mono ?_; rintro e w' ⟨rfl, hw⟩; obtain rfl := hw.symm)
  refine HSI.out.mono ?_
  rintro e w8 ⟨rfl, hb8⟩
  go_wp2_with fail
  refine (HSB.out w8 hb8).mono ?_
  rintro e w9 ⟨rfl, hb9⟩
  go_wp2_with fail
  first | exact ⟨rfl, hb9⟩ | (go_ret; exact ⟨rfl, hb9⟩)
end Go.Proofs.Ytekdmdnnpcjaoaa
