import Derived.Test.YtlkafgdddlgpcaaDoorLSplitG
import Derived.Test.YtlkafgdddlgpcaaDoorMathV
import Derived.Test.YtlkafgdddlgpcaaDoorAssign
import Derived.Test.YtlkafgdddlgpcaaDoorSameW
import Derived.Test.YtlkafgdddlgpcaaDoorLive
import Derived.Deep.RegionHeld3
import Derived.Deep.RegionWith
namespace Go.Proofs.YtlkafgdddlgpcaaDoor
open Go.ChangeShapes Go.WideShapes Go.ChangeAt Go.RowKit Go.Cn

set_option maxHeartbeats 4000000 in
set_option maxRecDepth 100000 in
theorem splits_bad (vars l : Int) (ad ed : Option Addr) (cs : List (List Int)) (nm c dd : Nat) (w : World) (hf : Fm w ad cs) (hlv : LV w) (h0 : asE vars cs l ≠ 0) :
    Calls Tryd.prog 7 #[.agg #[.int .i64 vars, .slice ad cs.length c], .int .i64 l, .slice ed nm dd] w fun e w' => e = .returned (.bool true) ∧ Below w.heap.size w w' := by
  have HN : Hid (∀ x W, Calls Tryd.prog 11 #[.int .i64 x] W fun e w' => e = .returned (.int .i64 x) ∧ w' = W) := fun x W => no_any x W
  have HB0 : Hid (∀ o, Below w.heap.size w (w.alloc o)) := fun o => (Below.refl _ _).alloc (Nat.le_refl _) o
  have HLv : Hid (∀ W, Below w.heap.size w W → Calls Tryd.prog 13 #[] W fun e w' => e = .returned (.bool true) ∧ Below W.heap.size W w') := fun W hW => live_any W (hlv.below hW)
  have HAs : Hid (∀ W, Below w.heap.size w W → Calls Tryd.prog 22 #[.agg #[.int .i64 vars, .slice ad cs.length c], .int .i64 l] W (AsPost vars cs l W)) := fun W hW => assign_any vars ad cs c l W (hf.cls.below hW).cls (by have := hf.len; omega) (fun j hj => by have := hf.each j hj; omega)
  have HMy : Hid (∀ W, Below w.heap.size w W → Calls Tryd.prog 15 #[.agg #[.int .i64 vars, .slice ad cs.length c], .int .i64 vars] W fun e w' => e = .returned (.bool (decide ((ck vars cs).2 = 0) && decide (vars ≤ vars))) ∧ Below W.heap.size W w') := fun W hW => may_any vars vars ad cs c W (hf.cls.below hW).cls (by have := hf.len; omega) (fun j hj => by have := hf.each j hj; omega)
  have HP : Hid (asC vars cs l = [] ∧ asV vars cs l = 0) := ⟨by unfold asC; rw [if_neg h0], by unfold asV; rw [if_neg h0]⟩
  have HQ : Hid ((ck vars cs).2 = 0 → litB l = true → vars < vr l) := fun h1 h2 => by
    unfold asE at h0
    rw [if_pos h1] at h0
    have : amB vars l = false := by
      cases e : amB vars l
      · rfl
      · rw [if_pos e] at h0; exact absurd rfl h0
    unfold amB at this
    rw [h2] at this
    simp at this
    omega
  have HRl : Hid (∀ W, Calls Tryd.prog 27 #[.int .i64 l] W fun e w' => e = .returned (.bool (litB l)) ∧ w' = W) := fun W => rlit_any l W
  unfold AsPost at HAs
  rw [HP.out.1, HP.out.2] at HAs
  clear hf hlv
  generalize asE vars cs l = ae at *
  have e1 : (ae != 0) = true := by simpa using h0
  generalize cs.length = n at *
  go_enter Tryd.func7, Tryd.ntmps7
  go_wp2_with fail
  have y0 : (w.alloc (.cells #[.int .i64 vars, .slice ad n c] 24)).heap[w.heap.size]? = some (.cells #[.int .i64 vars, .slice ad n c] 24 (0, 0)) := heap_alloc_at _ _
  have HBa : Hid (Below w.heap.size w (w.alloc (.cells #[.int .i64 vars, .slice ad n c] 24))) := HB0.out _
  have HSa : Hid ((w.alloc (.cells #[.int .i64 vars, .slice ad n c] 24)).heap.size = w.heap.size + 1) := sz1 _ _
  generalize w.alloc (.cells #[.int .i64 vars, .slice ad n c] 24) = w1 at *
  refine (HLv.out w1 HBa.out).mono ?_
  rintro e w2 ⟨rfl, hb2⟩
  have HB2 : Hid (Below w.heap.size w w2) := below_next HBa.out hb2
  have HS2 : Hid (w.heap.size < w2.heap.size) := by have := hb2.size; have := HSa.out; show _ < _; omega
  have HY1 : Hid (w2.heap[w.heap.size]? = some (.cells #[.int .i64 vars, .slice ad n c] 24 (0, 0))) := (hb2.block _ (by have := HSa.out; omega)).trans y0
  have z0 : w2.cell? ⟨w.heap.size, 0, none⟩ = some (.int .i64 vars) := blk_cell HY1.out 0
  have z1 : w2.cell? ⟨w.heap.size, 1, none⟩ = some (.slice ad n c) := blk_cell HY1.out 1
  clear y0 hb2 HSa HBa
  go_wp2_with fail
  refine (HAs.out w2 HB2.out).mono ?_
  rintro e w3 ⟨v3, L3, rfl, hO3, hb3⟩
  obtain ⟨ad3, cap3, rfl⟩ := own_shapeC hO3.row
  have HB3 : Hid (Below w.heap.size w w3) := below_next HB2.out hb3
  have y3 : w3.heap[w.heap.size]? = some (.cells #[.int .i64 vars, .slice ad n c] 24 (0, 0)) := (hb3.block _ HS2.out).trans HY1.out
  have HS3 : Hid (w.heap.size < w3.heap.size) := by have := hb3.size; have := HS2.out; show _ < _; omega
  have hB4 : Below w3.heap.size w3 (w3.alloc (.cells #[.int .i64 0, .slice ad3 0 cap3] 24)) := (Below.refl _ _).alloc (Nat.le_refl _) _
  have hG4 : (w3.alloc (.cells #[.int .i64 0, .slice ad3 0 cap3] 24)).heap[w3.heap.size]? = some (.cells #[.int .i64 0, .slice ad3 0 cap3] 24 (0, 0)) := heap_alloc_at _ _
  clear hb3 hO3 z0 z1
  go_wp2_with fail
  generalize w3.alloc (.cells #[.int .i64 0, .slice ad3 0 cap3] 24) = w4 at *
  have HY4 : Hid (w4.heap[w.heap.size]? = some (.cells #[.int .i64 vars, .slice ad n c] 24 (0, 0))) := (hB4.block _ HS3.out).trans y3
  have t0 : w4.cell? ⟨w.heap.size, 0, none⟩ = some (.int .i64 vars) := blk_cell HY4.out 0
  have t1 : w4.cell? ⟨w.heap.size, 1, none⟩ = some (.slice ad n c) := blk_cell HY4.out 1
  have t2 : w4.cell? ⟨w3.heap.size, 1, none⟩ = some (.slice ad3 0 cap3) := blk_cell hG4 1
  have HB4 : Hid (Below w.heap.size w w4) := below_next HB3.out hB4
  have HS4 : Hid (w.heap.size < w4.heap.size) := by have := hB4.size; have := HS3.out; show _ < _; omega
  have HG4 : Hid (w4.heap[w3.heap.size]? = some (.cells #[.int .i64 0, .slice ad3 0 cap3] 24 (0, 0))) := hG4
  have HS5 : Hid (w3.heap.size < w4.heap.size) := by
    show _ < _
    by_cases h : w3.heap.size < w4.heap.size
    · exact h
    · rw [Array.getElem?_eq_none (by omega)] at hG4; cases hG4
  clear y3 hG4 hB4
  refine (HN.out _ _).mono ?_
  rintro e w' ⟨rfl, hw⟩
  obtain rfl := hw.symm
  have HBk : Hid (∀ W, Below w4.heap.size w4 W → Below w.heap.size w W ∧ W.cell? ⟨w.heap.size, 0, none⟩ = some (.int .i64 vars) ∧ W.cell? ⟨w.heap.size, 1, none⟩ = some (.slice ad n c) ∧ W.cell? ⟨w3.heap.size, 1, none⟩ = some (.slice ad3 0 cap3)) := fun W hW => ⟨below_next HB4.out hW, blk_cell ((hW.block _ HS4.out).trans HY4.out) 0, blk_cell ((hW.block _ HS4.out).trans HY4.out) 1, blk_cell ((hW.block _ (by have := HS5.out; omega)).trans HG4.out) 1⟩
  by_cases hk : (ck vars cs).2 = 0
  · have HM1 : Hid (Calls Tryd.prog 15 #[.agg #[.int .i64 vars, .slice ad n c], .int .i64 vars] w4.drew fun e w' => e = .returned (.bool true) ∧ Below w4.heap.size w4 w') := by
      have := HMy.out w4.drew HB4.out.drew
      rw [decide_eq_true hk, decide_eq_true (Int.le_refl vars)] at this
      exact this.mono fun e w' h => ⟨h.1, h.2.os, h.2.tape, h.2.output, h.2.size, h.2.block⟩
    have hQ := HQ.out hk
    clear HMy HLv HAs HB3 HB2 HB0 HQ HY1 HY4
    cases hL : litB l with
    | false =>
      rw [hL] at HRl
      go_wp2
      first | (go_region_with (first
        | (go_at_call 15; refine HM1.out.mono ?_; rintro e w5 ⟨rfl, hb5⟩; have HB5 := HBk.out w5 hb5; have u0 := HB5.2.1; have u1 := HB5.2.2.1; have u2 := HB5.2.2.2; have HB6 : Hid (Below w.heap.size w w5) := HB5.1; clear hb5 HB5)
        | (go_at_call 27; refine (HRl.out _).mono ?_; rintro e w' ⟨rfl, hw⟩; obtain rfl := hw.symm))) | fail
      all_goals
        go_wp2
        go_ret
        exact ⟨rfl, HB6.out⟩
    | true =>
      have hgt := hQ hL
      rw [hL] at HRl
      have HVr : Hid (∀ W, Calls Tryd.prog 28 #[.int .i64 l] W fun e w' => e = .returned (.int .i64 (vr l)) ∧ w' = W) := fun W => rvar_any l W hL
      clear hQ
      generalize vr l = vl at *
      go_wp2
      first | (go_region_held3 (fun W => W.cell? ⟨w.heap.size, 0, none⟩ = some (.int .i64 vars) ∧ W.cell? ⟨w.heap.size, 1, none⟩ = some (.slice ad n c) ∧ W.cell? ⟨w3.heap.size, 1, none⟩ = some (.slice ad3 0 cap3)) (go_keep) (first
        | (go_at_call 15; refine HM1.out.mono ?_; rintro e w5 ⟨rfl, hb5⟩; have HB5 := HBk.out w5 hb5; have u0 := HB5.2.1; have u1 := HB5.2.2.1; have u2 := HB5.2.2.2; have HB6 : Hid (Below w.heap.size w w5) := HB5.1; clear hb5 HB5)
        | (go_at_call 27; refine (HRl.out _).mono ?_; rintro e w' ⟨rfl, hw⟩; obtain rfl := hw.symm)
        | (go_at_call 28; refine (HVr.out _).mono ?_; rintro e w' ⟨rfl, hw⟩; obtain rfl := hw.symm))) | fail
      all_goals
        go_wp2
        go_ret
        exact ⟨rfl, HB6.out⟩
  · have HM1 : Hid (Calls Tryd.prog 15 #[.agg #[.int .i64 vars, .slice ad n c], .int .i64 vars] w4.drew fun e w' => e = .returned (.bool false) ∧ Below w4.heap.size w4 w') := by
      have := HMy.out w4.drew HB4.out.drew
      rw [decide_eq_false hk] at this
      exact this.mono fun e w' h => ⟨h.1, h.2.os, h.2.tape, h.2.output, h.2.size, h.2.block⟩
    clear HMy HLv HAs HB3 HB2 HB0 HQ HY1 HY4
    go_wp2
    first | (go_region_with (first
      | (go_at_call 15; refine HM1.out.mono ?_; rintro e w5 ⟨rfl, hb5⟩; have HB5 := HBk.out w5 hb5; have u0 := HB5.2.1; have u1 := HB5.2.2.1; have u2 := HB5.2.2.2; have HB6 : Hid (Below w.heap.size w w5) := HB5.1; clear hb5 HB5))) | fail
    all_goals
      go_wp2
      go_ret
      exact ⟨rfl, HB6.out⟩
theorem splits_walk (vars l : Int) (ad ed : Option Addr) (cs : List (List Int)) (ms : List Int) (c dd : Nat) (w : World) (hf : Fm w ad cs) (hm : I8 w ed ms) (hml : ms.length ≤ 140737488355328) (hlv : LV w) (hlt : LT w) :
    Calls Tryd.prog 7 #[.agg #[.int .i64 vars, .slice ad cs.length c], .int .i64 l, .slice ed ms.length dd] w fun e w' => e = .returned (.bool true) ∧ Below w.heap.size w w' := by
  by_cases h0 : asE vars cs l = 0
  · exact splits_good vars l ad ed cs ms c dd w hf hm hml hlv hlt h0
  · exact splits_bad vars l ad ed cs ms.length c dd w hf hlv h0
end Go.Proofs.YtlkafgdddlgpcaaDoor
