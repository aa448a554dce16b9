import Derived.Test.YtlkafgdddlgpcaaDoorCountW
import Derived.Test.YtlkafgdddlgpcaaDoorMathV
import Derived.Test.YtlkafgdddlgpcaaDoorAssign
import Derived.Test.YtlkafgdddlgpcaaDoorSameW
import Derived.Test.YtlkafgdddlgpcaaDoorLive
namespace Go.Proofs.YtlkafgdddlgpcaaDoor
open Go.ChangeShapes Go.WideShapes Go.ChangeAt Go.RowKit Go.Cn

theorem asg_each {vars : Int} {cs : List (List Int)} (l : Int) (h : (ck vars cs).2 = 0) : (asg l cs).length ≤ 1048576 ∧ ∀ j, j < (asg l cs).length → ((asg l cs).getD j []).length ≤ 65536 := by
  have hz := ck_zero (ck_asg l h)
  refine ⟨hz.2.2.1, fun j hj => ?_⟩
  have hm : (asg l cs).getD j [] ∈ asg l cs := by rw [List.getD_eq_getElem?_getD, List.getElem?_eq_getElem hj]; exact List.getElem_mem _
  exact (hz.2.2.2.1 _ hm).1
set_option maxHeartbeats 4000000 in
set_option maxRecDepth 100000 in
theorem splits_good (vars l : Int) (ad ed : Option Addr) (cs : List (List Int)) (ms : List Int) (c dd : Nat) (w : World) (hf : Fm w ad cs) (hm : I8 w ed ms) (hml : ms.length ≤ 140737488355328) (hlv : LV w) (hlt : LT w) (h0 : asE vars cs l = 0) :
    Calls Tryd.prog 7 #[.agg #[.int .i64 vars, .slice ad cs.length c], .int .i64 l, .slice ed ms.length dd] w fun e w' => e = .returned (.bool true) ∧ Below w.heap.size w w' := by
  have hk : (ck vars cs).2 = 0 := by
    unfold asE at h0
    by_cases e : (ck vars cs).2 = 0
    · exact e
    · rw [if_neg e] at h0; exact h0
  have ham : amB vars l = true := by
    unfold asE at h0
    rw [if_pos hk] at h0
    cases e : amB vars l
    · rw [e] at h0; simp at h0
    · rfl
  have hz := ck_zero hk
  obtain ⟨nv, rfl⟩ : ∃ nv : Nat, vars = nv := ⟨vars.toNat, by omega⟩
  have hll : litB l = true ∧ vr l ≤ nv := by unfold amB at ham; simpa using ham
  have hlb := litB_iff.1 hll.1
  have hnl : litB (-l) = true := litB_iff.2 ⟨by omega, by omega, by omega⟩
  have ham2 : amB (nv : Int) (-l) = true := by
    have : vr (-l) = vr l := by unfold vr; split <;> split <;> omega
    unfold amB; rw [hnl, this]; simpa using hll.2
  have h0n : asE (nv : Int) cs (-l) = 0 := by unfold asE; rw [if_pos hk, if_pos ham2]
  have HN : Hid (∀ x W, Calls Tryd.prog 11 #[.int .i64 x] W fun e w' => e = .returned (.int .i64 x) ∧ w' = W) := fun x W => no_any x W
  have HB0 : Hid (∀ o, Below w.heap.size w (w.alloc o)) := fun o => (Below.refl _ _).alloc (Nat.le_refl _) o
  have HLv : Hid (∀ W, Below w.heap.size w W → Calls Tryd.prog 13 #[] W fun e w' => e = .returned (.bool true) ∧ Below W.heap.size W w') := fun W hW => live_any W (hlv.below hW)
  have hfl := hf.len
  have hfe : ∀ j, j < cs.length → (cs.getD j []).length ≤ 1000000000000000000 := fun j hj => by have := hf.each j hj; omega
  have HAs : Hid (∀ k : Int, asE (nv : Int) cs k = 0 → ∀ W, Below w.heap.size w W → Calls Tryd.prog 22 #[.agg #[.int .i64 nv, .slice ad cs.length c], .int .i64 k] W fun e w' => ∃ v L, e = .returned (.tuple #[.agg #[.int .i64 nv, v], .int .i64 0]) ∧ OwnL w' W.heap.size v L (asg k cs) ∧ Below W.heap.size W w') := fun k hk0 W hW => by
    have := assign_any nv ad cs c k W (hf.cls.below hW).cls (by omega) hfe
    unfold AsPost at this
    rw [hk0, show asC (nv : Int) cs k = asg k cs by unfold asC; rw [if_pos hk0], show asV (nv : Int) cs k = nv by unfold asV; rw [if_pos hk0]] at this
    exact this
  have HA1 := HAs.out l h0
  have HA2 := HAs.out (-l) h0n
  have HAl : Hid (∀ W, Below w.heap.size w W → Calls Tryd.prog 22 #[.agg #[.int .i64 nv, .slice ad cs.length c], .int .i64 l] W fun e w' => ∃ v L, e = .returned (.tuple #[.agg #[.int .i64 nv, v], .int .i64 0]) ∧ OwnL w' W.heap.size v L (asg l cs) ∧ Below W.heap.size W w') := HA1
  have HAn : Hid (∀ W, Below w.heap.size w W → Calls Tryd.prog 22 #[.agg #[.int .i64 nv, .slice ad cs.length c], .int .i64 (-l)] W fun e w' => ∃ v L, e = .returned (.tuple #[.agg #[.int .i64 nv, v], .int .i64 0]) ∧ OwnL w' W.heap.size v L (asg (-l) cs) ∧ Below W.heap.size W w') := HA2
  clear HAs HA1 HA2
  have HU1 : Hid (∀ W, Below w.heap.size w W → Calls Tryd.prog 18 #[.agg #[.int .i64 nv, .slice ad cs.length c], .slice ed ms.length dd] W fun e w' => ∃ p, e = .returned (.tuple #[.int .i8 (fVal ms cs), .int .i64 p, .int .i64 0]) ∧ Below W.heap.size W w') := fun W hW => by
    have := under_any nv ad ed cs ms c dd W (hf.cls.below hW).cls (hm.below hW) (by omega) hfe (by omega)
    rw [(un_val hk).1, (un_val hk).2] at this
    exact this.mono fun e w' h => ⟨_, h.1, h.2⟩
  have hel := asg_each l hk
  have hen := asg_each (-l) hk
  have HU2 : Hid (∀ W a5 c5, Below w.heap.size w W → Cls W a5 (asg l cs) → Calls Tryd.prog 18 #[.agg #[.int .i64 nv, .slice a5 (asg l cs).length c5], .slice ed ms.length dd] W fun e w' => ∃ p, e = .returned (.tuple #[.int .i8 (fVal ms (asg l cs)), .int .i64 p, .int .i64 0]) ∧ Below W.heap.size W w') := fun W a5 c5 hW hc => by
    have := under_any nv a5 ed (asg l cs) ms c5 dd W hc (hm.below hW) (by omega) (fun j hj => by have := hel.2 j hj; omega) (by omega)
    rw [(un_val (ck_asg l hk)).1, (un_val (ck_asg l hk)).2] at this
    exact this.mono fun e w' h => ⟨_, h.1, h.2⟩
  have HOf : Hid (∀ W, Below w.heap.size w W → Calls Tryd.prog 29 #[.slice ed ms.length dd, .int .i64 l] W fun e w' => e = .returned (.int .i8 (ofB ms l)) ∧ w' = W) := fun W hW => of_any ed ms dd l W (hm.below hW) (by omega)
  have HCf : Hid (nv ≤ 12 → ∀ W, Below w.heap.size w W → Calls Tryd.prog 25 #[.agg #[.int .i64 nv, .slice ad cs.length c]] W fun e w' => e = .returned (.tuple #[.int .u64 (models nv cs : Nat), .int .i64 0]) ∧ Below W.heap.size W w') := fun h12 W hW => by
    have := count_any nv ad cs c W (hf.cls.below hW) (by omega) hfe (hlv.below hW) (hlt.below hW)
    rw [show cnR (nv : Int) cs = models nv cs by unfold cnR; rw [if_pos hk, if_neg (by omega)]; simp, show cnE (nv : Int) cs = 0 by unfold cnE; rw [if_pos hk, if_neg (by omega)]] at this
    exact this
  have HCa : Hid (nv ≤ 12 → ∀ (k : Int) W a5 c5, Below w.heap.size w W → ClsS W a5 (asg k cs) → Calls Tryd.prog 25 #[.agg #[.int .i64 nv, .slice a5 (asg k cs).length c5]] W fun e w' => e = .returned (.tuple #[.int .u64 (models nv (asg k cs) : Nat), .int .i64 0]) ∧ Below W.heap.size W w') := fun h12 k W a5 c5 hW hc => by
    have he := asg_each k hk
    have hka := ck_asg k hk
    have := count_any nv a5 (asg k cs) c5 W hc (by omega) (fun j hj => by have := he.2 j hj; omega) (hlv.below hW) (hlt.below hW)
    rw [show cnR (nv : Int) (asg k cs) = models nv (asg k cs) by unfold cnR; rw [if_pos hka, if_neg (by omega)]; simp, show cnE (nv : Int) (asg k cs) = 0 by unfold cnE; rw [if_pos hka, if_neg (by omega)]] at this
    exact this
  have hsp : 2 * models nv cs = models nv (asg l cs) + models nv (asg (-l) cs) := models_split ham (fun c hc m hm => (hz.2.2.2.1 c hc).2 m hm)
  have hmb : nv ≤ 12 → models nv cs ≤ 4096 := fun h12 => by
    have h1 : models nv cs ≤ 2 ^ nv := cnt_le _ _
    have h2 := Nat.pow_le_pow_right (n := 2) (by omega) h12
    have h3 : (2 : Nat) ^ 12 = 4096 := by decide
    omega
  have hva : ofB ms l = 1 → fVal ms (asg l cs) = fVal ms cs := fun h => fVal_asg hll.1 h cs
  have hfr := fVal_range ms cs
  have hfr2 := fVal_range ms (asg l cs)
  have hof := ofB_three ms l
  clear hz hk ham ham2 h0 h0n hll hnl hel hen hf hm hlv hlt hfe
  have HCl : Hid (nv ≤ 12 → ∀ W a5 c5, Below w.heap.size w W → ClsS W a5 (asg l cs) → Calls Tryd.prog 25 #[.agg #[.int .i64 nv, .slice a5 (asg l cs).length c5]] W fun e w' => e = .returned (.tuple #[.int .u64 (models nv (asg l cs) : Nat), .int .i64 0]) ∧ Below W.heap.size W w') := fun h => HCa.out h l
  have HCn : Hid (nv ≤ 12 → ∀ W a5 c5, Below w.heap.size w W → ClsS W a5 (asg (-l) cs) → Calls Tryd.prog 25 #[.agg #[.int .i64 nv, .slice a5 (asg (-l) cs).length c5]] W fun e w' => e = .returned (.tuple #[.int .u64 (models nv (asg (-l) cs) : Nat), .int .i64 0]) ∧ Below W.heap.size W w') := fun h => HCa.out h (-l)
  clear HCa
  generalize models nv cs = mc at *
  generalize models nv (asg l cs) = ml at *
  generalize models nv (asg (-l) cs) = mn at *
  generalize fVal ms cs = xf at *
  generalize fVal ms (asg l cs) = xg at *
  generalize ofB ms l = ol at *
  generalize asg l cs = Tl at *
  generalize asg (-l) cs = Tn at *
  generalize cs.length = n at *
  generalize ms.length = nm at *
  generalize hql : Tl.length = ql at *
  generalize hqn : Tn.length = qn at *
  go_enter Tryd.func7, Tryd.ntmps7
  go_wp2_with fail
  have y0 : (w.alloc (.cells #[.int .i64 nv, .slice ad n c] 24)).heap[w.heap.size]? = some (.cells #[.int .i64 nv, .slice ad n c] 24 (0, 0)) := heap_alloc_at _ _
  have HBa : Hid (Below w.heap.size w (w.alloc (.cells #[.int .i64 nv, .slice ad n c] 24))) := HB0.out _
  have HSa : Hid ((w.alloc (.cells #[.int .i64 nv, .slice ad n c] 24)).heap.size = w.heap.size + 1) := sz1 _ _
  generalize w.alloc (.cells #[.int .i64 nv, .slice ad n c] 24) = w1 at *
  refine (HLv.out w1 HBa.out).mono ?_
  rintro e w2 ⟨rfl, hb2⟩
  have HB2 : Hid (Below w.heap.size w w2) := below_next HBa.out hb2
  have HS2 : Hid (w.heap.size < w2.heap.size) := by have := hb2.size; have := HSa.out; show _ < _; omega
  have HY1 : Hid (w2.heap[w.heap.size]? = some (.cells #[.int .i64 nv, .slice ad n c] 24 (0, 0))) := (hb2.block _ (by have := HSa.out; omega)).trans y0
  have z0 : w2.cell? ⟨w.heap.size, 0, none⟩ = some (.int .i64 nv) := blk_cell HY1.out 0
  have z1 : w2.cell? ⟨w.heap.size, 1, none⟩ = some (.slice ad n c) := blk_cell HY1.out 1
  clear y0 hb2 HSa HBa HLv HB0
  go_wp2_with fail
  refine (HAl.out w2 HB2.out).mono ?_
  rintro e w3 ⟨v3, L3, rfl, hO3, hb3⟩
  have hO3' := hO3.row
  rw [hql] at hO3'
  obtain ⟨ad3, cap3, rfl⟩ := own_shapeC hO3'
  have hS3 : w.heap.size < w3.heap.size := by have := hb3.size; have := HS2.out; omega
  have hY3 : w3.heap[w.heap.size]? = some (.cells #[.int .i64 nv, .slice ad n c] 24 (0, 0)) := (hb3.block _ HS2.out).trans HY1.out
  have HB3 : Hid (Below w.heap.size w w3) := below_next HB2.out hb3
  have hG4 : (w3.alloc (.cells #[.int .i64 nv, .slice ad3 ql cap3] 24)).heap[w3.heap.size]? = some (.cells #[.int .i64 nv, .slice ad3 ql cap3] 24 (0, 0)) := heap_alloc_at _ _
  have hS4 : (w3.alloc (.cells #[.int .i64 nv, .slice ad3 ql cap3] 24)).heap.size = w3.heap.size + 1 := sz1 _ _
  have hB4 : Below w3.heap.size w3 (w3.alloc (.cells #[.int .i64 nv, .slice ad3 ql cap3] 24)) := (Below.refl _ _).alloc (Nat.le_refl _) _
  clear z0 z1 hb3 hO3' HB2 HS2 HY1 HAl
  go_wp2_with fail
  generalize w3.alloc (.cells #[.int .i64 nv, .slice ad3 ql cap3] 24) = w4 at *
  have hF4 : w4.heap[w.heap.size]? = some (.cells #[.int .i64 nv, .slice ad n c] 24 (0, 0)) := (hB4.block _ hS3).trans hY3
  have HYc : Hid (∀ W, Below w4.heap.size w4 W → (W.cell? ⟨w.heap.size, 0, none⟩ = some (.int .i64 nv) ∧ W.cell? ⟨w.heap.size, 1, none⟩ = some (.slice ad n c)) ∧ W.cell? ⟨w3.heap.size, 0, none⟩ = some (.int .i64 nv) ∧ W.cell? ⟨w3.heap.size, 1, none⟩ = some (.slice ad3 ql cap3)) := fun W hW => by
    have a1 := (hW.block w.heap.size (by omega)).trans hF4
    have a2 := (hW.block w3.heap.size (by omega)).trans hG4
    exact ⟨⟨blk_cell a1 0, blk_cell a1 1⟩, blk_cell a2 0, blk_cell a2 1⟩
  have HO4 : Hid (OwnL w4 w2.heap.size (.slice ad3 ql cap3) L3 Tl) := hO3.below hB4
  have HB4 : Hid (Below w.heap.size w w4) := below_next HB3.out hB4
  clear hG4 hS4 hB4 hF4 hY3 hO3 HB3 hS3
  refine (HN.out _ _).mono ?_
  rintro e w' ⟨rfl, hw⟩
  obtain rfl := hw.symm
  obtain ⟨⟨f0, f1⟩, g0, g1⟩ := HYc.out w4 (Below.refl _ _)
  go_wp2_with fail
  refine (HU1.out w4 HB4.out).mono ?_
  rintro e w5 ⟨p5, rfl, hb5⟩
  have HB45 : Hid (Below w4.heap.size w4 w5) := hb5
  clear hb5 f0 f1 g0 g1 HU1
  obtain ⟨⟨f0, f1⟩, g0, g1⟩ := HYc.out w5 HB45.out
  go_wp2_with fail
  refine (HU2.out w5 ad3 cap3 (below_next HB4.out HB45.out) (HO4.out.cls.below HB45.out)).mono ?_
  rintro e w6 ⟨p6, rfl, hb6⟩
  have HB46 : Hid (Below w4.heap.size w4 w6) := below_next HB45.out hb6
  clear hb6 f0 f1 g0 g1 HU2 HB45
  obtain ⟨⟨f0, f1⟩, g0, g1⟩ := HYc.out w6 HB46.out
  go_wp2_with fail
  refine (HOf.out w6 (below_next HB4.out HB46.out)).mono ?_
  rintro e w' ⟨rfl, hw⟩
  obtain rfl := hw.symm
  have HB06 : Hid (Below w.heap.size w w6) := below_next HB4.out HB46.out
  clear HOf
  by_cases hO : ol = 1
  have hxe := hva hO
  clear hva hof
  subst hO
  subst hxe
  go_wp2_with fail
  rotate_left
  have e1 : (ol == 1) = false := by simpa using hO
  clear hva hof
  go_wp2_with fail
  all_goals
    refine (HAn.out w6 HB06.out).mono ?_
    rintro e w7 ⟨v7, L7, rfl, hO7, hb7⟩
    have hO7' := hO7.row
    rw [hqn] at hO7'
    obtain ⟨ad7, cap7, rfl⟩ := own_shapeC hO7'
    have HB47 : Hid (Below w4.heap.size w4 w7) := below_next HB46.out hb7
    have hG8 : (w7.alloc (.cells #[.int .i64 nv, .slice ad7 qn cap7] 24)).heap[w7.heap.size]? = some (.cells #[.int .i64 nv, .slice ad7 qn cap7] 24 (0, 0)) := heap_alloc_at _ _
    have hS8 : (w7.alloc (.cells #[.int .i64 nv, .slice ad7 qn cap7] 24)).heap.size = w7.heap.size + 1 := sz1 _ _
    have hB8 : Below w7.heap.size w7 (w7.alloc (.cells #[.int .i64 nv, .slice ad7 qn cap7] 24)) := (Below.refl _ _).alloc (Nat.le_refl _) _
    clear f0 f1 g0 g1 hb7 hO7'
    go_wp2_with fail
    generalize w7.alloc (.cells #[.int .i64 nv, .slice ad7 qn cap7] 24) = w8 at *
    have HB48 : Hid (Below w4.heap.size w4 w8) := below_next HB47.out hB8
    have HO8 : Hid (OwnL w8 w6.heap.size (.slice ad7 qn cap7) L7 Tn) := hO7.below hB8
    have HB08 : Hid (Below w.heap.size w w8) := below_next HB4.out HB48.out
    have HKc : Hid (∀ W, Below w8.heap.size w8 W → W.cell? ⟨w7.heap.size, 0, none⟩ = some (.int .i64 nv) ∧ W.cell? ⟨w7.heap.size, 1, none⟩ = some (.slice ad7 qn cap7)) := fun W hW => by
      have a2 := (hW.block w7.heap.size (by omega)).trans hG8
      exact ⟨blk_cell a2 0, blk_cell a2 1⟩
    have HYd : Hid (∀ W, Below w8.heap.size w8 W → (W.cell? ⟨w.heap.size, 0, none⟩ = some (.int .i64 nv) ∧ W.cell? ⟨w.heap.size, 1, none⟩ = some (.slice ad n c)) ∧ W.cell? ⟨w3.heap.size, 0, none⟩ = some (.int .i64 nv) ∧ W.cell? ⟨w3.heap.size, 1, none⟩ = some (.slice ad3 ql cap3)) := fun W hW => HYc.out W (below_next HB48.out hW)
    have HC8 : Hid (ClsS w8 ad3 Tl ∧ ClsS w8 ad7 Tn) := ⟨HO4.out.clsS.below HB48.out, HO8.out.clsS⟩
    clear hG8 hS8 hB8 hO7 HB47 HB46 HYc HO4 HO8 HB06 HAn HB4
    refine (HN.out _ _).mono ?_
    rintro e w' ⟨rfl, hw⟩
    obtain rfl := hw.symm
    obtain ⟨⟨f0, f1⟩, g0, g1⟩ := HYd.out w8 (Below.refl _ _)
    obtain ⟨k0, k1⟩ := HKc.out w8 (Below.refl _ _)
    by_cases h12 : 12 < nv
    · have q12 : (12 : Int) < (nv : Int) := by omega
      go_wp2_with fail
      refine (HN.out _ _).mono ?_
      rintro e w' ⟨rfl, hw⟩
      obtain rfl := hw.symm
      go_wp2
      go_ret
      exact ⟨rfl, HB08.out⟩
    · have q12 : (nv : Int) ≤ 12 := by omega
      have h12' : nv ≤ 12 := by omega
      have hmc := hmb h12'
      go_wp2_with fail
      refine (HCf.out h12' w8 HB08.out).mono ?_
      rintro e w9 ⟨rfl, hb9⟩
      have HB89 : Hid (Below w8.heap.size w8 w9) := hb9
      clear hb9 f0 f1 g0 g1 k0 k1
      obtain ⟨⟨f0, f1⟩, g0, g1⟩ := HYd.out w9 HB89.out
      go_wp2_with fail
      refine (HCl.out h12' w9 ad3 cap3 (below_next HB08.out HB89.out) (HC8.out.1.below HB89.out)).mono ?_
      rintro e w10 ⟨rfl, hb10⟩
      have HB810 : Hid (Below w8.heap.size w8 w10) := below_next HB89.out hb10
      clear hb10 f0 f1 g0 g1
      obtain ⟨k0, k1⟩ := HKc.out w10 HB810.out
      go_wp2_with fail
      refine (HCn.out h12' w10 ad7 cap7 (below_next HB08.out HB810.out) (HC8.out.2.below HB810.out)).mono ?_
      rintro e w11 ⟨rfl, hb11⟩
      have HBz : Hid (Below w.heap.size w w11) := below_next (below_next HB08.out HB810.out) hb11
      clear hb11 k0 k1 HKc HYd HC8 HCf HCl HCn
      go_wp2_with fail
      refine (HN.out _ _).mono ?_
      rintro e w' ⟨rfl, hw⟩
      obtain rfl := hw.symm
      go_wp2_with fail
      refine (HN.out _ _).mono ?_
      rintro e w' ⟨rfl, hw⟩
      obtain rfl := hw.symm
      go_wp2_with fail
      refine (HN.out _ _).mono ?_
      rintro e w' ⟨rfl, hw⟩
      obtain rfl := hw.symm
      have hE : (2 * (mc : Int) == (ml : Int) + (mn : Int)) = true := by
        have : (2 * (mc : Int)) = (ml : Int) + (mn : Int) := by omega
        rw [this]; simp
      go_wp2
      go_ret
      exact ⟨rfl, HBz.out⟩
end Go.Proofs.YtlkafgdddlgpcaaDoor
