import Derived.Test.YteejfmkcdiejlaaDoorPrG
import Derived.Test.YteejfmkcdiejlaaDoorPrD
import Derived.Test.YteejfmkcdiejlaaDoorLend
import Derived.Test.YteejfmkcdiejlaaDoorRChk
import Derived.Test.YteejfmkcdiejlaaDoorWhole
namespace Go.Proofs.YteejfmkcdiejlaaDoor
open Go.ChangeShapes Go.WideShapes Go.ChangeAt Go.RowKit Go.Cn

set_option maxHeartbeats 4000000 in
theorem print_no (vars x er : Int) (v : Value) (w : World) (he : er ≠ 0) (hCk : ∀ W, Below w.heap.size w W → Calls Tryd.prog 11 #[.agg #[.int .i64 vars, v]] W fun e w' => e = .returned (.tuple #[.int .i64 x, .int .i64 er]) ∧ Below W.heap.size W w') :
    Calls Tryd.prog 5 #[.agg #[.int .i64 vars, v]] w fun e w' => e = .returned (.tuple #[.string ⟨#[]⟩, .int .i64 er]) ∧ Below w.heap.size w w' := by
  have HC : Hid (Calls Tryd.prog 11 #[.agg #[.int .i64 vars, v]] (w.alloc (.cells #[.int .i64 vars, v] 24)) fun e w' => e = .returned (.tuple #[.int .i64 x, .int .i64 er]) ∧ Below w.heap.size w w') := (hCk _ (bel_new _ _)).mono fun e w' h7 => ⟨h7.1, (bel_new _ _).trans (bel_le h7.2 (by simp))⟩
  have q1 : (er == 0) = false := beq_eq_false_iff_ne.2 he
  clear hCk
  go_enter Tryd.func5, Tryd.ntmps5
  go_wp2_with fail
  refine HC.out.mono ?_
  rintro e w2 ⟨rfl, hb⟩
  have HB : Hid (Below w.heap.size w w2) := hb
  clear hb
  go_wp2
  first | exact ⟨rfl, HB.out⟩ | (go_ret2; exact ⟨rfl, HB.out⟩)
set_option maxHeartbeats 4000000 in
theorem rprint_no (vars x er : Int) (v : Value) (w : World) (he : er ≠ 0) (hCk : ∀ W, Below w.heap.size w W → Calls Tryd.prog 14 #[.agg #[.int .i64 vars, v]] W fun e w' => e = .returned (.tuple #[.int .i64 x, .int .i64 er]) ∧ Below W.heap.size W w') :
    Calls Tryd.prog 6 #[.agg #[.int .i64 vars, v]] w fun e w' => e = .returned (.tuple #[.string ⟨#[]⟩, .int .i64 er]) ∧ Below w.heap.size w w' := by
  have HC : Hid (Calls Tryd.prog 14 #[.agg #[.int .i64 vars, v]] (w.alloc (.cells #[.int .i64 vars, v] 24)) fun e w' => e = .returned (.tuple #[.int .i64 x, .int .i64 er]) ∧ Below w.heap.size w w') := (hCk _ (bel_new _ _)).mono fun e w' h7 => ⟨h7.1, (bel_new _ _).trans (bel_le h7.2 (by simp))⟩
  have q1 : (er == 0) = false := beq_eq_false_iff_ne.2 he
  clear hCk
  go_enter Tryd.func6, Tryd.ntmps6
  go_wp2_with fail
  refine HC.out.mono ?_
  rintro e w2 ⟨rfl, hb⟩
  have HB : Hid (Below w.heap.size w w2) := hb
  clear hb
  go_wp2
  first | exact ⟨rfl, HB.out⟩ | (go_ret2; exact ⟨rfl, HB.out⟩)
/-- what either Print answers -/
theorem prints_any (vars : Int) (cs : List (List Int)) (hl : cs.length ≤ 5864062014805) (hcl : ∀ j, j < cs.length → (cs.getD j []).length ≤ 17592186044416) : ∃ (S : ByteArray) (er : Int),
    (∀ W ad c, Cls W ad cs → PowT W.heap.size W → Calls Tryd.prog 5 #[.agg #[.int .i64 vars, .slice ad cs.length c]] W fun e w' => e = .returned (.tuple #[.string S, .int .i64 er]) ∧ Below W.heap.size W w') ∧
    (∀ W ad c, Cls W ad cs → Calls Tryd.prog 6 #[.agg #[.int .i64 vars, .slice ad cs.length c]] W fun e w' => e = .returned (.tuple #[.string S, .int .i64 er]) ∧ Below W.heap.size W w') := by
  have hk : ∀ W ad c, Cls W ad cs → ∀ W', Below W.heap.size W W' → Calls Tryd.prog 11 #[.agg #[.int .i64 vars, .slice ad cs.length c]] W' fun e w' => e = .returned (.tuple #[.int .i64 (ck vars cs).1, .int .i64 (ck vars cs).2]) ∧ Below W'.heap.size W' w' := fun W ad c h W' hb => check_any vars ad cs c W' (h.below hb) (by omega) (fun j hj => by have := hcl j hj; omega)
  have hr : ∀ W ad c, Cls W ad cs → ∀ W', Below W.heap.size W W' → Calls Tryd.prog 14 #[.agg #[.int .i64 vars, .slice ad cs.length c]] W' fun e w' => e = .returned (.tuple #[.int .i64 (ck vars cs).1, .int .i64 (ck vars cs).2]) ∧ Below W'.heap.size W' w' := fun W ad c h W' hb => rcheck_any vars ad cs c W' (h.below hb) (by omega) (fun j hj => by have := hcl j hj; omega)
  by_cases h0 : (ck vars cs).2 = 0
  · obtain ⟨k1, k2, k3, k4, k5⟩ := ck_zero h0
    have hlit : ∀ d ∈ cs, ∀ x ∈ d, litB x = true := fun d hd x hx => by
      have := (k4 d hd).2 x hx
      unfold amB at this
      simp only [Bool.and_eq_true] at this
      exact this.1
    have hLn : ∀ k, k ≤ cs.length → (prCt txtL (cs.take k)).length ≤ 200000000 := fun k hk2 => by
      have h1 := prC_len (cs.take k) (fun d hd => hlit d (List.mem_of_mem_take hd))
      have h2 := sum_take cs k
      have h3 : (cs.take k).length ≤ 1048576 := by rw [List.length_take]; omega
      omega
    rw [h0] at hk hr
    refine ⟨⟨(prH vars cs.length ++ prCt txtL cs).toArray⟩, 0, fun W ad c h ht => print_walk txtL vars _ cs.length ad cs c W rfl ⟨k1, k2⟩ k3 (fun k hkn => ?_) hLn ht (hk W ad c h), fun W ad c h => rprint_walk vars _ cs.length ad cs c W rfl ⟨k1, k2⟩ k3 h (fun k hkn => (k4 _ (getD_memL hkn)).1) (fun k hkn => hlit _ (getD_memL hkn)) hLn (hr W ad c h)⟩
    obtain ⟨b, off, e, hb, hc⟩ := h (by omega)
    obtain ⟨aj, cj, h1, h2⟩ := hc k hkn
    refine ⟨b, off, aj, cj, e, fun W' hW' => (World.cell?_of_block (w' := W') (w := W) (a := ⟨b, off + k, none⟩) (hW'.block b hb)).trans h1, fun W' v pre B hB1 hB2 hW' ho hp => ?_⟩
    exact appendLits_m B v pre aj (cs.getD k []) cj W' ho hB2 (fun W'' hb2 => ht W'' (hW'.trans (bel_le hb2 hB1))) (fun W'' hb2 => h2.below (hW'.trans (bel_le hb2 hB1))) (hlit _ (getD_memL hkn)) (by have := (k4 _ (getD_memL hkn)).1; omega)
  · exact ⟨⟨#[]⟩, (ck vars cs).2, fun W ad c h _ => print_no vars _ _ _ W h0 (hk W ad c h), fun W ad c h => rprint_no vars _ _ _ W h0 (hr W ad c h)⟩
set_option maxHeartbeats 4000000 in
set_option maxRecDepth 100000 in
theorem prints_walk (vars : Int) (ad : Option Addr) (cs : List (List Int)) (c : Nat) (w : World) (hf : Fm w ad cs) (hlv : LV w) :
    Calls Tryd.prog 3 #[.agg #[.int .i64 vars, .slice ad cs.length c]] w fun e w' => e = .returned (.bool true) ∧ Below w.heap.size w w' := by
  obtain ⟨S, er, hPa, hPr⟩ := prints_any vars cs hf.len hf.each
  have HPa : Hid (∀ W ad c, Cls W ad cs → PowT W.heap.size W → Calls Tryd.prog 5 #[.agg #[.int .i64 vars, .slice ad cs.length c]] W fun e w' => e = .returned (.tuple #[.string S, .int .i64 er]) ∧ Below W.heap.size W w') := hPa
  have HPr : Hid (∀ W ad c, Cls W ad cs → Calls Tryd.prog 6 #[.agg #[.int .i64 vars, .slice ad cs.length c]] W fun e w' => e = .returned (.tuple #[.string S, .int .i64 er]) ∧ Below W.heap.size W w') := hPr
  clear hPa hPr
  have HF : Hid (Fm w ad cs) := hf
  have HV : Hid (LV w) := hlv
  have HN : Hid (∀ x W, Calls Tryd.prog 7 #[.int .i64 x] W fun e w' => e = .returned (.int .i64 x) ∧ w' = W) := fun x W => no_any x W
  have HB0 : Hid (∀ o, Below w.heap.size w (w.alloc o)) := fun o => (Below.refl _ _).alloc (Nat.le_refl _) o
  clear hf hlv
  go_enter Tryd.func3, Tryd.ntmps3
  go_wp2_with fail
  have y0 : (w.alloc (.cells #[.int .i64 vars, .slice ad cs.length c] 24)).heap[w.heap.size]? = some (.cells #[.int .i64 vars, .slice ad cs.length c] 24 (0, 0)) := heap_alloc_at _ _
  have HBa : Hid (Below w.heap.size w (w.alloc (.cells #[.int .i64 vars, .slice ad cs.length c] 24))) := HB0.out _
  have HSa : Hid ((w.alloc (.cells #[.int .i64 vars, .slice ad cs.length c] 24)).heap.size = w.heap.size + 1) := sz1 _ _
  generalize w.alloc (.cells #[.int .i64 vars, .slice ad cs.length c] 24) = w1 at *
  refine (lend_any vars ad cs c w1 (HF.out.cls.below HBa.out) HF.out.len HF.out.each).mono ?_
  generalize hg : w1.heap.size + 2 = g
  rintro e w2 ⟨rfl, hL, hb2⟩
  have HL2 : Hid (LentF w2 g cs) := hL
  have HB2 : Hid (Below w.heap.size w w2) := below_next HBa.out hb2
  have HF2 : Hid (w2.heap[w.heap.size]? = some (.cells #[.int .i64 vars, .slice ad cs.length c] 24 (0, 0))) := (hb2.block _ (by have := HSa.out; omega)).trans y0
  clear hL hb2 hg y0 HSa HBa
  go_wp2_with fail
  have HBb : Hid (Below w2.heap.size w2 (w2.alloc (.cells #[.int .i64 vars, .slice (some ⟨g, 0, none⟩) cs.length (cs.length + 1)] 24))) := (Below.refl _ _).alloc (Nat.le_refl _) _
  have HG3 : Hid ((w2.alloc (.cells #[.int .i64 vars, .slice (some ⟨g, 0, none⟩) cs.length (cs.length + 1)] 24)).heap[w2.heap.size]? = some (.cells #[.int .i64 vars, .slice (some ⟨g, 0, none⟩) cs.length (cs.length + 1)] 24 (0, 0))) := heap_alloc_at _ _
  have HW3 : Hid (w2.heap.size < (w2.alloc (.cells #[.int .i64 vars, .slice (some ⟨g, 0, none⟩) cs.length (cs.length + 1)] 24)).heap.size ∧ w.heap.size < w2.heap.size) := ⟨by rw [sz1]; omega, by
    have := HF2.out
    by_cases h : w.heap.size < w2.heap.size
    · exact h
    · rw [Array.getElem?_eq_none (by omega)] at this; cases this⟩
  generalize w2.alloc (.cells #[.int .i64 vars, .slice (some ⟨g, 0, none⟩) cs.length (cs.length + 1)] 24) = w3 at *
  have HF3 : Hid (w3.heap[w.heap.size]? = some (.cells #[.int .i64 vars, .slice ad cs.length c] 24 (0, 0))) := (HBb.out.block _ HW3.out.2).trans HF2.out
  have HL3 : Hid (LentF w3 g cs) := HL2.out.below HBb.out
  have HB3 : Hid (Below w.heap.size w w3) := below_next HB2.out HBb.out
  clear HL2 HF2 HB2
  refine (HPa.out w3 (some ⟨g, 0, none⟩) (cs.length + 1) HL3.out.cls (HV.out.below HB3.out).pow).mono ?_
  rintro e w4 ⟨rfl, hb4⟩
  have HB34 : Hid (Below w3.heap.size w3 w4) := hb4
  have HB4 : Hid (Below w.heap.size w w4) := below_next HB3.out hb4
  have y4 : w4.heap[w.heap.size]? = some (.cells #[.int .i64 vars, .slice ad cs.length c] 24 (0, 0)) := (hb4.block _ (by have := HW3.out; omega)).trans HF3.out
  have z0 : w4.cell? ⟨w.heap.size, 0, none⟩ = some (.int .i64 vars) := blk_cell y4 0
  have z1 : w4.cell? ⟨w.heap.size, 1, none⟩ = some (.slice ad cs.length c) := blk_cell y4 1
  clear hb4 y4
  go_wp2_with fail
  refine (HPr.out w4 ad c (HF.out.cls.below HB4.out).cls).mono ?_
  rintro e w5 ⟨rfl, hb5⟩
  have HB35 : Hid (Below w3.heap.size w3 w5) := below_next HB34.out hb5
  have HB5 : Hid (Below w.heap.size w w5) := below_next HB4.out hb5
  clear z0 z1 hb5 HB34 HB4
  have y4 : w5.heap[w.heap.size]? = some (.cells #[.int .i64 vars, .slice ad cs.length c] 24 (0, 0)) := (HB35.out.block _ (by have := HW3.out; omega)).trans HF3.out
  have y5 : w5.heap[w2.heap.size]? = some (.cells #[.int .i64 vars, .slice (some ⟨g, 0, none⟩) cs.length (cs.length + 1)] 24 (0, 0)) := (HB35.out.block _ (by have := HW3.out; omega)).trans HG3.out
  have z0 : w5.cell? ⟨w.heap.size, 0, none⟩ = some (.int .i64 vars) := blk_cell y4 0
  have z1 : w5.cell? ⟨w.heap.size, 1, none⟩ = some (.slice ad cs.length c) := blk_cell y4 1
  have z2 : w5.cell? ⟨w2.heap.size, 0, none⟩ = some (.int .i64 vars) := blk_cell y5 0
  have z3 : w5.cell? ⟨w2.heap.size, 1, none⟩ = some (.slice (some ⟨g, 0, none⟩) cs.length (cs.length + 1)) := blk_cell y5 1
  clear y4 y5
  have HWh : Hid (Calls Tryd.prog 8 #[.agg #[.int .i64 vars, .slice (some ⟨g, 0, none⟩) cs.length (cs.length + 1)], .agg #[.int .i64 vars, .slice ad cs.length c]] w5 fun e w' => e = .returned (.bool true) ∧ Below w5.heap.size w5 w') := whole_any vars g ad cs c w5 (HL3.out.below HB35.out) (HF.out.cls.below HB5.out).cls HF.out.len HF.out.each
  clear HPa HPr
  generalize cs.length = n at *
  go_wp2_with fail
  refine (HN.out _ _).mono ?_
  rintro e w' ⟨rfl, hw⟩
  obtain rfl := hw.symm
  go_wp2_with fail
  refine HWh.out.mono ?_
  rintro e w6 ⟨rfl, hb6⟩
  have HB6 : Hid (Below w.heap.size w w6) := below_next HB5.out hb6
  clear hb6 HWh
  have HLv : Hid (Calls Tryd.prog 9 #[] w6 fun e w' => e = .returned (.bool true) ∧ Below w6.heap.size w6 w') := live_any w6 (HV.out.below HB6.out)
  go_wp2_with fail
  refine HLv.out.mono ?_
  rintro e w7 ⟨rfl, hb7⟩
  have HB7 : Hid (Below w.heap.size w w7) := below_next HB6.out hb7
  clear hb7
  go_wp2
  go_ret
  exact ⟨rfl, HB7.out⟩
end Go.Proofs.YteejfmkcdiejlaaDoor
