import Derived.Test.YtkiihbkcccikiaaDoorFr
import Derived.Test.YtkiihbkcccikiaaDoorFr2
import Derived.Test.YtkiihbkcccikiaaDoorFr3
import Derived.Test.YtkiihbkcccikiaaDoorLValues
namespace Go.Proofs.YtkiihbkcccikiaaDoor.cnfValues
open Go.ChangeShapes Go.WideShapes Go.ChangeAt Go.RowKit Go.Cn

set_option maxRecDepth 100000 in
theorem lifted (os : Os) (started : os.Started) (H : Type) (enc : TypeId × Value → H) :
    ReturnsInHanded {} Tryd.checked os 5 .any (fun w args => (Rows.cnfValuesSpec.pre enc Tryd.prog Tryd.f5 [] false w args ∧ laidMetH Tryd.prog Rows.cnfValuesRow.laid w) ∧ sizedMet enc Tryd.prog Tryd.f5 (OpenSpec.ofChange Rows.cnfValuesSpec) false w args)
      (Rows.cnfValuesSpec.post enc Tryd.prog Tryd.f5 false true false false) := by
  refine returnsInHanded_of_change_and (C := Tryd.checked) (X := fun w _ => laidMetH Tryd.prog Rows.cnfValuesRow.laid w) (fun _ _ _ hh h => h.of_heap hh) own started (by kernel_rfl) Tryd.func5
    (ChangeSpec.witness_shaped (enc := enc) (C := Tryd.checked) (os := os) (X := fun w _ => laidMetH Tryd.prog Rows.cnfValuesRow.laid w) false (World.doorLaid Tryd.prog 4000 os) #[.agg #[.int .i64 0, .slice none 0 0], .slice none 0 0, .int .i64 0, .slice none 0 0] 8 rfl (World.shaped_of_RefB (by kernel_rfl) (by kernel_rfl)) (by kernel_rfl) (by kernel_rfl) (by kernel_rfl) (door_met os _)) ?_
  intro W base args ds gs before hval0 hW _ hsz0 hL _
  have hval : ∀ (j : Nat) t v, Tryd.f5.params[j]? = some t → args[j]? = some v → Value.okWide Tryd.prog W .any base t v := hval0
  have hW' := hW
  obtain ⟨p, q, hA0, hV, rfl, hfz, hnd⟩ := hW
  have hA : DataW.TrodAll enc Tryd.prog W 0 (fun _ => true) true Tryd.f5.params.toList args.toList ds p := hA0
  have hsz : (DataW.weightsEach Tryd.prog (Tryd.f5.params.toList ++ Rows.cnfValuesSpec.plain.varTypes Tryd.prog) (ds ++ gs)).all (· ≤ reachBytes) = true := hsz0
  rw [Tryd.params5] at hA hval hsz
  obtain ⟨v0, vs0, d0, ds0, p0, q0, hargs, rfl, rfl, h0, r0⟩ := trodAll_cons hA
  obtain ⟨v1, vs1, d1, ds1, p1, q1, rfl, rfl, rfl, h1, r1⟩ := trodAll_cons r0
  obtain ⟨v2, vs2, d2, ds2, p2, q2, rfl, rfl, rfl, h2, r2⟩ := trodAll_cons r1
  obtain ⟨v3, vs3, d3, ds3, p3, q3, rfl, rfl, rfl, h3, r3⟩ := trodAll_cons r2
  obtain ⟨rfl, rfl, rfl⟩ := trodAll_nil r3
  obtain rfl : args = #[v0, v1, v2, v3] := by cases args; simp_all
  obtain ⟨rfl, rfl⟩ := trodVars_none hV
  have k0 := h0
  have lt0 : ∀ x ∈ p0, x.block < W.heap.size := by obtain ⟨m, hm⟩ := k0; exact DataW.trod_lt m _ _ _ hm
  obtain ⟨vars0, ad0, cap0, cs0, rfl, b0, fm0⟩ := open_formula (hval 0 37 v0 rfl rfl) h0 (fun z hz => sized_part hsz (j := 0) (t := 37) rfl rfl hz)
  obtain ⟨ad1, len1, cap1, rfl⟩ := okWide_slice Tryd.underlying23 (hval 1 23 v1 rfl rfl)
  have k1 := h1
  have lt1 : ∀ x ∈ p1, x.block < W.heap.size := by obtain ⟨m, hm⟩ := k1; exact DataW.trod_lt m _ _ _ hm
  obtain ⟨xs1, rfl, sl1, hb1⟩ : ∃ xs : List Int, xs.length = len1 ∧ Sl W ad1 cap1 xs ∧ (cap1 = 0 ∨ ∃ elems spare, d1 = .slice elems spare ∧ elems.length + spare.length = cap1) := by
    obtain ⟨fuel, hf⟩ := h1
    exact open_clause (x := (d1, p1)) hf
  have hl1 : xs1.length ≤ 17592186044416 := by
    have hle := sl1.le
    rcases hb1 with h | ⟨elems, spare, e, h⟩
    · omega
    · have := sized_slice hsz (j := 1) (t := 23) (e := 3) rfl (by rw [e]; rfl) Tryd.underlying23
      rw [bytesI] at this
      unfold reachBytes at this
      omega
  obtain ⟨a2, rfl, rfl, rfl, w2⟩ := open_int Tryd.underlying3 (hval 2 3 v2 rfl rfl) h2
  have b2 := bounds_i64 w2
  obtain ⟨ad3, len3, cap3, rfl⟩ := okWide_slice Tryd.underlying45 (hval 3 45 v3 rfl rfl)
  have k3 := h3
  have lt3 : ∀ x ∈ p3, x.block < W.heap.size := by obtain ⟨m, hm⟩ := k3; exact DataW.trod_lt m _ _ _ hm
  obtain ⟨xs3, rfl, sl3, hb3⟩ : ∃ xs : List Int, xs.length = len3 ∧ Sli8 W ad3 cap3 xs ∧ (cap3 = 0 ∨ ∃ elems spare, d3 = .slice elems spare ∧ elems.length + spare.length = cap3) := by
    obtain ⟨fuel, hf⟩ := h3
    exact open_i8 (x := (d3, p3)) hf
  have hl3 : xs3.length ≤ 140737488355328 := by
    have hle := sl3.le
    rcases hb3 with h | ⟨elems, spare, e, h⟩
    · omega
    · have := sized_slice hsz (j := 3) (t := 45) (e := 46) rfl (by rw [e]; rfl) Tryd.underlying45
      rw [bytesB] at this
      unfold reachBytes at this
      omega
  have hLV : LV W := of_laid hL
  clear hA0 hval0
  simp only [List.append_nil] at hW'
  refine (values_walk vars0 ad0 ad3 ad1 cs0 xs1 xs3 cap0 cap3 cap1 a2 W fm0 sl1 hl1 sl3.i8 hl3 hLV).mono fun e W' ⟨he, bel⟩ => ?_
  subst he
  exact ⟨_, rfl, _, _, _, [], _, [], hW', trodAll_mk1 (shut_bool Tryd.underlying4 _), (trodAll_cons_mk (Below.trod laidOut (by kernel_rfl) (of_decide_eq_true (by kernel_rfl)) k0 bel lt0) (trodAll_cons_mk (Below.trod laidOut (by kernel_rfl) (of_decide_eq_true (by kernel_rfl)) k1 bel lt1) (trodAll_cons_mk (shut_int Tryd.underlying3 w2) (trodAll_cons_mk (Below.trod laidOut (by kernel_rfl) (of_decide_eq_true (by kernel_rfl)) k3 bel lt3) trodAll_mk0)))), rfl, bel.frame _, fun h => by cases h⟩
theorem row_holds : Rows.CnfValuesSaid :=
  OpenClaim.holds_of_wide 5 Tryd.f5 rfl rfl rfl rfl rfl rfl rfl ⟨rfl, rfl, rfl, rfl, rfl⟩ rfl rfl rfl rfl rfl (by kernel_rfl) Tryd.func5 (by kernel_rfl)
    (of_decide_eq_true (by kernel_rfl)) (by unfold Func.isWrapper; first | (rw [if_pos (by decide +kernel)]; kernel_rfl) | (rw [if_neg (by decide +kernel)]; exact ⟨rfl, rfl⟩))
    (fun os started H enc _ => lifted os started H enc)
end Go.Proofs.YtkiihbkcccikiaaDoor.cnfValues
namespace Go.Proofs.YtkiihbkcccikiaaDoor
theorem cnfValues_holds : Rows.CnfValuesCardSaid :=
  Claim7.holds_tied_plain_at .later [] [.data, .data, .data, .data] true (true, "d7a52b9da03550a0bdbe0e4e6f2c8717334720fd1d24904a26aa144d8e4e716b") false
    cnfValues.row_holds (fun _ h => by cases h) (by kernel_rfl) (fun _ h => by cases h) cnfValues_row_tie rfl ⟨rfl, rfl⟩ (by kernel_rfl) rfl
    (fun f fn hf hfn => by
      obtain rfl : f = 5 := Option.some.inj ((show Tryd.prog.funcNamed "cadence/cadencelaw02.CnfValues" = some 5 by kernel_rfl).symm.trans hf) |>.symm
      obtain rfl : fn = Tryd.f5 := (Option.some.inj (Tryd.func5.symm.trans hfn)).symm
      exact ⟨by kernel_rfl, fun j t ht => by
        rw [Tryd.params5] at ht
        have hm : t ∈ [37, 23, 3, 45] := by simpa using Array.mem_of_getElem? ht
        have hall : ([37, 23, 3, 45].all fun u => !Tryd.prog.wantsStandIn u) = true := by kernel_rfl
        exact (show Tryd.prog.wantsStandIn t = false by simpa using List.all_eq_true.1 hall t hm)⟩)
    (by kernel_rfl)
#print axioms cnfValues_holds
end Go.Proofs.YtkiihbkcccikiaaDoor
