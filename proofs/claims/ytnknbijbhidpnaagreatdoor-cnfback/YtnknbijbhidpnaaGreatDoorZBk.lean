import Derived.Test.YtnknbijbhidpnaaGreatDoorBkF
namespace Go.Proofs.YtnknbijbhidpnaaGreatDoor.cnfBack
open Go.ChangeShapes Go.WideShapes Go.ChangeAt Go.RowKit Go.Cn

set_option maxRecDepth 100000 in
theorem lifted (os : Os) (started : os.Started) (H : Type) (enc : TypeId × Value → H) (F : Stop.Interp) :
    ReturnsInHanded {} Tryz.checked os 3 .any ((OpenSpec.ofChange Rows.cnfBackSpec).preRow enc Tryz.prog Tryz.f3 Rows.cnfBackRow.domain false Rows.cnfBackRow.laid) (((OpenSpec.ofChange Rows.cnfBackSpec).at F).post enc Tryz.prog Tryz.f3 false true false false) := by
  refine returnsInHanded_of_row (C := Tryz.checked) (s := OpenSpec.ofChange Rows.cnfBackSpec) own started (by kernel_rfl) Tryz.func3
    (witness_row_at (enc := enc) (C := Tryz.checked) false (World.doorLaid Tryz.prog 4000 os) #[.agg #[.int .i64 0, .slice none 0 0], .slice none 0 0] rfl (by kernel_rfl) (by kernel_rfl) (by kernel_rfl)
      (OpenSpec.preRow_of_B rfl 8 (by kernel_rfl) (by kernel_rfl) (door_met os _))) ?_
  intro W base args ds gs before hval0 hW _ _ hsz0 hL hsh _
  have hval : ∀ (j : Nat) t v, Tryz.f3.params[j]? = some t → args[j]? = some v → Value.okWide Tryz.prog W .any base t v := hval0
  have hW' := hW
  obtain ⟨p, q, hA0, hV, rfl, hfz, hnd⟩ := hW
  have hA : DataW.TrodAll enc Tryz.prog W 0 (fun _ => true) true Tryz.f3.params.toList args.toList ds p := hA0
  have hsz : (DataW.weightsEach Tryz.prog (Tryz.f3.params.toList ++ Rows.cnfBackSpec.plain.varTypes Tryz.prog) (ds ++ gs)).all (· ≤ reachBytes) = true := hsz0
  rw [Tryz.params3] at hA hval hsz
  obtain ⟨v0, vs0, d0, ds0, p0, q0, hargs, rfl, rfl, h0, r0⟩ := trodAll_cons hA
  obtain ⟨v1, vs1, d1, ds1, p1, q1, rfl, rfl, rfl, h1, r1⟩ := trodAll_cons r0
  obtain ⟨rfl, rfl, rfl⟩ := trodAll_nil r1
  obtain rfl : args = #[v0, v1] := by cases args; simp_all
  obtain ⟨rfl, rfl⟩ := trodVars_none hV
  have k0 := h0
  have lt0 : ∀ x ∈ p0, x.block < W.heap.size := by obtain ⟨m, hm⟩ := k0; exact DataW.trod_lt m _ _ _ hm
  obtain ⟨vars0, ad0, cap0, cs0, rfl, b0, fm0⟩ := open_formula (hval 0 24 v0 rfl rfl) h0 (fun z hz => sized_part hsz (j := 0) (t := 24) rfl rfl hz)
  obtain ⟨ad1, len1, cap1, rfl⟩ := okWide_slice Tryz.underlying25 (hval 1 25 v1 rfl rfl)
  have k1 := h1
  have lt1 : ∀ x ∈ p1, x.block < W.heap.size := by obtain ⟨m, hm⟩ := k1; exact DataW.trod_lt m _ _ _ hm
  obtain ⟨xs1, rfl, sl1, hb1⟩ : ∃ xs : List Int, xs.length = len1 ∧ Sl W ad1 cap1 xs ∧ (cap1 = 0 ∨ ∃ elems spare, d1 = .slice elems spare ∧ elems.length + spare.length = cap1) := by
    obtain ⟨fuel, hf⟩ := h1
    exact open_nums64 (x := (d1, p1)) hf
  have hl1 : xs1.length ≤ 140737488355328 := by
    have hle := sl1.le
    rcases hb1 with h | ⟨elems, spare, e, h⟩
    · omega
    · have := sized_slice hsz (j := 1) (t := 25) (e := 3) rfl (by rw [e]; rfl) Tryz.underlying25
      rw [bytesI] at this
      unfold reachBytes at this
      omega
  have hLV : LV W := lv_laid hL
  have hEV : ENV W := env_laid hL hsh
  clear hA0 hval0
  simp only [List.append_nil] at hW'
  refine (back_walk vars0 ad0 cs0 cap0 ad1 xs1 cap1 W fm0 sl1.ints hl1 hLV hEV).mono fun e W' ⟨he, bel⟩ => ?_
  subst he
  exact ⟨_, rfl, _, _, _, [], _, [], hW', trodAll_mk1 (shut_bool Tryz.underlying4 _), (trodAll_cons_mk (Below.trod laidOut (by kernel_rfl) (of_decide_eq_true (by kernel_rfl)) k0 bel lt0) (trodAll_cons_mk (Below.trod laidOut (by kernel_rfl) (of_decide_eq_true (by kernel_rfl)) k1 bel lt1) trodAll_mk0)), rfl, bel.frame _, fun h => by cases h⟩
theorem row_holds : Rows.CnfBackSaid :=
  OpenClaim.holds_of_cond 3 Tryz.f3 rfl rfl rfl rfl rfl rfl rfl ⟨rfl, rfl, rfl, rfl, rfl⟩ rfl rfl rfl rfl rfl (by kernel_rfl) Tryz.func3 (by kernel_rfl)
    (of_decide_eq_true (by kernel_rfl)) (by unfold Func.isWrapper; first | (rw [if_pos (by decide +kernel)]; kernel_rfl) | (rw [if_neg (by decide +kernel)]; exact ⟨rfl, rfl⟩))
    (fun os started H enc _ F => by rw [OpenClaim.pre_eq_preRow]; exact lifted os started H enc F)
end Go.Proofs.YtnknbijbhidpnaaGreatDoor.cnfBack
namespace Go.Proofs.YtnknbijbhidpnaaGreatDoor
set_option maxRecDepth 100000 in
theorem cnfBack_holds : Rows.CnfBackCardSaid :=
  Claim7.holds_tied_plain_at .later [] _ _ _ _
    cnfBack.row_holds (fun _ h => by cases h) (by kernel_rfl) (fun _ h => by cases h) cnfBack_row_tie rfl ⟨rfl, rfl⟩ (by kernel_rfl) rfl
    (fun f fn hf hfn => by
      obtain rfl : f = 3 := Option.some.inj ((show Tryz.prog.funcNamed "cadence/cadencelaw02.CnfBack" = some 3 by kernel_rfl).symm.trans hf) |>.symm
      obtain rfl : fn = Tryz.f3 := (Option.some.inj (Tryz.func3.symm.trans hfn)).symm
      exact ⟨by kernel_rfl, fun j t ht => by
        rw [Tryz.params3] at ht
        have hm : t ∈ [24, 25] := by simpa using Array.mem_of_getElem? ht
        have hall : ([24, 25].all fun u => !Tryz.prog.wantsStandIn u) = true := by kernel_rfl
        exact (show Tryz.prog.wantsStandIn t = false by simpa using List.all_eq_true.1 hall t hm)⟩)
    (by kernel_rfl)
#print axioms cnfBack_holds
end Go.Proofs.YtnknbijbhidpnaaGreatDoor
