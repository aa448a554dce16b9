import Derived.Test.YtkiihbkcccikiabDoorFr
import Derived.Test.YtkiihbkcccikiabDoorFr3
import Derived.Test.YtkiihbkcccikiabDoorSound
namespace Go.Proofs.YtkiihbkcccikiabDoor.cnfSound
open Go.ChangeShapes Go.WideShapes Go.ChangeAt Go.RowKit Go.Cn

set_option maxRecDepth 100000 in
theorem lifted (os : Os) (started : os.Started) (H : Type) (enc : TypeId × Value → H) :
    ReturnsInHanded {} Tryd.checked os 6 .any (fun w args => (Rows.cnfSoundSpec.pre enc Tryd.prog Tryd.f6 [] false w args ∧ laidMetH Tryd.prog Rows.cnfSoundRow.laid w) ∧ sizedMet enc Tryd.prog Tryd.f6 (OpenSpec.ofChange Rows.cnfSoundSpec) false w args)
      (Rows.cnfSoundSpec.post enc Tryd.prog Tryd.f6 false true false false) := by
  refine returnsInHanded_of_change_and (C := Tryd.checked) (X := fun w _ => laidMetH Tryd.prog Rows.cnfSoundRow.laid w) (fun _ _ _ hh h => h.of_heap hh) own started (by kernel_rfl) Tryd.func6
    (ChangeSpec.witness_shaped (enc := enc) (C := Tryd.checked) (os := os) (X := fun w _ => laidMetH Tryd.prog Rows.cnfSoundRow.laid w) false (World.doorLaid Tryd.prog 4000 os) #[.slice none 0 0, .slice none 0 0, .int .i64 0, .slice none 0 0] 8 rfl (World.shaped_of_RefB (by kernel_rfl) (by kernel_rfl)) (by kernel_rfl) (by kernel_rfl) (by kernel_rfl) (door_met os _)) ?_
  intro W base args ds gs before hval0 hW _ hsz0 hL _
  have hval : ∀ (j : Nat) t v, Tryd.f6.params[j]? = some t → args[j]? = some v → Value.okWide Tryd.prog W .any base t v := hval0
  have hW' := hW
  obtain ⟨p, q, hA0, hV, rfl, hfz, hnd⟩ := hW
  have hA : DataW.TrodAll enc Tryd.prog W 0 (fun _ => true) true Tryd.f6.params.toList args.toList ds p := hA0
  have hsz : (DataW.weightsEach Tryd.prog (Tryd.f6.params.toList ++ Rows.cnfSoundSpec.plain.varTypes Tryd.prog) (ds ++ gs)).all (· ≤ reachBytes) = true := hsz0
  rw [Tryd.params6] at hA hval hsz
  obtain ⟨v0, vs0, d0, ds0, p0, q0, hargs, rfl, rfl, h0, r0⟩ := trodAll_cons hA
  obtain ⟨v1, vs1, d1, ds1, p1, q1, rfl, rfl, rfl, h1, r1⟩ := trodAll_cons r0
  obtain ⟨v2, vs2, d2, ds2, p2, q2, rfl, rfl, rfl, h2, r2⟩ := trodAll_cons r1
  obtain ⟨v3, vs3, d3, ds3, p3, q3, rfl, rfl, rfl, h3, r3⟩ := trodAll_cons r2
  obtain ⟨rfl, rfl, rfl⟩ := trodAll_nil r3
  obtain rfl : args = #[v0, v1, v2, v3] := by cases args; simp_all
  obtain ⟨rfl, rfl⟩ := trodVars_none hV
  obtain ⟨ad0, len0, cap0, rfl⟩ := okWide_slice Tryd.underlying41 (hval 0 41 v0 rfl rfl)
  have k0 := h0
  have lt0 : ∀ x ∈ p0, x.block < W.heap.size := by obtain ⟨m, hm⟩ := k0; exact DataW.trod_lt m _ _ _ hm
  obtain ⟨xs0, rfl, sl0, hb0⟩ : ∃ xs : List Int, xs.length = len0 ∧ Sl W ad0 cap0 xs ∧ (cap0 = 0 ∨ ∃ elems spare, d0 = .slice elems spare ∧ elems.length + spare.length = cap0) := by
    obtain ⟨fuel, hf⟩ := h0
    exact open_clause (x := (d0, p0)) hf
  have hl0 : xs0.length ≤ 17592186044416 := by
    have hle := sl0.le
    rcases hb0 with h | ⟨elems, spare, e, h⟩
    · omega
    · have := sized_slice hsz (j := 0) (t := 41) (e := 3) rfl (by rw [e]; rfl) Tryd.underlying41
      rw [bytesI] at this
      unfold reachBytes at this
      omega
  obtain ⟨ad1, len1, cap1, rfl⟩ := okWide_slice Tryd.underlying41 (hval 1 41 v1 rfl rfl)
  have k1 := h1
  have lt1 : ∀ x ∈ p1, x.block < W.heap.size := by obtain ⟨m, hm⟩ := k1; exact DataW.trod_lt m _ _ _ hm
  obtain ⟨xs1, rfl, sl1, hb1⟩ : ∃ xs : List Int, xs.length = len1 ∧ Sl W ad1 cap1 xs ∧ (cap1 = 0 ∨ ∃ elems spare, d1 = .slice elems spare ∧ elems.length + spare.length = cap1) := by
    obtain ⟨fuel, hf⟩ := h1
    exact open_clause (x := (d1, p1)) hf
  have hl1 : xs1.length ≤ 17592186044416 := by
    have hle := sl1.le
    rcases hb1 with h | ⟨elems, spare, e, h⟩
    · omega
    · have := sized_slice hsz (j := 1) (t := 41) (e := 3) rfl (by rw [e]; rfl) Tryd.underlying41
      rw [bytesI] at this
      unfold reachBytes at this
      omega
  obtain ⟨a2, rfl, rfl, rfl, w2⟩ := open_int Tryd.underlying3 (hval 2 3 v2 rfl rfl) h2
  have b2 := bounds_i64 w2
  obtain ⟨ad3, len3, cap3, rfl⟩ := okWide_slice Tryd.underlying42 (hval 3 42 v3 rfl rfl)
  have k3 := h3
  have lt3 : ∀ x ∈ p3, x.block < W.heap.size := by obtain ⟨m, hm⟩ := k3; exact DataW.trod_lt m _ _ _ hm
  obtain ⟨xs3, rfl, sl3, hb3⟩ : ∃ xs : List Int, xs.length = len3 ∧ Sli8 W ad3 cap3 xs ∧ (cap3 = 0 ∨ ∃ elems spare, d3 = .slice elems spare ∧ elems.length + spare.length = cap3) := by
    obtain ⟨fuel, hf⟩ := h3
    exact open_i8 (x := (d3, p3)) hf
  have hl3 : xs3.length ≤ 140737488355328 := by
    have hle := sl3.le
    rcases hb3 with h | ⟨elems, spare, e, h⟩
    · omega
    · have := sized_slice hsz (j := 3) (t := 42) (e := 46) rfl (by rw [e]; rfl) Tryd.underlying42
      rw [bytesB] at this
      unfold reachBytes at this
      omega
  have hLV : LV W := of_laid hL
  clear hA0 hval0
  simp only [List.append_nil] at hW'
  refine (sound_walk ad0 ad1 ad3 xs0 xs1 xs3 cap0 cap1 cap3 a2 W sl0 sl1 hl0 hl1 b2 sl3.i8 hl3 hLV).mono fun e W' ⟨he, bel⟩ => ?_
  subst he
  exact ⟨_, rfl, _, _, _, [], _, [], hW', trodAll_mk1 (shut_bool Tryd.underlying4 _), (trodAll_cons_mk (Below.trod laidOut (by kernel_rfl) (of_decide_eq_true (by kernel_rfl)) k0 bel lt0) (trodAll_cons_mk (Below.trod laidOut (by kernel_rfl) (of_decide_eq_true (by kernel_rfl)) k1 bel lt1) (trodAll_cons_mk (shut_int Tryd.underlying3 w2) (trodAll_cons_mk (Below.trod laidOut (by kernel_rfl) (of_decide_eq_true (by kernel_rfl)) k3 bel lt3) trodAll_mk0)))), rfl, bel.frame _, fun h => by cases h⟩
theorem row_holds : Rows.CnfSoundSaid :=
  OpenClaim.holds_of_wide 6 Tryd.f6 rfl rfl rfl rfl rfl rfl rfl ⟨rfl, rfl, rfl, rfl, rfl⟩ rfl rfl rfl rfl rfl (by kernel_rfl) Tryd.func6 (by kernel_rfl)
    (of_decide_eq_true (by kernel_rfl)) (by unfold Func.isWrapper; first | (rw [if_pos (by decide +kernel)]; kernel_rfl) | (rw [if_neg (by decide +kernel)]; exact ⟨rfl, rfl⟩))
    (fun os started H enc _ => lifted os started H enc)
end Go.Proofs.YtkiihbkcccikiabDoor.cnfSound
namespace Go.Proofs.YtkiihbkcccikiabDoor
theorem cnfSound_holds : Rows.CnfSoundCardSaid :=
  Claim7.holds_tied_plain_at .later [] [.data, .data, .data, .data] true (true, "d932c28768bb14b82b3a642a2e465b5857fcf9cf53d74a06727a04cdc570f345") false
    cnfSound.row_holds (fun _ h => by cases h) (by kernel_rfl) (fun _ h => by cases h) cnfSound_row_tie rfl ⟨rfl, rfl⟩ (by kernel_rfl) rfl
    (fun f fn hf hfn => by
      obtain rfl : f = 6 := Option.some.inj ((show Tryd.prog.funcNamed "cadence/cadencelaw02.CnfSound" = some 6 by kernel_rfl).symm.trans hf) |>.symm
      obtain rfl : fn = Tryd.f6 := (Option.some.inj (Tryd.func6.symm.trans hfn)).symm
      exact ⟨by kernel_rfl, fun j t ht => by
        rw [Tryd.params6] at ht
        have hm : t ∈ [41, 41, 3, 42] := by simpa using Array.mem_of_getElem? ht
        have hall : ([41, 41, 3, 42].all fun u => !Tryd.prog.wantsStandIn u) = true := by kernel_rfl
        exact (show Tryd.prog.wantsStandIn t = false by simpa using List.all_eq_true.1 hall t hm)⟩)
    (by kernel_rfl)
#print axioms cnfSound_holds
end Go.Proofs.YtkiihbkcccikiabDoor
