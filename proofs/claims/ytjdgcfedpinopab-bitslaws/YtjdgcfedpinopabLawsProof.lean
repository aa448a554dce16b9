/-
  The proof of the given statement of 'BitsLaws': the frame as the seat's page tells it, the walk out of contracts.
-/
import Derived.Test.YtjdgcfedpinopabRows
import Derived.WalkKit
import Derived.ProofKit
import Derived.OpenShut
import Derived.ShutString
import Derived.Test.YtjdgcfedpinopabTwo
namespace Go.Proofs.Ytjdgcfedpinopab.bitsLaws
open Go.ChangeShapes Go.WideShapes Go.ChangeAt Go.RowKit
open Go.ChangeMaps (open_string shut_string)
set_option linter.unusedVariables false      -- a walk need not use every 'w<i>' (that an integer argument fits its kind)

theorem own : ownKnob Try.prog.godebug = none := by kernel_rfl

open Go.Bw
/-! ### STEP 1: THE WALK: the Go text returns true. 'Grown w w'': the world has at most new blocks (Derived/RowKit3.lean). Part the cases AHEAD of 'go_enter' where a test parts the walk; take each callee by a contract of your own. -/
theorem walk (a0 : Int) (a1 : Int) (a2 : Int) (w0 : (Lit.int .i64 a0).wf = true) (w1 : (Lit.int .u64 a1).wf = true) (w2 : (Lit.int .u64 a2).wf = true) (w : World) :
    Calls Try.prog 4 #[.int .i64 a0, .int .u64 a1, .int .u64 a2] w fun e w' => e = .returned (.bool true) ∧ Grown w w' := by
  have hx : U a1 := U_of _ (bounds_u64 w1)
  have hy : U a2 := U_of _ (bounds_u64 w2)
  by_cases h : 1 ≤ a0 ∧ a0 ≤ 64
  · obtain ⟨h1, h2⟩ := h
    have us := U_trim a0 a1 hx
    have ut := U_trim a0 a2 hy
    have P1 : Hid (Tw 20 a0 (trimI a0 (bits .xor .u64 18446744073709551615 (trimI a0 a1))) 1 (trimI a0 (IntKind.u64.wrap (-trimI a0 a1)))) := bi_of (L1 a0 a1 h1 h2 hx) (bin_20 a0 _ _ h1 h2 (U_trim _ _ (U_bits _ _ _)) U_one)
    have P2 : Hid (Tw 20 a0 (trimI a0 a1) (trimI a0 (IntKind.u64.wrap (-trimI a0 a1))) 0) := bi_of (L2 a0 a1 h1 h2 hx) (bin_20 a0 _ _ h1 h2 us (U_trim _ _ (U_wrap _)))
    have C1 := un_15 a0 (trimI a0 a1) h1 h2
    have C2 := un_16 a0 (trimI a0 a1) h1 h2
    generalize hcom : trimI a0 (bits .xor .u64 18446744073709551615 (trimI a0 a1)) = com at P1 C1
    generalize hneg : trimI a0 (IntKind.u64.wrap (-trimI a0 a1)) = neg at P1 P2 C2
    have D1 : Hid _ := C1
    have D2 : Hid _ := C2
    clear C1 C2 hcom hneg
    obtain ⟨s, hs⟩ : ∃ s, trimI a0 (IntKind.u64.wrap (trimI a0 (trimI a0 a1) + trimI a0 (trimI a0 a2))) = s := ⟨_, rfl⟩
    have P3 : Hid (Tw 20 a0 (trimI a0 a1) (trimI a0 a2) s) := bi_of hs (bin_20 a0 _ _ h1 h2 us ut)
    have P4 : Hid (Tw 21 a0 s (trimI a0 a2) (trimI a0 a1)) := by
      subst hs; exact bi_of (L3 a0 a1 a2 h1 h2 hx hy) (bin_21 a0 _ _ h1 h2 (U_trim _ _ (U_wrap _)) ut)
    clear hs
    obtain ⟨q, m, r, P5, P6, P7, P8, hr⟩ : ∃ q m r, Hid (Tw 23 a0 (trimI a0 a1) (trimI a0 a2) q) ∧ Hid (Tw 24 a0 (trimI a0 a1) (trimI a0 a2) r) ∧ Hid (Tw 22 a0 q (trimI a0 a2) m) ∧ Hid (Tw 20 a0 m r (trimI a0 a1)) ∧ Hid (trimI a0 a2 = 0 ∨ r < trimI a0 a2) := by
      by_cases ht : 0 < trimI a0 a2
      · have htt : 0 < trimI a0 (trimI a0 a2) := by rw [trim_trim a0 a2 h1 h2 hy]; exact ht
        exact ⟨_, _, _, bi_of rfl (bin_23 a0 _ _ h1 h2 us ut htt), bi_of rfl (bin_24 a0 _ _ h1 h2 us ut htt), bi_of rfl (bin_22 a0 _ _ h1 h2 (U_trim _ _ (U_div _ _ _ us ut htt)) ut), bi_of (L4 a0 a1 a2 h1 h2 hx hy ht) (bin_20 a0 _ _ h1 h2 (U_trim _ _ (U_wrap _)) (U_trim _ _ (U_rem _ _ _ us ut htt))), Or.inr (L4r a0 a1 a2 h1 h2 hx hy ht)⟩
      · have hz : trimI a0 a2 = 0 := by have := trim_lo a0 a2 hy.1; omega
        rw [hz]
        have u0 : U 0 := U_num 0 (by omega)
        have z0 : trimI a0 0 = 0 := by have := trim_trim a0 a2 h1 h2 hy; rw [hz] at this; exact this
        exact ⟨_, _, _, bi_of rfl (bin_23z a0 _ _ h1 h2 us u0 z0), bi_of rfl (bin_24z a0 _ _ h1 h2 us u0 z0), bi_of rfl (bin_22 a0 _ _ h1 h2 (U_trim _ _ U_max) u0), bi_of (L4z a0 a1 h1 h2 hx) (bin_20 a0 _ _ h1 h2 (U_trim _ _ (U_wrap _)) (U_trim _ _ (U_trim _ _ us))), Or.inl rfl⟩
    have P9 : Hid (∀ w, Calls Try.prog 13 #[.int .i64 a0, .int .u64 (trimI a0 a1)] w fun e w' => e = .returned (.int .u64 (trimI a0 a1)) ∧ w' = w) := by
      intro w; have := trim_any a0 (trimI a0 a1) w us; rw [trim_trim a0 a1 h1 h2 hx] at this; exact this
    have T1 : Hid (∀ w, Calls Try.prog 13 #[.int .i64 a0, .int .u64 a1] w fun e w' => e = .returned (.int .u64 (trimI a0 a1)) ∧ w' = w) := fun w => trim_any a0 a1 w hx
    have T2 : Hid (∀ w, Calls Try.prog 13 #[.int .i64 a0, .int .u64 a2] w fun e w' => e = .returned (.int .u64 (trimI a0 a2)) ∧ w' = w) := fun w => trim_any a0 a2 w hy
    clear us ut
    generalize trimI a0 a1 = X at *
    generalize trimI a0 a2 = Y at *
    clear hx hy w1 w2
    go_enter Try.func4, Try.ntmps4
    go_wp2_with fail
    refine (alive_any _).mono ?_
    rintro e w' ⟨rfl, rfl⟩
    go_wp2_with fail
    refine (right_yes _ _ h1 h2).mono ?_
    rintro e w' ⟨rfl, rfl⟩
    go_wp2_with fail
    refine (T1.out _).mono ?_
    rintro e w' ⟨rfl, rfl⟩
    go_wp2_with fail
    refine (T2.out _).mono ?_
    rintro e w' ⟨rfl, rfl⟩
    go_wp2_with fail
    refine (D1.out _).mono ?_
    rintro e w' ⟨rfl, rfl⟩
    go_wp2_with fail
    refine (D2.out _).mono ?_
    rintro e w' ⟨rfl, rfl⟩
    go_wp2_with fail
    refine (P1.out _).mono ?_
    rintro e w' ⟨rfl, n1, rfl⟩
    go_wp2_with fail
    refine (P2.out _).mono ?_
    rintro e w' ⟨rfl, n2, rfl⟩
    go_wp2_with fail
    refine (P3.out _).mono ?_
    rintro e w' ⟨rfl, n3, rfl⟩
    go_wp2_with fail
    refine (P4.out _).mono ?_
    rintro e w' ⟨rfl, n4, rfl⟩
    go_wp2_with fail
    refine (P5.out _).mono ?_
    rintro e w' ⟨rfl, n5, rfl⟩
    go_wp2_with fail
    refine (P6.out _).mono ?_
    rintro e w' ⟨rfl, n6, rfl⟩
    go_wp2_with fail
    refine (P7.out _).mono ?_
    rintro e w' ⟨rfl, n7, rfl⟩
    go_wp2_with fail
    refine (P8.out _).mono ?_
    rintro e w' ⟨rfl, n8, rfl⟩
    rcases hr.out with hr | hr
    · have hr' : (Y == 0) = true := by simpa using hr
      clear hr
      go_wp2_with (go_at_call 13; refine (P9.out _).mono ?_; rintro e w' ⟨rfl, rfl⟩)
      go_ret
      exact ⟨rfl, grown_dn _ _⟩
    · by_cases hz : Y = 0
      · have hr' : (Y == 0) = true := by simpa using hz
        clear hz
        go_wp2_with (go_at_call 13; refine (P9.out _).mono ?_; rintro e w' ⟨rfl, rfl⟩)
        go_ret
        exact ⟨rfl, grown_dn _ _⟩
      · have hr' : (Y == 0) = false := by simpa using hz
        clear hz
        go_wp2_with (go_at_call 13; refine (P9.out _).mono ?_; rintro e w' ⟨rfl, rfl⟩)
        go_ret
        exact ⟨rfl, grown_dn _ _⟩
  · have hn : a0 < 1 ∨ 64 < a0 := by omega
    go_enter Try.func4, Try.ntmps4
    go_wp2_with (first | (go_at_call 10; refine (alive_any _).mono ?_; rintro e w' ⟨rfl, rfl⟩) | (go_at_call 11; refine (right_no _ _ hn).mono ?_; rintro e w' ⟨rfl, rfl⟩) | (go_at_call 12; refine (bin_width _ _ _ _ (by omega) (by omega) hn _).mono ?_; rintro e w' ⟨rfl, rfl⟩))
    go_ret
    exact ⟨rfl, Grown.refl _⟩

/-! ### THE ROW's STEP: WRITTEN OUT: LEAVE IT -/
set_option maxRecDepth 100000 in
theorem lifted (os : Os) (started : os.Started) (H : Type) (enc : TypeId × Value → H) :
    ReturnsInHanded {} Try.checked os 4 .any (Rows.bitsLawsSpec.pre6 enc Try.prog Try.f4 Rows.bitsLawsRow.domain false) (Rows.bitsLawsSpec.post enc Try.prog Try.f4 false true false false) := by
  refine returnsInHanded_of_change (C := Try.checked) own started (by kernel_rfl) Try.func4
    (ChangeSpec.witness6 (enc := enc) (C := Try.checked) false ⟨#[], #[.int .i64 0, .int .u64 0, .int .u64 0], []⟩ 8 (by kernel_rfl) (by kernel_rfl) (by kernel_rfl) (by kernel_rfl)) ?_
  intro W base args ds gs before hval0 hW hcnd _
  have hval : ∀ (j : Nat) t v, Try.f4.params[j]? = some t → args[j]? = some v → Value.okWide Try.prog W .any base t v := hval0
  have hW' := hW
  obtain ⟨p, q, hA0, hV, rfl, hfz, hnd⟩ := hW
  have hA : DataW.TrodAll enc Try.prog W 0 (fun _ => true) true Try.f4.params.toList args.toList ds p := hA0
  rw [Try.params4] at hA hval
  obtain ⟨v0, vs0, d0, ds0, p0, q0, hargs, rfl, rfl, h0, r0⟩ := trodAll_cons hA
  obtain ⟨v1, vs1, d1, ds1, p1, q1, rfl, rfl, rfl, h1, r1⟩ := trodAll_cons r0
  obtain ⟨v2, vs2, d2, ds2, p2, q2, rfl, rfl, rfl, h2, r2⟩ := trodAll_cons r1
  obtain ⟨rfl, rfl, rfl⟩ := trodAll_nil r2
  obtain rfl : args = #[v0, v1, v2] := by cases args; simp_all
  obtain ⟨rfl, rfl⟩ := trodVars_none hV
  obtain ⟨a0, rfl, rfl, rfl, w0⟩ := open_int Try.underlying3 (hval 0 3 v0 rfl rfl) h0
  obtain ⟨a1, rfl, rfl, rfl, w1⟩ := open_int Try.underlying23 (hval 1 23 v1 rfl rfl) h1
  obtain ⟨a2, rfl, rfl, rfl, w2⟩ := open_int Try.underlying23 (hval 2 23 v2 rfl rfl) h2
  clear hA0 hval0
  simp only [List.append_nil] at hW'
  refine (walk a0 a1 a2 w0 w1 w2 W).mono fun e W' ⟨he, hg⟩ => ?_
  subst he
  exact ⟨_, rfl, post_of_same (pa := []) (pv := []) hW' (fun _ _ _ => (trodAll_cons_mk (shut_bool Try.underlying4 _) trodAll_mk0)) (fun sp _ => (trodAll_cons_mk (shut_int Try.underlying3 w0) (trodAll_cons_mk (shut_int Try.underlying23 w1) (trodAll_cons_mk (shut_int Try.underlying23 w2) trodAll_mk0)))) (fun _ _ => rfl) rfl
    (hg.frame _) hg.2.1 (ok_one (by kernel_rfl) rfl (okWide_bool_mk Try.underlying4 _))⟩

theorem over : Rows.bitsLawsRow.holds Try.pinned (OpenSpec.ofChange Rows.bitsLawsSpec) :=
  OpenClaim.holds_of_wide 4 Try.f4 rfl rfl rfl rfl rfl rfl rfl ⟨rfl, rfl, rfl, rfl, rfl⟩ rfl rfl rfl rfl rfl (by kernel_rfl) Try.func4 (by kernel_rfl)
    (of_decide_eq_true (by kernel_rfl)) (by unfold Func.isWrapper; first | (rw [if_pos (by decide +kernel)]; kernel_rfl) | (rw [if_neg (by decide +kernel)]; exact ⟨rfl, rfl⟩))
    (fun os started H enc _ => lifted os started H enc)

/-- ████ THE STATEMENT ████ -/
theorem proved : Rows.BitsLawsSaid :=
  over
end Go.Proofs.Ytjdgcfedpinopab.bitsLaws
namespace Go.Proofs.Ytjdgcfedpinopab
theorem bitsLaws_holds : Rows.BitsLawsSaid := bitsLaws.proved
#print axioms bitsLaws_holds
end Go.Proofs.Ytjdgcfedpinopab
