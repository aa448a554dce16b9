/-
  The proof of the given statement of 'BitsTurns': the frame as the seat's page tells it, the walk out of contracts.
-/
import Derived.Test.YtjdgcfedpinopabRows
import Derived.WalkKit
import Derived.ProofKit
import Derived.OpenShut
import Derived.ShutString
import Derived.Test.YtjdgcfedpinopabTwo
import Derived.Test.YtjdgcfedpinopabMath6
namespace Go.Proofs.Ytjdgcfedpinopab.bitsTurns
open Go.ChangeShapes Go.WideShapes Go.ChangeAt Go.RowKit
open Go.ChangeMaps (open_string shut_string)
set_option linter.unusedVariables false      -- a walk need not use every 'w<i>' (that an integer argument fits its kind)

theorem own : ownKnob Try.prog.godebug = none := by kernel_rfl

open Go.Bw
/-! ### STEP 1: THE WALK: the Go text returns true. 'Grown w w'': the world has at most new blocks (Derived/RowKit3.lean). Part the cases AHEAD of 'go_enter' where a test parts the walk; take each callee by a contract of your own. -/
theorem walk (a0 : Int) (a1 : Int) (a2 : Int) (w0 : (Lit.int .i64 a0).wf = true) (w1 : (Lit.int .u64 a1).wf = true) (w2 : (Lit.int .u64 a2).wf = true) (w : World) :
    Calls Try.prog 5 #[.int .i64 a0, .int .u64 a1, .int .u64 a2] w fun e w' => e = .returned (.bool true) ∧ Grown w w' := by
  have hx : U a1 := U_of _ (bounds_u64 w1)
  have hu : U a2 := U_of _ (bounds_u64 w2)
  have hn : 0 ≤ a2 := hu.1
  obtain ⟨j, hj, hjk⟩ := seven a0
  obtain ⟨A, hA⟩ : ∃ A : Nat, (2 : Int) ^ j = A := ⟨2 ^ j, by simp⟩
  have hA1 : 1 ≤ A := by have := pos j; omega
  have hA2 : A ≤ 64 := by have := pow_mono j 6 hj; rw [hA] at this; have e : (2 : Int) ^ 6 = 64 := by decide
                          omega
  have hs : shB A = true := sh_yes _ j hj hA.symm
  obtain ⟨X, ex⟩ := Int.eq_ofNat_of_zero_le (trim_lo A a1 hx.1)
  have hX : X < 2 ^ A := by have := trim_hi A a1 (by omega) hx.2; rw [ex, Int.toNat_natCast] at this; exact_mod_cast this
  have en0 := amt_two A j a2 hj hA hu
  obtain ⟨N, hm⟩ : ∃ N : Nat, a2 % (A : Int) = N := Int.eq_ofNat_of_zero_le (Int.emod_nonneg _ (by omega))
  have hN : N < A := by have := Int.emod_lt_of_pos a2 (show (0 : Int) < A by omega); omega
  have en : trimI A a2 % A = N := by rw [en0, hm]
  have e1 := trim_nat A X hA1 hA2 hX
  have e2 := trim_nat A _ hA1 hA2 (rol_lt A N X hX)
  have e3 := trim_nat A _ hA1 hA2 (ror_lt A N X hX)
  have uX := U_nat A X hA2 hX
  have T1 : Hid (∀ w, Calls Try.prog 13 #[.int .i64 A, .int .u64 a1] w fun e w' => e = .returned (.int .u64 X) ∧ w' = w) := by
    intro w; rw [← ex]; exact trim_any A a1 w hx
  have Q1 : Hid (Tw 28 A X a2 (rolN A N X : Nat)) := two_of _ _ _ _ _ (bin_28 A N X X a2 hA1 hA2 hN uX hu hs e1 en)
  have Q2 : Hid (Tw 29 A (rolN A N X : Nat) a2 X) := by
    have h := two_of _ _ _ _ _ (bin_29 A N _ (rolN A N X : Nat) a2 hA1 hA2 hN (U_nat A _ hA2 (rol_lt A N X hX)) hu hs e2 en)
    rw [ror_rol A N X hN hX] at h; exact h
  have Q3 : Hid (Tw 29 A X a2 (rorN A N X : Nat)) := two_of _ _ _ _ _ (bin_29 A N X X a2 hA1 hA2 hN uX hu hs e1 en)
  have Q4 : Hid (Tw 28 A (rorN A N X : Nat) a2 X) := by
    have h := two_of _ _ _ _ _ (bin_28 A N _ (rorN A N X : Nat) a2 hA1 hA2 hN (U_nat A _ hA2 (ror_lt A N X hX)) hu hs e3 en)
    rw [rol_ror A N X hN hX] at h; exact h
  have Q5 : Hid (Tw 25 A X a2 (shlN A N X : Nat)) := two_of _ _ _ _ _ (bin_25 A N X X a2 hA1 hA2 hN uX hu hs e1 en)
  have Q6 : Hid (Tw 22 A X (2 ^ N) (shlN A N X : Nat)) := bi_of (mul_pow A N X hA1 hA2 hN hX) (bin_22 A X (2 ^ N) (by omega) (by omega) uX (U_pow N (by omega)))
  have Q7 : Hid (Tw 26 A X a2 (shrN N X : Nat)) := two_of _ _ _ _ _ (bin_26 A N X X a2 hA1 hA2 hN uX hu hs e1 en)
  have Q8 : Hid (Tw 23 A X (2 ^ N) (shrN N X : Nat)) := bi_of (div_pow A N X hA1 hA2 hN hX) (bin_23 A X (2 ^ N) (by omega) (by omega) uX (U_pow N (by omega)) (by rw [pow_trim A N hA1 hA2 hN]; exact pos N))
  have uN : U (N : Int) := U_num _ (by omega)
  have Q9 : Hid (Tw 25 A X N (shlN A N X : Nat)) := two_of _ _ _ _ _ (bin_25 A N X X N hA1 hA2 hN uX uN hs e1 (amt_self A N hA1 hA2 hN))
  have uM : U ((A : Int) - N) := U_num _ (by omega)
  have hw := wrap_pow N (by omega)
  obtain ⟨b, Q10, hb⟩ : ∃ b : Nat, Hid (Tw 26 A X ((A : Int) - N) b) ∧ Hid (N = 0 ∨ Tw 18 A (shlN A N X : Nat) b (rolN A N X : Nat)) := by
    by_cases hz : N = 0
    · have hN' : amt A ((A : Int) - N) < A := by have := amt_lt A ((A : Int) - N) (by omega); omega
      exact ⟨_, two_of _ _ _ _ _ (bin_26 A _ X X _ hA1 hA2 hN' uX uM hs e1 (amt_eq A _ (by omega))), Or.inl hz⟩
    · have hM : ((A : Int) - N) = ((A - N : Nat) : Int) := by omega
      refine ⟨shrN (A - N) X, ?_, Or.inr ?_⟩
      · rw [hM] at uM ⊢
        exact two_of _ _ _ _ _ (bin_26 A (A - N) X X _ hA1 hA2 (by omega) uX uM hs e1 (amt_self A (A - N) hA1 hA2 (by omega)))
      · exact bi_of (or_turn A N X hA1 hA2 hX) (bin_18 A _ _ (by omega) (by omega) (U_nat A _ hA2 (shl_lt A N X)) (U_nat A _ hA2 (shr_lt A _ X hX)))
  clear e1 e2 e3 uX ex en en0 uN uM hX hs w0 w1 w2 hx hu
  generalize shlN A N X = vl at *
  generalize shrN N X = vr at *
  generalize rolN A N X = vo at *
  generalize rorN A N X = vp at *
  go_enter Try.func5, Try.ntmps5
  go_wp2_with fail
  refine (alive_any _).mono ?_
  rintro e w' ⟨rfl, rfl⟩
  go_wp2_with fail
  refine (T1.out _).mono ?_
  rintro e w' ⟨rfl, rfl⟩
  go_wp2_with fail
  refine (Q1.out _).mono ?_
  rintro e w' ⟨rfl, n1, rfl⟩
  go_wp2_with fail
  refine (Q2.out _).mono ?_
  rintro e w' ⟨rfl, n2, rfl⟩
  go_wp2_with fail
  refine (Q3.out _).mono ?_
  rintro e w' ⟨rfl, n3, rfl⟩
  go_wp2_with fail
  refine (Q4.out _).mono ?_
  rintro e w' ⟨rfl, n4, rfl⟩
  go_wp2_with fail
  refine (Q5.out _).mono ?_
  rintro e w' ⟨rfl, n5, rfl⟩
  go_wp2_with fail
  refine (Q6.out _).mono ?_
  rintro e w' ⟨rfl, n6, rfl⟩
  go_wp2_with fail
  refine (Q7.out _).mono ?_
  rintro e w' ⟨rfl, n7, rfl⟩
  go_wp2_with fail
  refine (Q8.out _).mono ?_
  rintro e w' ⟨rfl, n8, rfl⟩
  go_wp2_with fail
  refine (Q9.out _).mono ?_
  rintro e w' ⟨rfl, n9, rfl⟩
  go_wp2_with fail
  refine (Q10.out _).mono ?_
  rintro e w' ⟨rfl, n10, rfl⟩
  by_cases hz : N = 0
  · have hz' : ((N : Int) == 0) = true := by simp [hz]
    clear hz
    go_wp2
    go_ret
    exact ⟨rfl, grown_dn _ _⟩
  · have Q11 : Hid _ := hb.out.resolve_left hz
    have hz' : ((N : Int) == 0) = false := by simpa using hz
    clear hz hb
    go_wp2_with fail
    refine (Q11.out _).mono ?_
    rintro e w' ⟨rfl, n11, rfl⟩
    go_wp2_with fail
    refine (Q1.out _).mono ?_
    rintro e w' ⟨rfl, n12, rfl⟩
    go_wp2
    go_ret
    exact ⟨rfl, grown_dn _ _⟩

/-! ### THE ROW's STEP: WRITTEN OUT: LEAVE IT -/
set_option maxRecDepth 100000 in
theorem lifted (os : Os) (started : os.Started) (H : Type) (enc : TypeId × Value → H) :
    ReturnsInHanded {} Try.checked os 5 .any (Rows.bitsTurnsSpec.pre6 enc Try.prog Try.f5 Rows.bitsTurnsRow.domain false) (Rows.bitsTurnsSpec.post enc Try.prog Try.f5 false true false false) := by
  refine returnsInHanded_of_change (C := Try.checked) own started (by kernel_rfl) Try.func5
    (ChangeSpec.witness6 (enc := enc) (C := Try.checked) false ⟨#[], #[.int .i64 0, .int .u64 0, .int .u64 0], []⟩ 8 (by kernel_rfl) (by kernel_rfl) (by kernel_rfl) (by kernel_rfl)) ?_
  intro W base args ds gs before hval0 hW hcnd _
  have hval : ∀ (j : Nat) t v, Try.f5.params[j]? = some t → args[j]? = some v → Value.okWide Try.prog W .any base t v := hval0
  have hW' := hW
  obtain ⟨p, q, hA0, hV, rfl, hfz, hnd⟩ := hW
  have hA : DataW.TrodAll enc Try.prog W 0 (fun _ => true) true Try.f5.params.toList args.toList ds p := hA0
  rw [Try.params5] at hA hval
  obtain ⟨v0, vs0, d0, ds0, p0, q0, hargs, rfl, rfl, h0, r0⟩ := trodAll_cons hA
  obtain ⟨v1, vs1, d1, ds1, p1, q1, rfl, rfl, rfl, h1, r1⟩ := trodAll_cons r0
  obtain ⟨v2, vs2, d2, ds2, p2, q2, rfl, rfl, rfl, h2, r2⟩ := trodAll_cons r1
  obtain ⟨rfl, rfl, rfl⟩ := trodAll_nil r2
  obtain rfl : args = #[v0, v1, v2] := by cases args; simp_all
  obtain ⟨rfl, rfl⟩ := trodVars_none hV
  obtain ⟨a0, rfl, rfl, rfl, w0⟩ := open_int Try.underlying3 (hval 0 3 v0 rfl rfl) h0
  obtain ⟨a1, rfl, rfl, rfl, w1⟩ := open_int Try.underlying23 (hval 1 23 v1 rfl rfl) h1
  obtain ⟨a2, rfl, rfl, rfl, w2⟩ := open_int Try.underlying23 (hval 2 23 v2 rfl rfl) h2
  clear hA0 hval0
  simp only [List.append_nil] at hW'
  refine (walk a0 a1 a2 w0 w1 w2 W).mono fun e W' ⟨he, hg⟩ => ?_
  subst he
  exact ⟨_, rfl, post_of_same (pa := []) (pv := []) hW' (fun _ _ _ => (trodAll_cons_mk (shut_bool Try.underlying4 _) trodAll_mk0)) (fun sp _ => (trodAll_cons_mk (shut_int Try.underlying3 w0) (trodAll_cons_mk (shut_int Try.underlying23 w1) (trodAll_cons_mk (shut_int Try.underlying23 w2) trodAll_mk0)))) (fun _ _ => rfl) rfl
    (hg.frame _) hg.2.1 (ok_one (by kernel_rfl) rfl (okWide_bool_mk Try.underlying4 _))⟩

theorem over : Rows.bitsTurnsRow.holds Try.pinned (OpenSpec.ofChange Rows.bitsTurnsSpec) :=
  OpenClaim.holds_of_wide 5 Try.f5 rfl rfl rfl rfl rfl rfl rfl ⟨rfl, rfl, rfl, rfl, rfl⟩ rfl rfl rfl rfl rfl (by kernel_rfl) Try.func5 (by kernel_rfl)
    (of_decide_eq_true (by kernel_rfl)) (by unfold Func.isWrapper; first | (rw [if_pos (by decide +kernel)]; kernel_rfl) | (rw [if_neg (by decide +kernel)]; exact ⟨rfl, rfl⟩))
    (fun os started H enc _ => lifted os started H enc)

/-- ████ THE STATEMENT ████ -/
theorem proved : Rows.BitsTurnsSaid :=
  over
end Go.Proofs.Ytjdgcfedpinopab.bitsTurns
namespace Go.Proofs.Ytjdgcfedpinopab
theorem bitsTurns_holds : Rows.BitsTurnsSaid := bitsTurns.proved
#print axioms bitsTurns_holds
end Go.Proofs.Ytjdgcfedpinopab
