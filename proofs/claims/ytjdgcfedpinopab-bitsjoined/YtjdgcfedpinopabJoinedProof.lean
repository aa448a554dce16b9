/-
  The proof of the given statement of 'BitsJoined': the frame as the seat's page tells it, the walk out of contracts.
-/
import Derived.Test.YtjdgcfedpinopabRows
import Derived.WalkKit
import Derived.ProofKit
import Derived.OpenShut
import Derived.ShutString
import Derived.Test.YtjdgcfedpinopabTwo
import Derived.Test.YtjdgcfedpinopabParts
import Derived.Test.YtjdgcfedpinopabMath7
namespace Go.Proofs.Ytjdgcfedpinopab.bitsJoined
open Go.ChangeShapes Go.WideShapes Go.ChangeAt Go.RowKit
open Go.ChangeMaps (open_string shut_string)
set_option linter.unusedVariables false      -- a walk need not use every 'w<i>' (that an integer argument fits its kind)

theorem own : ownKnob Try.prog.godebug = none := by kernel_rfl

open Go.Bw
/-! ### STEP 1: THE WALK: the Go text returns true. 'Grown w w'': the world has at most new blocks (Derived/RowKit3.lean). Part the cases AHEAD of 'go_enter' where a test parts the walk; take each callee by a contract of your own. -/
theorem walk (a0 : Int) (a1 : Int) (a2 : Int) (a3 : Int) (w0 : (Lit.int .i64 a0).wf = true) (w1 : (Lit.int .u64 a1).wf = true) (w2 : (Lit.int .i64 a2).wf = true) (w3 : (Lit.int .i64 a3).wf = true) (w : World) :
    Calls Try.prog 6 #[.int .i64 a0, .int .u64 a1, .int .i64 a2, .int .i64 a3] w fun e w' => e = .returned (.bool true) ∧ Grown w w' := by
  have hx : U a1 := U_of _ (bounds_u64 w1)
  by_cases h : 2 ≤ a0 ∧ a0 ≤ 64
  · obtain ⟨h1, h2⟩ := h
    have h1' : 1 ≤ a0 := by omega
    have us := U_trim a0 a1 hx
    obtain ⟨d, hd⟩ : ∃ d, a2.tmod (a0 - 1) = d := ⟨_, rfl⟩
    have hd1 : d < a0 - 1 := by rw [← hd]; exact Int.tmod_lt_of_pos _ (by omega)
    have hd0 : -(a0 - 1) < d := by have := Int.tmod_lt_of_pos (-a2) (show 0 < a0 - 1 by omega); rw [Int.neg_tmod] at this; omega
    obtain ⟨q, hq⟩ : ∃ q, (d + a0 - 1) % (a0 - 1) = q := ⟨_, rfl⟩
    have hq0 : 0 ≤ q := by rw [← hq]; exact Int.emod_nonneg _ (by omega)
    have hq1 : q < a0 - 1 := by rw [← hq]; exact Int.emod_lt_of_pos _ (by omega)
    have T1 : Hid (∀ w, Calls Try.prog 13 #[.int .i64 a0, .int .u64 a1] w fun e w' => e = .returned (.int .u64 (trimI a0 a1)) ∧ w' = w) := fun w => trim_any a0 a1 w hx
    obtain ⟨lo, hlo⟩ : ∃ lo, trimI (1 + q) (trimI a0 a1 / 2 ^ (0 : Int).toNat) = lo := ⟨_, rfl⟩
    obtain ⟨hi, hhi⟩ : ∃ hi, trimI (a0 - (1 + q)) (trimI a0 a1 / 2 ^ (1 + q).toNat) = hi := ⟨_, rfl⟩
    have S1 : Hid (∀ w, Calls Try.prog 16 #[.int .i64 a0, .int .u64 (trimI a0 a1), .int .i64 0, .int .i64 (1 + q)] w fun e w' => e = .returned (.tuple #[.int .u64 lo, .int .i64 0]) ∧ w' = w) := by
      subst hlo; exact slice_any a0 _ 0 _ h1' h2 (by omega) (by omega) (by omega) us
    have S2 : Hid (∀ w, Calls Try.prog 16 #[.int .i64 a0, .int .u64 (trimI a0 a1), .int .i64 (1 + q), .int .i64 (a0 - (1 + q))] w fun e w' => e = .returned (.tuple #[.int .u64 hi, .int .i64 0]) ∧ w' = w) := by
      subst hhi; exact slice_any a0 _ _ _ h1' h2 (by omega) (by omega) (by omega) us
    have S3 : Hid (∀ w, Calls Try.prog 17 #[.int .i64 (a0 - (1 + q)), .int .u64 hi, .int .i64 (1 + q), .int .u64 lo] w fun e w' => e = .returned (.tuple #[.int .u64 (trimI a0 a1), .int .i64 0]) ∧ ∃ n, w' = w.drewN n) := by
      subst hlo; subst hhi
      intro w
      have h := cat_any (a0 - (1 + q)) (trimI (a0 - (1 + q)) (trimI a0 a1 / 2 ^ (1 + q).toNat)) (1 + q) (trimI (1 + q) (trimI a0 a1 / 2 ^ (0 : Int).toNat)) (by omega) (by omega) (by omega) (U_trim _ _ (U_shr _ _ us)) (U_trim _ _ (U_shr _ _ us)) w
      rw [part_cat a0 a1 (1 + q) h1 h2 (by omega) (by omega) hx] at h
      exact h
    clear hlo hhi
    by_cases ht : a0 ≤ a3 ∧ a3 ≤ 64
    · obtain ⟨t1, t2⟩ := ht
      obtain ⟨s, hs⟩ : ∃ s, trimI a3 (IntKind.u64.wrap (sgnI a0 a1)) = s := ⟨_, rfl⟩
      obtain ⟨g, hg⟩ : ∃ g, sgnI a0 a1 = g := ⟨_, rfl⟩
      have hu : U s := by rw [← hs]; exact U_trim _ _ (U_wrap _)
      have E1 : Hid (∀ w, Calls Try.prog 18 #[.int .i64 33, .int .i64 a0, .int .u64 (trimI a0 a1), .int .i64 a3] w fun e w' => e = .returned (.tuple #[.int .u64 s, .int .i64 0]) ∧ w' = w) := by
        intro w; have h := ext_33 a0 (trimI a0 a1) a3 h1' h2 (by omega) t2 t1 us w; rw [sgn_trim a0 a1 h1' h2 hx, hs] at h; exact h
      have E2 : Hid (∀ w, Calls Try.prog 18 #[.int .i64 32, .int .i64 a0, .int .u64 (trimI a0 a1), .int .i64 a3] w fun e w' => e = .returned (.tuple #[.int .u64 (trimI a0 a1), .int .i64 0]) ∧ w' = w) := by
        intro w; have h := ext_32 a0 (trimI a0 a1) a3 h1' h2 (by omega) t2 t1 us w; rw [trim_trim a0 a1 h1' h2 hx] at h; exact h
      have G1 : Hid (∀ w, Calls Try.prog 19 #[.int .i64 a3, .int .u64 s] w fun e w' => e = .returned (.int .i64 g) ∧ w' = w) := by
        intro w; have h := signed_any a3 s w (by omega) t2 hu; rw [← hs, sext_sgn a0 a1 a3 h1' t2 t1 hx, hs, hg] at h; exact h
      have G2 : Hid (∀ w, Calls Try.prog 19 #[.int .i64 a0, .int .u64 (trimI a0 a1)] w fun e w' => e = .returned (.int .i64 g) ∧ w' = w) := by
        intro w; have h := signed_any a0 (trimI a0 a1) w h1' h2 us; rw [sgn_trim a0 a1 h1' h2 hx, hg] at h; exact h
      have T2 : Hid (∀ w, Calls Try.prog 13 #[.int .i64 a0, .int .u64 s] w fun e w' => e = .returned (.int .u64 (trimI a0 a1)) ∧ w' = w) := by
        intro w; have h := trim_any a0 s w hu; rw [← hs, sext_low a0 a1 a3 h1' t2 t1 hx] at h; rw [hs] at h; exact h
      clear hs hg us hu hx w0 w1 w2 w3
      generalize trimI a0 a1 = X at *
      go_enter Try.func6, Try.ntmps6
      go_wp2_with fail
      refine (alive_any _).mono ?_
      rintro e w' ⟨rfl, rfl⟩
      go_wp2_with fail
      refine (T1.out _).mono ?_
      rintro e w' ⟨rfl, rfl⟩
      go_wp2_with fail
      refine (S1.out _).mono ?_
      rintro e w' ⟨rfl, rfl⟩
      go_wp2_with fail
      refine (S2.out _).mono ?_
      rintro e w' ⟨rfl, rfl⟩
      go_wp2_with fail
      refine (S3.out _).mono ?_
      rintro e w' ⟨rfl, n1, rfl⟩
      go_wp2_with fail
      refine (E1.out _).mono ?_
      rintro e w' ⟨rfl, rfl⟩
      go_wp2_with fail
      refine (E2.out _).mono ?_
      rintro e w' ⟨rfl, rfl⟩
      go_wp2_with fail
      refine (G1.out _).mono ?_
      rintro e w' ⟨rfl, rfl⟩
      go_wp2_with fail
      refine (G2.out _).mono ?_
      rintro e w' ⟨rfl, rfl⟩
      go_wp2_with fail
      refine (T2.out _).mono ?_
      rintro e w' ⟨rfl, rfl⟩
      go_wp2
      go_ret
      exact ⟨rfl, grown_dn _ _⟩
    · have E1 : Hid (∀ w, Calls Try.prog 18 #[.int .i64 33, .int .i64 a0, .int .u64 (trimI a0 a1), .int .i64 a3] w fun e w' => e = .returned (.tuple #[.int .u64 0, .int .i64 5]) ∧ w' = w) := by
        by_cases hr : 1 ≤ a3 ∧ a3 ≤ 64
        · exact ext_s33 a0 _ a3 h1' h2 hr.1 hr.2 (by omega)
        · exact ext_t33 a0 _ a3 h1' h2 (by omega)
      clear us hx w0 w1 w2 w3
      generalize trimI a0 a1 = X at *
      by_cases hta : a3 < a0
      all_goals
        go_enter Try.func6, Try.ntmps6
        go_wp2_with fail
        refine (alive_any _).mono ?_
        rintro e w' ⟨rfl, rfl⟩
        go_wp2_with fail
        refine (T1.out _).mono ?_
        rintro e w' ⟨rfl, rfl⟩
        go_wp2_with fail
        refine (S1.out _).mono ?_
        rintro e w' ⟨rfl, rfl⟩
        go_wp2_with fail
        refine (S2.out _).mono ?_
        rintro e w' ⟨rfl, rfl⟩
        go_wp2_with fail
        refine (S3.out _).mono ?_
        rintro e w' ⟨rfl, n1, rfl⟩
        go_wp2_with fail
        refine (E1.out _).mono ?_
        rintro e w' ⟨rfl, rfl⟩
        go_wp2
        go_ret
        exact ⟨rfl, grown_dn _ _⟩
  · by_cases hl : a0 < 2
    all_goals
      go_enter Try.func6, Try.ntmps6
      go_wp2_with (go_at_call 10; refine (alive_any _).mono ?_; rintro e w' ⟨rfl, rfl⟩)
      go_ret
      exact ⟨rfl, Grown.refl _⟩

/-! ### THE ROW's STEP: WRITTEN OUT: LEAVE IT -/
set_option maxRecDepth 100000 in
theorem lifted (os : Os) (started : os.Started) (H : Type) (enc : TypeId × Value → H) :
    ReturnsInHanded {} Try.checked os 6 .any (Rows.bitsJoinedSpec.pre6 enc Try.prog Try.f6 Rows.bitsJoinedRow.domain false) (Rows.bitsJoinedSpec.post enc Try.prog Try.f6 false true false false) := by
  refine returnsInHanded_of_change (C := Try.checked) own started (by kernel_rfl) Try.func6
    (ChangeSpec.witness6 (enc := enc) (C := Try.checked) false ⟨#[], #[.int .i64 0, .int .u64 0, .int .i64 0, .int .i64 0], []⟩ 8 (by kernel_rfl) (by kernel_rfl) (by kernel_rfl) (by kernel_rfl)) ?_
  intro W base args ds gs before hval0 hW hcnd _
  have hval : ∀ (j : Nat) t v, Try.f6.params[j]? = some t → args[j]? = some v → Value.okWide Try.prog W .any base t v := hval0
  have hW' := hW
  obtain ⟨p, q, hA0, hV, rfl, hfz, hnd⟩ := hW
  have hA : DataW.TrodAll enc Try.prog W 0 (fun _ => true) true Try.f6.params.toList args.toList ds p := hA0
  rw [Try.params6] at hA hval
  obtain ⟨v0, vs0, d0, ds0, p0, q0, hargs, rfl, rfl, h0, r0⟩ := trodAll_cons hA
  obtain ⟨v1, vs1, d1, ds1, p1, q1, rfl, rfl, rfl, h1, r1⟩ := trodAll_cons r0
  obtain ⟨v2, vs2, d2, ds2, p2, q2, rfl, rfl, rfl, h2, r2⟩ := trodAll_cons r1
  obtain ⟨v3, vs3, d3, ds3, p3, q3, rfl, rfl, rfl, h3, r3⟩ := trodAll_cons r2
  obtain ⟨rfl, rfl, rfl⟩ := trodAll_nil r3
  obtain rfl : args = #[v0, v1, v2, v3] := by cases args; simp_all
  obtain ⟨rfl, rfl⟩ := trodVars_none hV
  obtain ⟨a0, rfl, rfl, rfl, w0⟩ := open_int Try.underlying3 (hval 0 3 v0 rfl rfl) h0
  obtain ⟨a1, rfl, rfl, rfl, w1⟩ := open_int Try.underlying23 (hval 1 23 v1 rfl rfl) h1
  obtain ⟨a2, rfl, rfl, rfl, w2⟩ := open_int Try.underlying3 (hval 2 3 v2 rfl rfl) h2
  obtain ⟨a3, rfl, rfl, rfl, w3⟩ := open_int Try.underlying3 (hval 3 3 v3 rfl rfl) h3
  clear hA0 hval0
  simp only [List.append_nil] at hW'
  refine (walk a0 a1 a2 a3 w0 w1 w2 w3 W).mono fun e W' ⟨he, hg⟩ => ?_
  subst he
  exact ⟨_, rfl, post_of_same (pa := []) (pv := []) hW' (fun _ _ _ => (trodAll_cons_mk (shut_bool Try.underlying4 _) trodAll_mk0)) (fun sp _ => (trodAll_cons_mk (shut_int Try.underlying3 w0) (trodAll_cons_mk (shut_int Try.underlying23 w1) (trodAll_cons_mk (shut_int Try.underlying3 w2) (trodAll_cons_mk (shut_int Try.underlying3 w3) trodAll_mk0))))) (fun _ _ => rfl) rfl
    (hg.frame _) hg.2.1 (ok_one (by kernel_rfl) rfl (okWide_bool_mk Try.underlying4 _))⟩

theorem over : Rows.bitsJoinedRow.holds Try.pinned (OpenSpec.ofChange Rows.bitsJoinedSpec) :=
  OpenClaim.holds_of_wide 6 Try.f6 rfl rfl rfl rfl rfl rfl rfl ⟨rfl, rfl, rfl, rfl, rfl⟩ rfl rfl rfl rfl rfl (by kernel_rfl) Try.func6 (by kernel_rfl)
    (of_decide_eq_true (by kernel_rfl)) (by unfold Func.isWrapper; first | (rw [if_pos (by decide +kernel)]; kernel_rfl) | (rw [if_neg (by decide +kernel)]; exact ⟨rfl, rfl⟩))
    (fun os started H enc _ => lifted os started H enc)

/-- ████ THE STATEMENT ████ -/
theorem proved : Rows.BitsJoinedSaid :=
  over
end Go.Proofs.Ytjdgcfedpinopab.bitsJoined
namespace Go.Proofs.Ytjdgcfedpinopab
theorem bitsJoined_holds : Rows.BitsJoinedSaid := bitsJoined.proved
#print axioms bitsJoined_holds
end Go.Proofs.Ytjdgcfedpinopab
