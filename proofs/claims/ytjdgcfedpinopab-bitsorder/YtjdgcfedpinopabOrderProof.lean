/-
  The proof of the given statement of 'BitsOrder': the frame as the seat's page tells it, the walk out of contracts.
-/
import Derived.Test.YtjdgcfedpinopabRows
import Derived.WalkKit
import Derived.ProofKit
import Derived.OpenShut
import Derived.ShutString
import Derived.Test.YtjdgcfedpinopabOrder
namespace Go.Proofs.Ytjdgcfedpinopab.bitsOrder
open Go.ChangeShapes Go.WideShapes Go.ChangeAt Go.RowKit
open Go.ChangeMaps (open_string shut_string)
set_option linter.unusedVariables false      -- a walk need not use every 'w<i>' (that an integer argument fits its kind)

theorem own : ownKnob Try.prog.godebug = none := by kernel_rfl

open Go.Bw
/-! ### STEP 1: THE WALK: the Go text returns true. 'Grown w w'': the world has at most new blocks (Derived/RowKit3.lean). Part the cases AHEAD of 'go_enter' where a test parts the walk; take each callee by a contract of your own. -/
theorem walk (a0 : Int) (a1 : Int) (a2 : Int) (w0 : (Lit.int .i64 a0).wf = true) (w1 : (Lit.int .u64 a1).wf = true) (w2 : (Lit.int .u64 a2).wf = true) (w : World) :
    Calls Try.prog 7 #[.int .i64 a0, .int .u64 a1, .int .u64 a2] w fun e w' => e = .returned (.bool true) ∧ Grown w w' := by
  have hx : U a1 := U_of _ (bounds_u64 w1)
  have hy : U a2 := U_of _ (bounds_u64 w2)
  by_cases h : 1 ≤ a0 ∧ a0 ≤ 64
  · obtain ⟨h1, h2⟩ := h
    have st1 := sgn_trim a0 a1 h1 h2 hx
    have st2 := sgn_trim a0 a2 h1 h2 hy
    have hw0 := wrap_pow (a0 - 1).toNat (by omega)
    have hw : IntKind.u64.wrap (2 ^ (a0.toNat - 1)) = 2 ^ (a0 - 1).toNat := by rw [show a0.toNat - 1 = (a0 - 1).toNat by omega]; exact hw0
    clear hw0
    have ux := U_bits .xor a1 (2 ^ (a0 - 1).toNat)
    have uy := U_bits .xor a2 (2 ^ (a0 - 1).toNat)
    obtain ⟨S, K1, K2⟩ : ∃ S : Bool, Hid (Cm 12 a0 a1 a2 S) ∧ Hid (Cm 10 a0 (bits .xor .u64 a1 (2 ^ (a0 - 1).toNat)) (bits .xor .u64 a2 (2 ^ (a0 - 1).toNat)) S) := by
      refine ⟨_, cmp_12 a0 a1 a2 h1 h2 hx hy, ?_⟩
      refine cm_of ?_ (cmp_10 a0 _ _ h1 h2 ux uy)
      rw [flip_val a0 a1 h1 h2 hx, flip_val a0 a2 h1 h2 hy, st1, st2]
      exact decide_eq_decide.mpr (by omega)
    by_cases he : trimI a0 a1 = trimI a0 a2
    · have hg : sgnI a0 (trimI a0 a1) = sgnI a0 (trimI a0 a2) := by rw [he]
      have E : Hid (Cm 9 a0 a1 a2 true) := cm_of (by rw [he]; simp) (cmp_9 a0 a1 a2 h1 h2 hx hy)
      have R10a : Hid (Cm 10 a0 a1 a2 false) := cm_of (by simp; omega) (cmp_10 a0 a1 a2 h1 h2 hx hy)
      have R10b : Hid (Cm 10 a0 a2 a1 false) := cm_of (by simp; omega) (cmp_10 a0 a2 a1 h1 h2 hy hx)
      have R11 : Hid (Cm 11 a0 a1 a2 true) := cm_of (by simp; omega) (cmp_11 a0 a1 a2 h1 h2 hx hy)
      have R12a : Hid (Cm 12 a0 a1 a2 false) := cm_of (by simp; omega) (cmp_12 a0 a1 a2 h1 h2 hx hy)
      have R12b : Hid (Cm 12 a0 a2 a1 false) := cm_of (by simp; omega) (cmp_12 a0 a2 a1 h1 h2 hy hx)
      have R13 : Hid (Cm 13 a0 a1 a2 true) := cm_of (by simp; omega) (cmp_13 a0 a1 a2 h1 h2 hx hy)
      clear he hg st1 st2 ux uy w0 w1 w2 hx hy
      exact order_walk true false false true false false true a0 a1 a2 S w h1 h2 _ hw E R10a R10b R11 R12a R12b R13 K1 K2 (Or.inr (Or.inr ⟨rfl, rfl, rfl, rfl⟩)) (Or.inr (Or.inr ⟨rfl, rfl, rfl, rfl⟩))
    · have hg : ¬ sgnI a0 (trimI a0 a1) = sgnI a0 (trimI a0 a2) := by rw [st1, st2]; exact fun hh => he (sgn_inj a0 a1 a2 h1 h2 hx hy hh)
      have E : Hid (Cm 9 a0 a1 a2 false) := cm_of (by simpa using he) (cmp_9 a0 a1 a2 h1 h2 hx hy)
      exact order_walk false _ _ _ _ _ _ a0 a1 a2 S w h1 h2 _ hw E (cmp_10 a0 a1 a2 h1 h2 hx hy) (cmp_10 a0 a2 a1 h1 h2 hy hx) (cmp_11 a0 a1 a2 h1 h2 hx hy) (cmp_12 a0 a1 a2 h1 h2 hx hy) (cmp_12 a0 a2 a1 h1 h2 hy hx) (cmp_13 a0 a1 a2 h1 h2 hx hy) K1 K2 (three _ _ he) (three _ _ hg)
  · have hn : a0 < 1 ∨ 64 < a0 := by omega
    go_enter Try.func7, Try.ntmps7
    go_wp2_with (first | (go_at_call 10; refine (alive_any _).mono ?_; rintro e w' ⟨rfl, rfl⟩) | (go_at_call 11; refine (right_no _ _ hn).mono ?_; rintro e w' ⟨rfl, rfl⟩))
    go_ret
    exact ⟨rfl, Grown.refl _⟩

/-! ### THE ROW's STEP: WRITTEN OUT: LEAVE IT -/
set_option maxRecDepth 100000 in
theorem lifted (os : Os) (started : os.Started) (H : Type) (enc : TypeId × Value → H) :
    ReturnsInHanded {} Try.checked os 7 .any (Rows.bitsOrderSpec.pre6 enc Try.prog Try.f7 Rows.bitsOrderRow.domain false) (Rows.bitsOrderSpec.post enc Try.prog Try.f7 false true false false) := by
  refine returnsInHanded_of_change (C := Try.checked) own started (by kernel_rfl) Try.func7
    (ChangeSpec.witness6 (enc := enc) (C := Try.checked) false ⟨#[], #[.int .i64 0, .int .u64 0, .int .u64 0], []⟩ 8 (by kernel_rfl) (by kernel_rfl) (by kernel_rfl) (by kernel_rfl)) ?_
  intro W base args ds gs before hval0 hW hcnd _
  have hval : ∀ (j : Nat) t v, Try.f7.params[j]? = some t → args[j]? = some v → Value.okWide Try.prog W .any base t v := hval0
  have hW' := hW
  obtain ⟨p, q, hA0, hV, rfl, hfz, hnd⟩ := hW
  have hA : DataW.TrodAll enc Try.prog W 0 (fun _ => true) true Try.f7.params.toList args.toList ds p := hA0
  rw [Try.params7] at hA hval
  obtain ⟨v0, vs0, d0, ds0, p0, q0, hargs, rfl, rfl, h0, r0⟩ := trodAll_cons hA
  obtain ⟨v1, vs1, d1, ds1, p1, q1, rfl, rfl, rfl, h1, r1⟩ := trodAll_cons r0
  obtain ⟨v2, vs2, d2, ds2, p2, q2, rfl, rfl, rfl, h2, r2⟩ := trodAll_cons r1
  obtain ⟨rfl, rfl, rfl⟩ := trodAll_nil r2
  obtain rfl : args = #[v0, v1, v2] := by cases args; simp_all
  obtain ⟨rfl, rfl⟩ := trodVars_none hV
  obtain ⟨a0, rfl, rfl, rfl, w0⟩ := open_int Try.underlying3 (hval 0 3 v0 rfl rfl) h0
  obtain ⟨a1, rfl, rfl, rfl, w1⟩ := open_int Try.underlying23 (hval 1 23 v1 rfl rfl) h1
  obtain ⟨a2, rfl, rfl, rfl, w2⟩ := open_int Try.underlying23 (hval 2 23 v2 rfl rfl) h2
  clear hA0 hval0
  simp only [List.append_nil] at hW'
  refine (walk a0 a1 a2 w0 w1 w2 W).mono fun e W' ⟨he, hg⟩ => ?_
  subst he
  exact ⟨_, rfl, post_of_same (pa := []) (pv := []) hW' (fun _ _ _ => (trodAll_cons_mk (shut_bool Try.underlying4 _) trodAll_mk0)) (fun sp _ => (trodAll_cons_mk (shut_int Try.underlying3 w0) (trodAll_cons_mk (shut_int Try.underlying23 w1) (trodAll_cons_mk (shut_int Try.underlying23 w2) trodAll_mk0)))) (fun _ _ => rfl) rfl
    (hg.frame _) hg.2.1 (ok_one (by kernel_rfl) rfl (okWide_bool_mk Try.underlying4 _))⟩

theorem over : Rows.bitsOrderRow.holds Try.pinned (OpenSpec.ofChange Rows.bitsOrderSpec) :=
  OpenClaim.holds_of_wide 7 Try.f7 rfl rfl rfl rfl rfl rfl rfl ⟨rfl, rfl, rfl, rfl, rfl⟩ rfl rfl rfl rfl rfl (by kernel_rfl) Try.func7 (by kernel_rfl)
    (of_decide_eq_true (by kernel_rfl)) (by unfold Func.isWrapper; first | (rw [if_pos (by decide +kernel)]; kernel_rfl) | (rw [if_neg (by decide +kernel)]; exact ⟨rfl, rfl⟩))
    (fun os started H enc _ => lifted os started H enc)

/-- ████ THE STATEMENT ████ -/
theorem proved : Rows.BitsOrderSaid :=
  over
end Go.Proofs.Ytjdgcfedpinopab.bitsOrder
namespace Go.Proofs.Ytjdgcfedpinopab
theorem bitsOrder_holds : Rows.BitsOrderSaid := bitsOrder.proved
#print axioms bitsOrder_holds
end Go.Proofs.Ytjdgcfedpinopab
