import Derived.Test.YtokpjegiinggdaaDoorChk
import Derived.Test.YtokpjegiinggdaaDoorMathL
namespace Go.Proofs.YtokpjegiinggdaaDoor
open Go.ChangeShapes Go.WideShapes Go.ChangeAt Go.RowKit Go.Cn

/-- an assignment's numbers -/
def I8 (w : World) (ad : Option Addr) (ms : List Int) : Prop :=
  0 < ms.length → ∃ b off, ad = some ⟨b, off, none⟩ ∧ b < w.heap.size ∧ ∀ j, j < ms.length → w.cell? ⟨b, off + j, none⟩ = some (.int .i8 (ms.getD j 0))
theorem I8.below {w w' : World} {ad : Option Addr} {xs : List Int} (h : I8 w ad xs) (hb : Below w.heap.size w w') : I8 w' ad xs := by
  intro h0
  obtain ⟨b, off, e, hlt, hc⟩ := h h0
  exact ⟨b, off, e, Nat.lt_of_lt_of_le hlt hb.size, fun j hj => (hb.cell (p := ⟨b, off + j, none⟩) hlt).trans (hc j hj)⟩
theorem I8.drewN {w : World} {ad : Option Addr} {xs : List Int} (h : I8 w ad xs) (n : Nat) : I8 (w.drewN n) ad xs := h
theorem ret_of {k : IntKind} {a b : Int} (h : b = a) : Ending.returned (.int k a) = .returned (.int k b) := by rw [h]

set_option maxHeartbeats 2000000 in
set_option maxRecDepth 100000 in
theorem of_any (ad : Option Addr) (ms : List Int) (c : Nat) (l : Int) (w : World) (h : I8 w ad ms) (hl : ms.length ≤ 1000000000000000000) :
    Calls Tryd.prog 61 #[.slice ad ms.length c, .int .i64 l] w fun e w' => e = .returned (.int .i8 (ofB ms l)) ∧ w' = w := by
  cases hL : litB l with
  | false =>
    have HE : Aside (ofB ms l = 0) := by show ofB ms l = 0; unfold ofB; rw [if_pos hL]
    have HC : Hid (∀ W, Calls Tryd.prog 36 #[.int .i64 l] W fun e w' => e = .returned (.bool false) ∧ w' = W) := by intro W; have := lit_any l W; rw [hL] at this; exact this
    clear h
    generalize ofB ms l = R at *
    generalize ms.length = n at *
    go_enter Tryd.func61, Tryd.ntmps61
    go_wp2_with fail
    refine (HC.out _).mono ?_
    rintro e w' ⟨rfl, hw⟩
    obtain rfl := hw.symm
    go_wp2
    go_ret
    exact ⟨ret_of HE.out, rfl⟩
  | true =>
    have HC : Hid (∀ W, Calls Tryd.prog 36 #[.int .i64 l] W fun e w' => e = .returned (.bool true) ∧ w' = W) := by intro W; have := lit_any l W; rw [hL] at this; exact this
    have HV : Hid (∀ W, Calls Tryd.prog 66 #[.int .i64 l] W fun e w' => e = .returned (.int .i64 (vr l)) ∧ w' = W) := fun W => var_any l W hL
    have hp : 1 ≤ vr l ∧ vr l ≤ 1048576 := by have := litB_iff.1 hL; unfold vr; split <;> omega
    have HO : Aside (ofB ms l = if (ms.length : Int) < vr l then 0 else if ms.getD (vr l - 1).toNat 0 = 1 then (if l < 0 then -1 else 1) else if ms.getD (vr l - 1).toNat 0 = -1 then (if l < 0 then 1 else -1) else 0) := by
      show ofB ms l = _; unfold ofB; rw [if_neg (by rw [hL]; decide)]
    clear hL
    obtain ⟨q, hq⟩ : ∃ q : Nat, vr l = (q : Int) + 1 := ⟨(vr l - 1).toNat, by omega⟩
    rw [hq] at hp
    have HO2 : Aside (ofB ms l = if (ms.length : Int) < (q : Int) + 1 then 0 else if ms.getD q 0 = 1 then (if l < 0 then -1 else 1) else if ms.getD q 0 = -1 then (if l < 0 then 1 else -1) else 0) := by
      show ofB ms l = _
      rw [HO.out, hq, show ((q : Int) + 1 - 1).toNat = q by omega]
    have HV2 : Hid (∀ W, Calls Tryd.prog 66 #[.int .i64 l] W fun e w' => e = .returned (.int .i64 ((q : Int) + 1)) ∧ w' = W) := by
      intro W; have := HV.out W; rw [hq] at this; exact this
    clear HO HV hq
    by_cases hlen : (ms.length : Int) < (q : Int) + 1
    · have HE : Aside (ofB ms l = 0) := by show _ = _; rw [HO2.out, if_pos hlen]
      clear HO2 h
      generalize ofB ms l = R at *
      generalize ms.length = n at *
      go_enter Tryd.func61, Tryd.ntmps61
      go_wp2_with fail
      refine (HC.out _).mono ?_
      rintro e w' ⟨rfl, hw⟩
      obtain rfl := hw.symm
      go_wp2_with fail
      refine (HV2.out _).mono ?_
      rintro e w' ⟨rfl, hw⟩
      obtain rfl := hw.symm
      go_wp2
      go_ret
      exact ⟨ret_of HE.out, rfl⟩
    · obtain ⟨b, off, rfl, hb, hc⟩ := h (by omega)
      have ck := hc q (by omega)
      clear hc
      have HE : Aside (ofB ms l = if ms.getD q 0 = 1 then (if l < 0 then -1 else 1) else if ms.getD q 0 = -1 then (if l < 0 then 1 else -1) else 0) := by show _ = _; rw [HO2.out, if_neg hlen]
      clear HO2
      generalize ofB ms l = R at *
      generalize ms.getD q 0 = x at *
      generalize ms.length = n at *
      have q1 : (q : Int) < (n : Int) := by omega
      clear h
      by_cases h1 : x = 1
      · subst h1
        by_cases h0 : l < 0
        · have HE2 : Aside (R = -1) := by show R = -1; rw [HE.out, if_pos rfl, if_pos h0]
          clear HE
          go_enter Tryd.func61, Tryd.ntmps61
          go_wp2_with fail
          refine (HC.out _).mono ?_
          rintro e w' ⟨rfl, hw⟩
          obtain rfl := hw.symm
          go_wp2_with fail
          refine (HV2.out _).mono ?_
          rintro e w' ⟨rfl, hw⟩
          obtain rfl := hw.symm
          go_wp2
          go_ret
          exact ⟨ret_of HE2.out, rfl⟩
        · have HE2 : Aside (R = 1) := by show R = 1; rw [HE.out, if_pos rfl, if_neg h0]
          clear HE
          go_enter Tryd.func61, Tryd.ntmps61
          go_wp2_with fail
          refine (HC.out _).mono ?_
          rintro e w' ⟨rfl, hw⟩
          obtain rfl := hw.symm
          go_wp2_with fail
          refine (HV2.out _).mono ?_
          rintro e w' ⟨rfl, hw⟩
          obtain rfl := hw.symm
          go_wp2
          go_ret
          exact ⟨ret_of HE2.out, rfl⟩
      by_cases h2 : x = -1
      · subst h2
        by_cases h0 : l < 0
        · have HE2 : Aside (R = 1) := by show R = 1; rw [HE.out, if_neg h1, if_pos rfl, if_pos h0]
          clear HE
          go_enter Tryd.func61, Tryd.ntmps61
          go_wp2_with fail
          refine (HC.out _).mono ?_
          rintro e w' ⟨rfl, hw⟩
          obtain rfl := hw.symm
          go_wp2_with fail
          refine (HV2.out _).mono ?_
          rintro e w' ⟨rfl, hw⟩
          obtain rfl := hw.symm
          go_wp2
          go_ret
          exact ⟨ret_of HE2.out, rfl⟩
        · have HE2 : Aside (R = -1) := by show R = -1; rw [HE.out, if_neg h1, if_pos rfl, if_neg h0]
          clear HE
          go_enter Tryd.func61, Tryd.ntmps61
          go_wp2_with fail
          refine (HC.out _).mono ?_
          rintro e w' ⟨rfl, hw⟩
          obtain rfl := hw.symm
          go_wp2_with fail
          refine (HV2.out _).mono ?_
          rintro e w' ⟨rfl, hw⟩
          obtain rfl := hw.symm
          go_wp2
          go_ret
          exact ⟨ret_of HE2.out, rfl⟩
      · have HE2 : Aside (R = 0) := by show R = 0; rw [HE.out, if_neg h1, if_neg h2]
        have e1 : (x != 1) = true := by simpa using h1
        have e2 : (x != -1) = true := by simpa using h2
        clear HE
        go_enter Tryd.func61, Tryd.ntmps61
        go_wp2_with fail
        refine (HC.out _).mono ?_
        rintro e w' ⟨rfl, hw⟩
        obtain rfl := hw.symm
        go_wp2_with fail
        refine (HV2.out _).mono ?_
        rintro e w' ⟨rfl, hw⟩
        obtain rfl := hw.symm
        go_wp2
        go_ret
        exact ⟨ret_of HE2.out, rfl⟩
end Go.Proofs.YtokpjegiinggdaaDoor
