import Derived.Test.YtfpmacnbfbcjgaaEE
import Derived.WalkMore
namespace Go.Proofs.Ytfpmacnbfbcjgaa
open Go.ChangeShapes Go.WideShapes Go.ChangeAt Go.RowKit
open Go.Pr
theorem drop_consN (c : List Nat) (k : Nat) (h : k < c.length) : c.drop k = c.getD k 0 :: c.drop (k + 1) := by
  rw [List.drop_eq_getElem_cons h]; simp [List.getD_eq_getElem?_getD, h]
theorem ret_two {R : Nat × Nat} {a b : Nat} (h : R = (a, b)) : Ending.returned (.tuple #[.int .i32 (a : Int), .int .i32 (b : Int)]) = .returned (.tuple #[.int .i32 (R.1 : Int), .int .i32 (R.2 : Int)]) := by rw [h]
set_option maxHeartbeats 4000000 in
theorem lastTwo_mem {w : World} {g : Nat} {O : Nat → Prop} {S : ES} {p : Nat → Value} (h : Mem w g O S p) (hw : WF S) {k : Nat} (hk : k < S.cls.length) :
    Calls Try.prog 41 #[.pointer (some ⟨g, 0, none⟩), .int .i32 (k : Int)] w fun r w' => r = .returned (.tuple #[.int .i32 ((S.last2 (S.inside k) 0 0).1 : Int), .int .i32 ((S.last2 (S.inside k) 0 0).2 : Int)]) ∧ Mem w' g O S p ∧ Fr O w w' O := by
  have HI : Hid (Calls Try.prog 48 #[.pointer (some ⟨g, 0, none⟩), .int .i32 (k : Int)] w fun r w' => ∃ ad cp, r = .returned (.slice ad (S.inside k).length cp) ∧ Rd w' ad (S.inside k) ∧ Mem w' g O S p ∧ Fr O w w' O) := inside_mem h hw hk
  have HFA : Hid (∀ W c, Mem W g O S p → c < 2 * S.n + 2 → Calls Try.prog 42 #[.pointer (some ⟨g, 0, none⟩), .int .i32 (c : Int)] W fun e w' => e = .returned (.int .i32 (S.fs c : Int)) ∧ w' = W) := fun W c m hc => falseSince_mem m hw hc
  have HIn : Hid (∀ j, j < (S.inside k).length → (S.inside k).getD j 0 < 2 * S.n + 2) := fun j hj => by
    rw [getD_of _ _ _ hj]
    exact (hw.inside_mem (List.getElem_mem hj)).2
  have hck := hw.clause_ok hk
  have hil := hw.inside_len hk
  have HStep : Hid (∀ (L : List Nat) (j f s : Nat), j < L.length → S.last2 (L.drop j) f s = if L.getD j 0 = f then S.last2 (L.drop (j + 1)) f s else if S.fs f < S.fs (L.getD j 0) then S.last2 (L.drop (j + 1)) (L.getD j 0) f else if S.fs s < S.fs (L.getD j 0) then S.last2 (L.drop (j + 1)) f (L.getD j 0) else if S.fs s = never then (f, s) else S.last2 (L.drop (j + 1)) f s) := fun L j f s hj => by rw [drop_consN L j hj]; rfl
  have HEnd : Hid (∀ (L : List Nat) (j f s : Nat), L.length ≤ j → S.last2 (L.drop j) f s = (f, s)) := fun L j f s hj => by rw [List.drop_eq_nil_of_le hj]; rfl
  generalize hR : S.last2 (S.inside k) 0 0 = R at *
  have HR : Hid (R = S.last2 ((S.inside k).drop 0) 0 0) := hR.symm
  clear hR
  generalize S.inside k = L at *
  have hL : L.length ≤ 65536 := by omega
  clear h hw hck hil hk
  generalize hLA : S.last2 = LA at *
  generalize hF : S.fs = F at *
  clear hLA hF
  generalize hn : L.length = n at *
  have HLn : Hid (L.length = n) := hn
  clear hn
  go_enter Try.func41, Try.ntmps41
  go_wp2
  go_step3
  go_wp2
  go_step3
  go_wp2_with fail
  refine HI.out.mono ?_
  rintro e w1 ⟨ad, cp, rfl, hrd, hM, hFr⟩
  have HRd : Hid (Rd w1 ad L) := hrd
  have HFin : Hid (Mem w1 g O S p ∧ Fr O w w1 O) := ⟨hM, hFr⟩
  have HF1 : Hid (∀ c, c < 2 * S.n + 2 → Calls Try.prog 42 #[.pointer (some ⟨g, 0, none⟩), .int .i32 (c : Int)] w1 fun e w' => e = .returned (.int .i32 (F c : Int)) ∧ w' = w1) := fun c hc => HFA.out w1 c hM hc
  clear HFA hrd hM hFr HI
  have hN0 : 0 < 2 * S.n + 2 := by omega
  generalize 2 * S.n + 2 = N at *
  go_wp2
  go_loopg [6, 7, 15] n (fun gk s6 s7 s15 wr => ∃ (j f s : Nat), s6 = .int .i32 (f : Int) ∧ s7 = .int .i32 (s : Int) ∧ s15 = .int .i64 (j : Int) ∧ j + gk = n ∧ w1 = wr ∧ f < N ∧ s < N ∧ Aside (R = LA (L.drop j) f s))
  case atStart => exact ⟨0, 0, 0, rfl, rfl, rfl, by omega, rfl, by omega, by omega, HR.out⟩
  case round =>
    obtain ⟨j, f, s, rfl, rfl, rfl, hj, rfl, hfN, hsN, HRj⟩ := hrel
    by_cases hlt : j < n
    · obtain ⟨b, o, rfl, hc⟩ := HRd.out (by rw [HLn.out]; omega)
      have c0 := hc j (by rw [HLn.out]; exact hlt)
      have hlN := HIn.out j hlt
      have HSj : Aside (LA (L.drop j) f s = if L.getD j 0 = f then LA (L.drop (j + 1)) f s else if F f < F (L.getD j 0) then LA (L.drop (j + 1)) (L.getD j 0) f else if F s < F (L.getD j 0) then LA (L.drop (j + 1)) f (L.getD j 0) else if F s = never then (f, s) else LA (L.drop (j + 1)) f s) := HStep.out L j f s (by rw [HLn.out]; exact hlt)
      clear hc
      generalize L.getD j 0 = l at *
      have HCl : Hid (Calls Try.prog 42 #[.pointer (some ⟨g, 0, none⟩), .int .i32 (l : Int)] w1 fun e w' => e = .returned (.int .i32 (F l : Int)) ∧ w' = w1) := HF1.out l hlN
      have HCf : Hid (Calls Try.prog 42 #[.pointer (some ⟨g, 0, none⟩), .int .i32 (f : Int)] w1 fun e w' => e = .returned (.int .i32 (F f : Int)) ∧ w' = w1) := HF1.out f hfN
      have HCs : Hid (Calls Try.prog 42 #[.pointer (some ⟨g, 0, none⟩), .int .i32 (s : Int)] w1 fun e w' => e = .returned (.int .i32 (F s : Int)) ∧ w' = w1) := HF1.out s hsN
      have q1 : (j : Int) < (n : Int) := by omega
      by_cases h1 : l = f
      · have HF : Aside (R = LA (L.drop (j + 1)) f s) := by show R = _; rw [HRj.out, HSj.out, if_pos h1]
        clear HSj HCf HCs
        subst h1
        go_wp2_with fail
        refine HCl.out.mono ?_
        rintro e w' ⟨rfl, hw⟩
        obtain rfl := hw.symm
        go_wp2
        go_roundg (gk - 1)
        case measure => omega
        case rel => exact ⟨j + 1, l, s, rfl, rfl, by simp, by omega, rfl, by omega, by omega, HF⟩
      · have e1 : ((l : Int) == (f : Int)) = false := beq_eq_false_iff_ne.2 (by omega)
        generalize hFl : F l = fl at *
        generalize hFf : F f = ff at *
        generalize hFs : F s = fs at *
        by_cases h2 : ff < fl
        · have HF : Aside (R = LA (L.drop (j + 1)) l f) := by show R = _; rw [HRj.out, HSj.out, if_neg h1, if_pos h2]
          have h2' : (ff : Int) < (fl : Int) := by omega
          clear HSj HCs
          go_wp2_with fail
          refine HCl.out.mono ?_
          rintro e w' ⟨rfl, hw⟩
          obtain rfl := hw.symm
          go_wp2_with fail
          refine HCf.out.mono ?_
          rintro e w' ⟨rfl, hw⟩
          obtain rfl := hw.symm
          go_wp2
          go_roundg (gk - 1)
          case measure => omega
          case rel => exact ⟨j + 1, l, f, rfl, rfl, by simp, by omega, rfl, by omega, by omega, HF⟩
        · have h2' : ¬ (ff : Int) < (fl : Int) := by omega
          by_cases h3 : fs < fl
          · have HF : Aside (R = LA (L.drop (j + 1)) f l) := by show R = _; rw [HRj.out, HSj.out, if_neg h1, if_neg h2, if_pos h3]
            have h3' : (fs : Int) < (fl : Int) := by omega
            clear HSj
            go_wp2_with fail
            refine HCl.out.mono ?_
            rintro e w' ⟨rfl, hw⟩
            obtain rfl := hw.symm
            go_wp2_with fail
            refine HCf.out.mono ?_
            rintro e w' ⟨rfl, hw⟩
            obtain rfl := hw.symm
            go_wp2_with fail
            refine HCs.out.mono ?_
            rintro e w' ⟨rfl, hw⟩
            obtain rfl := hw.symm
            go_wp2
            go_roundg (gk - 1)
            case measure => omega
            case rel => exact ⟨j + 1, f, l, rfl, rfl, by simp, by omega, rfl, by omega, by omega, HF⟩
          · have h3' : ¬ (fs : Int) < (fl : Int) := by omega
            by_cases h4 : fs = never
            · have HF : Aside (R = (f, s)) := by show R = _; rw [HRj.out, HSj.out, if_neg h1, if_neg h2, if_neg h3, if_pos h4]
              have h4' : fs = 2147483647 := h4
              clear HSj h4
              subst h4'
              go_wp2_with fail
              refine HCl.out.mono ?_
              rintro e w' ⟨rfl, hw⟩
              obtain rfl := hw.symm
              go_wp2_with fail
              refine HCf.out.mono ?_
              rintro e w' ⟨rfl, hw⟩
              obtain rfl := hw.symm
              go_wp2_with fail
              refine HCs.out.mono ?_
              rintro e w' ⟨rfl, hw⟩
              obtain rfl := hw.symm
              go_wp2_with fail
              refine HCs.out.mono ?_
              rintro e w' ⟨rfl, hw⟩
              obtain rfl := hw.symm
              go_wp2
              try rw [Exit.noGoto_ret]
              go_ret2
              exact ⟨ret_two HF.out, HFin.out⟩
            · have HF : Aside (R = LA (L.drop (j + 1)) f s) := by show R = _; rw [HRj.out, HSj.out, if_neg h1, if_neg h2, if_neg h3, if_neg h4]
              have h4' : ((fs : Int) == 2147483647) = false := by
                have : fs ≠ 2147483647 := h4
                simp
                omega
              clear HSj h4
              go_wp2_with fail
              refine HCl.out.mono ?_
              rintro e w' ⟨rfl, hw⟩
              obtain rfl := hw.symm
              go_wp2_with fail
              refine HCf.out.mono ?_
              rintro e w' ⟨rfl, hw⟩
              obtain rfl := hw.symm
              go_wp2_with fail
              refine HCs.out.mono ?_
              rintro e w' ⟨rfl, hw⟩
              obtain rfl := hw.symm
              go_wp2_with fail
              refine HCs.out.mono ?_
              rintro e w' ⟨rfl, hw⟩
              obtain rfl := hw.symm
              go_wp2
              go_roundg (gk - 1)
              case measure => omega
              case rel => exact ⟨j + 1, f, s, rfl, rfl, by simp, by omega, rfl, by omega, by omega, HF⟩
    · have HF : Aside (R = (f, s)) := by show R = _; rw [HRj.out, HEnd.out L j f s (by rw [HLn.out]; omega)]
      obtain rfl : j = n := by omega
      go_wp2
      rw [Exit.noGoto_ret]
      go_ret2
      exact ⟨ret_two HF.out, HFin.out⟩
end Go.Proofs.Ytfpmacnbfbcjgaa
