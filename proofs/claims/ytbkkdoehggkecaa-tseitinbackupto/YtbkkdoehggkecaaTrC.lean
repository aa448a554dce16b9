import Derived.Test.YtbkkdoehggkecaaTqA
import Derived.Test.YtbkkdoehggkecaaTqL
namespace Go.Proofs.Ytbkkdoehggkecaa
open Go.ChangeShapes Go.WideShapes Go.ChangeAt Go.RowKit Go.Lib Go.Ag Go.WideMaps Go.Maps Go.ChangeMaps Go.Cn

theorem clit_ok (l : Int) (w : World) (h : l ≠ 0 ∧ -1048576 ≤ l ∧ l ≤ 1048576) : Calls Try.prog 56 #[.int .i64 l] w fun e w' => e = .returned (.bool true) ∧ w' = w := by
  obtain ⟨h1, h2, h3⟩ := h
  have q1 : (l != 0) = true := by simp; omega
  have q2 : decide (-1048576 ≤ l) = true := by simp; omega
  have q3 : decide (l ≤ 1048576) = true := by simp; omega
  go_enter Try.func56, Try.ntmps56
  go_wp2
  all_goals go_ret
  all_goals exact ⟨by simp, rfl⟩
theorem cvar_ok (q : Nat) (w : World) (h : q < 1048576) : Calls Try.prog 57 #[.int .i64 ((q : Int) + 1)] w fun e w' => e = .returned (.int .i64 ((q : Int) + 1)) ∧ w' = w := by
  have h4 : ¬ (q : Int) + 1 < 0 := by omega
  go_enter Try.func57, Try.ntmps57
  go_wp2
  all_goals go_ret
  all_goals exact ⟨rfl, rfl⟩
set_option maxHeartbeats 4000000 in
set_option maxRecDepth 100000 in
/-- what an assignment of all variables says of a variable -/
theorem cof_ok (ad : Option Addr) (ms : List Int) (c q : Nat) (w : World) (h : I8s w ad ms) (hm : gM ms) (hq : q < ms.length) (hn : ms.length ≤ 1048576) :
    Calls Try.prog 30 #[.slice ad ms.length c, .int .i64 ((q : Int) + 1)] w fun e w' => e = .returned (.int .i8 (ms.getD q 0)) ∧ w' = w := by
  have HLi : Hid (∀ W, Calls Try.prog 56 #[.int .i64 ((q : Int) + 1)] W fun e w' => e = .returned (.bool true) ∧ w' = W) := fun W => clit_ok _ W (by omega)
  have HVa : Hid (∀ W, Calls Try.prog 57 #[.int .i64 ((q : Int) + 1)] W fun e w' => e = .returned (.int .i64 ((q : Int) + 1)) ∧ w' = W) := fun W => cvar_ok q W (by omega)
  obtain ⟨b, off, rfl, hb, hc⟩ := h (by omega)
  have hcq := hc q hq
  have hmq : ms.getD q 0 = 1 ∨ ms.getD q 0 = -1 := hm _ (by rw [List.getD_eq_getElem?_getD, List.getElem?_eq_getElem hq]; exact List.getElem_mem _)
  clear hc hm h
  generalize ms.getD q 0 = x at *
  generalize ms.length = n at *
  have q5 : ¬ (n : Int) < (q : Int) + 1 := by omega
  have q6 : (q : Int) + 1 - 1 = (q : Int) := by omega
  have q7 : (q : Int) < (n : Int) := by omega
  have q8 : IntKind.i64.wrap ((q : Int) + 1 - 1) = (q : Int) := by rw [IntKind.wrap_i64]; omega
  have q9 : ¬ (q : Int) + 1 < 0 := by omega
  have hd : decide ((n : Int) < (q : Int) + 1) = false := by simp; omega
  rcases hmq with rfl | rfl
  all_goals (
    go_enter Try.func30, Try.ntmps30
    go_wp2_with fail
    refine (HLi.out _).mono ?_
    rintro e w' ⟨rfl, hw⟩
    obtain rfl := hw.symm
    go_wp2_with fail
    refine (HVa.out _).mono ?_
    rintro e w' ⟨rfl, hw⟩
    obtain rfl := hw.symm
    go_wp2_with fail
    go_ret
    exact ⟨rfl, rfl⟩)
/-- an input stands once -/
theorem inp_once {ns : Nds} {n n' j : Nat} (h : 0 < n ∧ n ≤ ns.length) (h' : 0 < n' ∧ n' ≤ ns.length) (hk : nodK ns n = (1, (j, 0))) (hk' : nodK ns n' = (1, (j, 0))) : n = n' := by
  have key : ∀ a b, 0 < a → a ≤ ns.length → 0 < b → b ≤ ns.length → nodK ns a = (1, (j, 0)) → nodK ns b = (1, (j, 0)) → ¬ a < b := fun a b ha ha2 hb hb2 hka hkb hlt => by
    rcases nodK_at ha ha2 with ⟨h1, h2⟩ | ⟨g, _, h2⟩
    · rcases nodK_at hb hb2 with ⟨h3, h4⟩ | ⟨g, _, h4⟩
      · have e1 : inN (ns.take (a - 1)) = j := by rw [h2] at hka; cases hka; rfl
        have e2 : inN (ns.take (b - 1)) = j := by rw [h4] at hkb; cases hkb; rfl
        have h5 : (ns.take (b - 1))[a - 1]? = some none := by rw [List.getElem?_take, if_pos (by omega)]; exact h1
        have h6 := inN_at h5
        rw [List.take_take, show min (a - 1) (b - 1) = a - 1 by omega, e1, e2] at h6
        omega
      · rw [h4] at hkb; cases hkb
    · rw [h2] at hka; cases hka
  have k1 := key n n' h.1 h.2 h'.1 h'.2 hk hk'
  have k2 := key n' n h'.1 h'.2 h.1 h.2 hk' hk
  omega
end Go.Proofs.Ytbkkdoehggkecaa
