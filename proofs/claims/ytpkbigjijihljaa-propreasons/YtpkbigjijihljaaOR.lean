import Derived.Test.YtpkbigjijihljaaOE
import Derived.BigQuiet
import Derived.Deep.DeepCutAuto
import Derived.Deep.QuietTactic
import Derived.Lib.Hide
namespace Go.Proofs.Ytpkbigjijihljaa
open Go.ChangeShapes Go.WideShapes Go.ChangeAt Go.RowKit
open Go.Pr
/-- a row that can be read -/
def Row (w : World) (ad : Option Addr) (xs : List Int) : Prop := 0 < xs.length → ∃ a o, ad = some ⟨a, o, none⟩ ∧ ∀ j, j < xs.length → w.cell? ⟨a, o + j, none⟩ = some (.int .i64 (xs.getD j 0))
set_option maxHeartbeats 4000000 in
theorem lhas_any {ad : Option Addr} {cp : Nat} {xs : List Int} (w : World) (hx : Row w ad xs) (hl : xs.length ≤ 4194304) (n : Int) :
    Calls Try.prog 38 #[.slice ad xs.length cp, .int .i64 n] w fun e w' => e = .returned (.bool (decide (n ∈ xs))) ∧ ∃ m, w' = w.drewN m := by
  generalize hPP : (fun (e : Ending) (w' : World) => e = .returned (.bool (decide (n ∈ xs))) ∧ ∃ m, w' = w.drewN m) = PP
  have HP1 : Hid (∀ m i, i < xs.length → xs.getD i 0 = n → PP (.returned (.bool true)) (w.drewN m)) := fun m i hi e => by
    rw [← hPP]
    refine ⟨?_, m, rfl⟩
    rw [decide_eq_true]
    rw [← e, getD_of _ _ _ hi]
    exact List.getElem_mem _
  have HP0 : Hid (∀ m, (∀ i, i < xs.length → xs.getD i 0 ≠ n) → PP (.returned (.bool false)) (w.drewN m)) := fun m h => by
    rw [← hPP]
    refine ⟨?_, m, rfl⟩
    rw [decide_eq_false]
    intro hm
    obtain ⟨i, hi, e⟩ := List.mem_iff_getElem.1 hm
    exact h i hi (by rw [getD_of _ _ _ hi]; exact e)
  have HX : Hid (0 < xs.length → ∃ a o, ad = some ⟨a, o, none⟩ ∧ ∀ m j, j < xs.length → (w.drewN m).cell? ⟨a, o + j, none⟩ = some (.int .i64 (xs.getD j 0))) := fun h0 => by
    obtain ⟨a, o, e1, e2⟩ := hx h0
    exact ⟨a, o, e1, fun _ => e2⟩
  clear hPP hx
  obtain ⟨k, hk⟩ : ∃ k, xs.length = k := ⟨_, rfl⟩
  rw [hk] at HX HP0 HP1 hl ⊢
  clear hk
  go_enter Try.func38, Try.ntmps38
  go_wp2_with fail
  go_loopg [5] k (fun gk s5 wr => ∃ i : Nat, s5 = .int .i64 (i : Int) ∧ i + gk = k ∧ ∃ m, w.drewN m = wr ∧ Aside (∀ j, j < i → xs.getD j 0 ≠ n))
  case atStart => exact ⟨0, rfl, by omega, 0, rfl, fun j hj => absurd hj (Nat.not_lt_zero j)⟩
  case round =>
    obtain ⟨i, rfl, hi, m0, rfl, HA⟩ := hrel
    by_cases hlt : i < k
    · obtain ⟨a, o, rfl, e1⟩ := HX.out (by omega)
      have e2 := e1 m0 i hlt
      have q1 : (i : Int) < (k : Int) := by omega
      by_cases he : xs.getD i 0 = n
      · have HP2 : Hid (∀ m, PP (.returned (.bool true)) (w.drewN m)) := fun m => HP1.out m i hlt he
        rw [he] at e2
        clear e1 he
        go_wp2
        first | exact HP2.out _ | (go_ret; exact HP2.out _) | (go_ret2; exact HP2.out _) | (go_quiet (fail); go_wp2; first | exact HP2.out _ | (go_ret; exact HP2.out _) | (go_ret2; exact HP2.out _))
      · have HN : Aside (∀ j, j < i + 1 → xs.getD j 0 ≠ n) := fun j hj => by
          by_cases e : j = i
          · rw [e]; exact he
          · exact HA.out j (by omega)
        have q2 : (xs.getD i 0 == n) = false := beq_false_of_ne he
        clear e1
        generalize xs.getD i 0 = x at *
        go_wp2
        first
        | (go_roundg (gk - 1)
           case measure => omega
           case rel => exact ⟨i + 1, by simp, by omega, m0, rfl, HN⟩)
        | (go_quiet (fail)
           go_wp2
           go_roundg (gk - 1)
           case measure => omega
           case rel => exact ⟨i + 1, by simp, by omega, _, rfl, HN⟩)
    · have hji : i = k := by omega
      subst hji
      have HP2 : Hid (PP (.returned (.bool false)) (w.drewN m0)) := HP0.out m0 HA.out
      go_wp2
      first | exact HP2.out | (go_ret; exact HP2.out) | (go_ret2; exact HP2.out)
end Go.Proofs.Ytpkbigjijihljaa
namespace Go.Proofs.Ytpkbigjijihljaa
open Go.ChangeShapes Go.WideShapes Go.ChangeAt Go.RowKit
open Go.Pr
/-- a list of clauses that can be read -/
def Rows2 (w : World) (aA : Option Addr) (cls : List (List Int)) : Prop := ∀ i, i < cls.length → ∃ bA ad cp, aA = some ⟨bA, 0, none⟩ ∧ w.cell? ⟨bA, i, none⟩ = some (.slice ad (cls.getD i []).length cp) ∧ Row w ad (cls.getD i [])
theorem getD_mem {c : List Int} {j : Nat} (h : j < c.length) : c.getD j 0 ∈ c := by rw [getD_of _ _ _ h]; exact List.getElem_mem _
set_option maxHeartbeats 8000000 in
theorem one_any {aA ad : Option Addr} {cA cp : Nat} {cls : List (List Int)} {xs : List Int} (w : World) (hA : Rows2 w aA cls) (hx : Row w ad xs) (hc : cls.length ≤ 1048576) (hcl : ∀ c ∈ cls, c.length ≤ 65536) {k0 : Nat} (hk0 : k0 < cls.length) (hxs : cls.getD k0 [] = xs) :
    Calls Try.prog 20 #[.slice aA cls.length cA, .slice ad xs.length cp] w fun e w' => e = .returned (.bool true) ∧ ∃ m, w' = w.drewN m := by
  generalize hPP : (fun (e : Ending) (w' : World) => e = .returned (.bool true) ∧ ∃ m, w' = w.drewN m) = PP
  have HPP : Hid (∀ m, PP (.returned (.bool true)) (w.drewN m)) := fun m => by rw [← hPP]; exact ⟨rfl, m, rfl⟩
  have hxl : xs.length ≤ 65536 := by rw [← hxs, getD_of _ _ _ hk0]; exact hcl _ (List.getElem_mem _)
  have HC : Hid (∀ i, i < cls.length → ∃ bA a1 c1, aA = some ⟨bA, 0, none⟩ ∧ (∀ m, (w.drewN m).cell? ⟨bA, i, none⟩ = some (.slice a1 (cls.getD i []).length c1)) ∧ (∀ m, Row (w.drewN m) a1 (cls.getD i [])) ∧ (∀ m m', Row ((w.drewN m).drewN m') a1 (cls.getD i [])) ∧ (cls.getD i []).length ≤ 65536) := fun i hi => by
    obtain ⟨bA, a1, c1, e1, e2, e3⟩ := hA i hi
    exact ⟨bA, a1, c1, e1, fun _ => e2, fun _ => e3, fun _ _ => e3, by rw [getD_of _ _ _ hi]; exact hcl _ (List.getElem_mem _)⟩
  have HX : Hid (∀ m, Row (w.drewN m) ad xs) := fun _ => hx
  have HX2 : Hid (∀ m m', Row ((w.drewN m).drewN m') ad xs) := fun _ _ => hx
  have HH : Hid (∀ a1 c1 (ys : List Int) W n, Row W a1 ys → ys.length ≤ 65536 → Calls Try.prog 38 #[.slice a1 ys.length c1, .int .i64 n] W fun e w' => e = .returned (.bool (decide (n ∈ ys))) ∧ ∃ m', w' = W.drewN m') := fun a1 c1 ys W n h1 h2 => lhas_any W h1 (by omega) n
  have HK0 : Hid (cls.getD k0 [] = xs) := hxs
  clear hPP hA hx hcl hxs
  obtain ⟨k, hk⟩ : ∃ k, cls.length = k := ⟨_, rfl⟩
  rw [hk] at HC hc hk0 ⊢
  clear hk
  obtain ⟨n, hn⟩ : ∃ n, xs.length = n := ⟨_, rfl⟩
  have HN : Hid (xs.length = n) := hn
  rw [hn] at hxl ⊢
  clear hn
  go_enter Try.func20, Try.ntmps20
  go_wp2_with fail
  go_loopg [5, 6, 7, 8] (k0 + 1) (fun gk s5 s6 s7 s8 wr => ∃ i : Nat, s5 = .int .i64 (i : Int) ∧ i + gk = k0 + 1 ∧ i ≤ k0 ∧ ∃ m, w.drewN m = wr)
  case atStart => exact ⟨0, rfl, by omega, by omega, 0, rfl⟩
  case round =>
    obtain ⟨i, rfl, hi, hik, m0, rfl⟩ := hrel
    obtain ⟨bA, a1, c1, rfl, e1, e2, e2', e3⟩ := HC.out i (by omega)
    have HR1 : Hid (∀ m, Row (w.drewN m) a1 (cls.getD i [])) := e2
    have HR2 : Hid (∀ m m', Row ((w.drewN m).drewN m') a1 (cls.getD i [])) := e2'
    have HEQ : Hid (i = k0 → cls.getD i [] = xs) := fun e => by rw [e]; exact HK0.out
    clear e2 e2'
    generalize cls.getD i [] = ys at *
    obtain ⟨l, hl⟩ : ∃ l, ys.length = l := ⟨_, rfl⟩
    have HL : Hid (ys.length = l) := hl
    rw [hl] at e1 e3
    clear hl
    have q1 : (i : Int) < (k : Int) := by omega
    have e1m := e1 m0
    go_wp2_with fail
    go_loopg [6, 7] n (fun gk2 s6 s7 wr2 => ∃ (j : Nat) (r : Bool), s6 = .bool r ∧ s7 = .int .i64 (j : Int) ∧ j + gk2 = n ∧ ∃ m, w.drewN m = wr2 ∧ Aside (i = k0 → r = true))
    case atStart => exact ⟨0, true, rfl, rfl, by omega, m0, rfl, fun _ => rfl⟩
    case round =>
      obtain ⟨j, r, rfl, rfl, hj, m1, rfl, HAr⟩ := hrel
      have e1n := e1 m1
      clear e1m
      by_cases hlt2 : j < n
      · obtain ⟨bx, ox, rfl, e4⟩ := HX.out m1 (by rw [HN.out]; omega)
        have e4n := e4 j (by rw [HN.out]; exact hlt2)
        have q2 : (j : Int) < (n : Int) := by omega
        obtain ⟨W1, hW1⟩ : ∃ W1, w.drewN m1 = W1 := ⟨_, rfl⟩
        have HW1 : Hid (w.drewN m1 = W1) := hW1
        have HHj : Hid (∀ m, Calls Try.prog 38 #[.slice a1 l c1, .int .i64 (xs.getD j 0)] (W1.drewN m) fun e w' => e = .returned (.bool (decide (xs.getD j 0 ∈ ys))) ∧ ∃ m', w' = (W1.drewN m).drewN m') := fun m => by
          rw [← HW1.out]
          have hyl := HH.out a1 c1 ys _ (xs.getD j 0) (HR2.out m1 m) (by rw [HL.out]; exact e3)
          rw [HL.out] at hyl
          exact hyl
        rw [hW1] at e1n e4n ⊢
        clear hW1
        have HAy : Aside (i = k0 → decide (xs.getD j 0 ∈ ys) = true) := fun e => decide_eq_true (by rw [HEQ.out e]; exact getD_mem (by rw [HN.out]; exact hlt2))
        clear e4
        generalize xs.getD j 0 = x at *
        generalize decide (x ∈ ys) = y at *
        cases r with
        | false =>
          have HB : Aside (i ≠ k0) := fun e => absurd (HAr.out e) (by decide)
          clear HAr HAy
          go_wp2_with fail
          first
          | (go_roundg (gk - 1)
             case measure => omega
             case rel => exact ⟨j + 1, false, rfl, by simp, by omega, m1, HW1.out, fun e => absurd e HB.out⟩)
          | (go_quiet (fail)
             go_wp2
             go_roundg (gk - 1)
             case measure => omega
             case rel => exact ⟨j + 1, false, by simp, by simp, by omega, _, by rw [← HW1.out, World.drewN_drewN], fun e => absurd e HB.out⟩)
        | true =>
          clear HAr
          go_wp2_with fail
          first | (go_quiet ((go_at_call 38; exact Calls.quiet_of (HHj.out _)))) | fail
          go_wp2
          go_roundg (gk - 1)
          case measure => omega
          case rel => exact ⟨j + 1, y, by simp, by simp, by omega, _, by rw [← HW1.out, World.drewN_drewN], HAy⟩
      · have hjn : j = n := by omega
        subst hjn
        have HA2 : Hid (i = k0 → r = true) := HAr.out
        clear HAr
        go_wp2_with fail
        go_loopg [6, 8] l (fun gk2 s6 s8 wr2 => ∃ (j : Nat) (r : Bool), s6 = .bool r ∧ s8 = .int .i64 (j : Int) ∧ j + gk2 = l ∧ ∃ m, w.drewN m = wr2 ∧ Aside (i = k0 → r = true))
        case atStart => exact ⟨0, r, rfl, rfl, by omega, m1, rfl, HA2.out⟩
        case round =>
          obtain ⟨j2, r2, rfl, rfl, hj2, m2, rfl, HAr2⟩ := hrel
          have e1k := e1 m2
          clear e1n
          by_cases hlt3 : j2 < l
          · obtain ⟨bx, ox, rfl, e4⟩ := HR1.out m2 (by rw [HL.out]; omega)
            have e4n := e4 j2 (by rw [HL.out]; exact hlt3)
            have q2 : (j2 : Int) < (l : Int) := by omega
            obtain ⟨W1, hW1⟩ : ∃ W1, w.drewN m2 = W1 := ⟨_, rfl⟩
            have HW1 : Hid (w.drewN m2 = W1) := hW1
            have HHj : Hid (∀ m, Calls Try.prog 38 #[.slice ad j cp, .int .i64 (ys.getD j2 0)] (W1.drewN m) fun e w' => e = .returned (.bool (decide (ys.getD j2 0 ∈ xs))) ∧ ∃ m', w' = (W1.drewN m).drewN m') := fun m => by
              rw [← HW1.out]
              have hyl := HH.out ad cp xs _ (ys.getD j2 0) (HX2.out m2 m) (by rw [HN.out]; exact hxl)
              rw [HN.out] at hyl
              exact hyl
            rw [hW1] at e1k e4n ⊢
            clear hW1
            have HAy : Aside (i = k0 → decide (ys.getD j2 0 ∈ xs) = true) := fun e => decide_eq_true (by rw [← HEQ.out e]; exact getD_mem (by rw [HL.out]; exact hlt3))
            clear e4
            generalize ys.getD j2 0 = x at *
            generalize decide (x ∈ xs) = y at *
            cases r2 with
            | false =>
              have HB : Aside (i ≠ k0) := fun e => absurd (HAr2.out e) (by decide)
              clear HAr2 HAy
              go_wp2_with fail
              first
              | (go_roundg (gk - 1)
                 case measure => omega
                 case rel => exact ⟨j2 + 1, false, rfl, by simp, by omega, m2, HW1.out, fun e => absurd e HB.out⟩)
              | (go_quiet (fail)
                 go_wp2
                 go_roundg (gk - 1)
                 case measure => omega
                 case rel => exact ⟨j2 + 1, false, by simp, by simp, by omega, _, by rw [← HW1.out, World.drewN_drewN], fun e => absurd e HB.out⟩)
            | true =>
              clear HAr2
              go_wp2_with fail
              refine (HHj.out 0).mono ?_
              rintro e w' ⟨rfl, m3, rfl⟩
              have HW2 : Aside (w.drewN (m2 + (0 + m3)) = (W1.drewN 0).drewN m3) := by
                show _ = _
                rw [← HW1.out, World.drewN_drewN, World.drewN_drewN]
              generalize (W1.drewN 0).drewN m3 = W3 at *
              go_wp2
              go_roundg (gk - 1)
              case measure => omega
              case rel => exact ⟨j2 + 1, y, by simp, by simp, by omega, _, HW2.out, HAy⟩
          · have hjn2 : j2 = l := by omega
            subst hjn2
            cases r2 with
            | true =>
              go_wp2
              first | exact HPP.out _ | (go_ret; exact HPP.out _) | (go_ret2; exact HPP.out _)
            | false =>
              have hne : i ≠ k0 := fun e => absurd (HAr2.out e) (by decide)
              clear HAr2
              go_wp2
              go_roundg (k0 - i)
              case measure => omega
              case rel => exact ⟨i + 1, by simp, by omega, by omega, m2, rfl⟩
end Go.Proofs.Ytpkbigjijihljaa
