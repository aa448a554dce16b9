import Derived.Test.YtfpmacnbfbcjgaaPA
import Derived.WalkSpells
import Derived.LoopTactic
import Derived.Deep.LoopGhost
namespace Go.Proofs.Ytfpmacnbfbcjgaa
open Go.ChangeShapes Go.WideShapes Go.ChangeAt Go.RowKit
/-- the document's trail -/
def Trl (w : World) (ad : Option Addr) (tr : List (Int × Int)) : Prop :=
  0 < tr.length → ∃ b, ad = some ⟨b, 0, none⟩ ∧ b < w.heap.size ∧ ∀ j, j < tr.length → w.cell? ⟨b, j * 2, none⟩ = some (.int .i64 (tr.getD j (0, 0)).1) ∧ w.cell? ⟨b, j * 2 + 1, none⟩ = some (.int .i64 (tr.getD j (0, 0)).2)
def rof (l : Int) : List (Int × Int) → Int
  | [] => 0
  | x :: t => if x.1 = l then 1 else if x.1 = -l then -1 else rof l t
def rlev (v : Int) : List (Int × Int) → Int
  | [] => -1
  | x :: t => if x.1 = v ∨ x.1 = -v then x.2 else rlev v t
theorem drop_consP (tr : List (Int × Int)) (k : Nat) (h : k < tr.length) : tr.drop k = tr.getD k (0, 0) :: tr.drop (k + 1) := by
  rw [List.drop_eq_getElem_cons h]; simp [List.getD_eq_getElem?_getD, h]
set_option maxHeartbeats 2000000 in
theorem rof_any (r : Nat) (ad : Option Addr) (tr : List (Int × Int)) (c : Nat) (l : Int) (w : World) (h : w.cell? ⟨r, 4, none⟩ = some (.slice ad tr.length c)) (ht : Trl w ad tr) (hl : tr.length ≤ 1000000000000000000) (hb : -1048576 ≤ l ∧ l ≤ 1048576) :
    Calls Try.prog 45 #[.pointer (some ⟨r, 0, none⟩), .int .i64 l] w fun e w' => e = .returned (.int .i64 (rof l tr)) ∧ w' = w := by
  have HT : Hid (Trl w ad tr) := ht
  have HS : Hid (∀ k, k < tr.length → rof l (tr.drop k) = if (tr.getD k (0, 0)).1 = l then 1 else if (tr.getD k (0, 0)).1 = -l then -1 else rof l (tr.drop (k + 1))) := fun k hk => by rw [drop_consP tr k hk]; rfl
  have HE : Hid (∀ k, tr.length ≤ k → rof l (tr.drop k) = 0) := fun k hk => by rw [List.drop_eq_nil_of_le hk]; rfl
  have HR : Hid (rof l tr = rof l (tr.drop 0)) := rfl
  generalize rof l tr = R at *
  clear ht
  generalize hn : tr.length = n at *
  have HLn : Hid (tr.length = n) := hn
  clear hn
  go_enter Try.func45, Try.ntmps45
  go_wp2
  go_loopg [5] n (fun gk i wr => ∃ k : Nat, i = .int .i64 k ∧ k + gk = n ∧ w = wr ∧ Aside (R = rof l (tr.drop k)))
  case atStart => exact ⟨0, rfl, by omega, rfl, HR.out⟩
  case round =>
    obtain ⟨k, rfl, hk, rfl, HRk⟩ := hrel
    by_cases hlt : k < n
    · obtain ⟨b, rfl, hbl, hc⟩ := HT.out (by rw [HLn.out]; omega)
      have c0 := (hc k (by rw [HLn.out]; exact hlt)).1
      have HSk : Aside (rof l (tr.drop k) = if (tr.getD k (0, 0)).1 = l then 1 else if (tr.getD k (0, 0)).1 = -l then -1 else rof l (tr.drop (k + 1))) := HS.out k hlt
      clear hc
      generalize (tr.getD k (0, 0)).1 = x at *
      have q1 : (k : Int) < (n : Int) := by omega
      by_cases h1 : x = l
      · have HF : Aside (R = 1) := by show R = 1; rw [HRk.out, HSk.out, if_pos h1]
        subst h1
        go_wp2
        go_ret
        exact ⟨by rw [HF.out]; rfl, rfl⟩
      · have e1 : (x == l) = false := by simpa using h1
        by_cases h2 : x = -l
        · have HF : Aside (R = -1) := by show R = -1; rw [HRk.out, HSk.out, if_neg h1, if_pos h2]
          have e2 : (x == -l) = true := by simpa using h2
          go_wp2
          go_ret
          exact ⟨by rw [HF.out]; rfl, rfl⟩
        · have e2 : (x == -l) = false := by simpa using h2
          have HF : Aside (R = rof l (tr.drop (k + 1))) := by show R = _; rw [HRk.out, HSk.out, if_neg h1, if_neg h2]
          go_wp2
          go_roundg (gk - 1)
          case measure => omega
          case rel => exact ⟨k + 1, by simp, by omega, rfl, HF⟩
    · have HF : Aside (R = 0) := by show R = 0; rw [HRk.out, HE.out k (by omega)]
      obtain rfl : k = n := by omega
      go_wp2
      go_ret
      exact ⟨by rw [HF.out]; rfl, rfl⟩
end Go.Proofs.Ytfpmacnbfbcjgaa
namespace Go.Proofs.Ytfpmacnbfbcjgaa
open Go.ChangeShapes Go.WideShapes Go.ChangeAt Go.RowKit
end Go.Proofs.Ytfpmacnbfbcjgaa
namespace Go.Proofs.Ytfpmacnbfbcjgaa
open Go.ChangeShapes Go.WideShapes Go.ChangeAt Go.RowKit
def IntsP (w : World) (ad : Option Addr) (xs : List Int) : Prop :=
  0 < xs.length → ∃ b off, ad = some ⟨b, off, none⟩ ∧ b < w.heap.size ∧ ∀ j, j < xs.length → w.cell? ⟨b, off + j, none⟩ = some (.int .i64 (xs.getD j 0))
/-- the literal for which a clause is a unit, and whether it is false -/
def ru (tr : List (Int × Int)) : List Int → Int → Int × Bool
  | [], u => (u, u == 0)
  | x :: c, u => if rof x tr = 1 ∨ (rof x tr = 0 ∧ u ≠ 0 ∧ u ≠ x) then (0, false) else ru tr c (if rof x tr = 0 then x else u)
theorem rof_three (l : Int) : ∀ tr, rof l tr = 0 ∨ rof l tr = 1 ∨ rof l tr = -1
  | [] => Or.inl rfl
  | x :: t => by
    unfold rof
    split
    · simp
    · split
      · simp
      · exact rof_three l t
theorem drop_consI (c : List Int) (k : Nat) (h : k < c.length) : c.drop k = c.getD k 0 :: c.drop (k + 1) := by
  rw [List.drop_eq_getElem_cons h]; simp [List.getD_eq_getElem?_getD, h]
theorem ret_ub {R : Int × Bool} {a : Int} {b : Bool} (h : R = (a, b)) : Ending.returned (.tuple #[.int .i64 a, .bool b]) = .returned (.tuple #[.int .i64 R.1, .bool R.2]) := by rw [h]
set_option maxHeartbeats 2000000 in
theorem unit_any (r : Nat) (ad cd : Option Addr) (tr : List (Int × Int)) (cs : List Int) (c d : Nat) (w : World) (h : w.cell? ⟨r, 4, none⟩ = some (.slice ad tr.length c)) (ht : Trl w ad tr) (hl : tr.length ≤ 1000000000000000000) (hI : IntsP w cd cs) (hcl : cs.length ≤ 1000000000000000000) (hb : ∀ x ∈ cs, -1048576 ≤ x ∧ x ≤ 1048576) :
    Calls Try.prog 36 #[.pointer (some ⟨r, 0, none⟩), .slice cd cs.length d] w fun e w' => e = .returned (.tuple #[.int .i64 (ru tr cs 0).1, .bool (ru tr cs 0).2]) ∧ w' = w := by
  have HO : Hid (∀ k, k < cs.length → Calls Try.prog 45 #[.pointer (some ⟨r, 0, none⟩), .int .i64 (cs.getD k 0)] w fun e w' => e = .returned (.int .i64 (rof (cs.getD k 0) tr)) ∧ w' = w) := fun k hk => rof_any r ad tr c (cs.getD k 0) w h ht hl (hb _ (by rw [List.getD_eq_getElem?_getD, List.getElem?_eq_getElem hk]; exact List.getElem_mem _))
  have HT3 : Hid (∀ k, rof (cs.getD k 0) tr = 0 ∨ rof (cs.getD k 0) tr = 1 ∨ rof (cs.getD k 0) tr = -1) := fun k => rof_three _ tr
  have HI : Hid (IntsP w cd cs) := hI
  have HS : Hid (∀ k u, k < cs.length → ru tr (cs.drop k) u = if rof (cs.getD k 0) tr = 1 ∨ (rof (cs.getD k 0) tr = 0 ∧ u ≠ 0 ∧ u ≠ cs.getD k 0) then (0, false) else ru tr (cs.drop (k + 1)) (if rof (cs.getD k 0) tr = 0 then cs.getD k 0 else u)) := fun k u hk => by rw [drop_consI cs k hk]; rfl
  have HE : Hid (∀ k u, cs.length ≤ k → ru tr (cs.drop k) u = (u, u == 0)) := fun k u hk => by rw [List.drop_eq_nil_of_le hk]; rfl
  have HR : Hid (ru tr cs 0 = ru tr (cs.drop 0) 0) := rfl
  generalize ru tr cs 0 = R at *
  clear ht hI hb h hl
  generalize hn : cs.length = n at *
  have HLn : Hid (cs.length = n) := hn
  clear hn
  generalize hG : ru tr = G at *
  clear hG
  generalize hF : (fun l => rof l tr) = F
  have HFe : Hid (∀ l, rof l tr = F l) := fun l => by rw [← hF]
  clear hF
  simp only [HFe.out] at HO HT3 HS
  go_enter Try.func36, Try.ntmps36
  go_wp2
  go_loopg [6, 7] n (fun gk s6 s7 wr => ∃ (k : Nat) (u : Int), s6 = .int .i64 u ∧ s7 = .int .i64 k ∧ k + gk = n ∧ wr = w ∧ Aside (R = G (cs.drop k) u))
  case atStart => exact ⟨0, 0, rfl, rfl, by omega, rfl, HR.out⟩
  case round =>
    obtain ⟨k, u, rfl, rfl, hk, rfl, HRk⟩ := hrel
    by_cases hlt : k < n
    · obtain ⟨b, off, rfl, hbl, hc⟩ := HI.out (by rw [HLn.out]; omega)
      have c0 := hc k (by rw [HLn.out]; exact hlt)
      have HOk : Hid (Calls Try.prog 45 #[.pointer (some ⟨r, 0, none⟩), .int .i64 (cs.getD k 0)] wr fun e w' => e = .returned (.int .i64 (F (cs.getD k 0))) ∧ w' = wr) := HO.out k hlt
      have HSk : Aside (G (cs.drop k) u = if F (cs.getD k 0) = 1 ∨ (F (cs.getD k 0) = 0 ∧ u ≠ 0 ∧ u ≠ cs.getD k 0) then (0, false) else G (cs.drop (k + 1)) (if F (cs.getD k 0) = 0 then cs.getD k 0 else u)) := HS.out k u hlt
      have h3 := HT3.out k
      clear hc
      generalize cs.getD k 0 = x at *
      generalize F x = f at *
      have q1 : (k : Int) < (n : Int) := by omega
      by_cases hq : f = 1 ∨ (f = 0 ∧ u ≠ 0 ∧ u ≠ x)
      · have HF : Aside (R = (0, false)) := by show R = _; rw [HRk.out, HSk.out, if_pos hq]
        clear HSk
        rcases hq with hq | ⟨hq, hu, hx⟩
        · subst hq
          go_wp2_with fail
          refine HOk.out.mono ?_
          rintro e w' ⟨rfl, hw⟩
          obtain rfl := hw.symm
          go_wp2
          go_ret2
          exact ⟨ret_ub HF.out, rfl⟩
        · subst hq
          have e1 : (u != 0) = true := by simpa using hu
          have e2 : (u != x) = true := by simpa using hx
          go_wp2_with fail
          refine HOk.out.mono ?_
          rintro e w' ⟨rfl, hw⟩
          obtain rfl := hw.symm
          go_wp2
          go_ret2
          exact ⟨ret_ub HF.out, rfl⟩
      · have HF : Aside (R = G (cs.drop (k + 1)) (if f = 0 then x else u)) := by show R = _; rw [HRk.out, HSk.out, if_neg hq]
        clear HSk
        by_cases h0 : f = 0
        · rw [if_pos h0] at HF
          have hux : u = 0 ∨ u = x := by
            by_cases a : u = 0
            · exact Or.inl a
            · by_cases b : u = x
              · exact Or.inr b
              · exact absurd (Or.inr ⟨h0, a, b⟩) hq
          clear hq h3
          subst h0
          by_cases hu0 : u = 0
          · subst hu0
            go_wp2_with fail
            refine HOk.out.mono ?_
            rintro e w' ⟨rfl, hw⟩
            obtain rfl := hw.symm
            go_wp2
            go_roundg (gk - 1)
            case measure => omega
            case rel => exact ⟨k + 1, x, rfl, by simp, by omega, rfl, HF⟩
          · have hue : u = x := by omega
            subst hue
            have e1 : (u != 0) = true := by simpa using hu0
            go_wp2_with fail
            refine HOk.out.mono ?_
            rintro e w' ⟨rfl, hw⟩
            obtain rfl := hw.symm
            go_wp2
            go_roundg (gk - 1)
            case measure => omega
            case rel => exact ⟨k + 1, u, rfl, by simp, by omega, rfl, HF⟩
        · rw [if_neg h0] at HF
          have hf : f = -1 := by omega
          subst hf
          clear hq h3
          go_wp2_with fail
          refine HOk.out.mono ?_
          rintro e w' ⟨rfl, hw⟩
          obtain rfl := hw.symm
          go_wp2
          go_roundg (gk - 1)
          case measure => omega
          case rel => exact ⟨k + 1, u, rfl, by simp, by omega, rfl, HF⟩
    · have HF : Aside (R = (u, u == 0)) := by show R = _; rw [HRk.out, HE.out k u (by omega)]
      obtain rfl : k = n := by omega
      go_wp2
      go_ret2
      exact ⟨ret_ub HF.out, rfl⟩
end Go.Proofs.Ytfpmacnbfbcjgaa
namespace Go.Proofs.Ytfpmacnbfbcjgaa
open Go.ChangeShapes Go.WideShapes Go.ChangeAt Go.RowKit
/-- the values of the literals, by their codes -/
def ValsP (w : World) (ad : Option Addr) (vs : List Int) : Prop :=
  ∃ b, ad = some ⟨b, 0, none⟩ ∧ b < w.heap.size ∧ ∀ j, j < vs.length → w.cell? ⟨b, j, none⟩ = some (.int .i8 (vs.getD j 0))
/-- when and why the variables got their values -/
def GivP (w : World) (ad : Option Addr) (gs : List (Int × Int)) : Prop :=
  ∃ b, ad = some ⟨b, 0, none⟩ ∧ b < w.heap.size ∧ ∀ j, j < gs.length → w.cell? ⟨b, j * 2, none⟩ = some (.int .i32 (gs.getD j (0, 0)).1) ∧ w.cell? ⟨b, j * 2 + 1, none⟩ = some (.int .i32 (gs.getD j (0, 0)).2)
theorem value_any (g n : Nat) (ad vd : Option Addr) (c c2 : Nat) (vs : List Int) (v : Int) (w : World) (h : w.cell? ⟨g, 4, none⟩ = some (.slice ad (n + 1) c)) (h3 : w.cell? ⟨g, 3, none⟩ = some (.slice vd (2 * n + 2) c2)) (hv : ValsP w vd vs) (hl : vs.length = 2 * n + 2) (hn : n ≤ 1048576) (hi : ∀ x ∈ vs, x = 0 ∨ x = 1 ∨ x = -1) :
    Calls Try.prog 37 #[.pointer (some ⟨g, 0, none⟩), .int .i64 v] w fun e w' => e = .returned (.int .i64 (if v < 1 ∨ (n : Int) < v then 0 else vs.getD (2 * v).toNat 0)) ∧ ∃ m, w' = w.drewN m := by
  have HV : Hid (∀ W, W = w → Calls Try.prog 44 #[.pointer (some ⟨g, 0, none⟩)] W fun e w' => e = .returned (.int .i64 n) ∧ w' = W) := fun W e => by subst e; exact vars_any g ad n c W h hn
  by_cases h0 : v < 1 ∨ (n : Int) < v
  · rw [if_pos h0]
    clear h3 hv hl hi
    by_cases h1 : v < 1
    · go_enter Try.func37, Try.ntmps37
      go_wp2
      go_ret
      exact ⟨rfl, 0, rfl⟩
    · have h2 : (n : Int) < v := by omega
      go_enter Try.func37, Try.ntmps37
      go_wp2
      go_ret
      exact ⟨rfl, 0, rfl⟩
  · rw [if_neg h0]
    obtain ⟨k, rfl⟩ : ∃ k : Nat, v = k := ⟨v.toNat, by omega⟩
    have e2 : (2 * (k : Int)).toNat = 2 * k := by omega
    rw [e2]
    obtain ⟨b, rfl, hbl, hc⟩ := hv
    have hk : 2 * k < vs.length := by omega
    have c0 := hc (2 * k) hk
    have hx : vs.getD (2 * k) 0 = 0 ∨ vs.getD (2 * k) 0 = 1 ∨ vs.getD (2 * k) 0 = -1 := hi _ (by rw [List.getD_eq_getElem?_getD, List.getElem?_eq_getElem hk]; exact List.getElem_mem _)
    have HC : Hid (∀ W, Calls Try.prog 35 #[.int .i64 (k : Int)] W fun e w' => e = .returned (.int .i32 (2 * (k : Int))) ∧ w' = W) := fun W => by
      have := codeOf_any (k : Int) W (by omega)
      rw [show cdI (k : Int) = 2 * (k : Int) by unfold cdI; rw [if_neg (by omega)]] at this
      exact this
    have h1 : ¬ (k : Int) < 1 := by omega
    have h2 : ¬ (n : Int) < (k : Int) := by omega
    have q3 : (2 * (k : Int)) < 2 * (n : Int) + 2 := by omega
    have q4 : (0 : Int) ≤ 2 * (k : Int) := by omega
    clear hc hi hk h0
    generalize vs.getD (2 * k) 0 = x at *
    have hxw : IntKind.i64.wrap x = x := by rw [IntKind.wrap_i64]; omega
    go_enter Try.func37, Try.ntmps37
    go_wp2
    go_quiet ((go_at_call 35; exact Calls.quiet_of_same (HC.out _)))
    go_wp2
    go_ret
    exact ⟨rfl, nq, rfl⟩
end Go.Proofs.Ytfpmacnbfbcjgaa
