import Derived.Test.YtpkbigjijihljaaPC
namespace Go.Proofs.Ytpkbigjijihljaa
open Go.ChangeShapes Go.WideShapes Go.ChangeAt Go.RowKit
def IntsP (w : World) (ad : Option Addr) (xs : List Int) : Prop :=
  0 < xs.length → ∃ b off, ad = some ⟨b, off, none⟩ ∧ b < w.heap.size ∧ ∀ j, j < xs.length → w.cell? ⟨b, off + j, none⟩ = some (.int .i64 (xs.getD j 0))
/-- the literal for which a clause is a unit, and whether it is false -/
def ru (tr : List (Int × Int)) : List Int → Int → Int × Bool
  | [], u => (u, u == 0)
  | x :: c, u => if rof x tr = 1 ∨ (rof x tr = 0 ∧ u ≠ 0 ∧ u ≠ x) then (0, false) else ru tr c (if rof x tr = 0 then x else u)
theorem rof_three (l : Int) : ∀ tr, rof l tr = 0 ∨ rof l tr = 1 ∨ rof l tr = -1
  | [] => Or.inl rfl
  | x :: t => by
    unfold rof
    split
    · simp
    · split
      · simp
      · exact rof_three l t
theorem drop_consI (c : List Int) (k : Nat) (h : k < c.length) : c.drop k = c.getD k 0 :: c.drop (k + 1) := by
  rw [List.drop_eq_getElem_cons h]; simp [List.getD_eq_getElem?_getD, h]
theorem ret_ub {R : Int × Bool} {a : Int} {b : Bool} (h : R = (a, b)) : Ending.returned (.tuple #[.int .i64 a, .bool b]) = .returned (.tuple #[.int .i64 R.1, .bool R.2]) := by rw [h]
set_option maxHeartbeats 2000000 in
theorem unit_any (r : Nat) (ad cd : Option Addr) (tr : List (Int × Int)) (cs : List Int) (c d : Nat) (w : World) (h : w.cell? ⟨r, 4, none⟩ = some (.slice ad tr.length c)) (ht : Trl w ad tr) (hl : tr.length ≤ 1000000000000000000) (hI : IntsP w cd cs) (hcl : cs.length ≤ 1000000000000000000) (hb : ∀ x ∈ cs, -1048576 ≤ x ∧ x ≤ 1048576) :
    Calls Try.prog 49 #[.pointer (some ⟨r, 0, none⟩), .slice cd cs.length d] w fun e w' => e = .returned (.tuple #[.int .i64 (ru tr cs 0).1, .bool (ru tr cs 0).2]) ∧ w' = w := by
  have HO : Hid (∀ k, k < cs.length → Calls Try.prog 48 #[.pointer (some ⟨r, 0, none⟩), .int .i64 (cs.getD k 0)] w fun e w' => e = .returned (.int .i64 (rof (cs.getD k 0) tr)) ∧ w' = w) := fun k hk => rof_any r ad tr c (cs.getD k 0) w h ht hl (hb _ (by rw [List.getD_eq_getElem?_getD, List.getElem?_eq_getElem hk]; exact List.getElem_mem _))
  have HT3 : Hid (∀ k, rof (cs.getD k 0) tr = 0 ∨ rof (cs.getD k 0) tr = 1 ∨ rof (cs.getD k 0) tr = -1) := fun k => rof_three _ tr
  have HI : Hid (IntsP w cd cs) := hI
  have HS : Hid (∀ k u, k < cs.length → ru tr (cs.drop k) u = if rof (cs.getD k 0) tr = 1 ∨ (rof (cs.getD k 0) tr = 0 ∧ u ≠ 0 ∧ u ≠ cs.getD k 0) then (0, false) else ru tr (cs.drop (k + 1)) (if rof (cs.getD k 0) tr = 0 then cs.getD k 0 else u)) := fun k u hk => by rw [drop_consI cs k hk]; rfl
  have HE : Hid (∀ k u, cs.length ≤ k → ru tr (cs.drop k) u = (u, u == 0)) := fun k u hk => by rw [List.drop_eq_nil_of_le hk]; rfl
  have HR : Hid (ru tr cs 0 = ru tr (cs.drop 0) 0) := rfl
  generalize ru tr cs 0 = R at *
  clear ht hI hb h hl
  generalize hn : cs.length = n at *
  have HLn : Hid (cs.length = n) := hn
  clear hn
  generalize hG : ru tr = G at *
  clear hG
  generalize hF : (fun l => rof l tr) = F
  have HFe : Hid (∀ l, rof l tr = F l) := fun l => by rw [← hF]
  clear hF
  simp only [HFe.out] at HO HT3 HS
  go_enter Try.func49, Try.ntmps49
  go_wp2
  go_loopg [6, 7] n (fun gk s6 s7 wr => ∃ (k : Nat) (u : Int), s6 = .int .i64 u ∧ s7 = .int .i64 k ∧ k + gk = n ∧ wr = w ∧ Aside (R = G (cs.drop k) u))
  case atStart => exact ⟨0, 0, rfl, rfl, by omega, rfl, HR.out⟩
  case round =>
    obtain ⟨k, u, rfl, rfl, hk, rfl, HRk⟩ := hrel
    by_cases hlt : k < n
    · obtain ⟨b, off, rfl, hbl, hc⟩ := HI.out (by rw [HLn.out]; omega)
      have c0 := hc k (by rw [HLn.out]; exact hlt)
      have HOk : Hid (Calls Try.prog 48 #[.pointer (some ⟨r, 0, none⟩), .int .i64 (cs.getD k 0)] wr fun e w' => e = .returned (.int .i64 (F (cs.getD k 0))) ∧ w' = wr) := HO.out k hlt
      have HSk : Aside (G (cs.drop k) u = if F (cs.getD k 0) = 1 ∨ (F (cs.getD k 0) = 0 ∧ u ≠ 0 ∧ u ≠ cs.getD k 0) then (0, false) else G (cs.drop (k + 1)) (if F (cs.getD k 0) = 0 then cs.getD k 0 else u)) := HS.out k u hlt
      have h3 := HT3.out k
      clear hc
      generalize cs.getD k 0 = x at *
      generalize F x = f at *
      have q1 : (k : Int) < (n : Int) := by omega
      by_cases hq : f = 1 ∨ (f = 0 ∧ u ≠ 0 ∧ u ≠ x)
      · have HF : Aside (R = (0, false)) := by show R = _; rw [HRk.out, HSk.out, if_pos hq]
        clear HSk
        rcases hq with hq | ⟨hq, hu, hx⟩
        · subst hq
          go_wp2_with fail
          refine HOk.out.mono ?_
          rintro e w' ⟨rfl, hw⟩
          obtain rfl := hw.symm
          go_wp2
          go_ret2
          exact ⟨ret_ub HF.out, rfl⟩
        · subst hq
          have e1 : (u != 0) = true := by simpa using hu
          have e2 : (u != x) = true := by simpa using hx
          go_wp2_with fail
          refine HOk.out.mono ?_
          rintro e w' ⟨rfl, hw⟩
          obtain rfl := hw.symm
          go_wp2
          go_ret2
          exact ⟨ret_ub HF.out, rfl⟩
      · have HF : Aside (R = G (cs.drop (k + 1)) (if f = 0 then x else u)) := by show R = _; rw [HRk.out, HSk.out, if_neg hq]
        clear HSk
        by_cases h0 : f = 0
        · rw [if_pos h0] at HF
          have hux : u = 0 ∨ u = x := by
            by_cases a : u = 0
            · exact Or.inl a
            · by_cases b : u = x
              · exact Or.inr b
              · exact absurd (Or.inr ⟨h0, a, b⟩) hq
          clear hq h3
          subst h0
          by_cases hu0 : u = 0
          · subst hu0
            go_wp2_with fail
            refine HOk.out.mono ?_
            rintro e w' ⟨rfl, hw⟩
            obtain rfl := hw.symm
            go_wp2
            go_roundg (gk - 1)
            case measure => omega
            case rel => exact ⟨k + 1, x, rfl, by simp, by omega, rfl, HF⟩
          · have hue : u = x := by omega
            subst hue
            have e1 : (u != 0) = true := by simpa using hu0
            go_wp2_with fail
            refine HOk.out.mono ?_
            rintro e w' ⟨rfl, hw⟩
            obtain rfl := hw.symm
            go_wp2
            go_roundg (gk - 1)
            case measure => omega
            case rel => exact ⟨k + 1, u, rfl, by simp, by omega, rfl, HF⟩
        · rw [if_neg h0] at HF
          have hf : f = -1 := by omega
          subst hf
          clear hq h3
          go_wp2_with fail
          refine HOk.out.mono ?_
          rintro e w' ⟨rfl, hw⟩
          obtain rfl := hw.symm
          go_wp2
          go_roundg (gk - 1)
          case measure => omega
          case rel => exact ⟨k + 1, u, rfl, by simp, by omega, rfl, HF⟩
    · have HF : Aside (R = (u, u == 0)) := by show R = _; rw [HRk.out, HE.out k u (by omega)]
      obtain rfl : k = n := by omega
      go_wp2
      go_ret2
      exact ⟨ret_ub HF.out, rfl⟩
end Go.Proofs.Ytpkbigjijihljaa
