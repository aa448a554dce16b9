import Derived.Test.YtnknbijbhidpnaaGreatDoorNorm
import Derived.Test.YtnknbijbhidpnaaGreatDoorMathF
namespace Go.Proofs.YtnknbijbhidpnaaGreatDoor
open Go.ChangeShapes Go.WideShapes Go.ChangeAt Go.RowKit Go.Cn

/-- a list of clauses in memory -/
def Cls (w : World) (ad : Option Addr) (cs : List (List Int)) : Prop :=
  0 < cs.length → ∃ b off, ad = some ⟨b, off, none⟩ ∧ b < w.heap.size ∧ ∀ j, j < cs.length → ∃ aj cj, w.cell? ⟨b, off + j, none⟩ = some (.slice aj (cs.getD j []).length cj) ∧ Ints w aj (cs.getD j [])
theorem Cls.below {w w' : World} {ad : Option Addr} {cs : List (List Int)} (h : Cls w ad cs) (hb : Below w.heap.size w w') : Cls w' ad cs := by
  intro h0
  obtain ⟨b, off, e, hlt, hc⟩ := h h0
  refine ⟨b, off, e, Nat.lt_of_lt_of_le hlt hb.size, fun j hj => ?_⟩
  obtain ⟨aj, cj, h1, h2⟩ := hc j hj
  exact ⟨aj, cj, (hb.cell (p := ⟨b, off + j, none⟩) hlt).trans h1, h2.below hb⟩
theorem ret_ck {R : Int × Int} {a b : Int} (h : R = (a, b)) : Ending.returned (.tuple #[.int .i64 a, .int .i64 b]) = .returned (.tuple #[.int .i64 R.1, .int .i64 R.2]) := by rw [h]
theorem among_any (l vars : Int) (w : World) :
    Calls Tryz.prog 32 #[.int .i64 l, .int .i64 vars] w fun e w' => e = .returned (.bool (amB vars l)) ∧ w' = w := by
  unfold amB
  cases hl : litB l with
  | false =>
    have H1 : Hid (Calls Tryz.prog 22 #[.int .i64 l] w fun e w' => e = .returned (.bool false) ∧ w' = w) := by have h := lit_any l w; rw [hl] at h; exact h
    clear hl
    go_enter Tryz.func32, Tryz.ntmps32
    go_wp2_with (go_at_call 22; refine H1.out.mono ?_; rintro e w' ⟨rfl, rfl⟩)
    go_ret
    exact ⟨rfl, rfl⟩
  | true =>
    have H1 : Hid (Calls Tryz.prog 22 #[.int .i64 l] w fun e w' => e = .returned (.bool true) ∧ w' = w) := by have h := lit_any l w; rw [hl] at h; exact h
    have H2 : Hid (Calls Tryz.prog 51 #[.int .i64 l] w fun e w' => e = .returned (.int .i64 (vr l)) ∧ w' = w) := var_any l w hl
    clear hl
    generalize vr l = p at *
    go_enter Tryz.func32, Tryz.ntmps32
    go_wp2_with fail
    refine H1.out.mono ?_
    rintro e w' ⟨rfl, rfl⟩
    go_wp2_with fail
    refine H2.out.mono ?_
    rintro e w' ⟨rfl, rfl⟩
    go_wp2
    go_ret
    exact ⟨ret_bool (by simp), rfl⟩
set_option maxHeartbeats 4000000 in
set_option maxRecDepth 100000 in
theorem check_any (vars : Int) (ad : Option Addr) (cs : List (List Int)) (c : Nat) (w : World) (h : Cls w ad cs) (hl : cs.length ≤ 1000000000000000000) (hcl : ∀ j, j < cs.length → (cs.getD j []).length ≤ 1000000000000000000) :
    Calls Tryz.prog 14 #[.agg #[.int .i64 vars, .slice ad cs.length c]] w fun e w' => e = .returned (.tuple #[.int .i64 (ck vars cs).1, .int .i64 (ck vars cs).2]) ∧ Below w.heap.size w w' := by
  have HB0 : Aside (∀ o, Below w.heap.size w (w.alloc o)) := fun o => (Below.refl _ _).alloc (Nat.le_refl _) o
  by_cases h1 : vars < 0 ∨ 1048576 < vars
  · have HE : Aside (ck vars cs = (-1, 21)) := by show ck vars cs = _; unfold ck; rw [if_pos h1]
    clear h hl hcl
    generalize ck vars cs = R at *
    generalize cs.length = n at *
    rcases h1 with h1 | h1
    · go_enter Tryz.func14, Tryz.ntmps14
      go_wp2
      go_ret2
      exact ⟨ret_ck HE.out, HB0.out _⟩
    · have h2 : ¬ vars < 0 := by omega
      go_enter Tryz.func14, Tryz.ntmps14
      go_wp2
      go_ret2
      exact ⟨ret_ck HE.out, HB0.out _⟩
  by_cases h2 : 1048576 < cs.length
  · have HE : Aside (ck vars cs = (-1, 23)) := by show ck vars cs = _; unfold ck; rw [if_neg h1, if_pos h2]
    have h3 : ¬ vars < 0 := by omega
    have h4 : vars ≤ 1048576 := by omega
    clear h hcl h1
    generalize ck vars cs = R at *
    generalize cs.length = n at *
    go_enter Tryz.func14, Tryz.ntmps14
    go_wp2
    go_ret2
    exact ⟨ret_ck HE.out, HB0.out _⟩
  have h3 : 0 ≤ vars := by omega
  have h4 : vars ≤ 1048576 := by omega
  have HR : Aside (ckGo vars (cs.drop 0) 0 0 = ck vars cs) := by show _ = ck vars cs; unfold ck; rw [if_neg h1, if_neg h2]; rfl
  have HI : Aside (Cls w ad cs) := h
  have HM : Aside (∀ j, j < cs.length → (cs.getD j []).length ≤ 1000000000000000000) := hcl
  have HA : Hid (∀ l W, Calls Tryz.prog 32 #[.int .i64 l, .int .i64 vars] W fun e w' => e = .returned (.bool (amB vars l)) ∧ w' = W) := fun l W => among_any l vars W
  clear h hcl h1
  generalize ck vars cs = R at *
  generalize hn : cs.length = n at *
  have HL : Aside (cs.length = n) := hn
  clear hn
  go_enter Tryz.func14, Tryz.ntmps14
  go_wp2
  go_loopg [4, 24] n (fun gk s4 s24 wr => ∃ k m : Nat, s4 = .int .i64 (4194304 - m) ∧ s24 = .int .i64 k ∧ k + gk = n ∧ m ≤ 4194304 ∧ wr = w.alloc (.cells #[.int .i64 vars, .slice ad n c] 24) ∧ Aside (ckGo vars (cs.drop k) k m = R))
  case atStart => exact ⟨0, 0, rfl, rfl, by omega, by omega, rfl, HR⟩
  case round =>
    obtain ⟨k, m, rfl, rfl, hk, hm, rfl, HG⟩ := hrel
    by_cases hlt : k < n
    · obtain ⟨b, off, rfl, hb, hc⟩ := HI.out (by rw [HL.out]; omega)
      obtain ⟨aj, cj, ck0, hij⟩ := hc k (by rw [HL.out]; omega)
      have ck1 : ∀ o, (w.alloc o).cell? ⟨b, off + k, none⟩ = some (.slice aj (cs.getD k []).length cj) := fun o => ((HB0.out o).cell (p := ⟨b, off + k, none⟩) hb).trans ck0
      have hm1 := HM.out k hlt
      have HG2 : Aside _ := (ckGo_step vars cs k m (by rw [HL.out]; exact hlt)).symm.trans HG.out
      clear hc ck0 HG
      generalize cs.getD k [] = C at *
      by_cases hbig : 65536 < C.length
      · have HE : Aside (R = ((k : Int), 22)) := by show R = _; rw [← HG2.out, if_pos hbig]
        clear HG2
        generalize C.length = q at *
        go_wp2
        go_ret2
        exact ⟨ret_ck HE.out, HB0.out _⟩
      · have HJ : Aside (Ints w aj C) := hij
        have HG3 : Aside ((if C.all (amB vars) = false then ((k : Int), 20) else if 4194304 < m + C.length then ((k : Int), 23) else ckGo vars (cs.drop (k + 1)) (k + 1) (m + C.length)) = R) := by
          show _ = R
          rw [← HG2.out, if_neg hbig]
        clear HG2 hij
        generalize hq : C.length = q at *
        have HQ : Aside (C.length = q) := hq
        clear hq
        go_wp2
        go_loopg [35] q (fun gj s35 wr => ∃ j : Nat, s35 = .int .i64 j ∧ j + gj = q ∧ wr = w.alloc (.cells #[.int .i64 vars, .slice (some ⟨b, off, none⟩) n c] 24) ∧ Aside (∀ t, t < j → amB vars (C.getD t 0) = true))
        case atStart => exact ⟨0, rfl, by omega, rfl, fun t ht => by omega⟩
        case round =>
          obtain ⟨j, rfl, hj, rfl, HN⟩ := hrel
          by_cases hjq : j < q
          · obtain ⟨b2, off2, rfl, hb2, hc2⟩ := HJ.out (by rw [HQ.out]; omega)
            have cj1 : ∀ o, (w.alloc o).cell? ⟨b2, off2 + j, none⟩ = some (.int .i64 (C.getD j 0)) := fun o => ((HB0.out o).cell (p := ⟨b2, off2 + j, none⟩) hb2).trans (hc2 j (by rw [HQ.out]; omega))
            obtain ⟨y, hy⟩ : ∃ y, C.getD j 0 = y := ⟨_, rfl⟩
            rw [hy] at cj1
            have HY : Aside (C.getD j 0 = y) := hy
            clear hy hc2
            cases hly : amB vars y with
            | true =>
              have HC2 : Hid (∀ W, Calls Tryz.prog 32 #[.int .i64 y, .int .i64 vars] W fun e w' => e = .returned (.bool true) ∧ w' = W) := by intro W; have := HA.out y W; rw [hly] at this; exact this
              have HN2 : Aside (∀ t, t < j + 1 → amB vars (C.getD t 0) = true) := by
                intro t ht
                by_cases h1 : t < j
                · exact HN.out t h1
                · have : t = j := by omega
                  subst this
                  rw [HY.out]; exact hly
              clear hly
              go_wp2_with (go_at_call 32; refine (HC2.out _).mono ?_; rintro e w' ⟨rfl, rfl⟩)
              go_roundg (q - j - 1)
              case measure => omega
              case rel => exact ⟨j + 1, by simp, by omega, rfl, HN2⟩
            | false =>
              have HC2 : Hid (∀ W, Calls Tryz.prog 32 #[.int .i64 y, .int .i64 vars] W fun e w' => e = .returned (.bool false) ∧ w' = W) := by intro W; have := HA.out y W; rw [hly] at this; exact this
              have HE : Aside (R = ((k : Int), 20)) := by show R = _; rw [← HG3.out, if_pos (all_false (k := j) (by rw [HQ.out]; exact hjq) (by rw [HY.out]; exact hly))]
              clear hly HG3
              go_wp2_with (go_at_call 32; refine (HC2.out _).mono ?_; rintro e w' ⟨rfl, rfl⟩)
              go_ret2
              exact ⟨ret_ck HE.out, HB0.out _⟩
          · have hall : C.all (amB vars) = true := all_true (fun t ht => HN.out t (by rw [HQ.out] at ht; omega))
            have HG4 : Aside ((if 4194304 < m + q then ((k : Int), 23) else ckGo vars (cs.drop (k + 1)) (k + 1) (m + q)) = R) := by
              show _ = R
              rw [← HG3.out, hall]; rfl
            clear hall HG3
            by_cases hov : 4194304 < m + q
            · have HE : Aside (R = ((k : Int), 23)) := by show R = _; rw [← HG4.out, if_pos hov]
              clear HG4
              go_wp2
              go_ret2
              exact ⟨ret_ck HE.out, HB0.out _⟩
            · have HG5 : Aside (ckGo vars (cs.drop (k + 1)) (k + 1) (m + q) = R) := by show _ = R; rw [← HG4.out, if_neg hov]
              clear HG4
              go_wp2
              go_roundg (n - k - 1)
              case measure => omega
              case rel => exact ⟨k + 1, m + q, by go_num, by simp, by omega, by omega, rfl, HG5⟩
    · have HE : Aside (R = (0, 0)) := by show R = _; rw [← HG.out, ckGo_end vars cs k k m (by rw [HL.out]; omega)]
      clear HG
      go_wp2
      go_ret2
      exact ⟨ret_ck HE.out, HB0.out _⟩
end Go.Proofs.YtnknbijbhidpnaaGreatDoor
