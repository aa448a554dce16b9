import Derived.Test.YtjdgcfedpinopaaDoorText
namespace Go.Proofs.YtjdgcfedpinopaaDoor
open Go.ChangeShapes Go.WideShapes Go.ChangeAt Go.RowKit Go.Bd

theorem dg_slice (d : Nat) (hd : d < 16) (W : World) : (Instr.slice 9 (.string ⟨#[48, 49, 50, 51, 52, 53, 54, 55, 56, 57, 97, 98, 99, 100, 101, 102]⟩) (some (.int .u64 (d : Int))) (some (.int .u64 ((d : Int) + 1))) none).run Tryd.prog W = .ok (.string ⟨#[dg d]⟩) W := by
  have h : d = 0 ∨ d = 1 ∨ d = 2 ∨ d = 3 ∨ d = 4 ∨ d = 5 ∨ d = 6 ∨ d = 7 ∨ d = 8 ∨ d = 9 ∨ d = 10 ∨ d = 11 ∨ d = 12 ∨ d = 13 ∨ d = 14 ∨ d = 15 := by omega
  rcases h with rfl | rfl | rfl | rfl | rfl | rfl | rfl | rfl | rfl | rfl | rfl | rfl | rfl | rfl | rfl | rfl <;> (show _ = _; kernel_rfl)
theorem digs_step (b x n : Nat) (out R : List UInt8) (hb : 2 ≤ b) (hx : x < b ^ n) (h1 : 1 ≤ n) (hq : ¬ x / b = 0) (hd : digs b n x out = R) : ∃ n', n = n' + 1 ∧ 1 ≤ n' ∧ x / b < b ^ n' ∧ digs b n' (x / b) (dg (x % b) :: out) = R := by
  match n with
  | 0 => omega
  | 1 => simp at hx; exact absurd (Nat.div_eq_of_lt hx) hq
  | n' + 2 =>
    refine ⟨n' + 1, rfl, by omega, ?_, ?_⟩
    · rw [Nat.div_lt_iff_lt_mul (by omega), ← Nat.pow_succ]; exact hx
    · rw [digs_more b (n' + 1) x out hq] at hd; exact hd

set_option maxHeartbeats 2000000 in
set_option maxRecDepth 100000 in
theorem rtext_dec (X : Nat) (w : World) (hX : X < 1000) :
    Calls Tryd.prog 7 #[.int .u64 X] w fun e w' => e = .returned (.string ⟨(digs 10 16 X []).toArray⟩) ∧ w' = w := by
  go_enter Tryd.func7, Tryd.ntmps7
  go_wp2
  go_loop [0, 5] (fun vx vo => ∃ (x n : Nat) (l : List UInt8), vx = .int .u64 (x : Int) ∧ vo = .string ⟨l.toArray⟩ ∧ l.length + n = 16 ∧ 1 ≤ n ∧ x < 18446744073709551616 ∧ Hid (x < 10 ^ n ∧ digs 10 n x l = digs 10 16 X [])) (fun vx _ => (intOf vx).toNat)
  case atStart => exact ⟨X, 16, [], rfl, rfl, rfl, by omega, by omega, by omega, rfl⟩
  case round =>
    obtain ⟨x, n, l, rfl, rfl, hl, hn, hx64, hh⟩ := hrel
    obtain ⟨d, hdd⟩ : ∃ d, x % 10 = d := ⟨_, rfl⟩
    have hd16 : d < 10 := by omega
    obtain ⟨q, hqq⟩ : ∃ q, x / 10 = q := ⟨_, rfl⟩
    have hm : (x : Int) % 10 = (d : Int) := by omega
    have hq : (x : Int) / 10 = (q : Int) := by omega
    have hqu : IntKind.u64.wrap ((x : Int).tdiv 10) = (q : Int) := by
      rw [Int.tdiv_eq_ediv_of_nonneg (by omega), hq, IntKind.wrap_u64]; omega
    have hsl := fun W => dg_slice d (by omega) W
    have hcat : ∀ W, (Op.stringOp .add ⟨#[dg d]⟩ ⟨l.toArray⟩).run Tryd.prog W = .ok (.string ⟨(dg d :: l).toArray⟩) W := fun W =>
      run_string_add_lists (P := Tryd.prog) W [dg d] l (by simp) (by omega)
    have hcat2 : ∀ W, (Op.stringOp .add ⟨#[]⟩ ⟨(dg d :: l).toArray⟩).run Tryd.prog W = .ok (.string ⟨((dg d :: l)).toArray⟩) W := fun W =>
      run_string_add_lists (P := Tryd.prog) W [] (dg d :: l) (by simp) (by simp; omega)
    by_cases hz : q = 0
    · have hzb : ((q : Int) == 0) = true := by simp [hz]
      have HR : Hid (digs 10 16 X [] = dg d :: l) := by
        obtain ⟨n', rfl⟩ : ∃ n', n = n' + 1 := ⟨n - 1, by omega⟩
        rw [Hid, ← hh.out.2, digs_end 10 n' x l (by omega), hdd]
      clear hh hdd hqq hz
      go_wp2
      go_ret
      exact ⟨by rw [HR.out]; rfl, rfl⟩
    · have hzb : ((q : Int) == 0) = false := by simpa using hz
      obtain ⟨n', rfl, hn2, hx2, hd2⟩ := digs_step 10 x n l _ (by omega) hh.out.1 hn (by omega) hh.out.2
      have H2 : Hid (q < 10 ^ n' ∧ digs 10 n' q (dg d :: l) = digs 10 16 X []) := by rw [← hqq, ← hdd]; exact ⟨hx2, hd2⟩
      have hlt : q < x := by omega
      clear hh hdd hqq hx2 hd2 hz
      go_wp2
      go_round
      case rel => exact ⟨q, n', dg d :: l, rfl, rfl, by simp; omega, hn2, by omega, H2⟩
      case measure => simp [intOf]; omega

set_option maxHeartbeats 2000000 in
set_option maxRecDepth 100000 in
theorem rtext_hex (X : Nat) (w : World) (hX : X < 18446744073709551616) (h1000 : 1000 ≤ X) :
    Calls Tryd.prog 7 #[.int .u64 X] w fun e w' => e = .returned (.string ⟨(48 :: 120 :: digs 16 16 X []).toArray⟩) ∧ w' = w := by
  go_enter Tryd.func7, Tryd.ntmps7
  go_wp2
  go_loop [0, 5] (fun vx vo => ∃ (x n : Nat) (l : List UInt8), vx = .int .u64 (x : Int) ∧ vo = .string ⟨l.toArray⟩ ∧ l.length + n = 16 ∧ 1 ≤ n ∧ x < 18446744073709551616 ∧ Hid (x < 16 ^ n ∧ digs 16 n x l = digs 16 16 X [])) (fun vx _ => (intOf vx).toNat)
  case atStart => exact ⟨X, 16, [], rfl, rfl, rfl, by omega, by omega, by omega, rfl⟩
  case round =>
    obtain ⟨x, n, l, rfl, rfl, hl, hn, hx64, hh⟩ := hrel
    obtain ⟨d, hdd⟩ : ∃ d, x % 16 = d := ⟨_, rfl⟩
    have hd16 : d < 16 := by omega
    obtain ⟨q, hqq⟩ : ∃ q, x / 16 = q := ⟨_, rfl⟩
    have hm : (x : Int) % 16 = (d : Int) := by omega
    have hq : (x : Int) / 16 = (q : Int) := by omega
    have hqu : IntKind.u64.wrap ((x : Int).tdiv 16) = (q : Int) := by
      rw [Int.tdiv_eq_ediv_of_nonneg (by omega), hq, IntKind.wrap_u64]; omega
    have hsl := fun W => dg_slice d (by omega) W
    have hcat : ∀ W, (Op.stringOp .add ⟨#[dg d]⟩ ⟨l.toArray⟩).run Tryd.prog W = .ok (.string ⟨(dg d :: l).toArray⟩) W := fun W =>
      run_string_add_lists (P := Tryd.prog) W [dg d] l (by simp) (by omega)
    have hcat2 : ∀ W, (Op.stringOp .add ⟨#[48, 120]⟩ ⟨(dg d :: l).toArray⟩).run Tryd.prog W = .ok (.string ⟨(48 :: 120 :: (dg d :: l)).toArray⟩) W := fun W =>
      run_string_add_lists (P := Tryd.prog) W [48, 120] (dg d :: l) (by simp) (by simp; omega)
    by_cases hz : q = 0
    · have hzb : ((q : Int) == 0) = true := by simp [hz]
      have HR : Hid (digs 16 16 X [] = dg d :: l) := by
        obtain ⟨n', rfl⟩ : ∃ n', n = n' + 1 := ⟨n - 1, by omega⟩
        rw [Hid, ← hh.out.2, digs_end 16 n' x l (by omega), hdd]
      clear hh hdd hqq hz
      go_wp2
      go_ret
      exact ⟨by rw [HR.out]; rfl, rfl⟩
    · have hzb : ((q : Int) == 0) = false := by simpa using hz
      obtain ⟨n', rfl, hn2, hx2, hd2⟩ := digs_step 16 x n l _ (by omega) hh.out.1 hn (by omega) hh.out.2
      have H2 : Hid (q < 16 ^ n' ∧ digs 16 n' q (dg d :: l) = digs 16 16 X []) := by rw [← hqq, ← hdd]; exact ⟨hx2, hd2⟩
      have hlt : q < x := by omega
      clear hh hdd hqq hx2 hd2 hz
      go_wp2
      go_round
      case rel => exact ⟨q, n', dg d :: l, rfl, rfl, by simp; omega, hn2, by omega, H2⟩
      case measure => simp [intOf]; omega

theorem dg_dec (d : Nat) (h : d < 10) : dg d = UInt8.ofNat (48 + d) := by unfold dg; rw [if_pos h]
theorem dec_digs (n : Nat) : ∀ (x : Nat) (out : List UInt8), x < 10 ^ (n + 1) → digs 10 (n + 1) x out = Lib.decDigits x ++ out := by
  induction n with
  | zero =>
    intro x out hx
    have h10 : x < 10 := by simpa using hx
    rw [digs_end 10 0 x out (by omega), Lib.decDigits, dif_pos h10, dg_dec _ (by omega), Nat.mod_eq_of_lt h10]; rfl
  | succ n ih =>
    intro x out hx
    by_cases h10 : x < 10
    · rw [digs_end 10 (n + 1) x out (by omega), Lib.decDigits, dif_pos h10, dg_dec _ (by omega), Nat.mod_eq_of_lt h10]; rfl
    · rw [digs_more 10 (n + 1) x out (by omega), ih (x / 10) _ (by rw [Nat.div_lt_iff_lt_mul (by omega), ← Nat.pow_succ]; exact hx)]
      conv => rhs; rw [Lib.decDigits, dif_neg h10]
      rw [dg_dec _ (by omega), List.append_assoc]; rfl
theorem dec_same (x : Nat) (h : x < 1000) : Lib.decDigits x = digs 10 16 x [] := by
  rw [dec_digs 15 x [] (by omega), List.append_nil]
end Go.Proofs.YtjdgcfedpinopaaDoor
