import Derived.Test.YtjdgcfedpinopabDoorNumber
import Derived.Deep.QuietTactic
import Derived.Lib.ItoaMem
namespace Go.Bd
/-- a digit's letter -/
def dg (d : Nat) : UInt8 := if d < 10 then UInt8.ofNat (48 + d) else UInt8.ofNat (87 + d)
/-- the digits of a number, the lowest last; n: how many at most -/
def digs (b : Nat) : Nat → Nat → List UInt8 → List UInt8
  | 0, _, out => out
  | n + 1, x, out => if x / b = 0 then dg (x % b) :: out else digs b n (x / b) (dg (x % b) :: out)
theorem digs_end (b n x : Nat) (out : List UInt8) (h : x / b = 0) : digs b (n + 1) x out = dg (x % b) :: out := by simp [digs, h]
theorem digs_more (b n x : Nat) (out : List UInt8) (h : ¬ x / b = 0) : digs b (n + 1) x out = digs b n (x / b) (dg (x % b) :: out) := by simp [digs, h]
theorem dig_step (x n : Nat) (out R : List UInt8) (hx : x < 16 ^ n) (hge : 16 ≤ x) (hd : digs 16 n x out = R) : ∃ n', n = n' + 1 ∧ 1 ≤ n' ∧ x / 16 < 16 ^ n' ∧ digs 16 n' (x / 16) (dg (x % 16) :: out) = R := by
  match n with
  | 0 => simp at hx; omega
  | 1 => simp at hx; omega
  | n' + 2 =>
    refine ⟨n' + 1, rfl, by omega, ?_, ?_⟩
    · rw [Nat.div_lt_iff_lt_mul (by omega), ← Nat.pow_succ]; exact hx
    · rw [digs_more 16 (n' + 1) x out (by omega)] at hd; exact hd
theorem dig_cells (C : Array Value) (m : Nat) (out : List UInt8) (d : Nat) (hm : m < C.size) (h : ∀ j, j < out.length → C[m + 1 + j]? = some (.int .u8 ((out.getD j 0).toNat : Int))) :
    ∀ j, j < (dg d :: out).length → (C.setIfInBounds m (.int .u8 ((dg d).toNat : Int)))[m + j]? = some (.int .u8 (((dg d :: out).getD j 0).toNat : Int)) := by
  intro j hj
  cases j with
  | zero => simp [hm]
  | succ j =>
    rw [Array.getElem?_setIfInBounds, if_neg (by omega), show m + (j + 1) = m + 1 + j by omega, h j (by simpa using hj)]
    simp
end Go.Bd
namespace Go.Proofs.YtjdgcfedpinopabDoor
open Go.ChangeShapes Go.WideShapes Go.ChangeAt Go.RowKit Go.Bd
theorem tz16 (w : World) (hc : w.cell? ⟨4, 15, none⟩ = some (.int .u8 4)) :
    Calls Tryd.prog 44 #[.int .u64 16] w fun e w' => e = .returned (.int .i64 4) ∧ w' = w := by
  have hx : IntKind.u64.wrap (bits .and .u64 16 (IntKind.u64.wrap (-16)) * 285870213051353865) = 4573923408821661840 := by decide +kernel
  go_enter Tryd.func44, Tryd.ntmps44
  go_wp2
  go_ret
  exact ⟨rfl, rfl⟩
theorem pw16 (w : World) :
    Calls Tryd.prog 43 #[.int .i64 16] w fun e w' => e = .returned (.bool true) ∧ w' = w := by
  have h : bits .and .i64 16 15 = 0 := by decide +kernel
  go_enter Tryd.func43, Tryd.ntmps43
  go_wp2
  go_ret
  exact ⟨rfl, rfl⟩
def zeros65 : Array Value := Array.replicate 65 (.int .u8 0)
theorem dg_index (d : Nat) (hd : d < 16) (W : World) : (Instr.index 9 (.string ⟨#[48, 49, 50, 51, 52, 53, 54, 55, 56, 57, 97, 98, 99, 100, 101, 102, 103, 104, 105, 106, 107, 108, 109, 110, 111, 112, 113, 114, 115, 116, 117, 118, 119, 120, 121, 122]⟩) (.int .u64 (d : Int))).run Tryd.prog W = .ok (.int .u8 ((dg d).toNat : Int)) W := by
  have h : d = 0 ∨ d = 1 ∨ d = 2 ∨ d = 3 ∨ d = 4 ∨ d = 5 ∨ d = 6 ∨ d = 7 ∨ d = 8 ∨ d = 9 ∨ d = 10 ∨ d = 11 ∨ d = 12 ∨ d = 13 ∨ d = 14 ∨ d = 15 := by omega
  rcases h with rfl | rfl | rfl | rfl | rfl | rfl | rfl | rfl | rfl | rfl | rfl | rfl | rfl | rfl | rfl | rfl <;> (show _ = _; kernel_rfl)
theorem and15 (x : Nat) (hx : x < 18446744073709551616) : bits .and .u64 (x : Int) 15 = ((x % 16 : Nat) : Int) := by
  have h := u64_and_nat x 15 hx (by omega)
  rw [nat_mask4] at h
  exact h
set_option maxHeartbeats 2000000 in
set_option maxRecDepth 100000 in
theorem fbits (X : Nat) (w : World) (hX : X < 18446744073709551616) (hc : w.cell? ⟨4, 15, none⟩ = some (.int .u8 4)) :
    Calls Tryd.prog 36 #[.slice none 0 0, .int .u64 X, .int .i64 16, .bool false, .bool false] w fun e w' => e = .returned (.tuple #[.slice none 0 0, .string ⟨(digs 16 16 X []).toArray⟩]) ∧ Below w.heap.size w w' := by
  have hlt : 4 < w.heap.size := Lib.lt_of_cell hc
  have hc2 : ∀ o, (w.alloc o).cell? ⟨4, 15, none⟩ = some (.int .u8 4) := fun o => (((Below.refl _ w).alloc (Nat.le_refl _) o).cell (p := ⟨4, 15, none⟩) hlt).trans hc
  have hz : ∀ W, (zeroValue 68).run Tryd.prog W = .ok (.agg zeros65) W := fun _ => by kernel_rfl
  clear hc
  go_enter Tryd.func36, Tryd.ntmps36
  go_wp2_with (first | (go_at_call 43; refine (pw16 _).mono ?_; rintro e w' ⟨rfl, rfl⟩) | (go_at_call 44; refine (tz16 _ (hc2 _)).mono ?_; rintro e w' ⟨rfl, rfl⟩))
  clear hc2 hz
  go_loopw [1, 13] (fun vu vi w' => ∃ (x n k : Nat) (C : Array Value) (out : List UInt8), vu = .int .u64 (x : Int) ∧ vi = .int .i64 (k : Int) ∧ w' = w.alloc (.cells C 68) ∧ C.size = 65 ∧ k + out.length = 65 ∧ out.length + n = 16 ∧ 1 ≤ n ∧ Hid (x < 16 ^ n ∧ digs 16 n x out = digs 16 16 X [] ∧ ∀ j, j < out.length → C[k + j]? = some (.int .u8 ((out.getD j 0).toNat : Int)))) (fun vu _ _ => (intOf vu).toNat)
  case atStart => exact ⟨X, 16, 65, zeros65, [], rfl, rfl, rfl, rfl, rfl, rfl, by omega, by omega, rfl, fun j hj => absurd hj (by simp)⟩
  case round =>
    obtain ⟨x, n, k, C, out, rfl, rfl, rfl, hC, hk, hn, hn1, hh⟩ := hrel
    obtain ⟨hx, hd, hcells⟩ := hh.out
    clear hh
    have hx64 : x < 18446744073709551616 := Nat.lt_of_lt_of_le hx (by have := Nat.pow_le_pow_right (n := 16) (by decide) (show n ≤ 16 by omega); exact Nat.le_trans this (by decide))
    by_cases hge : 16 ≤ x
    · have ha := and15 x hx64
      obtain ⟨d, hdd⟩ : ∃ d, x % 16 = d := ⟨_, rfl⟩
      rw [hdd] at ha
      have hd16 : d < 16 := by omega
      have hix := fun W => dg_index d hd16 W
      obtain ⟨m, rfl⟩ : ∃ m, k = m + 1 := ⟨k - 1, by omega⟩
      obtain ⟨v0, hv0⟩ : ∃ v, C[m]? = some v := ⟨C[m]'(by omega), Array.getElem?_eq_getElem _⟩
      have hnk : ((m + 1 : Nat) : Int) - 1 = (m : Int) := by omega
      have hcl : (w.alloc (.cells C 68)).cell? ⟨w.heap.size, m, none⟩ = some v0 := by rw [World.cell?_alloc_new]; exact hv0
      have hfz : (w.alloc (.cells C 68)).frozen? ⟨w.heap.size, m, none⟩ = false := World.frozen?_alloc_new _ _ _ _
      have H1 : Hid _ := hcells
      have H2 : Hid _ := hd
      have H3 : Hid _ := hx
      have HD : Hid (x % 16 = d) := hdd
      clear hcells hd hx hdd
      go_wp2
      obtain ⟨n', rfl, hn2, hx2, hd2⟩ := dig_step x n out _ H3.out hge H2.out
      exact ⟨⟨x / 16, n', m, _, dg d :: out, (by first | rfl | simp), rfl, rfl, by simp [hC], by simp; omega, by simp; omega, hn2, hx2, by rw [← HD.out]; exact hd2, dig_cells C m out d (by omega) H1.out⟩, by simp [intOf]; omega⟩
    · have hm : Hid (x % 16 = x) := Nat.mod_eq_of_lt (by omega)
      have hix := fun W => dg_index x (by omega) W
      obtain ⟨m, rfl⟩ : ∃ m, k = m + 1 := ⟨k - 1, by omega⟩
      obtain ⟨v0, hv0⟩ : ∃ v, C[m]? = some v := ⟨C[m]'(by omega), Array.getElem?_eq_getElem _⟩
      have hnk : ((m + 1 : Nat) : Int) - 1 = (m : Int) := by omega
      have hcl : (w.alloc (.cells C 68)).cell? ⟨w.heap.size, m, none⟩ = some v0 := by rw [World.cell?_alloc_new]; exact hv0
      have hfz : (w.alloc (.cells C 68)).frozen? ⟨w.heap.size, m, none⟩ = false := World.frozen?_alloc_new _ _ _ _
      have H1 : Hid _ := hcells
      have H2 : Hid _ := hd
      have H3 : Hid _ := hx
      have hal : Tryd.prog.arrayLen 68 = 65 := by simp [Program.arrayLen, Tryd.underlying68]
      have hsl : ∀ W, (Instr.sliceAt 68 (.pointer (some ⟨w.heap.size, 0, none⟩)) (some (.int .i64 (m : Int))) none none).run Tryd.prog W = .ok (.slice (some ⟨w.heap.size, m, none⟩) (65 - m) (65 - m)) W := fun W => by
        rw [run_sliceAt_array_l W 68 ⟨w.heap.size, 0, none⟩ (by simp [Program.arrayLen, Program.elem, Tryd.underlying68]) .i64 (m : Int) (by omega) (by rw [hal]; omega)]
        go_simp
        omega
      have hlen : (dg x :: out).length = 65 - m := by simp; omega
      have hcv : (convert 50 9 (.slice (some ⟨w.heap.size, m, none⟩) (65 - m) (65 - m))).run Tryd.prog (w.alloc (.cells (C.setIfInBounds m (.int .u8 ((dg x).toNat : Int))) 68)) = .ok (.string ⟨(dg x :: out).toArray⟩) (w.alloc (.cells (C.setIfInBounds m (.int .u8 ((dg x).toNat : Int))) 68)) := by
        have h := run_convert_bytes_back (P := Tryd.prog) (w.alloc (.cells (C.setIfInBounds m (.int .u8 ((dg x).toNat : Int))) 68)) 50 9 5 ⟨w.heap.size, m, none⟩ (65 - m) (dg x :: out) Tryd.underlying50 Tryd.underlying5 Tryd.underlying9 (fun j hj => by
          rw [Lib.add_plain, World.cell?_alloc_new]
          have h2 := dig_cells C m out x (by omega) hcells j hj
          have e2 : (dg x :: out).getD j 0 = (dg x :: out)[j]'hj := by simp [List.getD, List.getElem?_eq_getElem hj]
          rw [e2] at h2
          exact h2)
        rw [hlen] at h
        exact h
      have HR : Hid (digs 16 16 X [] = dg x :: out) := by
        obtain ⟨n', rfl⟩ : ∃ n', n = n' + 1 := ⟨n - 1, by omega⟩
        rw [Hid, ← hd, digs_end 16 n' x out (by omega), hm.out]
      clear hcells hd hx hal hlen H1 H2 H3
      generalize dg x :: out = L at *
      go_wp2
      go_ret2
      exact ⟨by rw [HR.out]; rfl, (Below.refl _ w).alloc (Nat.le_refl _) _⟩
end Go.Proofs.YtjdgcfedpinopabDoor
