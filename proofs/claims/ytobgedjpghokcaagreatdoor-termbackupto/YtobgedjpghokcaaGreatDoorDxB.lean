import Derived.Test.YtobgedjpghokcaaGreatDoorShelfD
import Derived.Lib.AtoiErrMem
import Derived.WalkKit
import Derived.ProofKit
import Derived.OpenShut
import Derived.WalkSpells
import Derived.LoopTactic
import Derived.Below
import Derived.Deep.LoopGhost
import Derived.Deep.Draws
import Derived.Deep.QuietTactic
import Derived.Lib.Hide
import Derived.Lib.ItoaMem
import Derived.Lib.ItoaLen
import Derived.Lib.Strings
import Derived.Laws.BitsAllLaws
import Derived.Test.YtobgedjpghokcaaGreatDoorTlB
import Derived.Lib.AppendStr
import Derived.Lib.AppendIntMem
import Derived.Deep.AppendLies
import Derived.Maps.AppendAt
import Derived.OneCell
import Derived.Deep.RegionLaw
namespace Go.Bd
/-- a digit's letter -/
def dg (d : Nat) : UInt8 := if d < 10 then UInt8.ofNat (48 + d) else UInt8.ofNat (87 + d)
/-- the digits of a number, the lowest last; n: how many at most -/
def digs (b : Nat) : Nat → Nat → List UInt8 → List UInt8
  | 0, _, out => out
  | n + 1, x, out => if x / b = 0 then dg (x % b) :: out else digs b n (x / b) (dg (x % b) :: out)
theorem digs_end (b n x : Nat) (out : List UInt8) (h : x / b = 0) : digs b (n + 1) x out = dg (x % b) :: out := by simp [digs, h]
theorem digs_more (b n x : Nat) (out : List UInt8) (h : ¬ x / b = 0) : digs b (n + 1) x out = digs b n (x / b) (dg (x % b) :: out) := by simp [digs, h]
theorem dig_step (x n : Nat) (out R : List UInt8) (hx : x < 16 ^ n) (hge : 16 ≤ x) (hd : digs 16 n x out = R) : ∃ n', n = n' + 1 ∧ 1 ≤ n' ∧ x / 16 < 16 ^ n' ∧ digs 16 n' (x / 16) (dg (x % 16) :: out) = R := by
  match n with
  | 0 => simp at hx; omega
  | 1 => simp at hx; omega
  | n' + 2 =>
    refine ⟨n' + 1, rfl, by omega, ?_, ?_⟩
    · rw [Nat.div_lt_iff_lt_mul (by omega), ← Nat.pow_succ]; exact hx
    · rw [digs_more 16 (n' + 1) x out (by omega)] at hd; exact hd
theorem dig_cells (C : Array Value) (m : Nat) (out : List UInt8) (d : Nat) (hm : m < C.size) (h : ∀ j, j < out.length → C[m + 1 + j]? = some (.int .u8 ((out.getD j 0).toNat : Int))) :
    ∀ j, j < (dg d :: out).length → (C.setIfInBounds m (.int .u8 ((dg d).toNat : Int)))[m + j]? = some (.int .u8 (((dg d :: out).getD j 0).toNat : Int)) := by
  intro j hj
  cases j with
  | zero => simp [hm]
  | succ j =>
    rw [Array.getElem?_setIfInBounds, if_neg (by omega), show m + (j + 1) = m + 1 + j by omega, h j (by simpa using hj)]
    simp
end Go.Bd
namespace Go.Proofs.YtobgedjpghokcaaGreatDoor
open Go.ChangeShapes Go.WideShapes Go.ChangeAt Go.RowKit Go.Bd
theorem tz16 (w : World) (hc : w.cell? ⟨4, 15, none⟩ = some (.int .u8 4)) :
    Calls Tryz.prog 84 #[.int .u64 16] w fun e w' => e = .returned (.int .i64 4) ∧ w' = w := by
  have hx : IntKind.u64.wrap (bits .and .u64 16 (IntKind.u64.wrap (-16)) * 285870213051353865) = 4573923408821661840 := by decide +kernel
  go_enter Tryz.func84, Tryz.ntmps84
  go_wp2
  go_ret
  exact ⟨rfl, rfl⟩
theorem pw16 (w : World) :
    Calls Tryz.prog 83 #[.int .i64 16] w fun e w' => e = .returned (.bool true) ∧ w' = w := by
  have h : bits .and .i64 16 15 = 0 := by decide +kernel
  go_enter Tryz.func83, Tryz.ntmps83
  go_wp2
  go_ret
  exact ⟨rfl, rfl⟩
def zeros65 : Array Value := Array.replicate 65 (.int .u8 0)
theorem dg_index (d : Nat) (hd : d < 16) (W : World) : (Instr.index 9 (.string ⟨#[48, 49, 50, 51, 52, 53, 54, 55, 56, 57, 97, 98, 99, 100, 101, 102, 103, 104, 105, 106, 107, 108, 109, 110, 111, 112, 113, 114, 115, 116, 117, 118, 119, 120, 121, 122]⟩) (.int .u64 (d : Int))).run Tryz.prog W = .ok (.int .u8 ((dg d).toNat : Int)) W := by
  have h : d = 0 ∨ d = 1 ∨ d = 2 ∨ d = 3 ∨ d = 4 ∨ d = 5 ∨ d = 6 ∨ d = 7 ∨ d = 8 ∨ d = 9 ∨ d = 10 ∨ d = 11 ∨ d = 12 ∨ d = 13 ∨ d = 14 ∨ d = 15 := by omega
  rcases h with rfl | rfl | rfl | rfl | rfl | rfl | rfl | rfl | rfl | rfl | rfl | rfl | rfl | rfl | rfl | rfl <;> (show _ = _; kernel_rfl)
theorem and15 (x : Nat) (hx : x < 18446744073709551616) : bits .and .u64 (x : Int) 15 = ((x % 16 : Nat) : Int) := by
  have h := u64_and_nat x 15 hx (by omega)
  rw [nat_mask4] at h
  exact h
set_option maxHeartbeats 2000000 in
set_option maxRecDepth 100000 in
theorem fbits (X : Nat) (w : World) (hX : X < 18446744073709551616) (hc : w.cell? ⟨4, 15, none⟩ = some (.int .u8 4)) :
    Calls Tryz.prog 73 #[.slice none 0 0, .int .u64 X, .int .i64 16, .bool false, .bool false] w fun e w' => e = .returned (.tuple #[.slice none 0 0, .string ⟨(digs 16 16 X []).toArray⟩]) ∧ Below w.heap.size w w' := by
  have hlt : 4 < w.heap.size := Lib.lt_of_cell hc
  have hc2 : ∀ o, (w.alloc o).cell? ⟨4, 15, none⟩ = some (.int .u8 4) := fun o => (((Below.refl _ w).alloc (Nat.le_refl _) o).cell (p := ⟨4, 15, none⟩) hlt).trans hc
  have hz : ∀ W, (zeroValue 130).run Tryz.prog W = .ok (.agg zeros65) W := fun _ => by kernel_rfl
  clear hc
  go_enter Tryz.func73, Tryz.ntmps73
  go_wp2_with (first | (go_at_call 83; refine (pw16 _).mono ?_; rintro e w' ⟨rfl, rfl⟩) | (go_at_call 84; refine (tz16 _ (hc2 _)).mono ?_; rintro e w' ⟨rfl, rfl⟩))
  clear hc2 hz
  go_loopw [1, 13] (fun vu vi w' => ∃ (x n k : Nat) (C : Array Value) (out : List UInt8), vu = .int .u64 (x : Int) ∧ vi = .int .i64 (k : Int) ∧ w' = w.alloc (.cells C 130) ∧ C.size = 65 ∧ k + out.length = 65 ∧ out.length + n = 16 ∧ 1 ≤ n ∧ Hid (x < 16 ^ n ∧ digs 16 n x out = digs 16 16 X [] ∧ ∀ j, j < out.length → C[k + j]? = some (.int .u8 ((out.getD j 0).toNat : Int)))) (fun vu _ _ => (intOf vu).toNat)
  case atStart => exact ⟨X, 16, 65, zeros65, [], rfl, rfl, rfl, rfl, rfl, rfl, by omega, by omega, rfl, fun j hj => absurd hj (by simp)⟩
  case round =>
    obtain ⟨x, n, k, C, out, rfl, rfl, rfl, hC, hk, hn, hn1, hh⟩ := hrel
    obtain ⟨hx, hd, hcells⟩ := hh.out
    clear hh
    have hx64 : x < 18446744073709551616 := Nat.lt_of_lt_of_le hx (by have := Nat.pow_le_pow_right (n := 16) (by decide) (show n ≤ 16 by omega); exact Nat.le_trans this (by decide))
    by_cases hge : 16 ≤ x
    · have ha := and15 x hx64
      obtain ⟨d, hdd⟩ : ∃ d, x % 16 = d := ⟨_, rfl⟩
      rw [hdd] at ha
      have hd16 : d < 16 := by omega
      have hix := fun W => dg_index d hd16 W
      obtain ⟨m, rfl⟩ : ∃ m, k = m + 1 := ⟨k - 1, by omega⟩
      obtain ⟨v0, hv0⟩ : ∃ v, C[m]? = some v := ⟨C[m]'(by omega), Array.getElem?_eq_getElem _⟩
      have hnk : ((m + 1 : Nat) : Int) - 1 = (m : Int) := by omega
      have hcl : (w.alloc (.cells C 130)).cell? ⟨w.heap.size, m, none⟩ = some v0 := by rw [World.cell?_alloc_new]; exact hv0
      have hfz : (w.alloc (.cells C 130)).frozen? ⟨w.heap.size, m, none⟩ = false := World.frozen?_alloc_new _ _ _ _
      have H1 : Hid _ := hcells
      have H2 : Hid _ := hd
      have H3 : Hid _ := hx
      have HD : Hid (x % 16 = d) := hdd
      clear hcells hd hx hdd
      go_wp2
      obtain ⟨n', rfl, hn2, hx2, hd2⟩ := dig_step x n out _ H3.out hge H2.out
      exact ⟨⟨x / 16, n', m, _, dg d :: out, (by first | rfl | simp), rfl, rfl, by simp [hC], by simp; omega, by simp; omega, hn2, hx2, by rw [← HD.out]; exact hd2, dig_cells C m out d (by omega) H1.out⟩, by simp [intOf]; omega⟩
    · have hm : Hid (x % 16 = x) := Nat.mod_eq_of_lt (by omega)
      have hix := fun W => dg_index x (by omega) W
      obtain ⟨m, rfl⟩ : ∃ m, k = m + 1 := ⟨k - 1, by omega⟩
      obtain ⟨v0, hv0⟩ : ∃ v, C[m]? = some v := ⟨C[m]'(by omega), Array.getElem?_eq_getElem _⟩
      have hnk : ((m + 1 : Nat) : Int) - 1 = (m : Int) := by omega
      have hcl : (w.alloc (.cells C 130)).cell? ⟨w.heap.size, m, none⟩ = some v0 := by rw [World.cell?_alloc_new]; exact hv0
      have hfz : (w.alloc (.cells C 130)).frozen? ⟨w.heap.size, m, none⟩ = false := World.frozen?_alloc_new _ _ _ _
      have H1 : Hid _ := hcells
      have H2 : Hid _ := hd
      have H3 : Hid _ := hx
      have hal : Tryz.prog.arrayLen 130 = 65 := by simp [Program.arrayLen, Tryz.underlying130]
      have hsl : ∀ W, (Instr.sliceAt 130 (.pointer (some ⟨w.heap.size, 0, none⟩)) (some (.int .i64 (m : Int))) none none).run Tryz.prog W = .ok (.slice (some ⟨w.heap.size, m, none⟩) (65 - m) (65 - m)) W := fun W => by
        rw [run_sliceAt_array_l W 130 ⟨w.heap.size, 0, none⟩ (by simp [Program.arrayLen, Program.elem, Tryz.underlying130]) .i64 (m : Int) (by omega) (by rw [hal]; omega)]
        go_simp
        omega
      have hlen : (dg x :: out).length = 65 - m := by simp; omega
      have hcv : (convert 52 9 (.slice (some ⟨w.heap.size, m, none⟩) (65 - m) (65 - m))).run Tryz.prog (w.alloc (.cells (C.setIfInBounds m (.int .u8 ((dg x).toNat : Int))) 130)) = .ok (.string ⟨(dg x :: out).toArray⟩) (w.alloc (.cells (C.setIfInBounds m (.int .u8 ((dg x).toNat : Int))) 130)) := by
        have h := run_convert_bytes_back (P := Tryz.prog) (w.alloc (.cells (C.setIfInBounds m (.int .u8 ((dg x).toNat : Int))) 130)) 52 9 5 ⟨w.heap.size, m, none⟩ (65 - m) (dg x :: out) Tryz.underlying52 Tryz.underlying5 Tryz.underlying9 (fun j hj => by
          rw [Lib.add_plain, World.cell?_alloc_new]
          have h2 := dig_cells C m out x (by omega) hcells j hj
          have e2 : (dg x :: out).getD j 0 = (dg x :: out)[j]'hj := by simp [List.getD, List.getElem?_eq_getElem hj]
          rw [e2] at h2
          exact h2)
        rw [hlen] at h
        exact h
      have HR : Hid (digs 16 16 X [] = dg x :: out) := by
        obtain ⟨n', rfl⟩ : ∃ n', n = n' + 1 := ⟨n - 1, by omega⟩
        rw [Hid, ← hd, digs_end 16 n' x out (by omega), hm.out]
      clear hcells hd hx hal hlen H1 H2 H3
      generalize dg x :: out = L at *
      go_wp2
      go_ret2
      exact ⟨by rw [HR.out]; rfl, (Below.refl _ w).alloc (Nat.le_refl _) _⟩
end Go.Proofs.YtobgedjpghokcaaGreatDoor
namespace Go.Proofs.YtobgedjpghokcaaGreatDoor
open Go.ChangeShapes Go.WideShapes Go.ChangeAt Go.RowKit Go.Bd Go.Sort Go.Lib

theorem holds_zero0 (w : World) (T : TypeId) (nd : Nat) (hs : nd ≤ 24) : Holds (fun (b : UInt8) => Value.int .u8 (b.toNat : Int)) (w.alloc (.cells zeros24 T)) w.heap.size 0 (Array.replicate nd (0 : UInt8)) := fun j hj => by
  have hj' : j < nd := by simpa using hj
  refine ⟨?_, World.frozen?_alloc_new _ _ _ _⟩
  rw [World.cell?_alloc_new, zeros24_at _ (by omega), getElem!_pos _ j hj]
  simp
theorem below_put (w : World) (o : Obj) (dk : Array UInt8) (k : Nat) : Below w.heap.size w ((putRow (fun (b : UInt8) => Value.int .u8 (b.toNat : Int)) (w.alloc o) w.heap.size 0 dk).drewN k) := by
  rw [alloc_eq_grow]
  obtain ⟨os', _, e⟩ := putRow_grow_new (fun (b : UInt8) => Value.int .u8 (b.toNat : Int)) w #[o] w.heap.size 0 dk (Nat.le_refl _)
  rw [e]
  refine ⟨rfl, rfl, rfl, ?_, fun j hj => ?_⟩
  · simp [grow]
  · simp [grow, Array.getElem?_append, hj]
theorem ifu_16 (X : Nat) (w : World) (hX : X < 18446744073709551616) (hc : w.cell? ⟨4, 15, none⟩ = some (.int .u8 4)) :
    Calls Tryz.prog 63 #[.int .u64 X, .int .i64 16] w fun e w' => e = .returned (.string ⟨(digs 16 16 X []).toArray⟩) ∧ Below w.heap.size w w' := by
  have H : Hid (Calls Tryz.prog 73 #[.slice none 0 0, .int .u64 X, .int .i64 16, .bool false, .bool false] w fun e w' => e = .returned (.tuple #[.slice none 0 0, .string ⟨(digs 16 16 X []).toArray⟩]) ∧ Below w.heap.size w w') := fbits X w hX hc
  clear hc
  go_enter Tryz.func63, Tryz.ntmps63
  go_wp2_with fail
  refine H.out.mono ?_
  rintro e w' ⟨rfl, hb⟩
  have HB : Hid _ := hb
  clear hb
  go_wp2
  go_ret
  exact ⟨rfl, HB.out⟩
theorem ifu_small (u : Nat) (w : World) (hu : u < 100) :
    Calls Tryz.prog 63 #[.int .u64 u, .int .i64 10] w fun e w' => e = .returned (.string ⟨(Lib.decDigits u).toArray⟩) ∧ w' = w := by
  go_enter Tryz.func63, Tryz.ntmps63
  go_wp2_with (go_at_call 70; refine (Any.internal_strconv_small Tryz.smallL u hu _).mono ?_; rintro e w' ⟨rfl, rfl⟩)
  go_ret
  exact ⟨rfl, rfl⟩
set_option maxHeartbeats 6400000 in
set_option maxRecDepth 100000 in
theorem ifu_10 (u : Nat) (w : World) (hu : ¬ u < 100) (hu2 : u < 1000) (htab : Lib.TabIs Tryz.prog w "internal/strconv.uint64pow10" .u64 Lib.pow10Tab) :
    Calls Tryz.prog 63 #[.int .u64 u, .int .i64 10] w fun e w' => e = .returned (.string ⟨(Lib.decDigits u).toArray⟩) ∧ Below w.heap.size w w' := by
  have hu1 : 1 ≤ u := by omega
  have hu64 : u < 18446744073709551616 := by omega
  have hnd20 : Lib.nDigits u ≤ 20 := by have := Lib.numDigits_eq u hu1 hu64; split at this <;> omega
  have hz : ∀ W, (zeroValue 112).run Tryz.prog W = .ok (.agg Lib.zeros24) W := fun _ => by kernel_rfl
  have hal : Tryz.prog.arrayLen 112 = 24 := by simp [Program.arrayLen, Tryz.underlying112]
  have hsl1 : ∀ W, (Instr.sliceAt 112 (.pointer (some ⟨w.heap.size, 0, none⟩)) none (some (.int .i64 (Lib.nDigits u : Int))) none).run Tryz.prog W = .ok (.slice (some ⟨w.heap.size, 0, none⟩) (Lib.nDigits u) 24) W := fun W => by
    rw [run_sliceAt_array_h W 112 ⟨w.heap.size, 0, none⟩ (by simp [Program.arrayLen, Program.elem, Tryz.underlying112]) .i64 (Lib.nDigits u : Int) (by omega) (by rw [hal]; omega)]
    go_simp
  have hH0 := holds_zero0 w 112 (Lib.nDigits u) (by omega)
  have hfmt := Any.internal_strconv_formatBase10 Tryz.fbL w.heap.size 0 24 u (Array.replicate (Lib.nDigits u) 0) (w.alloc (.cells Lib.zeros24 112)) hH0 (by rw [Array.size_replicate]; exact Lib.lt_pow_nDigits u) hu64 (by rw [Array.size_replicate]; omega)
  rw [Array.size_replicate] at hfmt
  have HH0 := Lib.hid hH0
  have HF := Lib.hid hfmt
  clear hH0 hal hfmt
  go_enter Tryz.func63, Tryz.ntmps63
  go_wp2_with (first
    | (go_at_call 71; refine (Any.internal_strconv_numDigits Tryz.ndL u hu1 hu64 _ (Lib.tabIs_alloc htab _)).mono ?_; rintro e w' ⟨rfl, rfl⟩))
  go_at_call 72
  refine HF.out.mono ?_
  rintro e w' ⟨rfl, k, v', dk, rfl, hF⟩
  have hcv : (convert 52 9 (.slice (some ⟨w.heap.size, 0, none⟩) (Lib.nDigits u) 24)).run Tryz.prog ((putRow (fun (b : UInt8) => Value.int .u8 (b.toNat : Int)) (w.alloc (.cells Lib.zeros24 112)) w.heap.size 0 dk).drewN k) = .ok (.string ⟨(Lib.decDigits u).toArray⟩) ((putRow (fun (b : UInt8) => Value.int .u8 (b.toNat : Int)) (w.alloc (.cells Lib.zeros24 112)) w.heap.size 0 dk).drewN k) := by
    have h := run_convert_bytes_back (P := Tryz.prog) ((putRow (fun (b : UInt8) => Value.int .u8 (b.toNat : Int)) (w.alloc (.cells Lib.zeros24 112)) w.heap.size 0 dk).drewN k) 52 9 5 ⟨w.heap.size, 0, none⟩ 24 (Lib.decDigits u) Tryz.underlying52 Tryz.underlying5 Tryz.underlying9 (fun j hj => by
      rw [Lib.row_is_numeral hF j hj, Lib.add_plain, World.cell?_drewN]
      exact cell?_putRow (fun (b : UInt8) => Value.int .u8 (b.toNat : Int)) _ w.heap.size 0 _ dk HH0.out (by rw [hF.size, Array.size_replicate]) j (by rw [hF.size]; rw [Lib.decDigits_length] at hj; exact hj))
    rw [Lib.decDigits_length] at h
    exact h
  have HB := Lib.hid (below_put w (.cells Lib.zeros24 112) dk k)
  clear hF
  go_wp2
  go_ret
  exact ⟨rfl, HB.out⟩
end Go.Proofs.YtobgedjpghokcaaGreatDoor
namespace Go.Bd
theorem digs_len (b n : Nat) : ∀ (x : Nat) (out : List UInt8), (digs b n x out).length ≤ n + out.length := by
  induction n with
  | zero => intro x out; simp [digs]
  | succ n ih =>
    intro x out
    unfold digs
    split
    · simp; omega
    · have := ih (x / b) (dg (x % b) :: out); simp at this; omega
end Go.Bd
namespace Go.Proofs.YtobgedjpghokcaaGreatDoor
open Go.ChangeShapes Go.WideShapes Go.ChangeAt Go.RowKit Go.Bd Go.Lib
theorem scfu_16 (X : Nat) (w : World) (hX : X < 18446744073709551616) (hc : w.cell? ⟨4, 15, none⟩ = some (.int .u8 4)) :
    Calls Tryz.prog 52 #[.int .u64 X, .int .i64 16] w fun e w' => e = .returned (.string ⟨(digs 16 16 X []).toArray⟩) ∧ Below w.heap.size w w' := by
  have H : Hid (Calls Tryz.prog 63 #[.int .u64 X, .int .i64 16] w fun e w' => e = .returned (.string ⟨(digs 16 16 X []).toArray⟩) ∧ Below w.heap.size w w') := ifu_16 X w hX hc
  clear hc
  go_enter Tryz.func52, Tryz.ntmps52
  go_wp2_with fail
  refine H.out.mono ?_
  rintro e w' ⟨rfl, hb⟩
  have HB : Hid _ := hb
  clear hb
  go_wp2
  go_ret
  exact ⟨rfl, HB.out⟩
theorem scfu_10 (X : Nat) (w : World) (hX : X < 1000) (htab : Lib.TabIs Tryz.prog w "internal/strconv.uint64pow10" .u64 Lib.pow10Tab) :
    Calls Tryz.prog 52 #[.int .u64 X, .int .i64 10] w fun e w' => e = .returned (.string ⟨(Lib.decDigits X).toArray⟩) ∧ Below w.heap.size w w' := by
  have H : Hid (Calls Tryz.prog 63 #[.int .u64 X, .int .i64 10] w fun e w' => e = .returned (.string ⟨(Lib.decDigits X).toArray⟩) ∧ Below w.heap.size w w') := by
    by_cases h : X < 100
    · exact (ifu_small X w h).mono fun e w' ⟨he, hw⟩ => ⟨he, by rw [hw]; exact Below.refl _ _⟩
    · exact ifu_10 X w h hX htab
  clear htab
  go_enter Tryz.func52, Tryz.ntmps52
  go_wp2_with fail
  refine H.out.mono ?_
  rintro e w' ⟨rfl, hb⟩
  have HB : Hid _ := hb
  clear hb
  go_wp2
  go_ret
  exact ⟨rfl, HB.out⟩
set_option maxRecDepth 100000 in
theorem text_hex (X : Nat) (w : World) (hX : X < 18446744073709551616) (h1000 : 1000 ≤ X) (hc : w.cell? ⟨4, 15, none⟩ = some (.int .u8 4)) :
    Calls Tryz.prog 35 #[.int .u64 X] w fun e w' => e = .returned (.string ⟨(48 :: 120 :: digs 16 16 X []).toArray⟩) ∧ Below w.heap.size w w' := by
  have H : Hid (Calls Tryz.prog 52 #[.int .u64 X, .int .i64 16] w fun e w' => e = .returned (.string ⟨(digs 16 16 X []).toArray⟩) ∧ Below w.heap.size w w') := scfu_16 X w hX hc
  clear hc
  have hlen := digs_len 16 16 X []
  generalize digs 16 16 X [] = L at *
  have hcat : ∀ W, (Op.stringOp .add ⟨#[48, 120]⟩ ⟨L.toArray⟩).run Tryz.prog W = .ok (.string ⟨(48 :: 120 :: L).toArray⟩) W := fun W =>
    run_string_add_lists (P := Tryz.prog) W [48, 120] L (by simp) (by simp at hlen; omega)
  go_enter Tryz.func35, Tryz.ntmps35
  go_wp2_with fail
  refine H.out.mono ?_
  rintro e w' ⟨rfl, hb⟩
  have HB : Hid _ := hb
  clear hb
  go_wp2
  go_ret
  exact ⟨rfl, HB.out⟩
set_option maxRecDepth 100000 in
theorem text_dec (X : Nat) (w : World) (hX : X < 1000) (htab : Lib.TabIs Tryz.prog w "internal/strconv.uint64pow10" .u64 Lib.pow10Tab) :
    Calls Tryz.prog 35 #[.int .u64 X] w fun e w' => e = .returned (.string ⟨(Lib.decDigits X).toArray⟩) ∧ Below w.heap.size w w' := by
  have H : Hid (Calls Tryz.prog 52 #[.int .u64 X, .int .i64 10] w fun e w' => e = .returned (.string ⟨(Lib.decDigits X).toArray⟩) ∧ Below w.heap.size w w') := scfu_10 X w hX htab
  clear htab
  go_enter Tryz.func35, Tryz.ntmps35
  go_wp2_with fail
  refine H.out.mono ?_
  rintro e w' ⟨rfl, hb⟩
  have HB : Hid _ := hb
  clear hb
  go_wp2
  go_ret
  exact ⟨rfl, HB.out⟩
end Go.Proofs.YtobgedjpghokcaaGreatDoor
namespace Go.Proofs.YtobgedjpghokcaaGreatDoor
open Go.ChangeShapes Go.WideShapes Go.ChangeAt Go.RowKit Go.Bd

theorem dg_slice (d : Nat) (hd : d < 16) (W : World) : (Instr.slice 9 (.string ⟨#[48, 49, 50, 51, 52, 53, 54, 55, 56, 57, 97, 98, 99, 100, 101, 102]⟩) (some (.int .u64 (d : Int))) (some (.int .u64 ((d : Int) + 1))) none).run Tryz.prog W = .ok (.string ⟨#[dg d]⟩) W := by
  have h : d = 0 ∨ d = 1 ∨ d = 2 ∨ d = 3 ∨ d = 4 ∨ d = 5 ∨ d = 6 ∨ d = 7 ∨ d = 8 ∨ d = 9 ∨ d = 10 ∨ d = 11 ∨ d = 12 ∨ d = 13 ∨ d = 14 ∨ d = 15 := by omega
  rcases h with rfl | rfl | rfl | rfl | rfl | rfl | rfl | rfl | rfl | rfl | rfl | rfl | rfl | rfl | rfl | rfl <;> (show _ = _; kernel_rfl)
theorem digs_step (b x n : Nat) (out R : List UInt8) (hb : 2 ≤ b) (hx : x < b ^ n) (h1 : 1 ≤ n) (hq : ¬ x / b = 0) (hd : digs b n x out = R) : ∃ n', n = n' + 1 ∧ 1 ≤ n' ∧ x / b < b ^ n' ∧ digs b n' (x / b) (dg (x % b) :: out) = R := by
  match n with
  | 0 => omega
  | 1 => simp at hx; exact absurd (Nat.div_eq_of_lt hx) hq
  | n' + 2 =>
    refine ⟨n' + 1, rfl, by omega, ?_, ?_⟩
    · rw [Nat.div_lt_iff_lt_mul (by omega), ← Nat.pow_succ]; exact hx
    · rw [digs_more b (n' + 1) x out hq] at hd; exact hd

theorem dg_dec (d : Nat) (h : d < 10) : dg d = UInt8.ofNat (48 + d) := by unfold dg; rw [if_pos h]
theorem dec_digs (n : Nat) : ∀ (x : Nat) (out : List UInt8), x < 10 ^ (n + 1) → digs 10 (n + 1) x out = Lib.decDigits x ++ out := by
  induction n with
  | zero =>
    intro x out hx
    have h10 : x < 10 := by simpa using hx
    rw [digs_end 10 0 x out (by omega), Lib.decDigits, dif_pos h10, dg_dec _ (by omega), Nat.mod_eq_of_lt h10]; rfl
  | succ n ih =>
    intro x out hx
    by_cases h10 : x < 10
    · rw [digs_end 10 (n + 1) x out (by omega), Lib.decDigits, dif_pos h10, dg_dec _ (by omega), Nat.mod_eq_of_lt h10]; rfl
    · rw [digs_more 10 (n + 1) x out (by omega), ih (x / 10) _ (by rw [Nat.div_lt_iff_lt_mul (by omega), ← Nat.pow_succ]; exact hx)]
      conv => rhs; rw [Lib.decDigits, dif_neg h10]
      rw [dg_dec _ (by omega), List.append_assoc]; rfl
theorem dec_same (x : Nat) (h : x < 1000) : Lib.decDigits x = digs 10 16 x [] := by
  rw [dec_digs 15 x [] (by omega), List.append_nil]
end Go.Proofs.YtobgedjpghokcaaGreatDoor
namespace Go.Proofs.YtobgedjpghokcaaGreatDoor
open Go.ChangeShapes Go.WideShapes Go.ChangeAt Go.RowKit Go.Bd Go.Lib

/-- the text of a number -/
def txB (X : Nat) : List UInt8 := if X < 1000 then Lib.decDigits X else 48 :: 120 :: digs 16 16 X []
theorem txB_small {X : Nat} (h : X < 1000) : txB X = Lib.itoa (X : Int) := by unfold txB; rw [if_pos h, Lib.itoa_nonneg]
theorem txB_len (X : Nat) : (txB X).length ≤ 24 := by
  unfold txB
  split
  · next h =>
    rw [dec_same X h]
    have := digs_len 10 16 X []
    simp at this
    omega
  · have := digs_len 16 16 X []
    simp at this ⊢
    omega
/-- what the printers read of the program's variables -/
structure ENVT (w : World) : Prop where
  tab : Lib.TabIs Tryz.prog w "internal/strconv.uint64pow10" .u64 Lib.pow10Tab
  deb : w.cell? ⟨4, 15, none⟩ = some (.int .u8 4)
theorem gPow : Tryz.prog.globalNamed "internal/strconv.uint64pow10" = some 1 := by kernel_rfl
theorem text_any (X : Nat) (w : World) (hX : X < 18446744073709551616) (hE : ENVT w) :
    Calls Tryz.prog 35 #[.int .u64 X] w fun e w' => e = .returned (.string ⟨(txB X).toArray⟩) ∧ Below w.heap.size w w' := by
  unfold txB
  by_cases h : X < 1000
  · rw [if_pos h]
    exact text_dec X w h hE.tab
  · rw [if_neg h]
    exact text_hex X w hX (by omega) hE.deb
abbrev PowT (B : Nat) (w : World) : Prop := Lib.TabBelow Tryz.prog B w "internal/strconv.uint64pow10" .u64 Lib.pow10Tab
theorem appInt_any (B n : Nat) (i : Int) (h0 : -9223372036854775808 ≤ i) (h1 : i ≤ 9223372036854775807) (sv : Value) (xs : List Value) (w : World) (hown : w.ownsRow B 5 1 sv n xs) (hBw : B ≤ w.heap.size) (hlim : n + 21 ≤ 140737488355328) (htab : PowT B w) :
    Calls Tryz.prog 32 #[sv, .int .i64 i, .int .i64 10] w fun e w' => ∃ v', e = .returned v' ∧ w'.ownsRow B 5 1 v' (n + (Lib.itoa i).length) (xs ++ Lib.byteCells (Lib.itoa i)) ∧ Below B w w' ∧ Lib.OthersKept 5 none w w' :=
  Any.strconv_AppendInt_10 Tryz.appL B n i h0 h1 sv xs w hown hBw hlim htab
theorem itoa_any (n : Int) (h0 : -9223372036854775808 ≤ n) (h1 : n ≤ 9223372036854775807) (w : World) (hE : ENVT w) :
    Calls Tryz.prog 113 #[.int .i64 n] w fun e w' => e = .returned (.string ⟨(Lib.itoa n).toArray⟩) ∧ Below w.heap.size w w' := by
  refine (Any.strconv_Itoa Tryz.itoaL n h0 h1 w hE.tab).mono fun e w' hh => ?_
  obtain ⟨he, k, os, rfl⟩ := hh
  refine ⟨he, rfl, rfl, rfl, ?_, fun j hj => ?_⟩
  · simp [Go.Sort.grow]
  · simp [Go.Sort.grow, Array.getElem?_append, hj]
/-- the printer in memory: its block Q (the text, the map M), all else below Bd as in w0 -/
structure DST (Bd : Nat) (w0 : World) (Q M : Nat) (om : Obj) (txt : List UInt8) (v : Value) (w : World) : Prop where
  blk : w.heap[Q]? = some (.cells #[v, .map (some M)] 54 (0, 0))
  row : w.ownsRow Bd 5 1 v txt.length (Lib.byteCells txt)
  mo : w.heap[M]? = some om
  qB : Q < Bd
  mB : M < Bd
  qm : Q ≠ M
  sz : Bd ≤ w.heap.size
  os : w.os = w0.os
  tape : w.tape = w0.tape
  output : w.output = w0.output
  kp : ∀ k, k < Bd → k ≠ Q → k ≠ M → w.heap[k]? = w0.heap[k]?
theorem DST.form {Bd : Nat} {w0 : World} {Q M : Nat} {om : Obj} {txt : List UInt8} {v : Value} {w : World} (h : DST Bd w0 Q M om txt v w) : ∃ ad c, v = .slice ad txt.length c := by
  rcases h.row.2 with ⟨e, h0⟩ | ⟨g, cap, cur, rfl, _⟩
  · exact ⟨none, 0, by rw [e, h0]⟩
  · exact ⟨_, _, rfl⟩
theorem DST.cell {Bd : Nat} {w0 : World} {Q M : Nat} {om : Obj} {txt : List UInt8} {v : Value} {w : World} (h : DST Bd w0 Q M om txt v w) : w.cell? ⟨Q, 0, none⟩ = some v ∧ w.frozen? ⟨Q, 0, none⟩ = false ∧ w.cell? ⟨Q, 1, none⟩ = some (.map (some M)) ∧ Q < w.heap.size :=
  ⟨by simp [World.cell?, h.blk], by simp [World.frozen?, h.blk], by simp [World.cell?, h.blk], (Array.getElem?_eq_some_iff.1 h.blk).1⟩
theorem own_form {w : World} {B e s n : Nat} {v : Value} {L : List Value} (h : w.ownsRow B e s v n L) : ∃ ad c, v = .slice ad n c := by
  rcases h.2 with ⟨e, h0⟩ | ⟨g, cap, cur, rfl, _⟩
  · exact ⟨none, 0, by rw [e, h0]⟩
  · exact ⟨_, _, rfl⟩
/-- a memory that is the same below Bd, and the text a new row -/
theorem DST.text {Bd : Nat} {w0 : World} {Q M : Nat} {om : Obj} {txt txt' : List UInt8} {v v' : Value} {w w' : World} (h : DST Bd w0 Q M om txt v w) (hb : Below Bd w w') (hr : w'.ownsRow Bd 5 1 v' txt'.length (Lib.byteCells txt')) :
    (w'.cell? ⟨Q, 0, none⟩ = some v ∧ w'.frozen? ⟨Q, 0, none⟩ = false ∧ Q < w'.heap.size) ∧ DST Bd w0 Q M om txt' v' (w'.setCell ⟨Q, 0, none⟩ v') := by
  have hQ : w'.heap[Q]? = some (.cells #[v, .map (some M)] 54 (0, 0)) := (hb.block Q h.qB).trans h.blk
  refine ⟨⟨by simp [World.cell?, hQ], by simp [World.frozen?, hQ], (Array.getElem?_eq_some_iff.1 hQ).1⟩, ?_, ?_, ?_, h.qB, h.mB, h.qm, ?_, hb.os.trans h.os, hb.tape.trans h.tape, hb.output.trans h.output, fun k hk h1 h2 => ?_⟩
  · rw [heap_setCell_same _ _ _ _ _ _ hQ]
    rfl
  · exact ownsRow_setCell_other hr (fun e => by have := (hr.lt Q e).1; have := h.qB; omega) _
  · rw [heap_setCell_other _ _ _ _ (Ne.symm h.qm)]
    exact (hb.block M h.mB).trans h.mo
  · have := hb.size; have := h.sz; simp; omega
  · rw [heap_setCell_other _ _ _ _ h1]
    exact (hb.block k hk).trans (h.kp k hk h1 h2)
theorem below_gr {Bd e n : Nat} {w w1 : World} {o : Obj} {v : Value} {L : List Value} (hs : Bd ≤ w.heap.size) (ho : w.ownsRow Bd e 1 v n L) (hg : (w.alloc o).grownBy w1 v.ownBlock) : Below Bd w w1 :=
  ((Below.refl Bd w).alloc hs o).grown hg (by simp; omega) (fun k hk => (ho.lt k hk).1)
theorem below_gs {Bd e n : Nat} {w w1 : World} {v : Value} {L : List Value} (hs : Bd ≤ w.heap.size) (ho : w.ownsRow Bd e 1 v n L) (hg : w.grownBy w1 v.ownBlock) : Below Bd w w1 :=
  (Below.refl Bd w).grown hg hs (fun k hk => (ho.lt k hk).1)
/-- what is not of bytes, and not Q, stands -/
abbrev KO (Q : Nat) (w w' : World) : Prop := Lib.OthersKept 5 (some Q) w w'
theorem ko_below {Q : Nat} {w w' : World} (h : Below w.heap.size w w') : KO Q w w' := fun k _ h1 _ _ => (h.block k (Array.getElem?_eq_some_iff.1 h1).1).trans h1
theorem ko_none {Q : Nat} {w w' : World} (h : Lib.OthersKept 5 none w w') : KO Q w w' := fun k o h1 _ h3 => h k o h1 (by simp) h3
theorem ko_gs {Q Bd n : Nat} {w w1 : World} {v : Value} {L : List Value} (ho : w.ownsRow Bd 5 1 v n L) (hg : w.grownBy w1 v.ownBlock) : KO Q w w1 := fun k o h1 _ h3 => by
  refine (hg.block k (Array.getElem?_eq_some_iff.1 h1).1 (fun e => ?_)).trans h1
  rcases ho.2 with ⟨h0, _⟩ | ⟨g, cap, cur, h0, _, hg2, _⟩
  · rw [h0] at e; cases e
  · rw [h0] at e
    have e2 : k = g := by simpa [Value.ownBlock] using e
    rw [e2, hg2] at h1
    injection h1 with h1
    exact h3 _ _ h1.symm
theorem ko_gr {Q Bd n : Nat} {w w1 : World} {ob : Obj} {v : Value} {L : List Value} (ho : w.ownsRow Bd 5 1 v n L) (hg : (w.alloc ob).grownBy w1 v.ownBlock) : KO Q w w1 := fun k o h1 h2 h3 =>
  ko_gs (Q := Q) (ho.alloc ob) hg k o ((Below.heap_alloc _ _ _ (Array.getElem?_eq_some_iff.1 h1).1).trans h1) h2 h3
theorem ko_set {Q j : Nat} {w w1 : World} {u : Value} (h : KO Q w w1) : KO Q w (w1.setCell ⟨Q, j, none⟩ u) := fun k o h1 h2 h3 =>
  (heap_setCell_other _ _ _ _ (fun e => h2 (by rw [e]))).trans (h k o h1 h2 h3)
theorem one_newD (w : World) (x : Value) (t : TypeId) : ∀ j u, ([x] : List Value)[j]? = some u → (w.alloc (.cells #[x] t)).cell? ((⟨w.heap.size, 0, none⟩ : Addr).add j) = some u := by
  intro j u hj
  rw [Addr.add_lit]
  match j, hj with
  | 0, hj => simp at hj; subst hj; simp
theorem Tryz.info5 : (Tryz.prog.info? 5).map (fun i => (i.zero, i.size, i.bytes)) = some (some (.int .u8 0), 1, 1) := by kernel_rfl
theorem bc_app (a b : List UInt8) : Lib.byteCells (a ++ b) = Lib.byteCells a ++ Lib.byteCells b := by simp [Lib.byteCells]
set_option maxHeartbeats 4000000 in
set_option maxRecDepth 100000 in
theorem numberD_any (Bd : Nat) (w0 : World) (Q M : Nat) (om : Obj) (txt : List UInt8) (v : Value) (w : World) (n : Int) (h0 : -9223372036854775808 ≤ n) (h1 : n ≤ 9223372036854775807) (h : DST Bd w0 Q M om txt v w) (hT : ∀ W v txt, DST Bd w0 Q M om txt v W → PowT Bd W) (hl : txt.length ≤ 1099511627776) :
    Calls Tryz.prog 34 #[.pointer (some ⟨Q, 0, none⟩), .int .i64 n] w fun e w' => e = .returned (.tuple #[]) ∧ ∃ v', DST Bd w0 Q M om (txt ++ 32 :: Lib.itoa n) v' w' ∧ KO Q w w' := by
  generalize hPP : (fun (e : Ending) (w' : World) => e = .returned (.tuple #[]) ∧ ∃ v', DST Bd w0 Q M om (txt ++ 32 :: Lib.itoa n) v' w' ∧ KO Q w w') = PP
  have HPP : Hid (∀ v' w', DST Bd w0 Q M om (txt ++ 32 :: Lib.itoa n) v' w' → KO Q w w' → PP (.returned (.tuple #[])) w') := fun v' w' h h9 => by rw [← hPP]; exact ⟨rfl, v', h, h9⟩
  clear hPP
  obtain ⟨ad, c, rfl⟩ := h.form
  obtain ⟨k0, f0, k1, hQ⟩ := h.cell
  have HD : Hid (DST Bd w0 Q M om txt (.slice ad txt.length c) w) := h
  have hsz := h.sz
  obtain ⟨i0, hi, hz0, hz1, hz2⟩ := info_parts Tryz.info5
  have HRw : Hid (w.ownsRow Bd 5 1 (.slice ad txt.length c) txt.length (Lib.byteCells txt)) := h.row
  clear h
  go_enter Tryz.func34, Tryz.ntmps34
  go_wp2_with (at_builtin; refine wpList_append_lies _ rfl _ _ 52 rfl Bd 5 i0 (.int .u8 0) 1 1 Tryz.underlying52 hi hz0 hz1 hz2 rfl (by decide) _ _ _ rfl (HRw.out.alloc _) ⟨w.heap.size, 0, none⟩ 1 1 [.int .u8 32] rfl rfl (one_newD _ _ _) (by intro u hu; simp at hu; subst hu; rfl) (by omega) (by unfold maxLen; omega) (by omega) (by simp; omega) (w.heap.size + 1) (by simp) ?_; intro g4 cap4 w4 hown4 hgrow4 hat4 hlt4; have HO4 : Hid ((w4.cell? ⟨Q, 0, none⟩ = some (.slice ad txt.length c) ∧ w4.frozen? ⟨Q, 0, none⟩ = false ∧ Q < w4.heap.size) ∧ DST Bd w0 Q M om (txt ++ [32]) (.slice (some ⟨g4, 0, none⟩) (txt.length + 1) cap4) (w4.setCell ⟨Q, 0, none⟩ (.slice (some ⟨g4, 0, none⟩) (txt.length + 1) cap4))) := HD.out.text (below_gr hsz HRw.out hgrow4) (by rw [List.length_append, bc_app]; exact hown4); have HK4 : Hid (KO Q w w4) := ko_gr HRw.out hgrow4; clear hown4 hgrow4 hat4 hlt4; refine Hid.out ?_)
  refine Lib.hid ?_
  clear k0 f0
  obtain ⟨⟨k0, f0, hQ4⟩, hD4⟩ := HO4.out
  obtain ⟨W5, hW5⟩ : ∃ W, w4.setCell ⟨Q, 0, none⟩ (.slice (some ⟨g4, 0, none⟩) (txt.length + 1) cap4) = W := ⟨_, rfl⟩
  have HK5 : Hid (KO Q w W5) := by rw [← hW5]; exact ko_set HK4.out
  rw [hW5] at hD4
  have HD5 : Hid (DST Bd w0 Q M om (txt ++ [32]) (.slice (some ⟨g4, 0, none⟩) (txt.length + 1) cap4) W5) := hD4
  obtain ⟨m0, g0, m1, hQ5⟩ := hD4.cell
  have HAp : Hid (Calls Tryz.prog 32 #[.slice (some ⟨g4, 0, none⟩) (txt.length + 1) cap4, .int .i64 n, .int .i64 10] W5 fun e w' => ∃ v', e = .returned v' ∧ w'.ownsRow Bd 5 1 v' (txt.length + 1 + (Lib.itoa n).length) (Lib.byteCells (txt ++ [32]) ++ Lib.byteCells (Lib.itoa n)) ∧ Below Bd W5 w' ∧ Lib.OthersKept 5 none W5 w') :=
    appInt_any Bd (txt.length + 1) n h0 h1 _ _ W5 (by have := hD4.row; rw [List.length_append] at this; exact this) hD4.sz (by omega) (hT _ _ _ hD4)
  clear hD4 HO4 HD hT
  go_wp2_with fail
  refine HAp.out.mono ?_
  rintro e w6 ⟨v6, rfl, ho6, hb6, hk6⟩
  have ho7 : w6.ownsRow Bd 5 1 v6 (txt ++ 32 :: Lib.itoa n).length (Lib.byteCells (txt ++ 32 :: Lib.itoa n)) := by
    have e1 : txt ++ 32 :: Lib.itoa n = (txt ++ [32]) ++ Lib.itoa n := by simp
    rw [e1, bc_app, List.length_append, List.length_append]
    exact ho6
  obtain ⟨⟨n0, l0, hQ6⟩, hD6⟩ := HD5.out.text hb6 ho7
  have HD6 : Hid (PP (.returned (.tuple #[])) (w6.setCell ⟨Q, 0, none⟩ v6)) := HPP.out _ _ hD6 (ko_set (HK5.out.trans (ko_none hk6)))
  obtain ⟨a6, c6, e6⟩ := own_form ho7
  generalize (txt ++ 32 :: Lib.itoa n).length = z6 at *
  subst e6
  clear hD6 ho6 hb6 ho7 HAp HD5 m0 g0 hk6
  go_wp2_with fail
  first | exact HD6.out | (go_end0; exact HD6.out)
set_option maxHeartbeats 4000000 in
set_option maxRecDepth 100000 in
theorem wordD_any (Bd : Nat) (w0 : World) (Q M : Nat) (om : Obj) (txt : List UInt8) (v : Value) (w : World) (s : ByteArray) (h : DST Bd w0 Q M om txt v w) (hl : txt.length ≤ 1099511627776) (hs : s.size ≤ 1048576) :
    Calls Tryz.prog 33 #[.pointer (some ⟨Q, 0, none⟩), .string s] w fun e w' => e = .returned (.tuple #[]) ∧ ∃ v', DST Bd w0 Q M om (txt ++ 32 :: s.data.toList) v' w' ∧ KO Q w w' := by
  generalize hPP : (fun (e : Ending) (w' : World) => e = .returned (.tuple #[]) ∧ ∃ v', DST Bd w0 Q M om (txt ++ 32 :: s.data.toList) v' w' ∧ KO Q w w') = PP
  have HPP : Hid (∀ v' w', DST Bd w0 Q M om (txt ++ 32 :: s.data.toList) v' w' → KO Q w w' → PP (.returned (.tuple #[])) w') := fun v' w' h h9 => by rw [← hPP]; exact ⟨rfl, v', h, h9⟩
  clear hPP
  obtain ⟨ad, c, rfl⟩ := h.form
  obtain ⟨k0, f0, k1, hQ⟩ := h.cell
  have HD : Hid (DST Bd w0 Q M om txt (.slice ad txt.length c) w) := h
  have hsz := h.sz
  obtain ⟨i0, hi, hz0, hz1, hz2⟩ := info_parts Tryz.info5
  have HRw : Hid (w.ownsRow Bd 5 1 (.slice ad txt.length c) txt.length (Lib.byteCells txt)) := h.row
  clear h
  go_enter Tryz.func33, Tryz.ntmps33
  go_wp2_with (at_builtin; refine wpList_append_lies _ rfl _ _ 52 rfl Bd 5 i0 (.int .u8 0) 1 1 Tryz.underlying52 hi hz0 hz1 hz2 rfl (by decide) _ _ _ rfl (HRw.out.alloc _) ⟨w.heap.size, 0, none⟩ 1 1 [.int .u8 32] rfl rfl (one_newD _ _ _) (by intro u hu; simp at hu; subst hu; rfl) (by omega) (by unfold maxLen; omega) (by omega) (by simp; omega) (w.heap.size + 1) (by simp) ?_; intro g4 cap4 w4 hown4 hgrow4 hat4 hlt4; have HO4 : Hid ((w4.cell? ⟨Q, 0, none⟩ = some (.slice ad txt.length c) ∧ w4.frozen? ⟨Q, 0, none⟩ = false ∧ Q < w4.heap.size) ∧ DST Bd w0 Q M om (txt ++ [32]) (.slice (some ⟨g4, 0, none⟩) (txt.length + 1) cap4) (w4.setCell ⟨Q, 0, none⟩ (.slice (some ⟨g4, 0, none⟩) (txt.length + 1) cap4))) := HD.out.text (below_gr hsz HRw.out hgrow4) (by rw [List.length_append, bc_app]; exact hown4); have HK4 : Hid (KO Q w w4) := ko_gr HRw.out hgrow4; clear hown4 hgrow4 hat4 hlt4; refine Hid.out ?_)
  refine Lib.hid ?_
  clear k0 f0
  obtain ⟨⟨k0, f0, hQ4⟩, hD4⟩ := HO4.out
  obtain ⟨W5, hW5⟩ : ∃ W, w4.setCell ⟨Q, 0, none⟩ (.slice (some ⟨g4, 0, none⟩) (txt.length + 1) cap4) = W := ⟨_, rfl⟩
  have HK5 : Hid (KO Q w W5) := by rw [← hW5]; exact ko_set HK4.out
  rw [hW5] at hD4
  have HD5 : Hid (DST Bd w0 Q M om (txt ++ [32]) (.slice (some ⟨g4, 0, none⟩) (txt.length + 1) cap4) W5) := hD4
  obtain ⟨m0, g0, m1, hQ5⟩ := hD4.cell
  have HR5 : Hid (W5.ownsRow Bd 5 1 (.slice (some ⟨g4, 0, none⟩) (txt.length + 1) cap4) (txt.length + 1) (Lib.byteCells (txt ++ [32]))) := by
    have h7 := hD4.row
    rw [List.length_append] at h7
    exact h7
  have hs5 := hD4.sz
  clear hD4 HO4 HD
  have HCB : Hid (Lib.strCells s = Lib.byteCells s.data.toList ∧ s.size = s.data.toList.length) := ⟨rfl, Lib.size_eq s⟩
  go_wp2_with (at_builtin; refine wpList_append_own_string _ rfl _ _ 52 9 rfl Bd 5 i0 Tryz.underlying52 Tryz.underlying9 hi hz0 hz1 hz2 _ _ _ rfl HR5.out s rfl (by unfold maxLen; omega) (by omega) hs5 ?_; intro v6 w6 hown6 hgrow6 hnil6; have HO6 : Hid ((∃ a6 c6, v6 = .slice a6 (txt.length + 1 + s.size) c6) ∧ (w6.cell? ⟨Q, 0, none⟩ = some (.slice (some ⟨g4, 0, none⟩) (txt.length + 1) cap4) ∧ w6.frozen? ⟨Q, 0, none⟩ = false ∧ Q < w6.heap.size) ∧ DST Bd w0 Q M om (txt ++ 32 :: s.data.toList) v6 (w6.setCell ⟨Q, 0, none⟩ v6)) := ⟨own_form hown6, HD5.out.text (below_gs hs5 HR5.out hgrow6) (by rw [show txt ++ 32 :: s.data.toList = (txt ++ [32]) ++ s.data.toList by simp, bc_app, List.length_append, List.length_append, ← HCB.out.2, ← HCB.out.1]; exact hown6)⟩; have HK6 : Hid (KO Q W5 w6) := ko_gs HR5.out hgrow6; clear hown6 hgrow6 hnil6; refine Hid.out ?_)
  refine Lib.hid ?_
  obtain ⟨⟨a6, c6, e6⟩, ⟨n0, l0, hQ6⟩, hD6⟩ := HO6.out
  have HD6 : Hid (PP (.returned (.tuple #[])) (w6.setCell ⟨Q, 0, none⟩ v6)) := HPP.out _ _ hD6 (ko_set (HK5.out.trans HK6.out))
  clear hD6 HO6 HD5 HR5 m0 g0
  generalize txt.length + 1 + s.size = z6 at *
  subst e6
  go_wp2_with fail
  first | exact HD6.out | (go_end0; exact HD6.out)
theorem DST.over {Bd : Nat} {w0 : World} {Q M : Nat} {om : Obj} {txt : List UInt8} {v : Value} {w w' : World} (h : DST Bd w0 Q M om txt v w) (hb : Below w.heap.size w w') : DST Bd w0 Q M om txt v w' := by
  have hs := h.sz
  refine ⟨(hb.block Q (by have := h.qB; omega)).trans h.blk, ?_, (hb.block M (by have := h.mB; omega)).trans h.mo, h.qB, h.mB, h.qm, Nat.le_trans hs hb.size, hb.os.trans h.os, hb.tape.trans h.tape, hb.output.trans h.output, fun k hk h1 h2 => (hb.block k (by omega)).trans (h.kp k hk h1 h2)⟩
  refine ⟨h.row.1, ?_⟩
  rcases h.row.2 with h0 | ⟨g, cap, cur, e, h2, h3, h4⟩
  · exact Or.inl h0
  · exact Or.inr ⟨g, cap, cur, e, h2, (hb.block g (Array.getElem?_eq_some_iff.1 h3).1).trans h3, h4⟩
theorem wordB_len (op : Nat) : (wordB op).length ≤ 5 := by
  by_cases h : op < 34
  · have : ∀ k : Fin 34, (wordB k.val).length ≤ 5 := by decide
    exact this ⟨op, h⟩
  · unfold wordB
    rw [List.getD_eq_getElem?_getD, List.getElem?_eq_none (by simp; omega)]
    simp
/-- what the printer reads besides -/
structure ENVD (Bd : Nat) (w : World) : Prop where
  pow : PowT Bd w
  env : ENVT w
  wds : ∀ op : Nat, op < 34 → w.cell? ⟨0, op, none⟩ = some (.string ⟨(wordB op).toArray⟩)
set_option maxHeartbeats 4000000 in
theorem line_any (Bd : Nat) (w0 : World) (Q M : Nat) (om : Obj) (txt : List UInt8) (v : Value) (w : World) (t x : Int) (h0 : -9223372036854775808 ≤ x) (h1 : x ≤ 9223372036854775807) (h : DST Bd w0 Q M om txt v w) (hT : ∀ W v txt, DST Bd w0 Q M om txt v W → PowT Bd W) (hl : txt.length ≤ 1099511627776)
    (hlk : (Instr.lookup 51 (.map (some M)) (.int .i64 t) false).run Tryz.prog w = .ok (.int .i64 x) w) :
    Calls Tryz.prog 21 #[.pointer (some ⟨Q, 0, none⟩), .int .i64 t] w fun e w' => e = .returned (.tuple #[]) ∧ ∃ v', DST Bd w0 Q M om (txt ++ 32 :: Lib.itoa x) v' w' ∧ KO Q w w' := by
  have HN : Hid (Calls Tryz.prog 34 #[.pointer (some ⟨Q, 0, none⟩), .int .i64 x] w fun e w' => e = .returned (.tuple #[]) ∧ ∃ v', DST Bd w0 Q M om (txt ++ 32 :: Lib.itoa x) v' w' ∧ KO Q w w') := numberD_any Bd w0 Q M om txt v w x h0 h1 h hT hl
  obtain ⟨k0, f0, k1, hQ⟩ := h.cell
  clear h hT
  generalize hPP : (fun (e : Ending) (w' : World) => e = .returned (.tuple #[]) ∧ ∃ v', DST Bd w0 Q M om (txt ++ 32 :: Lib.itoa x) v' w' ∧ KO Q w w') = PP at *
  go_enter Tryz.func21, Tryz.ntmps21
  go_wp2_with fail
  refine HN.out.mono ?_
  rw [← hPP]
  rintro e w1 ⟨rfl, hD⟩
  have HD : Hid (PP (.returned (.tuple #[])) w1) := by rw [← hPP]; exact ⟨rfl, hD⟩
  clear hD
  rw [hPP]
  go_wp2_with fail
  first | exact HD.out | (go_end0; exact HD.out)
end Go.Proofs.YtobgedjpghokcaaGreatDoor
