import Derived.Test.YtjdgcfedpinopabDoorFormat
namespace Go.Bd
theorem digs_len (b n : Nat) : ∀ (x : Nat) (out : List UInt8), (digs b n x out).length ≤ n + out.length := by
  induction n with
  | zero => intro x out; simp [digs]
  | succ n ih =>
    intro x out
    unfold digs
    split
    · simp; omega
    · have := ih (x / b) (dg (x % b) :: out); simp at this; omega
end Go.Bd
namespace Go.Proofs.YtjdgcfedpinopabDoor
open Go.ChangeShapes Go.WideShapes Go.ChangeAt Go.RowKit Go.Bd Go.Lib
theorem scfu_16 (X : Nat) (w : World) (hX : X < 18446744073709551616) (hc : w.cell? ⟨4, 15, none⟩ = some (.int .u8 4)) :
    Calls Tryd.prog 13 #[.int .u64 X, .int .i64 16] w fun e w' => e = .returned (.string ⟨(digs 16 16 X []).toArray⟩) ∧ Below w.heap.size w w' := by
  have H : Hid (Calls Tryd.prog 24 #[.int .u64 X, .int .i64 16] w fun e w' => e = .returned (.string ⟨(digs 16 16 X []).toArray⟩) ∧ Below w.heap.size w w') := ifu_16 X w hX hc
  clear hc
  go_enter Tryd.func13, Tryd.ntmps13
  go_wp2_with fail
  refine H.out.mono ?_
  rintro e w' ⟨rfl, hb⟩
  have HB : Hid _ := hb
  clear hb
  go_wp2
  go_ret
  exact ⟨rfl, HB.out⟩
theorem scfu_10 (X : Nat) (w : World) (hX : X < 1000) (htab : Lib.TabIs Tryd.prog w "internal/strconv.uint64pow10" .u64 Lib.pow10Tab) :
    Calls Tryd.prog 13 #[.int .u64 X, .int .i64 10] w fun e w' => e = .returned (.string ⟨(Lib.decDigits X).toArray⟩) ∧ Below w.heap.size w w' := by
  have H : Hid (Calls Tryd.prog 24 #[.int .u64 X, .int .i64 10] w fun e w' => e = .returned (.string ⟨(Lib.decDigits X).toArray⟩) ∧ Below w.heap.size w w') := by
    by_cases h : X < 100
    · exact (ifu_small X w h).mono fun e w' ⟨he, hw⟩ => ⟨he, by rw [hw]; exact Below.refl _ _⟩
    · exact ifu_10 X w h hX htab
  clear htab
  go_enter Tryd.func13, Tryd.ntmps13
  go_wp2_with fail
  refine H.out.mono ?_
  rintro e w' ⟨rfl, hb⟩
  have HB : Hid _ := hb
  clear hb
  go_wp2
  go_ret
  exact ⟨rfl, HB.out⟩
set_option maxRecDepth 100000 in
theorem text_hex (X : Nat) (w : World) (hX : X < 18446744073709551616) (h1000 : 1000 ≤ X) (hc : w.cell? ⟨4, 15, none⟩ = some (.int .u8 4)) :
    Calls Tryd.prog 6 #[.int .u64 X] w fun e w' => e = .returned (.string ⟨(48 :: 120 :: digs 16 16 X []).toArray⟩) ∧ Below w.heap.size w w' := by
  have H : Hid (Calls Tryd.prog 13 #[.int .u64 X, .int .i64 16] w fun e w' => e = .returned (.string ⟨(digs 16 16 X []).toArray⟩) ∧ Below w.heap.size w w') := scfu_16 X w hX hc
  clear hc
  have hlen := digs_len 16 16 X []
  generalize digs 16 16 X [] = L at *
  have hcat : ∀ W, (Op.stringOp .add ⟨#[48, 120]⟩ ⟨L.toArray⟩).run Tryd.prog W = .ok (.string ⟨(48 :: 120 :: L).toArray⟩) W := fun W =>
    run_string_add_lists (P := Tryd.prog) W [48, 120] L (by simp) (by simp at hlen; omega)
  go_enter Tryd.func6, Tryd.ntmps6
  go_wp2_with fail
  refine H.out.mono ?_
  rintro e w' ⟨rfl, hb⟩
  have HB : Hid _ := hb
  clear hb
  go_wp2
  go_ret
  exact ⟨rfl, HB.out⟩
set_option maxRecDepth 100000 in
theorem text_dec (X : Nat) (w : World) (hX : X < 1000) (htab : Lib.TabIs Tryd.prog w "internal/strconv.uint64pow10" .u64 Lib.pow10Tab) :
    Calls Tryd.prog 6 #[.int .u64 X] w fun e w' => e = .returned (.string ⟨(Lib.decDigits X).toArray⟩) ∧ Below w.heap.size w w' := by
  have H : Hid (Calls Tryd.prog 13 #[.int .u64 X, .int .i64 10] w fun e w' => e = .returned (.string ⟨(Lib.decDigits X).toArray⟩) ∧ Below w.heap.size w w') := scfu_10 X w hX htab
  clear htab
  go_enter Tryd.func6, Tryd.ntmps6
  go_wp2_with fail
  refine H.out.mono ?_
  rintro e w' ⟨rfl, hb⟩
  have HB : Hid _ := hb
  clear hb
  go_wp2
  go_ret
  exact ⟨rfl, HB.out⟩
end Go.Proofs.YtjdgcfedpinopabDoor
