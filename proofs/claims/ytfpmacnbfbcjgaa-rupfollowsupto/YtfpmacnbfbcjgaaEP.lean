import Derived.Test.YtfpmacnbfbcjgaaEO
namespace Go.Proofs.Ytfpmacnbfbcjgaa
open Go.ChangeShapes Go.WideShapes Go.ChangeAt Go.RowKit
open Go.Pr
theorem new_mem (n : Nat) (h1 : n ≤ 1048576) (w : World) :
    Calls Try.prog 21 #[.int .i64 (n : Int)] w fun e w' => ∃ g O p, e = .returned (.tuple #[.pointer (some ⟨g, 0, none⟩), .int .i64 0]) ∧ Mem w' g O (es0 n) p ∧ (∀ k, O k → w.heap.size ≤ k) ∧ Below w.heap.size w w' := by
  obtain ⟨i1, hi1, hz1, hs1, hb1⟩ := info_parts (P := Try.prog) (e := 69) (z := .int .i8 0) (size := 1) (bytes := 1) (by kernel_rfl)
  have e1 : ∀ W : World, (Instr.makeSlice 59 (.int .i64 (2 * (n : Int) + 2)) (.int .i64 (2 * (n : Int) + 2))).run Try.prog W = .ok (.slice (some ⟨W.heap.size, 0, none⟩) (2 * n + 2) (2 * n + 2)) (W.alloc (.cells (madeCells (Value.int .i8 0).cells ((2 * n + 2) * 1)) 69)) := fun W => by
    have := run_make (P := Try.prog) (w := W) 59 69 i1 (.int .i8 0) Try.underlying59 hi1 hz1 .i64 .i64 (2 * (n : Int) + 2) (2 * (n : Int) + 2) (by omega) (by omega) (by rw [hb1]; omega) (by omega)
    rw [this, hs1, show (2 * (n : Int) + 2 : Int).toNat = 2 * n + 2 by omega]
  obtain ⟨i2, hi2, hz2, hs2, hb2⟩ := info_parts (P := Try.prog) (e := 91) (z := .agg #[.int .i32 0, .int .i32 0]) (size := 2) (bytes := 8) (by kernel_rfl)
  have e2 : ∀ W : World, (Instr.makeSlice 60 (.int .i64 ((n : Int) + 1)) (.int .i64 ((n : Int) + 1))).run Try.prog W = .ok (.slice (some ⟨W.heap.size, 0, none⟩) (n + 1) (n + 1)) (W.alloc (.cells (madeCells (Value.agg #[.int .i32 0, .int .i32 0]).cells ((n + 1) * 2)) 91)) := fun W => by
    have := run_make (P := Try.prog) (w := W) 60 91 i2 (.agg #[.int .i32 0, .int .i32 0]) Try.underlying60 hi2 hz2 .i64 .i64 ((n : Int) + 1) ((n : Int) + 1) (by omega) (by omega) (by rw [hb2]; omega) (by omega)
    rw [this, hs2, show ((n : Int) + 1 : Int).toNat = n + 1 by omega]
  obtain ⟨i3, hi3, hz3, hs3, hb3⟩ := info_parts (P := Try.prog) (e := 85) (z := .slice none 0 0) (size := 1) (bytes := 24) (by kernel_rfl)
  have e3 : ∀ W : World, (Instr.makeSlice 61 (.int .i64 (2 * (n : Int) + 2)) (.int .i64 (2 * (n : Int) + 2))).run Try.prog W = .ok (.slice (some ⟨W.heap.size, 0, none⟩) (2 * n + 2) (2 * n + 2)) (W.alloc (.cells (madeCells (Value.slice none 0 0).cells ((2 * n + 2) * 1)) 85)) := fun W => by
    have := run_make (P := Try.prog) (w := W) 61 85 i3 (.slice none 0 0) Try.underlying61 hi3 hz3 .i64 .i64 (2 * (n : Int) + 2) (2 * (n : Int) + 2) (by omega) (by omega) (by rw [hb3]; omega) (by omega)
    rw [this, hs3, show (2 * (n : Int) + 2 : Int).toNat = 2 * n + 2 by omega]
  have HA : Hid ((madeCells (Value.int .i8 0).cells ((2 * n + 2) * 1)).toList = List.replicate (2 * n + 2) (.int .i8 0)) := by
    have := toList_madeCells_one (.int .i8 0) ((2 * n + 2) * 1)
    rw [Nat.mul_one] at this ⊢
    exact this
  have HB : Hid ((madeCells (Value.agg #[.int .i32 0, .int .i32 0]).cells ((n + 1) * 2)).toList = (List.replicate (n + 1) [Value.int .i32 0, .int .i32 0]).flatten) := made_two _ _ _
  have HC : Hid ((madeCells (Value.slice none 0 0).cells ((2 * n + 2) * 1)).toList = List.replicate (2 * n + 2) (.slice none 0 0)) := by
    have := toList_madeCells_one (.slice none 0 0) ((2 * n + 2) * 1)
    rw [Nat.mul_one] at this ⊢
    exact this
  generalize hA : madeCells (Value.int .i8 0).cells ((2 * n + 2) * 1) = A at *
  have hA0 : 0 < A.size := by rw [← hA, size_madeCells]; omega
  clear hA
  generalize madeCells (Value.agg #[.int .i32 0, .int .i32 0]).cells ((n + 1) * 2) = B at *
  generalize madeCells (Value.slice none 0 0).cells ((2 * n + 2) * 1) = C at *
  clear hi1 hz1 hs1 hb1 hi2 hz2 hs2 hb2 hi3 hz3 hs3 hb3
  go_enter Try.func21, Try.ntmps21
  go_wp2
  go_region
  all_goals
    go_wp2
    go_ret2
    refine ⟨_, _, _, rfl, mem0 (A := A.setIfInBounds 0 (Value.int .i8 (-1))) (B := B) (C := C) h1 ?_ ?_ ?_ (at4 _ _ _ _ _) ?_ HB.out HC.out, ?_, below4 _ _ _ _ _⟩
    · first | exact at_0 _ _ _ _ _ | exact at_1 _ _ _ _ _ | exact at_2 _ _ _ _ _
    · first | exact at_0 _ _ _ _ _ | exact at_1 _ _ _ _ _ | exact at_2 _ _ _ _ _
    · first | exact at_0 _ _ _ _ _ | exact at_1 _ _ _ _ _ | exact at_2 _ _ _ _ _
    · rw [Array.toList_setIfInBounds, HA.out, List.replicate_succ]
      rfl
    · intro k hk
      rcases hk with e | e | e | e <;> omega
end Go.Proofs.Ytfpmacnbfbcjgaa
