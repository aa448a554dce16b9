import Derived.Test.YtfpmacnbfbcjgaaRows
import Derived.WalkKit
import Derived.ProofKit
import Derived.OpenShut
import Derived.ShutString
import Derived.Below
namespace Go.Proofs.Ytfpmacnbfbcjgaa
open Go.ChangeShapes Go.WideShapes Go.ChangeAt Go.RowKit
theorem new_no (vars : Int) (h : vars < 0 ∨ 1048576 < vars) (w : World) :
    Calls Try.prog 21 #[.int .i64 vars] w fun e w' => e = .returned (.tuple #[.pointer none, .int .i64 21]) ∧ w' = w := by
  by_cases h1 : vars < 0
  · go_enter Try.func21, Try.ntmps21
    go_wp2
    go_ret2
    exact ⟨rfl, rfl⟩
  · have h2 : 1048576 < vars := by omega
    go_enter Try.func21, Try.ntmps21
    go_wp2
    go_ret2
    exact ⟨rfl, rfl⟩
def EngB (w : World) (g : Nat) (n : Nat) : Prop := ∃ (a b c : Nat), w.heap[g]? = some (.cells #[.slice none 0 0, .slice none 0 0, .int .i64 0, .slice (some ⟨a, 0, none⟩) (2 * n + 2) (2 * n + 2), .slice (some ⟨b, 0, none⟩) (n + 1) (n + 1), .slice (some ⟨c, 0, none⟩) (2 * n + 2) (2 * n + 2), .slice none 0 0, .int .i64 0, .slice none 0 0, .slice none 0 0, .int .i64 0, .int .i32 (-1)] 64 (0, 0))
theorem heap_alloc_at (w : World) (o : Obj) : (w.alloc o).heap[w.heap.size]? = some o := heap_alloc_new w o
theorem sz1 (w : World) (o : Obj) : (w.alloc o).heap.size = w.heap.size + 1 := by simp
theorem at4 (w : World) (a b c : Obj) (d : Array Value) {t : TypeId} : ((((w.alloc a).alloc b).alloc c).alloc (.cells d t)).drew.heap[w.heap.size + 1 + 1 + 1]? = some (.cells d t (0, 0)) := by
  have := heap_alloc_at (((w.alloc a).alloc b).alloc c) (Obj.cells d t)
  rw [sz1, sz1, sz1] at this
  exact this
theorem below4 (w : World) (a b c d : Obj) : Below w.heap.size w ((((w.alloc a).alloc b).alloc c).alloc d).drew :=
  ((((((Below.refl _ _).alloc (Nat.le_refl _) a).alloc (by rw [sz1]; omega) b).alloc (by rw [sz1, sz1]; omega) c).alloc (by rw [sz1, sz1, sz1]; omega) d)).drew
theorem new_ok (n : Nat) (h1 : n ≤ 1048576) (w : World) :
    Calls Try.prog 21 #[.int .i64 (n : Int)] w fun e w' => ∃ g, e = .returned (.tuple #[.pointer (some ⟨g, 0, none⟩), .int .i64 0]) ∧ EngB w' g n ∧ Below w.heap.size w w' := by
  obtain ⟨i1, hi1, hz1, hs1, hb1⟩ := info_parts (P := Try.prog) (e := 69) (z := .int .i8 0) (size := 1) (bytes := 1) (by kernel_rfl)
  have e1 : ∀ W : World, (Instr.makeSlice 59 (.int .i64 (2 * (n : Int) + 2)) (.int .i64 (2 * (n : Int) + 2))).run Try.prog W = .ok (.slice (some ⟨W.heap.size, 0, none⟩) (2 * n + 2) (2 * n + 2)) (W.alloc (.cells (madeCells (Value.int .i8 0).cells ((2 * n + 2) * 1)) 69)) := fun W => by
    have := run_make (P := Try.prog) (w := W) 59 69 i1 (.int .i8 0) Try.underlying59 hi1 hz1 .i64 .i64 (2 * (n : Int) + 2) (2 * (n : Int) + 2) (by omega) (by omega) (by rw [hb1]; omega) (by omega)
    rw [this, hs1, show (2 * (n : Int) + 2 : Int).toNat = 2 * n + 2 by omega]
  obtain ⟨i2, hi2, hz2, hs2, hb2⟩ := info_parts (P := Try.prog) (e := 91) (z := .agg #[.int .i32 0, .int .i32 0]) (size := 2) (bytes := 8) (by kernel_rfl)
  have e2 : ∀ W : World, (Instr.makeSlice 60 (.int .i64 ((n : Int) + 1)) (.int .i64 ((n : Int) + 1))).run Try.prog W = .ok (.slice (some ⟨W.heap.size, 0, none⟩) (n + 1) (n + 1)) (W.alloc (.cells (madeCells (Value.agg #[.int .i32 0, .int .i32 0]).cells ((n + 1) * 2)) 91)) := fun W => by
    have := run_make (P := Try.prog) (w := W) 60 91 i2 (.agg #[.int .i32 0, .int .i32 0]) Try.underlying60 hi2 hz2 .i64 .i64 ((n : Int) + 1) ((n : Int) + 1) (by omega) (by omega) (by rw [hb2]; omega) (by omega)
    rw [this, hs2, show ((n : Int) + 1 : Int).toNat = n + 1 by omega]
  obtain ⟨i3, hi3, hz3, hs3, hb3⟩ := info_parts (P := Try.prog) (e := 85) (z := .slice none 0 0) (size := 1) (bytes := 24) (by kernel_rfl)
  have e3 : ∀ W : World, (Instr.makeSlice 61 (.int .i64 (2 * (n : Int) + 2)) (.int .i64 (2 * (n : Int) + 2))).run Try.prog W = .ok (.slice (some ⟨W.heap.size, 0, none⟩) (2 * n + 2) (2 * n + 2)) (W.alloc (.cells (madeCells (Value.slice none 0 0).cells ((2 * n + 2) * 1)) 85)) := fun W => by
    have := run_make (P := Try.prog) (w := W) 61 85 i3 (.slice none 0 0) Try.underlying61 hi3 hz3 .i64 .i64 (2 * (n : Int) + 2) (2 * (n : Int) + 2) (by omega) (by omega) (by rw [hb3]; omega) (by omega)
    rw [this, hs3, show (2 * (n : Int) + 2 : Int).toNat = 2 * n + 2 by omega]
  generalize hA : madeCells (Value.int .i8 0).cells ((2 * n + 2) * 1) = A at *
  have hA0 : 0 < A.size := by rw [← hA, size_madeCells]; omega
  clear hA
  generalize madeCells (Value.agg #[.int .i32 0, .int .i32 0]).cells ((n + 1) * 2) = B at *
  generalize madeCells (Value.slice none 0 0).cells ((2 * n + 2) * 1) = C at *
  clear hi1 hz1 hs1 hb1 hi2 hz2 hs2 hb2 hi3 hz3 hs3 hb3
  go_enter Try.func21, Try.ntmps21
  go_wp2
  go_region
  all_goals
    go_wp2
    go_ret2
    exact ⟨_, rfl, ⟨_, _, _, at4 _ _ _ _ _⟩, below4 _ _ _ _ _⟩
theorem blk_cell {w : World} {G : Nat} {cs : Array Value} {e : TypeId} (h : w.heap[G]? = some (.cells cs e (0, 0))) (j : Nat) : w.cell? ⟨G, j, none⟩ = cs[j]? := by
  simp [World.cell?, h]
theorem level_any (g : Nat) (ad : Option Addr) (n c : Nat) (w : World) (h : w.cell? ⟨g, 8, none⟩ = some (.slice ad n c)) :
    Calls Try.prog 17 #[.pointer (some ⟨g, 0, none⟩)] w fun e w' => e = .returned (.int .i64 n) ∧ w' = w := by
  go_enter Try.func17, Try.ntmps17
  go_wp2
  go_ret
  exact ⟨rfl, rfl⟩
theorem vars_any (g : Nat) (ad : Option Addr) (n c : Nat) (w : World) (h : w.cell? ⟨g, 4, none⟩ = some (.slice ad (n + 1) c)) (hn : n ≤ 1048576) :
    Calls Try.prog 44 #[.pointer (some ⟨g, 0, none⟩)] w fun e w' => e = .returned (.int .i64 n) ∧ w' = w := by
  go_enter Try.func44, Try.ntmps44
  go_wp2
  go_ret
  exact ⟨by simp, rfl⟩
end Go.Proofs.Ytfpmacnbfbcjgaa
