import Derived.Test.YtmllpioicbllnaaNewW
import Derived.Deep.Draws
import Derived.Deep.QuietTactic
namespace Go.Proofs.Ytmllpioicbllnaa
open Go.ChangeShapes Go.WideShapes Go.ChangeAt Go.RowKit
theorem below_next {w w1 w2 : World} (h : Below w.heap.size w w1) (h2 : Below w1.heap.size w1 w2) : Below w.heap.size w w2 := h.trans (h2.mono h.size)
def RefB (w : World) (r n : Nat) : Prop := w.heap[r]? = some (.cells #[.int .i64 n, .int .i64 0, .int .i64 0, .slice none 0 0, .slice none 0 0, .bool false] 37 (0, 0))
theorem EngB.below {w w' : World} {g n : Nat} (h : EngB w g n) (hb : Below w.heap.size w w') : EngB w' g n := by
  obtain ⟨a, b, c, he⟩ := h
  refine ⟨a, b, c, (hb.block g ?_).trans he⟩
  by_cases hg : g < w.heap.size
  · exact hg
  · rw [Array.getElem?_eq_none (by omega)] at he; cases he
theorem RefB.below {w w' : World} {r n : Nat} (h : RefB w r n) (hb : Below w.heap.size w w') : RefB w' r n := by
  have he : w.heap[r]? = _ := h
  refine (hb.block r ?_).trans h
  by_cases hg : r < w.heap.size
  · exact hg
  · rw [Array.getElem?_eq_none (by omega)] at he; cases he
theorem Below.drewNN {w w' : World} {k m : Nat} (h : Below k w w') : Below k w (w'.drewN m) := ⟨h.os, h.tape, h.output, h.size, h.block⟩
set_option maxHeartbeats 4000000 in
theorem step6 (g r n : Nat) (w : World) (h : EngB w g n) (hr : RefB w r n) (hn : n ≤ 1048576) :
    Calls Try.prog 10 #[.pointer (some ⟨g, 0, none⟩), .pointer (some ⟨r, 0, none⟩), .agg #[.int .i64 6, .int .i64 0, .slice none 0 0]] w fun e w' => e = .returned (.bool true) ∧ Below w.heap.size w w' := by
  have HBa : Hid (Below w.heap.size w (w.alloc (.cells #[.int .i64 6, .int .i64 0, .slice none 0 0] 29))) := (Below.refl _ _).alloc (Nat.le_refl _) _
  have h' : EngB (w.alloc (.cells #[.int .i64 6, .int .i64 0, .slice none 0 0] 29)) g n := h.below HBa.out
  have hr' : RefB (w.alloc (.cells #[.int .i64 6, .int .i64 0, .slice none 0 0] 29)) r n := hr.below HBa.out
  clear h hr
  go_enter Try.func10, Try.ntmps10
  go_wp2
  generalize w.alloc (.cells #[.int .i64 6, .int .i64 0, .slice none 0 0] 29) = W at *
  obtain ⟨a, b, c, he⟩ := h'
  have HL : Hid (∀ m, Calls Try.prog 28 #[.pointer (some ⟨g, 0, none⟩)] (W.drewN m) fun e w' => e = .returned (.int .i64 0) ∧ w' = W.drewN m) := fun m => level_any g none 0 0 (W.drewN m) (blk_cell (w := W) he 8)
  have HV : Hid (∀ m, Calls Try.prog 29 #[.pointer (some ⟨g, 0, none⟩)] (W.drewN m) fun e w' => e = .returned (.int .i64 n) ∧ w' = W.drewN m) := fun m => vars_any g _ n _ (W.drewN m) (blk_cell (w := W) he 4) hn
  have HC : Hid (∀ m, Calls Try.prog 30 #[.pointer (some ⟨g, 0, none⟩)] (W.drewN m) fun e w' => e = .returned (.int .i64 0) ∧ w' = W.drewN m) := fun m => clauses_any g none 0 0 (W.drewN m) (blk_cell (w := W) he 1)
  have c0 : W.cell? ⟨r, 0, none⟩ = some (.int .i64 n) := blk_cell hr' 0
  have c1 : W.cell? ⟨r, 1, none⟩ = some (.int .i64 0) := blk_cell hr' 1
  have c3 : W.cell? ⟨r, 3, none⟩ = some (.slice none 0 0) := blk_cell hr' 3
  clear he hr'
  go_quiet (first | (go_at_call 28; exact Calls.quiet_of_same (HL.out _)) | (go_at_call 29; exact Calls.quiet_of_same (HV.out _)) | (go_at_call 30; exact Calls.quiet_of_same (HC.out _)))
  go_wp2
  go_ret
  exact ⟨rfl, Below.drewNN HBa.out⟩
theorem both_no (vars : Int) (h : vars < 0 ∨ 1048576 < vars) (w : World) :
    Calls Try.prog 9 #[.int .i64 vars] w fun e w' => e = .returned (.tuple #[.pointer none, .pointer none, .bool true]) ∧ Below w.heap.size w w' := by
  have HA : Hid (∀ W, Calls Try.prog 14 #[.int .i64 vars] W fun e w' => e = .returned (.tuple #[.pointer none, .int .i64 21]) ∧ w' = W) := fun W => new_no vars h W
  have HB : Hid (∀ W, Calls Try.prog 15 #[.int .i64 vars] W fun e w' => e = .returned (.tuple #[.pointer none, .int .i64 21]) ∧ w' = W) := fun W => rnew_no vars h W
  go_enter Try.func9, Try.ntmps9
  go_wp2_with fail
  refine (HA.out _).mono ?_
  rintro e w' ⟨rfl, hw⟩
  obtain rfl := hw.symm
  go_wp2_with fail
  refine (HB.out _).mono ?_
  rintro e w' ⟨rfl, hw⟩
  obtain rfl := hw.symm
  go_wp2
  go_ret3
  exact ⟨rfl, Below.refl _ _⟩
theorem both_ok (n : Nat) (h : n ≤ 1048576) (w : World) :
    Calls Try.prog 9 #[.int .i64 (n : Int)] w fun e w' => ∃ g r, e = .returned (.tuple #[.pointer (some ⟨g, 0, none⟩), .pointer (some ⟨r, 0, none⟩), .bool true]) ∧ EngB w' g n ∧ RefB w' r n ∧ Below w.heap.size w w' := by
  go_enter Try.func9, Try.ntmps9
  go_wp2_with fail
  refine (new_ok n h w).mono ?_
  rintro e w1 ⟨g, rfl, hg, hb⟩
  go_wp2_with fail
  refine (rnew_ok n h w1).mono ?_
  rintro e w2 ⟨r, rfl, hr, hb2⟩
  go_wp2
  go_ret3
  exact ⟨g, r, rfl, hg.below hb2, hr, below_next hb hb2⟩
theorem makes_walk (vars : Int) (w : World) :
    Calls Try.prog 3 #[.int .i64 vars] w fun e w' => e = .returned (.bool true) ∧ Below w.heap.size w w' := by
  by_cases h : vars < 0 ∨ 1048576 < vars
  · go_enter Try.func3, Try.ntmps3
    go_wp2_with fail
    refine (both_no vars h w).mono ?_
    rintro e w1 ⟨rfl, hb⟩
    go_wp2
    go_ret
    exact ⟨rfl, hb⟩
  · obtain ⟨n, rfl⟩ : ∃ n : Nat, vars = n := ⟨vars.toNat, by omega⟩
    have hn : n ≤ 1048576 := by omega
    go_enter Try.func3, Try.ntmps3
    go_wp2_with fail
    refine (both_ok n hn w).mono ?_
    rintro e w1 ⟨g, r, rfl, hg, hr, hb⟩
    go_wp2_with fail
    refine (step6 g r n w1 hg hr hn).mono ?_
    rintro e w2 ⟨rfl, hb2⟩
    go_wp2
    go_ret
    exact ⟨rfl, below_next hb hb2⟩
end Go.Proofs.Ytmllpioicbllnaa
