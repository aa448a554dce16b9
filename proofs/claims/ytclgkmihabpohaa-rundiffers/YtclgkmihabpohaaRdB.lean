import Derived.Test.YtclgkmihabpohaaRdA
namespace Go.Proofs.Ytclgkmihabpohaa
open Go.ChangeShapes Go.WideShapes Go.ChangeAt Go.RowKit Go.Lib

theorem bel1 (w : World) (o : Obj) : Below w.heap.size w (w.alloc o) := (Below.refl _ _).alloc (Nat.le_refl _) _
theorem belD (w : World) (o : Obj) (m : Nat) : Below w.heap.size w ((w.alloc o).drewN m) := (bel1 w o).trans ⟨rfl, rfl, rfl, by simp, fun _ _ => rfl⟩
theorem nx {w w1 w2 : World} (h : Below w.heap.size w w1) (h2 : Below w1.heap.size w1 w2) : Below w.heap.size w w2 := h.trans (h2.mono h.size)
set_option maxHeartbeats 4000000 in
theorem holds_any (w : World) (C : Nat) (a : Option Addr) (t : List S3) (c k : Nat) (x : S3) (hc : w.cell? ⟨C, 0, none⟩ = some (.slice a t.length c)) (ht : EVS w a t) (r : Bool) (hr : decide (k < t.length ∧ t.getD k z3 = x) = r) :
    Calls Try.prog 8 #[.pointer (some ⟨C, 0, none⟩), .int .i64 k, evV x] w fun e w' => e = .returned (.bool r) ∧ Below w.heap.size w w' := by
  have hlt : C < w.heap.size := block_lt_of_cell (a := ⟨C, 0, none⟩) hc
  have hcb : ∀ o m, ((w.alloc o).drewN m).cell? ⟨C, 0, none⟩ = some (.slice a t.length c) := fun o m => ((belD w o m).cell (p := ⟨C, 0, none⟩) hlt).trans hc
  have HC : Hid (∀ o m, Calls Try.prog 9 #[.pointer (some ⟨C, 0, none⟩), .int .i64 k] ((w.alloc o).drewN m) fun e w' => e = .returned (.bool (decide (k < t.length))) ∧ w' = (w.alloc o).drewN m) := fun o m => has_any _ C a t.length c k (hcb o m)
  by_cases h : k < t.length
  · have hk : decide (k < t.length) = true := by simp [h]
    rw [hk] at HC
    obtain ⟨b, off, rfl, hb, hcs⟩ := ht (by omega)
    obtain ⟨c0, c1, c2⟩ := hcs k h
    have hr2 : decide (t.getD k z3 = x) = r := by rw [← hr]; simp [h]
    generalize t.getD k z3 = y at *
    generalize t.length = n at *
    obtain ⟨x0, x1, x2⟩ := x
    obtain ⟨y0, y1, y2⟩ := y
    have HE := eq_e y0 y1 y2 x0 x1 x2 r hr2
    clear hr hr2 hk hcs ht
    dsimp only at *
    have d0 : (w.alloc (.cells #[.int .i64 x0, .int .u64 x1, .int .u64 x2] 30)).cell? ⟨C, 0, none⟩ = some (.slice (some ⟨b, off, none⟩) n c) := hcb _ 0
    have d1 : (w.alloc (.cells #[.int .i64 x0, .int .u64 x1, .int .u64 x2] 30)).cell? ⟨b, off + k * 3, none⟩ = some (.int .i64 y0) := ((bel1 w _).cell (p := ⟨b, _, none⟩) hb).trans c0
    have d2 : (w.alloc (.cells #[.int .i64 x0, .int .u64 x1, .int .u64 x2] 30)).cell? ⟨b, off + k * 3 + 1, none⟩ = some (.int .u64 y1) := ((bel1 w _).cell (p := ⟨b, _, none⟩) hb).trans c1
    have d3 : (w.alloc (.cells #[.int .i64 x0, .int .u64 x1, .int .u64 x2] 30)).cell? ⟨b, off + k * 3 + 2, none⟩ = some (.int .u64 y2) := ((bel1 w _).cell (p := ⟨b, _, none⟩) hb).trans c2
    have q : (k : Int) < (n : Int) := by omega
    clear hcb hc hlt c0 c1 c2 hb
    go_enter Try.func8, Try.ntmps8
    go_wp2_with fail
    go_big_quiet ((go_at_call 9; exact Calls.quiet_of_same (HC.out _ _)))
    go_wp2_with fail
    go_ret
    exact ⟨rfl, belD _ _ _⟩
  · have hk : decide (k < t.length) = false := by simp [h]
    rw [hk] at HC
    have hr2 : r = false := by rw [← hr]; simp [h]
    subst hr2
    obtain ⟨x0, x1, x2⟩ := x
    clear hr hk hcb hc hlt ht h
    generalize t.length = n at *
    go_enter Try.func8, Try.ntmps8
    go_wp2_with fail
    go_big_quiet ((go_at_call 9; exact Calls.quiet_of_same (HC.out _ _)))
    go_wp2_with fail
    go_ret
    exact ⟨rfl, belD _ _ _⟩
end Go.Proofs.Ytclgkmihabpohaa
