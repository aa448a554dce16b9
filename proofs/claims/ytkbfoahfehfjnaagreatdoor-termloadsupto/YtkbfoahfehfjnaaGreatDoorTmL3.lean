import Derived.Test.YtkbfoahfehfjnaaGreatDoorTmK0
import Derived.Test.YtkbfoahfehfjnaaGreatDoorTmL1
import Derived.Test.YtkbfoahfehfjnaaGreatDoorTmS
import Derived.Test.YtkbfoahfehfjnaaGreatDoorTmT
namespace Go.Proofs.YtkbfoahfehfjnaaGreatDoor
open Go.ChangeShapes Go.WideShapes Go.ChangeAt Go.RowKit Go.Lib Go.Tm Go.Bw Go.Bn Go.WideMaps Go.Maps Go.ChangeMaps

set_option maxHeartbeats 8000000 in
set_option maxRecDepth 100000 in
theorem rbad_x1 (B0 B : Nat) (lim : Int) (L : List Nd) (v : Value) (M1 M2 : Nat) (op u a b c num : Int) (nm : ByteArray) (w : World) (h : SM 36 w B0 B lim L v (some M1) (some M2)) (_hn : (⟨op, u, a, b, c, num, nm⟩ : Nd).ok) (hop : 1 ≤ op ∧ op ≤ 33) (hpt : pt op = 1) (hu : 0 ≤ u ∧ u ≤ 64) (hia : isT L a = true) (hP : hp L ⟨op, u, a, b, c, num, nm⟩ = true) (hBr : br ⟨op, u, a, b, c, num, nm⟩ = false) :
    Calls Tryz.prog 17 #[.pointer (some ⟨B, 0, none⟩), .agg #[.int .i64 op, .int .i64 u, .int .i64 a, .int .i64 b, .int .i64 c, .int .u64 num, .string nm]] w (MkP 36 w B0 B lim L v (some M1) (some M2) ⟨op, u, a, b, c, num, nm⟩) := by
  have HPt : Hid (∀ W, Calls Tryz.prog 29 #[.int .i64 op] W fun e w' => e = .returned (.int .i64 1) ∧ w' = W) := fun W => by
    have h1 := rparts_any op W
    have e : rpt op = 1 := by unfold rpt; rw [if_neg (by omega)]; exact hpt
    rw [e] at h1
    exact h1
  have HI : Hid (∀ o t, Calls Tryz.prog 30 #[.pointer (some ⟨B, 0, none⟩), .int .i64 t] (w.alloc o) fun e w' => e = .returned (.bool (isT L t)) ∧ w' = w.alloc o) := fun o t => is_any 36 B0 B lim L v (some M1) (some M2) t _ (h.below (bel1 w o))
  have HEx : Hid (∀ W, Calls Tryz.prog 31 #[.agg #[.int .i64 op, .int .i64 u, .int .i64 a, .int .i64 b, .int .i64 c, .int .u64 num, .string nm], .int .i64 1] W fun e w' => e = .returned (.bool (!br ⟨op, u, a, b, c, num, nm⟩)) ∧ Below W.heap.size W w') := fun W => by
    have h1 := extra_any ⟨op, u, a, b, c, num, nm⟩ W
    rw [show pt ((⟨op, u, a, b, c, num, nm⟩ : Nd)).op = 1 from hpt] at h1
    exact h1
  have qu1 : decide (u < 0) = false := decide_eq_false (by omega)
  have qu2 : decide (64 < u) = false := decide_eq_false (by omega)
  have HREF : Hid (∀ w' X, rfE L ⟨op, u, a, b, c, num, nm⟩ = X → X ≠ 0 → Below w.heap.size w w' → MkP 36 w B0 B lim L v (some M1) (some M2) ⟨op, u, a, b, c, num, nm⟩ (.returned (.tuple #[.int .i64 0, .int .i64 X])) w') := fun w' X hX h0 hb => by
    have := MkP.ref h (by rw [hX]; exact h0) hb
    rw [hX] at this
    exact this
  generalize hPP : MkP 36 w B0 B lim L v (some M1) (some M2) ⟨op, u, a, b, c, num, nm⟩ = PP at *
  have HX : Hid (rfE L ⟨op, u, a, b, c, num, nm⟩ = 1) := rfE_4 hop hu hP hBr
  rw [hBr] at HEx
  clear hPP hop hpt hu hP hBr h
  go_enter Tryz.func17, Tryz.ntmps17
  go_wp2_with (first | (go_at_call 29; refine (HPt.out _).mono ?_; rintro e w' ⟨rfl, rfl⟩) | (go_at_call 30; refine (HI.out _ _).mono ?_; rintro e w' ⟨rfl, rfl⟩))
  refine (HEx.out _).mono ?_
  rintro e w1 ⟨rfl, hb⟩
  have hb1 : Below w.heap.size w w1 := (bel1 _ _).trans (hb.mono (by simp))
  clear hb
  go_wp2
  first | exact HREF.out _ 1 HX.out (by decide) hb1 | (go_ret2; exact HREF.out _ 1 HX.out (by decide) hb1)
set_option maxHeartbeats 8000000 in
set_option maxRecDepth 100000 in
theorem rbad_s1 (B0 B : Nat) (lim : Int) (L : List Nd) (v : Value) (M1 M2 : Nat) (op u a b c num : Int) (nm : ByteArray) (w : World) (h : SM 36 w B0 B lim L v (some M1) (some M2)) (_hn : (⟨op, u, a, b, c, num, nm⟩ : Nd).ok) (hop : 1 ≤ op ∧ op ≤ 33) (hpt : pt op = 1) (hu : 0 ≤ u ∧ u ≤ 64) (hia : isT L a = true) (hP : hp L ⟨op, u, a, b, c, num, nm⟩ = true) (hBr : br ⟨op, u, a, b, c, num, nm⟩ = true) (hSf : sf op (wd L a) (wd L b) (wd L c) = false) :
    Calls Tryz.prog 17 #[.pointer (some ⟨B, 0, none⟩), .agg #[.int .i64 op, .int .i64 u, .int .i64 a, .int .i64 b, .int .i64 c, .int .u64 num, .string nm]] w (MkP 36 w B0 B lim L v (some M1) (some M2) ⟨op, u, a, b, c, num, nm⟩) := by
  have HPt : Hid (∀ W, Calls Tryz.prog 29 #[.int .i64 op] W fun e w' => e = .returned (.int .i64 1) ∧ w' = W) := fun W => by
    have h1 := rparts_any op W
    have e : rpt op = 1 := by unfold rpt; rw [if_neg (by omega)]; exact hpt
    rw [e] at h1
    exact h1
  have HI : Hid (∀ o t, Calls Tryz.prog 30 #[.pointer (some ⟨B, 0, none⟩), .int .i64 t] (w.alloc o) fun e w' => e = .returned (.bool (isT L t)) ∧ w' = w.alloc o) := fun o t => is_any 36 B0 B lim L v (some M1) (some M2) t _ (h.below (bel1 w o))
  have HEx : Hid (∀ W, Calls Tryz.prog 31 #[.agg #[.int .i64 op, .int .i64 u, .int .i64 a, .int .i64 b, .int .i64 c, .int .u64 num, .string nm], .int .i64 1] W fun e w' => e = .returned (.bool (!br ⟨op, u, a, b, c, num, nm⟩)) ∧ Below W.heap.size W w') := fun W => by
    have h1 := extra_any ⟨op, u, a, b, c, num, nm⟩ W
    rw [show pt ((⟨op, u, a, b, c, num, nm⟩ : Nd)).op = 1 from hpt] at h1
    exact h1
  have qu1 : decide (u < 0) = false := decide_eq_false (by omega)
  have qu2 : decide (64 < u) = false := decide_eq_false (by omega)
  have HSo : Hid (∀ W, Below w.heap.size w W → Calls Tryz.prog 32 #[.pointer (some ⟨B, 0, none⟩), .agg #[.int .i64 op, .int .i64 u, .int .i64 a, .int .i64 b, .int .i64 c, .int .u64 num, .string nm]] W fun e w' => e = .returned (.bool false) ∧ Below W.heap.size W w') := fun W hb => by
    have h1 := rsorts_any 36 B0 B lim L v (some M1) (some M2) ⟨op, u, a, b, c, num, nm⟩ W (h.below hb) hop.1 hop.2 hP hBr
    rw [hSf] at h1
    exact h1
  have HREF : Hid (∀ w' X, rfE L ⟨op, u, a, b, c, num, nm⟩ = X → X ≠ 0 → Below w.heap.size w w' → MkP 36 w B0 B lim L v (some M1) (some M2) ⟨op, u, a, b, c, num, nm⟩ (.returned (.tuple #[.int .i64 0, .int .i64 X])) w') := fun w' X hX h0 hb => by
    have := MkP.ref h (by rw [hX]; exact h0) hb
    rw [hX] at this
    exact this
  generalize hPP : MkP 36 w B0 B lim L v (some M1) (some M2) ⟨op, u, a, b, c, num, nm⟩ = PP at *
  have HX : Hid (rfE L ⟨op, u, a, b, c, num, nm⟩ = 71) := rfE_5 hop hu hP hBr hSf
  rw [hBr] at HEx
  clear hPP hop hpt hu hP hBr h hSf
  go_enter Tryz.func17, Tryz.ntmps17
  go_wp2_with (first | (go_at_call 29; refine (HPt.out _).mono ?_; rintro e w' ⟨rfl, rfl⟩) | (go_at_call 30; refine (HI.out _ _).mono ?_; rintro e w' ⟨rfl, rfl⟩))
  refine (HEx.out _).mono ?_
  rintro e w1 ⟨rfl, hb⟩
  have X1 : Hid (Below (w.heap.size + 1) (w.alloc (Obj.cells #[.int .i64 op, .int .i64 u, .int .i64 a, .int .i64 b, .int .i64 c, .int .u64 num, .string nm] 39 (0, 0))) w1) := hb.mono (by simp)
  clear hb
  have d0 : w1.cell? ⟨w.heap.size, 0, none⟩ = some (.int .i64 op) := box_cells X1.out 0
  have d1 : w1.cell? ⟨w.heap.size, 1, none⟩ = some (.int .i64 u) := box_cells X1.out 1
  have d2 : w1.cell? ⟨w.heap.size, 2, none⟩ = some (.int .i64 a) := box_cells X1.out 2
  have d3 : w1.cell? ⟨w.heap.size, 3, none⟩ = some (.int .i64 b) := box_cells X1.out 3
  have d4 : w1.cell? ⟨w.heap.size, 4, none⟩ = some (.int .i64 c) := box_cells X1.out 4
  have d5 : w1.cell? ⟨w.heap.size, 5, none⟩ = some (.int .u64 num) := box_cells X1.out 5
  have d6 : w1.cell? ⟨w.heap.size, 6, none⟩ = some (.string nm) := box_cells X1.out 6
  go_wp2_with fail
  refine (HSo.out _ (box_old X1.out)).mono ?_
  rintro e w2 ⟨rfl, hb⟩
  have X2 : Hid (Below (w.heap.size + 1) (w.alloc (Obj.cells #[.int .i64 op, .int .i64 u, .int .i64 a, .int .i64 b, .int .i64 c, .int .u64 num, .string nm] 39 (0, 0))) w2) := box_next X1.out hb
  clear hb
  clear d0 d1 d2 d3 d4 d5 d6
  have d0 : w2.cell? ⟨w.heap.size, 0, none⟩ = some (.int .i64 op) := box_cells X2.out 0
  have d1 : w2.cell? ⟨w.heap.size, 1, none⟩ = some (.int .i64 u) := box_cells X2.out 1
  have d2 : w2.cell? ⟨w.heap.size, 2, none⟩ = some (.int .i64 a) := box_cells X2.out 2
  have d3 : w2.cell? ⟨w.heap.size, 3, none⟩ = some (.int .i64 b) := box_cells X2.out 3
  have d4 : w2.cell? ⟨w.heap.size, 4, none⟩ = some (.int .i64 c) := box_cells X2.out 4
  have d5 : w2.cell? ⟨w.heap.size, 5, none⟩ = some (.int .u64 num) := box_cells X2.out 5
  have d6 : w2.cell? ⟨w.heap.size, 6, none⟩ = some (.string nm) := box_cells X2.out 6
  go_wp2
  first | exact HREF.out _ 71 HX.out (by decide) (box_old X2.out) | (go_ret2; exact HREF.out _ 71 HX.out (by decide) (box_old X2.out))
set_option maxHeartbeats 8000000 in
set_option maxRecDepth 100000 in
theorem rbad_f1 (B0 B : Nat) (lim : Int) (L : List Nd) (v : Value) (M1 M2 : Nat) (op u a b c num : Int) (nm : ByteArray) (w : World) (h : SM 36 w B0 B lim L v (some M1) (some M2)) (hn : (⟨op, u, a, b, c, num, nm⟩ : Nd).ok) (hop : 1 ≤ op ∧ op ≤ 33) (hpt : pt op = 1) (hu : 0 ≤ u ∧ u ≤ 64) (hia : isT L a = true) (hP : hp L ⟨op, u, a, b, c, num, nm⟩ = true) (hBr : br ⟨op, u, a, b, c, num, nm⟩ = true) (hSf : sf op (wd L a) (wd L b) (wd L c) = true) (hWf : wf op u num (wd L a) (wd L b) = false) :
    Calls Tryz.prog 17 #[.pointer (some ⟨B, 0, none⟩), .agg #[.int .i64 op, .int .i64 u, .int .i64 a, .int .i64 b, .int .i64 c, .int .u64 num, .string nm]] w (MkP 36 w B0 B lim L v (some M1) (some M2) ⟨op, u, a, b, c, num, nm⟩) := by
  have HPt : Hid (∀ W, Calls Tryz.prog 29 #[.int .i64 op] W fun e w' => e = .returned (.int .i64 1) ∧ w' = W) := fun W => by
    have h1 := rparts_any op W
    have e : rpt op = 1 := by unfold rpt; rw [if_neg (by omega)]; exact hpt
    rw [e] at h1
    exact h1
  have HI : Hid (∀ o t, Calls Tryz.prog 30 #[.pointer (some ⟨B, 0, none⟩), .int .i64 t] (w.alloc o) fun e w' => e = .returned (.bool (isT L t)) ∧ w' = w.alloc o) := fun o t => is_any 36 B0 B lim L v (some M1) (some M2) t _ (h.below (bel1 w o))
  have HEx : Hid (∀ W, Calls Tryz.prog 31 #[.agg #[.int .i64 op, .int .i64 u, .int .i64 a, .int .i64 b, .int .i64 c, .int .u64 num, .string nm], .int .i64 1] W fun e w' => e = .returned (.bool (!br ⟨op, u, a, b, c, num, nm⟩)) ∧ Below W.heap.size W w') := fun W => by
    have h1 := extra_any ⟨op, u, a, b, c, num, nm⟩ W
    rw [show pt ((⟨op, u, a, b, c, num, nm⟩ : Nd)).op = 1 from hpt] at h1
    exact h1
  have qu1 : decide (u < 0) = false := decide_eq_false (by omega)
  have qu2 : decide (64 < u) = false := decide_eq_false (by omega)
  have HSo : Hid (∀ W, Below w.heap.size w W → Calls Tryz.prog 32 #[.pointer (some ⟨B, 0, none⟩), .agg #[.int .i64 op, .int .i64 u, .int .i64 a, .int .i64 b, .int .i64 c, .int .u64 num, .string nm]] W fun e w' => e = .returned (.bool true) ∧ Below W.heap.size W w') := fun W hb => by
    have h1 := rsorts_any 36 B0 B lim L v (some M1) (some M2) ⟨op, u, a, b, c, num, nm⟩ W (h.below hb) hop.1 hop.2 hP hBr
    rw [hSf] at h1
    exact h1
  have HWi : Hid (∀ W, Below w.heap.size w W → Calls Tryz.prog 33 #[.pointer (some ⟨B, 0, none⟩), .agg #[.int .i64 op, .int .i64 u, .int .i64 a, .int .i64 b, .int .i64 c, .int .u64 num, .string nm]] W fun e w' => e = .returned (.bool false) ∧ Below W.heap.size W w') := fun W hb => by
    have h1 := rwidth_any 36 B0 B lim L v (some M1) (some M2) ⟨op, u, a, b, c, num, nm⟩ W (h.below hb) hop.1 hop.2 (U_of3 hn.num) hu hP
    rw [hWf] at h1
    exact h1
  have HREF : Hid (∀ w' X, rfE L ⟨op, u, a, b, c, num, nm⟩ = X → X ≠ 0 → Below w.heap.size w w' → MkP 36 w B0 B lim L v (some M1) (some M2) ⟨op, u, a, b, c, num, nm⟩ (.returned (.tuple #[.int .i64 0, .int .i64 X])) w') := fun w' X hX h0 hb => by
    have := MkP.ref h (by rw [hX]; exact h0) hb
    rw [hX] at this
    exact this
  generalize hPP : MkP 36 w B0 B lim L v (some M1) (some M2) ⟨op, u, a, b, c, num, nm⟩ = PP at *
  have HX : Hid (rfE L ⟨op, u, a, b, c, num, nm⟩ = 5) := rfE_6 hop hu hP hBr hSf hWf
  rw [hBr] at HEx
  clear hPP hop hpt hu hP hBr h hSf hWf hn
  go_enter Tryz.func17, Tryz.ntmps17
  go_wp2_with (first | (go_at_call 29; refine (HPt.out _).mono ?_; rintro e w' ⟨rfl, rfl⟩) | (go_at_call 30; refine (HI.out _ _).mono ?_; rintro e w' ⟨rfl, rfl⟩))
  refine (HEx.out _).mono ?_
  rintro e w1 ⟨rfl, hb⟩
  have X1 : Hid (Below (w.heap.size + 1) (w.alloc (Obj.cells #[.int .i64 op, .int .i64 u, .int .i64 a, .int .i64 b, .int .i64 c, .int .u64 num, .string nm] 39 (0, 0))) w1) := hb.mono (by simp)
  clear hb
  have d0 : w1.cell? ⟨w.heap.size, 0, none⟩ = some (.int .i64 op) := box_cells X1.out 0
  have d1 : w1.cell? ⟨w.heap.size, 1, none⟩ = some (.int .i64 u) := box_cells X1.out 1
  have d2 : w1.cell? ⟨w.heap.size, 2, none⟩ = some (.int .i64 a) := box_cells X1.out 2
  have d3 : w1.cell? ⟨w.heap.size, 3, none⟩ = some (.int .i64 b) := box_cells X1.out 3
  have d4 : w1.cell? ⟨w.heap.size, 4, none⟩ = some (.int .i64 c) := box_cells X1.out 4
  have d5 : w1.cell? ⟨w.heap.size, 5, none⟩ = some (.int .u64 num) := box_cells X1.out 5
  have d6 : w1.cell? ⟨w.heap.size, 6, none⟩ = some (.string nm) := box_cells X1.out 6
  go_wp2_with fail
  refine (HSo.out _ (box_old X1.out)).mono ?_
  rintro e w2 ⟨rfl, hb⟩
  have X2 : Hid (Below (w.heap.size + 1) (w.alloc (Obj.cells #[.int .i64 op, .int .i64 u, .int .i64 a, .int .i64 b, .int .i64 c, .int .u64 num, .string nm] 39 (0, 0))) w2) := box_next X1.out hb
  clear hb
  clear d0 d1 d2 d3 d4 d5 d6
  have d0 : w2.cell? ⟨w.heap.size, 0, none⟩ = some (.int .i64 op) := box_cells X2.out 0
  have d1 : w2.cell? ⟨w.heap.size, 1, none⟩ = some (.int .i64 u) := box_cells X2.out 1
  have d2 : w2.cell? ⟨w.heap.size, 2, none⟩ = some (.int .i64 a) := box_cells X2.out 2
  have d3 : w2.cell? ⟨w.heap.size, 3, none⟩ = some (.int .i64 b) := box_cells X2.out 3
  have d4 : w2.cell? ⟨w.heap.size, 4, none⟩ = some (.int .i64 c) := box_cells X2.out 4
  have d5 : w2.cell? ⟨w.heap.size, 5, none⟩ = some (.int .u64 num) := box_cells X2.out 5
  have d6 : w2.cell? ⟨w.heap.size, 6, none⟩ = some (.string nm) := box_cells X2.out 6
  go_wp2_with fail
  refine (HWi.out _ (box_old X2.out)).mono ?_
  rintro e w3 ⟨rfl, hb⟩
  have X3 : Hid (Below (w.heap.size + 1) (w.alloc (Obj.cells #[.int .i64 op, .int .i64 u, .int .i64 a, .int .i64 b, .int .i64 c, .int .u64 num, .string nm] 39 (0, 0))) w3) := box_next X2.out hb
  clear hb
  clear d0 d1 d2 d3 d4 d5 d6
  have d0 : w3.cell? ⟨w.heap.size, 0, none⟩ = some (.int .i64 op) := box_cells X3.out 0
  have d1 : w3.cell? ⟨w.heap.size, 1, none⟩ = some (.int .i64 u) := box_cells X3.out 1
  have d2 : w3.cell? ⟨w.heap.size, 2, none⟩ = some (.int .i64 a) := box_cells X3.out 2
  have d3 : w3.cell? ⟨w.heap.size, 3, none⟩ = some (.int .i64 b) := box_cells X3.out 3
  have d4 : w3.cell? ⟨w.heap.size, 4, none⟩ = some (.int .i64 c) := box_cells X3.out 4
  have d5 : w3.cell? ⟨w.heap.size, 5, none⟩ = some (.int .u64 num) := box_cells X3.out 5
  have d6 : w3.cell? ⟨w.heap.size, 6, none⟩ = some (.string nm) := box_cells X3.out 6
  go_wp2
  first | exact HREF.out _ 5 HX.out (by decide) (box_old X3.out) | (go_ret2; exact HREF.out _ 5 HX.out (by decide) (box_old X3.out))
end Go.Proofs.YtkbfoahfehfjnaaGreatDoor
