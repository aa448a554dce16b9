import Derived.Test.YtkbfoahfehfjnaaGreatDoorTmK0
import Derived.Test.YtkbfoahfehfjnaaGreatDoorTmS
import Derived.Test.YtkbfoahfehfjnaaGreatDoorTmT
namespace Go.Proofs.YtkbfoahfehfjnaaGreatDoor
open Go.ChangeShapes Go.WideShapes Go.ChangeAt Go.RowKit Go.Lib Go.Tm Go.Bw Go.Bn Go.WideMaps Go.Maps Go.ChangeMaps

theorem U_of3 {x : Int} (h : U64 x) : U x := ⟨h.1, by have := h.2; omega⟩
theorem rfE_1 {L : List Nd} {n : Nd} (h1 : n.op < 1 ∨ 33 < n.op) : rfE L n = 73 := by unfold rfE; rw [if_pos h1]
theorem rfE_2 {L : List Nd} {n : Nd} (h1 : 1 ≤ n.op ∧ n.op ≤ 33) (h2 : n.w < 0 ∨ 64 < n.w) : rfE L n = 5 := by unfold rfE; rw [if_neg (by omega), if_pos h2]
theorem rfE_3 {L : List Nd} {n : Nd} (h1 : 1 ≤ n.op ∧ n.op ≤ 33) (h2 : 0 ≤ n.w ∧ n.w ≤ 64) (h3 : hp L n = false) : rfE L n = 70 := by unfold rfE; rw [if_neg (by omega), if_neg (by omega), if_pos h3]
theorem rfE_4 {L : List Nd} {n : Nd} (h1 : 1 ≤ n.op ∧ n.op ≤ 33) (h2 : 0 ≤ n.w ∧ n.w ≤ 64) (h3 : hp L n = true) (h4 : br n = false) : rfE L n = 1 := by unfold rfE; rw [if_neg (by omega), if_neg (by omega), if_neg (by simp [h3]), if_pos h4]
theorem rfE_5 {L : List Nd} {n : Nd} (h1 : 1 ≤ n.op ∧ n.op ≤ 33) (h2 : 0 ≤ n.w ∧ n.w ≤ 64) (h3 : hp L n = true) (h4 : br n = true) (h5 : sf n.op (wd L n.a) (wd L n.b) (wd L n.c) = false) : rfE L n = 71 := by unfold rfE; rw [if_neg (by omega), if_neg (by omega), if_neg (by simp [h3]), if_neg (by simp [h4]), if_pos h5]
theorem rfE_6 {L : List Nd} {n : Nd} (h1 : 1 ≤ n.op ∧ n.op ≤ 33) (h2 : 0 ≤ n.w ∧ n.w ≤ 64) (h3 : hp L n = true) (h4 : br n = true) (h5 : sf n.op (wd L n.a) (wd L n.b) (wd L n.c) = true) (h6 : wf n.op n.w n.num (wd L n.a) (wd L n.b) = false) : rfE L n = 5 := by unfold rfE; rw [if_neg (by omega), if_neg (by omega), if_neg (by simp [h3]), if_neg (by simp [h4]), if_neg (by simp [h5]), if_pos h6]
theorem rfE_7 {L : List Nd} {n : Nd} (h1 : 1 ≤ n.op ∧ n.op ≤ 33) (h2 : 0 ≤ n.w ∧ n.w ≤ 64) (h3 : hp L n = true) (h4 : br n = true) (h5 : sf n.op (wd L n.a) (wd L n.b) (wd L n.c) = true) (h6 : wf n.op n.w n.num (wd L n.a) (wd L n.b) = true) : rfE L n = if n.op = 4 ∧ nf L n = false then 72 else 0 := by unfold rfE; rw [if_neg (by omega), if_neg (by omega), if_neg (by simp [h3]), if_neg (by simp [h4]), if_neg (by simp [h5]), if_neg (by simp [h6])]
theorem hp_no {L : List Nd} {n : Nd} (h : hp L n = false) : (1 ≤ pt n.op ∧ isT L n.a = false) ∨ (2 ≤ pt n.op ∧ isT L n.a = true ∧ isT L n.b = false) ∨ (3 ≤ pt n.op ∧ isT L n.a = true ∧ isT L n.b = true ∧ isT L n.c = false) := by
  unfold hp at h
  have h3 := pt_lo n.op
  cases ha : isT L n.a <;> cases hb : isT L n.b <;> cases hc : isT L n.c <;> rw [ha, hb, hc] at h <;> simp at h ⊢ <;> omega
set_option maxHeartbeats 8000000 in
set_option maxRecDepth 100000 in
theorem rbad_op (B0 B : Nat) (lim : Int) (L : List Nd) (v : Value) (M1 M2 : Nat) (op u a b c num : Int) (nm : ByteArray) (w : World) (h : SM 36 w B0 B lim L v (some M1) (some M2)) (_hn : (⟨op, u, a, b, c, num, nm⟩ : Nd).ok) (hop : op < 1 ∨ 33 < op) :
    Calls Tryz.prog 17 #[.pointer (some ⟨B, 0, none⟩), .agg #[.int .i64 op, .int .i64 u, .int .i64 a, .int .i64 b, .int .i64 c, .int .u64 num, .string nm]] w (MkP 36 w B0 B lim L v (some M1) (some M2) ⟨op, u, a, b, c, num, nm⟩) := by
  obtain ⟨p, hp0⟩ : ∃ p, rpt op = p := ⟨_, rfl⟩
  have hpv : p = -1 := by rw [← hp0]; unfold rpt; rw [if_pos hop]
  subst hpv
  have HREF : Hid (∀ w' X, rfE L ⟨op, u, a, b, c, num, nm⟩ = X → X ≠ 0 → Below w.heap.size w w' → MkP 36 w B0 B lim L v (some M1) (some M2) ⟨op, u, a, b, c, num, nm⟩ (.returned (.tuple #[.int .i64 0, .int .i64 X])) w') := fun w' X hX h0 hb => by
    have := MkP.ref h (by rw [hX]; exact h0) hb
    rw [hX] at this
    exact this
  generalize hPP : MkP 36 w B0 B lim L v (some M1) (some M2) ⟨op, u, a, b, c, num, nm⟩ = PP at *
  have HPt : Hid (∀ W, Calls Tryz.prog 29 #[.int .i64 op] W fun e w' => e = .returned (.int .i64 (-1)) ∧ w' = W) := fun W => by
    have h1 := rparts_any op W
    rw [hp0] at h1
    exact h1
  have HI : Hid (∀ o t, Calls Tryz.prog 30 #[.pointer (some ⟨B, 0, none⟩), .int .i64 t] (w.alloc o) fun e w' => e = .returned (.bool (isT L t)) ∧ w' = w.alloc o) := fun o t => is_any 36 B0 B lim L v (some M1) (some M2) t _ (h.below (bel1 w o))
  have HX : Hid (rfE L ⟨op, u, a, b, c, num, nm⟩ = 73) := rfE_1 hop
  clear hPP hop hp0 h
  go_enter Tryz.func17, Tryz.ntmps17
  go_wp2_with (first | (go_at_call 29; refine (HPt.out _).mono ?_; rintro e w' ⟨rfl, rfl⟩) | (go_at_call 30; refine (HI.out _ _).mono ?_; rintro e w' ⟨rfl, rfl⟩))
  first | exact HREF.out _ 73 HX.out (by decide) (bel1 _ _) | (go_ret2; exact HREF.out _ 73 HX.out (by decide) (bel1 _ _))
set_option maxHeartbeats 8000000 in
set_option maxRecDepth 100000 in
theorem rbad_w (B0 B : Nat) (lim : Int) (L : List Nd) (v : Value) (M1 M2 : Nat) (op u a b c num : Int) (nm : ByteArray) (w : World) (h : SM 36 w B0 B lim L v (some M1) (some M2)) (_hn : (⟨op, u, a, b, c, num, nm⟩ : Nd).ok) (hop : 1 ≤ op ∧ op ≤ 33) (hu : u < 0 ∨ 64 < u) :
    Calls Tryz.prog 17 #[.pointer (some ⟨B, 0, none⟩), .agg #[.int .i64 op, .int .i64 u, .int .i64 a, .int .i64 b, .int .i64 c, .int .u64 num, .string nm]] w (MkP 36 w B0 B lim L v (some M1) (some M2) ⟨op, u, a, b, c, num, nm⟩) := by
  obtain ⟨p, hp0⟩ : ∃ p, rpt op = p := ⟨_, rfl⟩
  have hpv : 0 ≤ p := by rw [← hp0]; unfold rpt; rw [if_neg (by omega)]; exact (pt_lo op).1
  have HREF : Hid (∀ w' X, rfE L ⟨op, u, a, b, c, num, nm⟩ = X → X ≠ 0 → Below w.heap.size w w' → MkP 36 w B0 B lim L v (some M1) (some M2) ⟨op, u, a, b, c, num, nm⟩ (.returned (.tuple #[.int .i64 0, .int .i64 X])) w') := fun w' X hX h0 hb => by
    have := MkP.ref h (by rw [hX]; exact h0) hb
    rw [hX] at this
    exact this
  generalize hPP : MkP 36 w B0 B lim L v (some M1) (some M2) ⟨op, u, a, b, c, num, nm⟩ = PP at *
  have HPt : Hid (∀ W, Calls Tryz.prog 29 #[.int .i64 op] W fun e w' => e = .returned (.int .i64 p) ∧ w' = W) := fun W => by
    have h1 := rparts_any op W
    rw [hp0] at h1
    exact h1
  have HI : Hid (∀ o t, Calls Tryz.prog 30 #[.pointer (some ⟨B, 0, none⟩), .int .i64 t] (w.alloc o) fun e w' => e = .returned (.bool (isT L t)) ∧ w' = w.alloc o) := fun o t => is_any 36 B0 B lim L v (some M1) (some M2) t _ (h.below (bel1 w o))
  have HX : Hid (rfE L ⟨op, u, a, b, c, num, nm⟩ = 5) := rfE_2 hop hu
  have q0 : decide (p < 0) = false := decide_eq_false (by omega)
  clear hPP hop hp0 h
  by_cases h1 : u < 0
  · have q1 : decide (u < 0) = true := decide_eq_true h1
    go_enter Tryz.func17, Tryz.ntmps17
    go_wp2_with (first | (go_at_call 29; refine (HPt.out _).mono ?_; rintro e w' ⟨rfl, rfl⟩) | (go_at_call 30; refine (HI.out _ _).mono ?_; rintro e w' ⟨rfl, rfl⟩))
    first | exact HREF.out _ 5 HX.out (by decide) (bel1 _ _) | (go_ret2; exact HREF.out _ 5 HX.out (by decide) (bel1 _ _))
  · have q1 : decide (u < 0) = false := decide_eq_false h1
    have q2 : decide (64 < u) = true := decide_eq_true (by omega)
    go_enter Tryz.func17, Tryz.ntmps17
    go_wp2_with (first | (go_at_call 29; refine (HPt.out _).mono ?_; rintro e w' ⟨rfl, rfl⟩) | (go_at_call 30; refine (HI.out _ _).mono ?_; rintro e w' ⟨rfl, rfl⟩))
    first | exact HREF.out _ 5 HX.out (by decide) (bel1 _ _) | (go_ret2; exact HREF.out _ 5 HX.out (by decide) (bel1 _ _))
set_option maxHeartbeats 8000000 in
set_option maxRecDepth 100000 in
theorem rbad_part (B0 B : Nat) (lim : Int) (L : List Nd) (v : Value) (M1 M2 : Nat) (op u a b c num : Int) (nm : ByteArray) (w : World) (h : SM 36 w B0 B lim L v (some M1) (some M2)) (_hn : (⟨op, u, a, b, c, num, nm⟩ : Nd).ok) (hop : 1 ≤ op ∧ op ≤ 33) (hu : 0 ≤ u ∧ u ≤ 64) (hP : hp L ⟨op, u, a, b, c, num, nm⟩ = false) :
    Calls Tryz.prog 17 #[.pointer (some ⟨B, 0, none⟩), .agg #[.int .i64 op, .int .i64 u, .int .i64 a, .int .i64 b, .int .i64 c, .int .u64 num, .string nm]] w (MkP 36 w B0 B lim L v (some M1) (some M2) ⟨op, u, a, b, c, num, nm⟩) := by
  obtain ⟨p, hp0⟩ : ∃ p, rpt op = p := ⟨_, rfl⟩
  have hpe : pt op = p := by rw [← hp0]; unfold rpt; rw [if_neg (by omega)]
  have hno := hp_no hP
  dsimp only at hno
  rw [hpe] at hno
  have HREF : Hid (∀ w' X, rfE L ⟨op, u, a, b, c, num, nm⟩ = X → X ≠ 0 → Below w.heap.size w w' → MkP 36 w B0 B lim L v (some M1) (some M2) ⟨op, u, a, b, c, num, nm⟩ (.returned (.tuple #[.int .i64 0, .int .i64 X])) w') := fun w' X hX h0 hb => by
    have := MkP.ref h (by rw [hX]; exact h0) hb
    rw [hX] at this
    exact this
  generalize hPP : MkP 36 w B0 B lim L v (some M1) (some M2) ⟨op, u, a, b, c, num, nm⟩ = PP at *
  have HPt : Hid (∀ W, Calls Tryz.prog 29 #[.int .i64 op] W fun e w' => e = .returned (.int .i64 p) ∧ w' = W) := fun W => by
    have h1 := rparts_any op W
    rw [hp0] at h1
    exact h1
  have HI : Hid (∀ o t, Calls Tryz.prog 30 #[.pointer (some ⟨B, 0, none⟩), .int .i64 t] (w.alloc o) fun e w' => e = .returned (.bool (isT L t)) ∧ w' = w.alloc o) := fun o t => is_any 36 B0 B lim L v (some M1) (some M2) t _ (h.below (bel1 w o))
  have HX : Hid (rfE L ⟨op, u, a, b, c, num, nm⟩ = 70) := rfE_3 hop hu hP
  have q0 : decide (p < 0) = false := decide_eq_false (by have := pt_lo op; omega)
  have qu1 : decide (u < 0) = false := decide_eq_false (by omega)
  have qu2 : decide (64 < u) = false := decide_eq_false (by omega)
  clear hPP hop hp0 h hP hpe hu
  rcases hno with ⟨h1, ha⟩ | ⟨h1, ha, hb⟩ | ⟨h1, ha, hb, hc⟩
  · have q1 : decide (1 ≤ p) = true := decide_eq_true h1
    go_enter Tryz.func17, Tryz.ntmps17
    go_wp2_with (first | (go_at_call 29; refine (HPt.out _).mono ?_; rintro e w' ⟨rfl, rfl⟩) | (go_at_call 30; refine (HI.out _ _).mono ?_; rintro e w' ⟨rfl, rfl⟩))
    first | exact HREF.out _ 70 HX.out (by decide) (bel1 _ _) | (go_ret2; exact HREF.out _ 70 HX.out (by decide) (bel1 _ _))
  · have q1 : decide (1 ≤ p) = true := decide_eq_true (by omega)
    have q2 : decide (2 ≤ p) = true := decide_eq_true (by omega)
    go_enter Tryz.func17, Tryz.ntmps17
    go_wp2_with (first | (go_at_call 29; refine (HPt.out _).mono ?_; rintro e w' ⟨rfl, rfl⟩) | (go_at_call 30; refine (HI.out _ _).mono ?_; rintro e w' ⟨rfl, rfl⟩))
    first | exact HREF.out _ 70 HX.out (by decide) (bel1 _ _) | (go_ret2; exact HREF.out _ 70 HX.out (by decide) (bel1 _ _))
  · have q1 : decide (1 ≤ p) = true := decide_eq_true (by omega)
    have q2 : decide (2 ≤ p) = true := decide_eq_true (by omega)
    have q3 : decide (3 ≤ p) = true := decide_eq_true (by omega)
    go_enter Tryz.func17, Tryz.ntmps17
    go_wp2_with (first | (go_at_call 29; refine (HPt.out _).mono ?_; rintro e w' ⟨rfl, rfl⟩) | (go_at_call 30; refine (HI.out _ _).mono ?_; rintro e w' ⟨rfl, rfl⟩))
    first | exact HREF.out _ 70 HX.out (by decide) (bel1 _ _) | (go_ret2; exact HREF.out _ 70 HX.out (by decide) (bel1 _ _))
end Go.Proofs.YtkbfoahfehfjnaaGreatDoor
