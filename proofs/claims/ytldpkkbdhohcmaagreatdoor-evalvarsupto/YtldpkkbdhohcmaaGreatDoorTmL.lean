import Derived.Test.YtldpkkbdhohcmaaGreatDoorTmK0
import Derived.Test.YtldpkkbdhohcmaaGreatDoorTmS
import Derived.Test.YtldpkkbdhohcmaaGreatDoorTmK3
import Derived.Test.YtldpkkbdhohcmaaGreatDoorTmK6
namespace Go.Proofs.YtldpkkbdhohcmaaGreatDoor
open Go.ChangeShapes Go.WideShapes Go.ChangeAt Go.RowKit Go.Lib Go.Tm Go.Bw Go.Bn Go.WideMaps Go.Maps Go.ChangeMaps

theorem U_of3 {x : Int} (h : U64 x) : U x := ⟨h.1,by have := h.2; omega⟩
theorem rfE_1 {L : List Nd} {n : Nd} (h1 : n.op < 1 ∨ 33 < n.op) : rfE L n = 73 := by unfold rfE; rw [if_pos h1]
theorem rfE_2 {L : List Nd} {n : Nd} (h1 : 1 <= n.op /\ n.op <= 33) (h2 : n.w < 0 ∨ 64 < n.w) : rfE L n = 5 := by unfold rfE; rw [if_neg (by omega),if_pos h2]
theorem rfE_3 {L : List Nd} {n : Nd} (h1 : 1 <= n.op /\ n.op <= 33) (h2 : 0 <= n.w /\ n.w <= 64) (h3 : hp L n = false) : rfE L n = 70 := by unfold rfE; rw [if_neg (by omega),if_neg (by omega),if_pos h3]
theorem rfE_4 {L : List Nd} {n : Nd} (h1 : 1 <= n.op /\ n.op <= 33) (h2 : 0 <= n.w /\ n.w <= 64) (h3 : hp L n = true) (h4 : br n = false) : rfE L n = 1 := by unfold rfE; rw [if_neg (by omega),if_neg (by omega),if_neg (by simp [h3]),if_pos h4]
theorem rfE_5 {L : List Nd} {n : Nd} (h1 : 1 <= n.op /\ n.op <= 33) (h2 : 0 <= n.w /\ n.w <= 64) (h3 : hp L n = true) (h4 : br n = true) (h5 : sf n.op (wd L n.a) (wd L n.b) (wd L n.c) = false) : rfE L n = 71 := by unfold rfE; rw [if_neg (by omega),if_neg (by omega),if_neg (by simp [h3]),if_neg (by simp [h4]),if_pos h5]
theorem rfE_6 {L : List Nd} {n : Nd} (h1 : 1 <= n.op /\ n.op <= 33) (h2 : 0 <= n.w /\ n.w <= 64) (h3 : hp L n = true) (h4 : br n = true) (h5 : sf n.op (wd L n.a) (wd L n.b) (wd L n.c) = true) (h6 : wf n.op n.w n.num (wd L n.a) (wd L n.b) = false) : rfE L n = 5 := by unfold rfE; rw [if_neg (by omega),if_neg (by omega),if_neg (by simp [h3]),if_neg (by simp [h4]),if_neg (by simp [h5]),if_pos h6]
theorem rfE_7 {L : List Nd} {n : Nd} (h1 : 1 <= n.op /\ n.op <= 33) (h2 : 0 <= n.w /\ n.w <= 64) (h3 : hp L n = true) (h4 : br n = true) (h5 : sf n.op (wd L n.a) (wd L n.b) (wd L n.c) = true) (h6 : wf n.op n.w n.num (wd L n.a) (wd L n.b) = true) : rfE L n = if n.op = 4 /\ nf L n = false then 72 else 0 := by unfold rfE; rw [if_neg (by omega),if_neg (by omega),if_neg (by simp [h3]),if_neg (by simp [h4]),if_neg (by simp [h5]),if_neg (by simp [h6])]
theorem hp_no {L : List Nd} {n : Nd} (h : hp L n = false) : (1 <= pt n.op /\ isT L n.a = false) ∨ (2 <= pt n.op /\ isT L n.a = true /\ isT L n.b = false) ∨ (3 <= pt n.op /\ isT L n.a = true /\ isT L n.b = true /\ isT L n.c = false) := by
  unfold hp at h; have h3 := pt_lo n.op; cases ha : isT L n.a <;> cases hb : isT L n.b <;> cases hc : isT L n.c <;> rw [ha,hb,hc] at h <;> simp at h ⊢ <;> omega
set_option maxHeartbeats 8000000 in
set_option maxRecDepth 100000 in
theorem rbad_op (B0 B : Nat) (lim : Int) (L : List Nd) (v : Value) (M1 M2 : Nat) (op u a b c num : Int) (nm : ByteArray) (w : World) (h : SM 69 w B0 B lim L v (some M1) (some M2)) (_hn : (⟨op,u,a,b,c,num,nm⟩ : Nd).ok) (hop : op < 1 ∨ 33 < op) :
    Calls Tryz.prog 36 #[.pointer (some ⟨B,0,none⟩),.agg #[.int .i64 op,.int .i64 u,.int .i64 a,.int .i64 b,.int .i64 c,.int .u64 num,.string nm]] w (MkP 69 w B0 B lim L v (some M1) (some M2) ⟨op,u,a,b,c,num,nm⟩) := by
  obtain ⟨p,hp0⟩ : ∃ p,rpt op = p := ⟨_,rfl⟩; have hpv : p = -1 := by rw [<- hp0]; unfold rpt; rw [if_pos hop]
  subst hpv; have HREF : Hid (∀ w' X,rfE L ⟨op,u,a,b,c,num,nm⟩ = X -> X ≠ 0 -> Below w.heap.size w w' -> MkP 69 w B0 B lim L v (some M1) (some M2) ⟨op,u,a,b,c,num,nm⟩ (.returned (.tuple #[.int .i64 0,.int .i64 X])) w') := fun w' X hX h0 hb => by
    have := MkP.ref h (by rw [hX]; exact h0) hb; rw [hX] at this; exact this
  generalize hPP : MkP 69 w B0 B lim L v (some M1) (some M2) ⟨op,u,a,b,c,num,nm⟩ = PP at *
  have HPt : Hid (∀ W,Calls Tryz.prog 58 #[.int .i64 op] W fun e w' => e = .returned (.int .i64 (-1)) /\ w' = W) := fun W => by
    have h1 := rparts_any op W; rw [hp0] at h1; exact h1
  have HI : Hid (∀ o t,Calls Tryz.prog 45 #[.pointer (some ⟨B,0,none⟩),.int .i64 t] (w.alloc o) fun e w' => e = .returned (.bool (isT L t)) /\ w' = w.alloc o) := fun o t => is_any 69 B0 B lim L v (some M1) (some M2) t _ (h.below (bel1 w o))
  have HX : Hid (rfE L ⟨op,u,a,b,c,num,nm⟩ = 73) := rfE_1 hop; clear hPP hop hp0 h
  go_enter Tryz.func36,Tryz.ntmps36
  go_wp2_with (first | (go_at_call 58; refine (HPt.out _).mono ?_; rintro e w' ⟨rfl,rfl⟩) | (go_at_call 45; refine (HI.out _ _).mono ?_; rintro e w' ⟨rfl,rfl⟩))
  first | exact HREF.out _ 73 HX.out (by decide) (bel1 _ _) | (go_ret2; exact HREF.out _ 73 HX.out (by decide) (bel1 _ _))
set_option maxHeartbeats 8000000 in
set_option maxRecDepth 100000 in
theorem rbad_w (B0 B : Nat) (lim : Int) (L : List Nd) (v : Value) (M1 M2 : Nat) (op u a b c num : Int) (nm : ByteArray) (w : World) (h : SM 69 w B0 B lim L v (some M1) (some M2)) (_hn : (⟨op,u,a,b,c,num,nm⟩ : Nd).ok) (hop : 1 <= op /\ op <= 33) (hu : u < 0 ∨ 64 < u) :
    Calls Tryz.prog 36 #[.pointer (some ⟨B,0,none⟩),.agg #[.int .i64 op,.int .i64 u,.int .i64 a,.int .i64 b,.int .i64 c,.int .u64 num,.string nm]] w (MkP 69 w B0 B lim L v (some M1) (some M2) ⟨op,u,a,b,c,num,nm⟩) := by
  obtain ⟨p,hp0⟩ : ∃ p,rpt op = p := ⟨_,rfl⟩; have hpv : 0 <= p := by rw [<- hp0]; unfold rpt; rw [if_neg (by omega)]; exact (pt_lo op).1
  have HREF : Hid (∀ w' X,rfE L ⟨op,u,a,b,c,num,nm⟩ = X -> X ≠ 0 -> Below w.heap.size w w' -> MkP 69 w B0 B lim L v (some M1) (some M2) ⟨op,u,a,b,c,num,nm⟩ (.returned (.tuple #[.int .i64 0,.int .i64 X])) w') := fun w' X hX h0 hb => by
    have := MkP.ref h (by rw [hX]; exact h0) hb; rw [hX] at this; exact this
  generalize hPP : MkP 69 w B0 B lim L v (some M1) (some M2) ⟨op,u,a,b,c,num,nm⟩ = PP at *
  have HPt : Hid (∀ W,Calls Tryz.prog 58 #[.int .i64 op] W fun e w' => e = .returned (.int .i64 p) /\ w' = W) := fun W => by
    have h1 := rparts_any op W; rw [hp0] at h1; exact h1
  have HI : Hid (∀ o t,Calls Tryz.prog 45 #[.pointer (some ⟨B,0,none⟩),.int .i64 t] (w.alloc o) fun e w' => e = .returned (.bool (isT L t)) /\ w' = w.alloc o) := fun o t => is_any 69 B0 B lim L v (some M1) (some M2) t _ (h.below (bel1 w o))
  have HX : Hid (rfE L ⟨op,u,a,b,c,num,nm⟩ = 5) := rfE_2 hop hu; have q0 : decide (p < 0) = false := decide_eq_false (by omega); clear hPP hop hp0 h
  by_cases h1 : u < 0
  · have q1 : decide (u < 0) = true := decide_eq_true h1
    go_enter Tryz.func36,Tryz.ntmps36
    go_wp2_with (first | (go_at_call 58; refine (HPt.out _).mono ?_; rintro e w' ⟨rfl,rfl⟩) | (go_at_call 45; refine (HI.out _ _).mono ?_; rintro e w' ⟨rfl,rfl⟩))
    first | exact HREF.out _ 5 HX.out (by decide) (bel1 _ _) | (go_ret2; exact HREF.out _ 5 HX.out (by decide) (bel1 _ _))
  have q1 : decide (u < 0) = false := decide_eq_false h1; have q2 : decide (64 < u) = true := decide_eq_true (by omega)
  go_enter Tryz.func36,Tryz.ntmps36
  go_wp2_with (first | (go_at_call 58; refine (HPt.out _).mono ?_; rintro e w' ⟨rfl,rfl⟩) | (go_at_call 45; refine (HI.out _ _).mono ?_; rintro e w' ⟨rfl,rfl⟩))
  first | exact HREF.out _ 5 HX.out (by decide) (bel1 _ _) | (go_ret2; exact HREF.out _ 5 HX.out (by decide) (bel1 _ _))
set_option maxHeartbeats 8000000 in
set_option maxRecDepth 100000 in
theorem rbad_part (B0 B : Nat) (lim : Int) (L : List Nd) (v : Value) (M1 M2 : Nat) (op u a b c num : Int) (nm : ByteArray) (w : World) (h : SM 69 w B0 B lim L v (some M1) (some M2)) (_hn : (⟨op,u,a,b,c,num,nm⟩ : Nd).ok) (hop : 1 <= op /\ op <= 33) (hu : 0 <= u /\ u <= 64) (hP : hp L ⟨op,u,a,b,c,num,nm⟩ = false) :
    Calls Tryz.prog 36 #[.pointer (some ⟨B,0,none⟩),.agg #[.int .i64 op,.int .i64 u,.int .i64 a,.int .i64 b,.int .i64 c,.int .u64 num,.string nm]] w (MkP 69 w B0 B lim L v (some M1) (some M2) ⟨op,u,a,b,c,num,nm⟩) := by
  obtain ⟨p,hp0⟩ : ∃ p,rpt op = p := ⟨_,rfl⟩; have hpe : pt op = p := by rw [<- hp0]; unfold rpt; rw [if_neg (by omega)]
  have hno := hp_no hP
  dsimp only at hno
  rw [hpe] at hno; have HREF : Hid (∀ w' X,rfE L ⟨op,u,a,b,c,num,nm⟩ = X -> X ≠ 0 -> Below w.heap.size w w' -> MkP 69 w B0 B lim L v (some M1) (some M2) ⟨op,u,a,b,c,num,nm⟩ (.returned (.tuple #[.int .i64 0,.int .i64 X])) w') := fun w' X hX h0 hb => by
    have := MkP.ref h (by rw [hX]; exact h0) hb; rw [hX] at this; exact this
  generalize hPP : MkP 69 w B0 B lim L v (some M1) (some M2) ⟨op,u,a,b,c,num,nm⟩ = PP at *
  have HPt : Hid (∀ W,Calls Tryz.prog 58 #[.int .i64 op] W fun e w' => e = .returned (.int .i64 p) /\ w' = W) := fun W => by
    have h1 := rparts_any op W; rw [hp0] at h1; exact h1
  have HI : Hid (∀ o t,Calls Tryz.prog 45 #[.pointer (some ⟨B,0,none⟩),.int .i64 t] (w.alloc o) fun e w' => e = .returned (.bool (isT L t)) /\ w' = w.alloc o) := fun o t => is_any 69 B0 B lim L v (some M1) (some M2) t _ (h.below (bel1 w o))
  have HX : Hid (rfE L ⟨op,u,a,b,c,num,nm⟩ = 70) := rfE_3 hop hu hP; have q0 : decide (p < 0) = false := decide_eq_false (by have := pt_lo op; omega); have qu1 : decide (u < 0) = false := decide_eq_false (by omega); have qu2 : decide (64 < u) = false := decide_eq_false (by omega); clear hPP hop hp0 h hP hpe hu
  rcases hno with ⟨h1,ha⟩ | ⟨h1,ha,hb⟩ | ⟨h1,ha,hb,hc⟩
  · have q1 : decide (1 <= p) = true := decide_eq_true h1
    go_enter Tryz.func36,Tryz.ntmps36
    go_wp2_with (first | (go_at_call 58; refine (HPt.out _).mono ?_; rintro e w' ⟨rfl,rfl⟩) | (go_at_call 45; refine (HI.out _ _).mono ?_; rintro e w' ⟨rfl,rfl⟩))
    first | exact HREF.out _ 70 HX.out (by decide) (bel1 _ _) | (go_ret2; exact HREF.out _ 70 HX.out (by decide) (bel1 _ _))
  · have q1 : decide (1 <= p) = true := decide_eq_true (by omega)
    have q2 : decide (2 <= p) = true := decide_eq_true (by omega)
    go_enter Tryz.func36,Tryz.ntmps36
    go_wp2_with (first | (go_at_call 58; refine (HPt.out _).mono ?_; rintro e w' ⟨rfl,rfl⟩) | (go_at_call 45; refine (HI.out _ _).mono ?_; rintro e w' ⟨rfl,rfl⟩))
    first | exact HREF.out _ 70 HX.out (by decide) (bel1 _ _) | (go_ret2; exact HREF.out _ 70 HX.out (by decide) (bel1 _ _))
  have q1 : decide (1 <= p) = true := decide_eq_true (by omega); have q2 : decide (2 <= p) = true := decide_eq_true (by omega); have q3 : decide (3 <= p) = true := decide_eq_true (by omega)
  go_enter Tryz.func36,Tryz.ntmps36
  go_wp2_with (first | (go_at_call 58; refine (HPt.out _).mono ?_; rintro e w' ⟨rfl,rfl⟩) | (go_at_call 45; refine (HI.out _ _).mono ?_; rintro e w' ⟨rfl,rfl⟩))
  first | exact HREF.out _ 70 HX.out (by decide) (bel1 _ _) | (go_ret2; exact HREF.out _ 70 HX.out (by decide) (bel1 _ _))
end Go.Proofs.YtldpkkbdhohcmaaGreatDoor
namespace Go.Proofs.YtldpkkbdhohcmaaGreatDoor
open Go.ChangeShapes Go.WideShapes Go.ChangeAt Go.RowKit Go.Lib Go.Tm Go.Bw Go.Bn Go.WideMaps Go.Maps Go.ChangeMaps

set_option maxHeartbeats 8000000 in
set_option maxRecDepth 100000 in
theorem rbad_x0 (B0 B : Nat) (lim : Int) (L : List Nd) (v : Value) (M1 M2 : Nat) (op u a b c num : Int) (nm : ByteArray) (w : World) (h : SM 69 w B0 B lim L v (some M1) (some M2)) (_hn : (⟨op,u,a,b,c,num,nm⟩ : Nd).ok) (hop : 1 <= op /\ op <= 33) (hpt : pt op = 0) (hu : 0 <= u /\ u <= 64) (hP : hp L ⟨op,u,a,b,c,num,nm⟩ = true) (hBr : br ⟨op,u,a,b,c,num,nm⟩ = false) :
    Calls Tryz.prog 36 #[.pointer (some ⟨B,0,none⟩),.agg #[.int .i64 op,.int .i64 u,.int .i64 a,.int .i64 b,.int .i64 c,.int .u64 num,.string nm]] w (MkP 69 w B0 B lim L v (some M1) (some M2) ⟨op,u,a,b,c,num,nm⟩) := by
  have HPt : Hid (∀ W,Calls Tryz.prog 58 #[.int .i64 op] W fun e w' => e = .returned (.int .i64 0) /\ w' = W) := fun W => by
    have h1 := rparts_any op W; have e : rpt op = 0 := by unfold rpt; rw [if_neg (by omega)]; exact hpt
    rw [e] at h1; exact h1
  have HI : Hid (∀ o t,Calls Tryz.prog 45 #[.pointer (some ⟨B,0,none⟩),.int .i64 t] (w.alloc o) fun e w' => e = .returned (.bool (isT L t)) /\ w' = w.alloc o) := fun o t => is_any 69 B0 B lim L v (some M1) (some M2) t _ (h.below (bel1 w o))
  have HEx : Hid (∀ W,Calls Tryz.prog 59 #[.agg #[.int .i64 op,.int .i64 u,.int .i64 a,.int .i64 b,.int .i64 c,.int .u64 num,.string nm],.int .i64 0] W fun e w' => e = .returned (.bool (!br ⟨op,u,a,b,c,num,nm⟩)) /\ Below W.heap.size W w') := fun W => by
    have h1 := extra_any ⟨op,u,a,b,c,num,nm⟩ W; rw [show pt ((⟨op,u,a,b,c,num,nm⟩ : Nd)).op = 0 from hpt] at h1; exact h1
  have qu1 : decide (u < 0) = false := decide_eq_false (by omega); have qu2 : decide (64 < u) = false := decide_eq_false (by omega); have HREF : Hid (∀ w' X,rfE L ⟨op,u,a,b,c,num,nm⟩ = X -> X ≠ 0 -> Below w.heap.size w w' -> MkP 69 w B0 B lim L v (some M1) (some M2) ⟨op,u,a,b,c,num,nm⟩ (.returned (.tuple #[.int .i64 0,.int .i64 X])) w') := fun w' X hX h0 hb => by
    have := MkP.ref h (by rw [hX]; exact h0) hb; rw [hX] at this; exact this
  generalize hPP : MkP 69 w B0 B lim L v (some M1) (some M2) ⟨op,u,a,b,c,num,nm⟩ = PP at *
  have HX : Hid (rfE L ⟨op,u,a,b,c,num,nm⟩ = 1) := rfE_4 hop hu hP hBr; rw [hBr] at HEx; clear hPP hop hpt hu hP hBr h
  go_enter Tryz.func36,Tryz.ntmps36
  go_wp2_with (first | (go_at_call 58; refine (HPt.out _).mono ?_; rintro e w' ⟨rfl,rfl⟩) | (go_at_call 45; refine (HI.out _ _).mono ?_; rintro e w' ⟨rfl,rfl⟩))
  refine (HEx.out _).mono ?_; rintro e w1 ⟨rfl,hb⟩; have hb1 : Below w.heap.size w w1 := (bel1 _ _).trans (hb.mono (by simp)); clear hb
  go_wp2
  first | exact HREF.out _ 1 HX.out (by decide) hb1 | (go_ret2; exact HREF.out _ 1 HX.out (by decide) hb1)
set_option maxHeartbeats 8000000 in
set_option maxRecDepth 100000 in
theorem rbad_s0 (B0 B : Nat) (lim : Int) (L : List Nd) (v : Value) (M1 M2 : Nat) (op u a b c num : Int) (nm : ByteArray) (w : World) (h : SM 69 w B0 B lim L v (some M1) (some M2)) (_hn : (⟨op,u,a,b,c,num,nm⟩ : Nd).ok) (hop : 1 <= op /\ op <= 33) (hpt : pt op = 0) (hu : 0 <= u /\ u <= 64) (hP : hp L ⟨op,u,a,b,c,num,nm⟩ = true) (hBr : br ⟨op,u,a,b,c,num,nm⟩ = true) (hSf : sf op (wd L a) (wd L b) (wd L c) = false) :
    Calls Tryz.prog 36 #[.pointer (some ⟨B,0,none⟩),.agg #[.int .i64 op,.int .i64 u,.int .i64 a,.int .i64 b,.int .i64 c,.int .u64 num,.string nm]] w (MkP 69 w B0 B lim L v (some M1) (some M2) ⟨op,u,a,b,c,num,nm⟩) := by
  have HPt : Hid (∀ W,Calls Tryz.prog 58 #[.int .i64 op] W fun e w' => e = .returned (.int .i64 0) /\ w' = W) := fun W => by
    have h1 := rparts_any op W; have e : rpt op = 0 := by unfold rpt; rw [if_neg (by omega)]; exact hpt
    rw [e] at h1; exact h1
  have HI : Hid (∀ o t,Calls Tryz.prog 45 #[.pointer (some ⟨B,0,none⟩),.int .i64 t] (w.alloc o) fun e w' => e = .returned (.bool (isT L t)) /\ w' = w.alloc o) := fun o t => is_any 69 B0 B lim L v (some M1) (some M2) t _ (h.below (bel1 w o))
  have HEx : Hid (∀ W,Calls Tryz.prog 59 #[.agg #[.int .i64 op,.int .i64 u,.int .i64 a,.int .i64 b,.int .i64 c,.int .u64 num,.string nm],.int .i64 0] W fun e w' => e = .returned (.bool (!br ⟨op,u,a,b,c,num,nm⟩)) /\ Below W.heap.size W w') := fun W => by
    have h1 := extra_any ⟨op,u,a,b,c,num,nm⟩ W; rw [show pt ((⟨op,u,a,b,c,num,nm⟩ : Nd)).op = 0 from hpt] at h1; exact h1
  have qu1 : decide (u < 0) = false := decide_eq_false (by omega); have qu2 : decide (64 < u) = false := decide_eq_false (by omega); have HSo : Hid (∀ W,Below w.heap.size w W -> Calls Tryz.prog 60 #[.pointer (some ⟨B,0,none⟩),.agg #[.int .i64 op,.int .i64 u,.int .i64 a,.int .i64 b,.int .i64 c,.int .u64 num,.string nm]] W fun e w' => e = .returned (.bool false) /\ Below W.heap.size W w') := fun W hb => by
    have h1 := rsorts_any 69 B0 B lim L v (some M1) (some M2) ⟨op,u,a,b,c,num,nm⟩ W (h.below hb) hop.1 hop.2 hP hBr; rw [hSf] at h1; exact h1
  have HREF : Hid (∀ w' X,rfE L ⟨op,u,a,b,c,num,nm⟩ = X -> X ≠ 0 -> Below w.heap.size w w' -> MkP 69 w B0 B lim L v (some M1) (some M2) ⟨op,u,a,b,c,num,nm⟩ (.returned (.tuple #[.int .i64 0,.int .i64 X])) w') := fun w' X hX h0 hb => by
    have := MkP.ref h (by rw [hX]; exact h0) hb; rw [hX] at this; exact this
  generalize hPP : MkP 69 w B0 B lim L v (some M1) (some M2) ⟨op,u,a,b,c,num,nm⟩ = PP at *
  have HX : Hid (rfE L ⟨op,u,a,b,c,num,nm⟩ = 71) := rfE_5 hop hu hP hBr hSf; rw [hBr] at HEx; clear hPP hop hpt hu hP hBr h hSf
  go_enter Tryz.func36,Tryz.ntmps36
  go_wp2_with (first | (go_at_call 58; refine (HPt.out _).mono ?_; rintro e w' ⟨rfl,rfl⟩) | (go_at_call 45; refine (HI.out _ _).mono ?_; rintro e w' ⟨rfl,rfl⟩))
  refine (HEx.out _).mono ?_; rintro e w1 ⟨rfl,hb⟩; have X1 : Hid (Below (w.heap.size + 1) (w.alloc (Obj.cells #[.int .i64 op,.int .i64 u,.int .i64 a,.int .i64 b,.int .i64 c,.int .u64 num,.string nm] 64 (0,0))) w1) := hb.mono (by simp); clear hb; have d0 : w1.cell? ⟨w.heap.size,0,none⟩ = some (.int .i64 op) := box_cells X1.out 0; have d1 : w1.cell? ⟨w.heap.size,1,none⟩ = some (.int .i64 u) := box_cells X1.out 1; have d2 : w1.cell? ⟨w.heap.size,2,none⟩ = some (.int .i64 a) := box_cells X1.out 2; have d3 : w1.cell? ⟨w.heap.size,3,none⟩ = some (.int .i64 b) := box_cells X1.out 3; have d4 : w1.cell? ⟨w.heap.size,4,none⟩ = some (.int .i64 c) := box_cells X1.out 4; have d5 : w1.cell? ⟨w.heap.size,5,none⟩ = some (.int .u64 num) := box_cells X1.out 5; have d6 : w1.cell? ⟨w.heap.size,6,none⟩ = some (.string nm) := box_cells X1.out 6
  go_wp2_with fail
  refine (HSo.out _ (box_old X1.out)).mono ?_; rintro e w2 ⟨rfl,hb⟩; have X2 : Hid (Below (w.heap.size + 1) (w.alloc (Obj.cells #[.int .i64 op,.int .i64 u,.int .i64 a,.int .i64 b,.int .i64 c,.int .u64 num,.string nm] 64 (0,0))) w2) := box_next X1.out hb; clear hb; clear d0 d1 d2 d3 d4 d5 d6; have d0 : w2.cell? ⟨w.heap.size,0,none⟩ = some (.int .i64 op) := box_cells X2.out 0; have d1 : w2.cell? ⟨w.heap.size,1,none⟩ = some (.int .i64 u) := box_cells X2.out 1; have d2 : w2.cell? ⟨w.heap.size,2,none⟩ = some (.int .i64 a) := box_cells X2.out 2; have d3 : w2.cell? ⟨w.heap.size,3,none⟩ = some (.int .i64 b) := box_cells X2.out 3; have d4 : w2.cell? ⟨w.heap.size,4,none⟩ = some (.int .i64 c) := box_cells X2.out 4; have d5 : w2.cell? ⟨w.heap.size,5,none⟩ = some (.int .u64 num) := box_cells X2.out 5; have d6 : w2.cell? ⟨w.heap.size,6,none⟩ = some (.string nm) := box_cells X2.out 6
  go_wp2
  first | exact HREF.out _ 71 HX.out (by decide) (box_old X2.out) | (go_ret2; exact HREF.out _ 71 HX.out (by decide) (box_old X2.out))
set_option maxHeartbeats 8000000 in
set_option maxRecDepth 100000 in
theorem rbad_f0 (B0 B : Nat) (lim : Int) (L : List Nd) (v : Value) (M1 M2 : Nat) (op u a b c num : Int) (nm : ByteArray) (w : World) (h : SM 69 w B0 B lim L v (some M1) (some M2)) (hn : (⟨op,u,a,b,c,num,nm⟩ : Nd).ok) (hop : 1 <= op /\ op <= 33) (hpt : pt op = 0) (hu : 0 <= u /\ u <= 64) (hP : hp L ⟨op,u,a,b,c,num,nm⟩ = true) (hBr : br ⟨op,u,a,b,c,num,nm⟩ = true) (hSf : sf op (wd L a) (wd L b) (wd L c) = true) (hWf : wf op u num (wd L a) (wd L b) = false) :
    Calls Tryz.prog 36 #[.pointer (some ⟨B,0,none⟩),.agg #[.int .i64 op,.int .i64 u,.int .i64 a,.int .i64 b,.int .i64 c,.int .u64 num,.string nm]] w (MkP 69 w B0 B lim L v (some M1) (some M2) ⟨op,u,a,b,c,num,nm⟩) := by
  have HPt : Hid (∀ W,Calls Tryz.prog 58 #[.int .i64 op] W fun e w' => e = .returned (.int .i64 0) /\ w' = W) := fun W => by
    have h1 := rparts_any op W; have e : rpt op = 0 := by unfold rpt; rw [if_neg (by omega)]; exact hpt
    rw [e] at h1; exact h1
  have HI : Hid (∀ o t,Calls Tryz.prog 45 #[.pointer (some ⟨B,0,none⟩),.int .i64 t] (w.alloc o) fun e w' => e = .returned (.bool (isT L t)) /\ w' = w.alloc o) := fun o t => is_any 69 B0 B lim L v (some M1) (some M2) t _ (h.below (bel1 w o))
  have HEx : Hid (∀ W,Calls Tryz.prog 59 #[.agg #[.int .i64 op,.int .i64 u,.int .i64 a,.int .i64 b,.int .i64 c,.int .u64 num,.string nm],.int .i64 0] W fun e w' => e = .returned (.bool (!br ⟨op,u,a,b,c,num,nm⟩)) /\ Below W.heap.size W w') := fun W => by
    have h1 := extra_any ⟨op,u,a,b,c,num,nm⟩ W; rw [show pt ((⟨op,u,a,b,c,num,nm⟩ : Nd)).op = 0 from hpt] at h1; exact h1
  have qu1 : decide (u < 0) = false := decide_eq_false (by omega); have qu2 : decide (64 < u) = false := decide_eq_false (by omega); have HSo : Hid (∀ W,Below w.heap.size w W -> Calls Tryz.prog 60 #[.pointer (some ⟨B,0,none⟩),.agg #[.int .i64 op,.int .i64 u,.int .i64 a,.int .i64 b,.int .i64 c,.int .u64 num,.string nm]] W fun e w' => e = .returned (.bool true) /\ Below W.heap.size W w') := fun W hb => by
    have h1 := rsorts_any 69 B0 B lim L v (some M1) (some M2) ⟨op,u,a,b,c,num,nm⟩ W (h.below hb) hop.1 hop.2 hP hBr; rw [hSf] at h1; exact h1
  have HWi : Hid (∀ W,Below w.heap.size w W -> Calls Tryz.prog 61 #[.pointer (some ⟨B,0,none⟩),.agg #[.int .i64 op,.int .i64 u,.int .i64 a,.int .i64 b,.int .i64 c,.int .u64 num,.string nm]] W fun e w' => e = .returned (.bool false) /\ Below W.heap.size W w') := fun W hb => by
    have h1 := rwidth_any 69 B0 B lim L v (some M1) (some M2) ⟨op,u,a,b,c,num,nm⟩ W (h.below hb) hop.1 hop.2 (U_of3 hn.num) hu hP; rw [hWf] at h1; exact h1
  have HREF : Hid (∀ w' X,rfE L ⟨op,u,a,b,c,num,nm⟩ = X -> X ≠ 0 -> Below w.heap.size w w' -> MkP 69 w B0 B lim L v (some M1) (some M2) ⟨op,u,a,b,c,num,nm⟩ (.returned (.tuple #[.int .i64 0,.int .i64 X])) w') := fun w' X hX h0 hb => by
    have := MkP.ref h (by rw [hX]; exact h0) hb; rw [hX] at this; exact this
  generalize hPP : MkP 69 w B0 B lim L v (some M1) (some M2) ⟨op,u,a,b,c,num,nm⟩ = PP at *
  have HX : Hid (rfE L ⟨op,u,a,b,c,num,nm⟩ = 5) := rfE_6 hop hu hP hBr hSf hWf; rw [hBr] at HEx; clear hPP hop hpt hu hP hBr h hSf hWf hn
  go_enter Tryz.func36,Tryz.ntmps36
  go_wp2_with (first | (go_at_call 58; refine (HPt.out _).mono ?_; rintro e w' ⟨rfl,rfl⟩) | (go_at_call 45; refine (HI.out _ _).mono ?_; rintro e w' ⟨rfl,rfl⟩))
  refine (HEx.out _).mono ?_; rintro e w1 ⟨rfl,hb⟩; have X1 : Hid (Below (w.heap.size + 1) (w.alloc (Obj.cells #[.int .i64 op,.int .i64 u,.int .i64 a,.int .i64 b,.int .i64 c,.int .u64 num,.string nm] 64 (0,0))) w1) := hb.mono (by simp); clear hb; have d0 : w1.cell? ⟨w.heap.size,0,none⟩ = some (.int .i64 op) := box_cells X1.out 0; have d1 : w1.cell? ⟨w.heap.size,1,none⟩ = some (.int .i64 u) := box_cells X1.out 1; have d2 : w1.cell? ⟨w.heap.size,2,none⟩ = some (.int .i64 a) := box_cells X1.out 2; have d3 : w1.cell? ⟨w.heap.size,3,none⟩ = some (.int .i64 b) := box_cells X1.out 3; have d4 : w1.cell? ⟨w.heap.size,4,none⟩ = some (.int .i64 c) := box_cells X1.out 4; have d5 : w1.cell? ⟨w.heap.size,5,none⟩ = some (.int .u64 num) := box_cells X1.out 5; have d6 : w1.cell? ⟨w.heap.size,6,none⟩ = some (.string nm) := box_cells X1.out 6
  go_wp2_with fail
  refine (HSo.out _ (box_old X1.out)).mono ?_; rintro e w2 ⟨rfl,hb⟩; have X2 : Hid (Below (w.heap.size + 1) (w.alloc (Obj.cells #[.int .i64 op,.int .i64 u,.int .i64 a,.int .i64 b,.int .i64 c,.int .u64 num,.string nm] 64 (0,0))) w2) := box_next X1.out hb; clear hb; clear d0 d1 d2 d3 d4 d5 d6; have d0 : w2.cell? ⟨w.heap.size,0,none⟩ = some (.int .i64 op) := box_cells X2.out 0; have d1 : w2.cell? ⟨w.heap.size,1,none⟩ = some (.int .i64 u) := box_cells X2.out 1; have d2 : w2.cell? ⟨w.heap.size,2,none⟩ = some (.int .i64 a) := box_cells X2.out 2; have d3 : w2.cell? ⟨w.heap.size,3,none⟩ = some (.int .i64 b) := box_cells X2.out 3; have d4 : w2.cell? ⟨w.heap.size,4,none⟩ = some (.int .i64 c) := box_cells X2.out 4; have d5 : w2.cell? ⟨w.heap.size,5,none⟩ = some (.int .u64 num) := box_cells X2.out 5; have d6 : w2.cell? ⟨w.heap.size,6,none⟩ = some (.string nm) := box_cells X2.out 6
  go_wp2_with fail
  refine (HWi.out _ (box_old X2.out)).mono ?_; rintro e w3 ⟨rfl,hb⟩; have X3 : Hid (Below (w.heap.size + 1) (w.alloc (Obj.cells #[.int .i64 op,.int .i64 u,.int .i64 a,.int .i64 b,.int .i64 c,.int .u64 num,.string nm] 64 (0,0))) w3) := box_next X2.out hb; clear hb; clear d0 d1 d2 d3 d4 d5 d6; have d0 : w3.cell? ⟨w.heap.size,0,none⟩ = some (.int .i64 op) := box_cells X3.out 0; have d1 : w3.cell? ⟨w.heap.size,1,none⟩ = some (.int .i64 u) := box_cells X3.out 1; have d2 : w3.cell? ⟨w.heap.size,2,none⟩ = some (.int .i64 a) := box_cells X3.out 2; have d3 : w3.cell? ⟨w.heap.size,3,none⟩ = some (.int .i64 b) := box_cells X3.out 3; have d4 : w3.cell? ⟨w.heap.size,4,none⟩ = some (.int .i64 c) := box_cells X3.out 4; have d5 : w3.cell? ⟨w.heap.size,5,none⟩ = some (.int .u64 num) := box_cells X3.out 5; have d6 : w3.cell? ⟨w.heap.size,6,none⟩ = some (.string nm) := box_cells X3.out 6
  go_wp2
  first | exact HREF.out _ 5 HX.out (by decide) (box_old X3.out) | (go_ret2; exact HREF.out _ 5 HX.out (by decide) (box_old X3.out))
set_option maxHeartbeats 8000000 in
set_option maxRecDepth 100000 in
theorem rbad_n (B0 B : Nat) (lim : Int) (L : List Nd) (v : Value) (M1 M2 : Nat) (op u a b c num : Int) (nm : ByteArray) (w : World) (h : SM 69 w B0 B lim L v (some M1) (some M2)) (hn : (⟨op,u,a,b,c,num,nm⟩ : Nd).ok) (hop : 1 <= op /\ op <= 33) (hpt : pt op = 0) (hu : 0 <= u /\ u <= 64) (hP : hp L ⟨op,u,a,b,c,num,nm⟩ = true) (h4 : op = 4) (hBr : br ⟨op,u,a,b,c,num,nm⟩ = true) (hSf : sf op (wd L a) (wd L b) (wd L c) = true) (hWf : wf op u num (wd L a) (wd L b) = true) (hnf : nf L ⟨op,u,a,b,c,num,nm⟩ = false) :
    Calls Tryz.prog 36 #[.pointer (some ⟨B,0,none⟩),.agg #[.int .i64 op,.int .i64 u,.int .i64 a,.int .i64 b,.int .i64 c,.int .u64 num,.string nm]] w (MkP 69 w B0 B lim L v (some M1) (some M2) ⟨op,u,a,b,c,num,nm⟩) := by
  have HPt : Hid (∀ W,Calls Tryz.prog 58 #[.int .i64 op] W fun e w' => e = .returned (.int .i64 0) /\ w' = W) := fun W => by
    have h1 := rparts_any op W; have e : rpt op = 0 := by unfold rpt; rw [if_neg (by omega)]; exact hpt
    rw [e] at h1; exact h1
  have HI : Hid (∀ o t,Calls Tryz.prog 45 #[.pointer (some ⟨B,0,none⟩),.int .i64 t] (w.alloc o) fun e w' => e = .returned (.bool (isT L t)) /\ w' = w.alloc o) := fun o t => is_any 69 B0 B lim L v (some M1) (some M2) t _ (h.below (bel1 w o))
  have HEx : Hid (∀ W,Calls Tryz.prog 59 #[.agg #[.int .i64 op,.int .i64 u,.int .i64 a,.int .i64 b,.int .i64 c,.int .u64 num,.string nm],.int .i64 0] W fun e w' => e = .returned (.bool (!br ⟨op,u,a,b,c,num,nm⟩)) /\ Below W.heap.size W w') := fun W => by
    have h1 := extra_any ⟨op,u,a,b,c,num,nm⟩ W; rw [show pt ((⟨op,u,a,b,c,num,nm⟩ : Nd)).op = 0 from hpt] at h1; exact h1
  have qu1 : decide (u < 0) = false := decide_eq_false (by omega); have qu2 : decide (64 < u) = false := decide_eq_false (by omega); have HSo : Hid (∀ W,Below w.heap.size w W -> Calls Tryz.prog 60 #[.pointer (some ⟨B,0,none⟩),.agg #[.int .i64 op,.int .i64 u,.int .i64 a,.int .i64 b,.int .i64 c,.int .u64 num,.string nm]] W fun e w' => e = .returned (.bool true) /\ Below W.heap.size W w') := fun W hb => by
    have h1 := rsorts_any 69 B0 B lim L v (some M1) (some M2) ⟨op,u,a,b,c,num,nm⟩ W (h.below hb) hop.1 hop.2 hP hBr; rw [hSf] at h1; exact h1
  have HWi : Hid (∀ W,Below w.heap.size w W -> Calls Tryz.prog 61 #[.pointer (some ⟨B,0,none⟩),.agg #[.int .i64 op,.int .i64 u,.int .i64 a,.int .i64 b,.int .i64 c,.int .u64 num,.string nm]] W fun e w' => e = .returned (.bool true) /\ Below W.heap.size W w') := fun W hb => by
    have h1 := rwidth_any 69 B0 B lim L v (some M1) (some M2) ⟨op,u,a,b,c,num,nm⟩ W (h.below hb) hop.1 hop.2 (U_of3 hn.num) hu hP; rw [hWf] at h1; exact h1
  have HREF : Hid (∀ w' X,rfE L ⟨op,u,a,b,c,num,nm⟩ = X -> X ≠ 0 -> Below w.heap.size w w' -> MkP 69 w B0 B lim L v (some M1) (some M2) ⟨op,u,a,b,c,num,nm⟩ (.returned (.tuple #[.int .i64 0,.int .i64 X])) w') := fun w' X hX h0 hb => by
    have := MkP.ref h (by rw [hX]; exact h0) hb; rw [hX] at this; exact this
  generalize hPP : MkP 69 w B0 B lim L v (some M1) (some M2) ⟨op,u,a,b,c,num,nm⟩ = PP at *
  have HX : Hid (rfE L ⟨op,u,a,b,c,num,nm⟩ = 72) := by
    show _ = _
    rw [rfE_7 hop hu hP hBr hSf hWf,if_pos ⟨h4,hnf⟩]
  have HNM : Hid (nm.size <= 140737488355328) := hn.name; have HNa : Hid (∀ W,Calls Tryz.prog 62 #[.string nm] W fun e w' => e = .returned (.bool (nmB nm)) /\ w' = W) := fun W => rname_any nm W (by have h7 : nm.size <= 140737488355328 := hn.name; unfold maxLen; omega)
  have HS : Hid (SM 69 w B0 B lim L v (some M1) (some M2)) := h; have HNF : Hid ((nmB nm && (match vw nm L with | none => true | some x => decide (x = u))) = false) := hnf; rw [hBr] at HEx; clear hPP hop hpt hu hP hBr h hSf hWf hnf hn; subst h4
  go_enter Tryz.func36,Tryz.ntmps36
  go_wp2_with (first | (go_at_call 58; refine (HPt.out _).mono ?_; rintro e w' ⟨rfl,rfl⟩) | (go_at_call 45; refine (HI.out _ _).mono ?_; rintro e w' ⟨rfl,rfl⟩))
  refine (HEx.out _).mono ?_; rintro e w1 ⟨rfl,hb⟩; have X1 : Hid (Below (w.heap.size + 1) (w.alloc (Obj.cells #[.int .i64 4,.int .i64 u,.int .i64 a,.int .i64 b,.int .i64 c,.int .u64 num,.string nm] 64 (0,0))) w1) := hb.mono (by simp); clear hb; have d0 : w1.cell? ⟨w.heap.size,0,none⟩ = some (.int .i64 4) := box_cells X1.out 0; have d1 : w1.cell? ⟨w.heap.size,1,none⟩ = some (.int .i64 u) := box_cells X1.out 1; have d2 : w1.cell? ⟨w.heap.size,2,none⟩ = some (.int .i64 a) := box_cells X1.out 2; have d3 : w1.cell? ⟨w.heap.size,3,none⟩ = some (.int .i64 b) := box_cells X1.out 3; have d4 : w1.cell? ⟨w.heap.size,4,none⟩ = some (.int .i64 c) := box_cells X1.out 4; have d5 : w1.cell? ⟨w.heap.size,5,none⟩ = some (.int .u64 num) := box_cells X1.out 5; have d6 : w1.cell? ⟨w.heap.size,6,none⟩ = some (.string nm) := box_cells X1.out 6
  go_wp2_with fail
  refine (HSo.out _ (box_old X1.out)).mono ?_; rintro e w2 ⟨rfl,hb⟩; have X2 : Hid (Below (w.heap.size + 1) (w.alloc (Obj.cells #[.int .i64 4,.int .i64 u,.int .i64 a,.int .i64 b,.int .i64 c,.int .u64 num,.string nm] 64 (0,0))) w2) := box_next X1.out hb; clear hb; clear d0 d1 d2 d3 d4 d5 d6; have d0 : w2.cell? ⟨w.heap.size,0,none⟩ = some (.int .i64 4) := box_cells X2.out 0; have d1 : w2.cell? ⟨w.heap.size,1,none⟩ = some (.int .i64 u) := box_cells X2.out 1; have d2 : w2.cell? ⟨w.heap.size,2,none⟩ = some (.int .i64 a) := box_cells X2.out 2; have d3 : w2.cell? ⟨w.heap.size,3,none⟩ = some (.int .i64 b) := box_cells X2.out 3; have d4 : w2.cell? ⟨w.heap.size,4,none⟩ = some (.int .i64 c) := box_cells X2.out 4; have d5 : w2.cell? ⟨w.heap.size,5,none⟩ = some (.int .u64 num) := box_cells X2.out 5; have d6 : w2.cell? ⟨w.heap.size,6,none⟩ = some (.string nm) := box_cells X2.out 6
  go_wp2_with fail
  refine (HWi.out _ (box_old X2.out)).mono ?_; rintro e w3 ⟨rfl,hb⟩; have X3 : Hid (Below (w.heap.size + 1) (w.alloc (Obj.cells #[.int .i64 4,.int .i64 u,.int .i64 a,.int .i64 b,.int .i64 c,.int .u64 num,.string nm] 64 (0,0))) w3) := box_next X2.out hb; clear hb; clear d0 d1 d2 d3 d4 d5 d6; have d0 : w3.cell? ⟨w.heap.size,0,none⟩ = some (.int .i64 4) := box_cells X3.out 0; have d1 : w3.cell? ⟨w.heap.size,1,none⟩ = some (.int .i64 u) := box_cells X3.out 1; have d2 : w3.cell? ⟨w.heap.size,2,none⟩ = some (.int .i64 a) := box_cells X3.out 2; have d3 : w3.cell? ⟨w.heap.size,3,none⟩ = some (.int .i64 b) := box_cells X3.out 3; have d4 : w3.cell? ⟨w.heap.size,4,none⟩ = some (.int .i64 c) := box_cells X3.out 4; have d5 : w3.cell? ⟨w.heap.size,5,none⟩ = some (.int .u64 num) := box_cells X3.out 5; have d6 : w3.cell? ⟨w.heap.size,6,none⟩ = some (.string nm) := box_cells X3.out 6
  go_wp2_with fail
  clear HSo HWi HEx HI HPt qu1 qu2 X1 X2; have hS0 := HS.out.below (box_old X3.out); obtain ⟨D0,hm0,hF0⟩ := hS0.m2; have hrunS := hF0.look lawS Tryz.underlying67 hm0 nm HNM.out; have hrunT := hF0.look lawS Tryz.underlying67 hm0.drew nm HNM.out; have c3 : w3.cell? ⟨B,3,none⟩ = some (.map (some M2)) := blk_cell hS0.blk 3; clear hS0 hm0 hF0; unfold varF at hrunS hrunT; cases hnm : nmB nm with
  | false =>
    rw [hnm] at HNa
    go_region
    go_wp2_with (go_at_call 62; refine (HNa.out _).mono ?_; rintro e w' ⟨rfl,rfl⟩)
    first | exact HREF.out _ 72 HX.out (by decide) (box_old X3.out).drew | (go_ret2; exact HREF.out _ 72 HX.out (by decide) (box_old X3.out).drew)
  | true =>
    rw [hnm] at HNa HNF; cases hv : vw nm L with
    | none =>
      exfalso
      have h7 := HNF.out; rw [hv] at h7
      simp at h7
    | some x =>
      have h7 := HNF.out; rw [hv] at h7 hrunS hrunT; have hxu : ¬ x = u := by simpa using h7
      have qx : (x == u) = false := beq_eq_false_iff_ne.2 hxu; clear h7 HNF
      go_region
      go_wp2_with (go_at_call 62; refine (HNa.out _).mono ?_; rintro e w' ⟨rfl,rfl⟩)
      first | exact HREF.out _ 72 HX.out (by decide) (box_old X3.out).drew | (go_ret2; exact HREF.out _ 72 HX.out (by decide) (box_old X3.out).drew)
end Go.Proofs.YtldpkkbdhohcmaaGreatDoor
namespace Go.Proofs.YtldpkkbdhohcmaaGreatDoor
open Go.ChangeShapes Go.WideShapes Go.ChangeAt Go.RowKit Go.Lib Go.Tm Go.Bw Go.Bn Go.WideMaps Go.Maps Go.ChangeMaps

set_option maxHeartbeats 8000000 in
set_option maxRecDepth 100000 in
theorem rbad_x1 (B0 B : Nat) (lim : Int) (L : List Nd) (v : Value) (M1 M2 : Nat) (op u a b c num : Int) (nm : ByteArray) (w : World) (h : SM 69 w B0 B lim L v (some M1) (some M2)) (_hn : (⟨op,u,a,b,c,num,nm⟩ : Nd).ok) (hop : 1 <= op /\ op <= 33) (hpt : pt op = 1) (hu : 0 <= u /\ u <= 64) (hia : isT L a = true) (hP : hp L ⟨op,u,a,b,c,num,nm⟩ = true) (hBr : br ⟨op,u,a,b,c,num,nm⟩ = false) :
    Calls Tryz.prog 36 #[.pointer (some ⟨B,0,none⟩),.agg #[.int .i64 op,.int .i64 u,.int .i64 a,.int .i64 b,.int .i64 c,.int .u64 num,.string nm]] w (MkP 69 w B0 B lim L v (some M1) (some M2) ⟨op,u,a,b,c,num,nm⟩) := by
  have HPt : Hid (∀ W,Calls Tryz.prog 58 #[.int .i64 op] W fun e w' => e = .returned (.int .i64 1) /\ w' = W) := fun W => by
    have h1 := rparts_any op W; have e : rpt op = 1 := by unfold rpt; rw [if_neg (by omega)]; exact hpt
    rw [e] at h1; exact h1
  have HI : Hid (∀ o t,Calls Tryz.prog 45 #[.pointer (some ⟨B,0,none⟩),.int .i64 t] (w.alloc o) fun e w' => e = .returned (.bool (isT L t)) /\ w' = w.alloc o) := fun o t => is_any 69 B0 B lim L v (some M1) (some M2) t _ (h.below (bel1 w o))
  have HEx : Hid (∀ W,Calls Tryz.prog 59 #[.agg #[.int .i64 op,.int .i64 u,.int .i64 a,.int .i64 b,.int .i64 c,.int .u64 num,.string nm],.int .i64 1] W fun e w' => e = .returned (.bool (!br ⟨op,u,a,b,c,num,nm⟩)) /\ Below W.heap.size W w') := fun W => by
    have h1 := extra_any ⟨op,u,a,b,c,num,nm⟩ W; rw [show pt ((⟨op,u,a,b,c,num,nm⟩ : Nd)).op = 1 from hpt] at h1; exact h1
  have qu1 : decide (u < 0) = false := decide_eq_false (by omega); have qu2 : decide (64 < u) = false := decide_eq_false (by omega); have HREF : Hid (∀ w' X,rfE L ⟨op,u,a,b,c,num,nm⟩ = X -> X ≠ 0 -> Below w.heap.size w w' -> MkP 69 w B0 B lim L v (some M1) (some M2) ⟨op,u,a,b,c,num,nm⟩ (.returned (.tuple #[.int .i64 0,.int .i64 X])) w') := fun w' X hX h0 hb => by
    have := MkP.ref h (by rw [hX]; exact h0) hb; rw [hX] at this; exact this
  generalize hPP : MkP 69 w B0 B lim L v (some M1) (some M2) ⟨op,u,a,b,c,num,nm⟩ = PP at *
  have HX : Hid (rfE L ⟨op,u,a,b,c,num,nm⟩ = 1) := rfE_4 hop hu hP hBr; rw [hBr] at HEx; clear hPP hop hpt hu hP hBr h
  go_enter Tryz.func36,Tryz.ntmps36
  go_wp2_with (first | (go_at_call 58; refine (HPt.out _).mono ?_; rintro e w' ⟨rfl,rfl⟩) | (go_at_call 45; refine (HI.out _ _).mono ?_; rintro e w' ⟨rfl,rfl⟩))
  refine (HEx.out _).mono ?_; rintro e w1 ⟨rfl,hb⟩; have hb1 : Below w.heap.size w w1 := (bel1 _ _).trans (hb.mono (by simp)); clear hb
  go_wp2
  first | exact HREF.out _ 1 HX.out (by decide) hb1 | (go_ret2; exact HREF.out _ 1 HX.out (by decide) hb1)
set_option maxHeartbeats 8000000 in
set_option maxRecDepth 100000 in
theorem rbad_s1 (B0 B : Nat) (lim : Int) (L : List Nd) (v : Value) (M1 M2 : Nat) (op u a b c num : Int) (nm : ByteArray) (w : World) (h : SM 69 w B0 B lim L v (some M1) (some M2)) (_hn : (⟨op,u,a,b,c,num,nm⟩ : Nd).ok) (hop : 1 <= op /\ op <= 33) (hpt : pt op = 1) (hu : 0 <= u /\ u <= 64) (hia : isT L a = true) (hP : hp L ⟨op,u,a,b,c,num,nm⟩ = true) (hBr : br ⟨op,u,a,b,c,num,nm⟩ = true) (hSf : sf op (wd L a) (wd L b) (wd L c) = false) :
    Calls Tryz.prog 36 #[.pointer (some ⟨B,0,none⟩),.agg #[.int .i64 op,.int .i64 u,.int .i64 a,.int .i64 b,.int .i64 c,.int .u64 num,.string nm]] w (MkP 69 w B0 B lim L v (some M1) (some M2) ⟨op,u,a,b,c,num,nm⟩) := by
  have HPt : Hid (∀ W,Calls Tryz.prog 58 #[.int .i64 op] W fun e w' => e = .returned (.int .i64 1) /\ w' = W) := fun W => by
    have h1 := rparts_any op W; have e : rpt op = 1 := by unfold rpt; rw [if_neg (by omega)]; exact hpt
    rw [e] at h1; exact h1
  have HI : Hid (∀ o t,Calls Tryz.prog 45 #[.pointer (some ⟨B,0,none⟩),.int .i64 t] (w.alloc o) fun e w' => e = .returned (.bool (isT L t)) /\ w' = w.alloc o) := fun o t => is_any 69 B0 B lim L v (some M1) (some M2) t _ (h.below (bel1 w o))
  have HEx : Hid (∀ W,Calls Tryz.prog 59 #[.agg #[.int .i64 op,.int .i64 u,.int .i64 a,.int .i64 b,.int .i64 c,.int .u64 num,.string nm],.int .i64 1] W fun e w' => e = .returned (.bool (!br ⟨op,u,a,b,c,num,nm⟩)) /\ Below W.heap.size W w') := fun W => by
    have h1 := extra_any ⟨op,u,a,b,c,num,nm⟩ W; rw [show pt ((⟨op,u,a,b,c,num,nm⟩ : Nd)).op = 1 from hpt] at h1; exact h1
  have qu1 : decide (u < 0) = false := decide_eq_false (by omega); have qu2 : decide (64 < u) = false := decide_eq_false (by omega); have HSo : Hid (∀ W,Below w.heap.size w W -> Calls Tryz.prog 60 #[.pointer (some ⟨B,0,none⟩),.agg #[.int .i64 op,.int .i64 u,.int .i64 a,.int .i64 b,.int .i64 c,.int .u64 num,.string nm]] W fun e w' => e = .returned (.bool false) /\ Below W.heap.size W w') := fun W hb => by
    have h1 := rsorts_any 69 B0 B lim L v (some M1) (some M2) ⟨op,u,a,b,c,num,nm⟩ W (h.below hb) hop.1 hop.2 hP hBr; rw [hSf] at h1; exact h1
  have HREF : Hid (∀ w' X,rfE L ⟨op,u,a,b,c,num,nm⟩ = X -> X ≠ 0 -> Below w.heap.size w w' -> MkP 69 w B0 B lim L v (some M1) (some M2) ⟨op,u,a,b,c,num,nm⟩ (.returned (.tuple #[.int .i64 0,.int .i64 X])) w') := fun w' X hX h0 hb => by
    have := MkP.ref h (by rw [hX]; exact h0) hb; rw [hX] at this; exact this
  generalize hPP : MkP 69 w B0 B lim L v (some M1) (some M2) ⟨op,u,a,b,c,num,nm⟩ = PP at *
  have HX : Hid (rfE L ⟨op,u,a,b,c,num,nm⟩ = 71) := rfE_5 hop hu hP hBr hSf; rw [hBr] at HEx; clear hPP hop hpt hu hP hBr h hSf
  go_enter Tryz.func36,Tryz.ntmps36
  go_wp2_with (first | (go_at_call 58; refine (HPt.out _).mono ?_; rintro e w' ⟨rfl,rfl⟩) | (go_at_call 45; refine (HI.out _ _).mono ?_; rintro e w' ⟨rfl,rfl⟩))
  refine (HEx.out _).mono ?_; rintro e w1 ⟨rfl,hb⟩; have X1 : Hid (Below (w.heap.size + 1) (w.alloc (Obj.cells #[.int .i64 op,.int .i64 u,.int .i64 a,.int .i64 b,.int .i64 c,.int .u64 num,.string nm] 64 (0,0))) w1) := hb.mono (by simp); clear hb; have d0 : w1.cell? ⟨w.heap.size,0,none⟩ = some (.int .i64 op) := box_cells X1.out 0; have d1 : w1.cell? ⟨w.heap.size,1,none⟩ = some (.int .i64 u) := box_cells X1.out 1; have d2 : w1.cell? ⟨w.heap.size,2,none⟩ = some (.int .i64 a) := box_cells X1.out 2; have d3 : w1.cell? ⟨w.heap.size,3,none⟩ = some (.int .i64 b) := box_cells X1.out 3; have d4 : w1.cell? ⟨w.heap.size,4,none⟩ = some (.int .i64 c) := box_cells X1.out 4; have d5 : w1.cell? ⟨w.heap.size,5,none⟩ = some (.int .u64 num) := box_cells X1.out 5; have d6 : w1.cell? ⟨w.heap.size,6,none⟩ = some (.string nm) := box_cells X1.out 6
  go_wp2_with fail
  refine (HSo.out _ (box_old X1.out)).mono ?_; rintro e w2 ⟨rfl,hb⟩; have X2 : Hid (Below (w.heap.size + 1) (w.alloc (Obj.cells #[.int .i64 op,.int .i64 u,.int .i64 a,.int .i64 b,.int .i64 c,.int .u64 num,.string nm] 64 (0,0))) w2) := box_next X1.out hb; clear hb; clear d0 d1 d2 d3 d4 d5 d6; have d0 : w2.cell? ⟨w.heap.size,0,none⟩ = some (.int .i64 op) := box_cells X2.out 0; have d1 : w2.cell? ⟨w.heap.size,1,none⟩ = some (.int .i64 u) := box_cells X2.out 1; have d2 : w2.cell? ⟨w.heap.size,2,none⟩ = some (.int .i64 a) := box_cells X2.out 2; have d3 : w2.cell? ⟨w.heap.size,3,none⟩ = some (.int .i64 b) := box_cells X2.out 3; have d4 : w2.cell? ⟨w.heap.size,4,none⟩ = some (.int .i64 c) := box_cells X2.out 4; have d5 : w2.cell? ⟨w.heap.size,5,none⟩ = some (.int .u64 num) := box_cells X2.out 5; have d6 : w2.cell? ⟨w.heap.size,6,none⟩ = some (.string nm) := box_cells X2.out 6
  go_wp2
  first | exact HREF.out _ 71 HX.out (by decide) (box_old X2.out) | (go_ret2; exact HREF.out _ 71 HX.out (by decide) (box_old X2.out))
set_option maxHeartbeats 8000000 in
set_option maxRecDepth 100000 in
theorem rbad_f1 (B0 B : Nat) (lim : Int) (L : List Nd) (v : Value) (M1 M2 : Nat) (op u a b c num : Int) (nm : ByteArray) (w : World) (h : SM 69 w B0 B lim L v (some M1) (some M2)) (hn : (⟨op,u,a,b,c,num,nm⟩ : Nd).ok) (hop : 1 <= op /\ op <= 33) (hpt : pt op = 1) (hu : 0 <= u /\ u <= 64) (hia : isT L a = true) (hP : hp L ⟨op,u,a,b,c,num,nm⟩ = true) (hBr : br ⟨op,u,a,b,c,num,nm⟩ = true) (hSf : sf op (wd L a) (wd L b) (wd L c) = true) (hWf : wf op u num (wd L a) (wd L b) = false) :
    Calls Tryz.prog 36 #[.pointer (some ⟨B,0,none⟩),.agg #[.int .i64 op,.int .i64 u,.int .i64 a,.int .i64 b,.int .i64 c,.int .u64 num,.string nm]] w (MkP 69 w B0 B lim L v (some M1) (some M2) ⟨op,u,a,b,c,num,nm⟩) := by
  have HPt : Hid (∀ W,Calls Tryz.prog 58 #[.int .i64 op] W fun e w' => e = .returned (.int .i64 1) /\ w' = W) := fun W => by
    have h1 := rparts_any op W; have e : rpt op = 1 := by unfold rpt; rw [if_neg (by omega)]; exact hpt
    rw [e] at h1; exact h1
  have HI : Hid (∀ o t,Calls Tryz.prog 45 #[.pointer (some ⟨B,0,none⟩),.int .i64 t] (w.alloc o) fun e w' => e = .returned (.bool (isT L t)) /\ w' = w.alloc o) := fun o t => is_any 69 B0 B lim L v (some M1) (some M2) t _ (h.below (bel1 w o))
  have HEx : Hid (∀ W,Calls Tryz.prog 59 #[.agg #[.int .i64 op,.int .i64 u,.int .i64 a,.int .i64 b,.int .i64 c,.int .u64 num,.string nm],.int .i64 1] W fun e w' => e = .returned (.bool (!br ⟨op,u,a,b,c,num,nm⟩)) /\ Below W.heap.size W w') := fun W => by
    have h1 := extra_any ⟨op,u,a,b,c,num,nm⟩ W; rw [show pt ((⟨op,u,a,b,c,num,nm⟩ : Nd)).op = 1 from hpt] at h1; exact h1
  have qu1 : decide (u < 0) = false := decide_eq_false (by omega); have qu2 : decide (64 < u) = false := decide_eq_false (by omega); have HSo : Hid (∀ W,Below w.heap.size w W -> Calls Tryz.prog 60 #[.pointer (some ⟨B,0,none⟩),.agg #[.int .i64 op,.int .i64 u,.int .i64 a,.int .i64 b,.int .i64 c,.int .u64 num,.string nm]] W fun e w' => e = .returned (.bool true) /\ Below W.heap.size W w') := fun W hb => by
    have h1 := rsorts_any 69 B0 B lim L v (some M1) (some M2) ⟨op,u,a,b,c,num,nm⟩ W (h.below hb) hop.1 hop.2 hP hBr; rw [hSf] at h1; exact h1
  have HWi : Hid (∀ W,Below w.heap.size w W -> Calls Tryz.prog 61 #[.pointer (some ⟨B,0,none⟩),.agg #[.int .i64 op,.int .i64 u,.int .i64 a,.int .i64 b,.int .i64 c,.int .u64 num,.string nm]] W fun e w' => e = .returned (.bool false) /\ Below W.heap.size W w') := fun W hb => by
    have h1 := rwidth_any 69 B0 B lim L v (some M1) (some M2) ⟨op,u,a,b,c,num,nm⟩ W (h.below hb) hop.1 hop.2 (U_of3 hn.num) hu hP; rw [hWf] at h1; exact h1
  have HREF : Hid (∀ w' X,rfE L ⟨op,u,a,b,c,num,nm⟩ = X -> X ≠ 0 -> Below w.heap.size w w' -> MkP 69 w B0 B lim L v (some M1) (some M2) ⟨op,u,a,b,c,num,nm⟩ (.returned (.tuple #[.int .i64 0,.int .i64 X])) w') := fun w' X hX h0 hb => by
    have := MkP.ref h (by rw [hX]; exact h0) hb; rw [hX] at this; exact this
  generalize hPP : MkP 69 w B0 B lim L v (some M1) (some M2) ⟨op,u,a,b,c,num,nm⟩ = PP at *
  have HX : Hid (rfE L ⟨op,u,a,b,c,num,nm⟩ = 5) := rfE_6 hop hu hP hBr hSf hWf; rw [hBr] at HEx; clear hPP hop hpt hu hP hBr h hSf hWf hn
  go_enter Tryz.func36,Tryz.ntmps36
  go_wp2_with (first | (go_at_call 58; refine (HPt.out _).mono ?_; rintro e w' ⟨rfl,rfl⟩) | (go_at_call 45; refine (HI.out _ _).mono ?_; rintro e w' ⟨rfl,rfl⟩))
  refine (HEx.out _).mono ?_; rintro e w1 ⟨rfl,hb⟩; have X1 : Hid (Below (w.heap.size + 1) (w.alloc (Obj.cells #[.int .i64 op,.int .i64 u,.int .i64 a,.int .i64 b,.int .i64 c,.int .u64 num,.string nm] 64 (0,0))) w1) := hb.mono (by simp); clear hb; have d0 : w1.cell? ⟨w.heap.size,0,none⟩ = some (.int .i64 op) := box_cells X1.out 0; have d1 : w1.cell? ⟨w.heap.size,1,none⟩ = some (.int .i64 u) := box_cells X1.out 1; have d2 : w1.cell? ⟨w.heap.size,2,none⟩ = some (.int .i64 a) := box_cells X1.out 2; have d3 : w1.cell? ⟨w.heap.size,3,none⟩ = some (.int .i64 b) := box_cells X1.out 3; have d4 : w1.cell? ⟨w.heap.size,4,none⟩ = some (.int .i64 c) := box_cells X1.out 4; have d5 : w1.cell? ⟨w.heap.size,5,none⟩ = some (.int .u64 num) := box_cells X1.out 5; have d6 : w1.cell? ⟨w.heap.size,6,none⟩ = some (.string nm) := box_cells X1.out 6
  go_wp2_with fail
  refine (HSo.out _ (box_old X1.out)).mono ?_; rintro e w2 ⟨rfl,hb⟩; have X2 : Hid (Below (w.heap.size + 1) (w.alloc (Obj.cells #[.int .i64 op,.int .i64 u,.int .i64 a,.int .i64 b,.int .i64 c,.int .u64 num,.string nm] 64 (0,0))) w2) := box_next X1.out hb; clear hb; clear d0 d1 d2 d3 d4 d5 d6; have d0 : w2.cell? ⟨w.heap.size,0,none⟩ = some (.int .i64 op) := box_cells X2.out 0; have d1 : w2.cell? ⟨w.heap.size,1,none⟩ = some (.int .i64 u) := box_cells X2.out 1; have d2 : w2.cell? ⟨w.heap.size,2,none⟩ = some (.int .i64 a) := box_cells X2.out 2; have d3 : w2.cell? ⟨w.heap.size,3,none⟩ = some (.int .i64 b) := box_cells X2.out 3; have d4 : w2.cell? ⟨w.heap.size,4,none⟩ = some (.int .i64 c) := box_cells X2.out 4; have d5 : w2.cell? ⟨w.heap.size,5,none⟩ = some (.int .u64 num) := box_cells X2.out 5; have d6 : w2.cell? ⟨w.heap.size,6,none⟩ = some (.string nm) := box_cells X2.out 6
  go_wp2_with fail
  refine (HWi.out _ (box_old X2.out)).mono ?_; rintro e w3 ⟨rfl,hb⟩; have X3 : Hid (Below (w.heap.size + 1) (w.alloc (Obj.cells #[.int .i64 op,.int .i64 u,.int .i64 a,.int .i64 b,.int .i64 c,.int .u64 num,.string nm] 64 (0,0))) w3) := box_next X2.out hb; clear hb; clear d0 d1 d2 d3 d4 d5 d6; have d0 : w3.cell? ⟨w.heap.size,0,none⟩ = some (.int .i64 op) := box_cells X3.out 0; have d1 : w3.cell? ⟨w.heap.size,1,none⟩ = some (.int .i64 u) := box_cells X3.out 1; have d2 : w3.cell? ⟨w.heap.size,2,none⟩ = some (.int .i64 a) := box_cells X3.out 2; have d3 : w3.cell? ⟨w.heap.size,3,none⟩ = some (.int .i64 b) := box_cells X3.out 3; have d4 : w3.cell? ⟨w.heap.size,4,none⟩ = some (.int .i64 c) := box_cells X3.out 4; have d5 : w3.cell? ⟨w.heap.size,5,none⟩ = some (.int .u64 num) := box_cells X3.out 5; have d6 : w3.cell? ⟨w.heap.size,6,none⟩ = some (.string nm) := box_cells X3.out 6
  go_wp2
  first | exact HREF.out _ 5 HX.out (by decide) (box_old X3.out) | (go_ret2; exact HREF.out _ 5 HX.out (by decide) (box_old X3.out))
end Go.Proofs.YtldpkkbdhohcmaaGreatDoor
namespace Go.Proofs.YtldpkkbdhohcmaaGreatDoor
open Go.ChangeShapes Go.WideShapes Go.ChangeAt Go.RowKit Go.Lib Go.Tm Go.Bw Go.Bn Go.WideMaps Go.Maps Go.ChangeMaps

set_option maxHeartbeats 8000000 in
set_option maxRecDepth 100000 in
theorem rbad_x2 (B0 B : Nat) (lim : Int) (L : List Nd) (v : Value) (M1 M2 : Nat) (op u a b c num : Int) (nm : ByteArray) (w : World) (h : SM 69 w B0 B lim L v (some M1) (some M2)) (_hn : (⟨op,u,a,b,c,num,nm⟩ : Nd).ok) (hop : 1 <= op /\ op <= 33) (hpt : pt op = 2) (hu : 0 <= u /\ u <= 64) (hia : isT L a = true) (hib : isT L b = true) (hP : hp L ⟨op,u,a,b,c,num,nm⟩ = true) (hBr : br ⟨op,u,a,b,c,num,nm⟩ = false) :
    Calls Tryz.prog 36 #[.pointer (some ⟨B,0,none⟩),.agg #[.int .i64 op,.int .i64 u,.int .i64 a,.int .i64 b,.int .i64 c,.int .u64 num,.string nm]] w (MkP 69 w B0 B lim L v (some M1) (some M2) ⟨op,u,a,b,c,num,nm⟩) := by
  have HPt : Hid (∀ W,Calls Tryz.prog 58 #[.int .i64 op] W fun e w' => e = .returned (.int .i64 2) /\ w' = W) := fun W => by
    have h1 := rparts_any op W; have e : rpt op = 2 := by unfold rpt; rw [if_neg (by omega)]; exact hpt
    rw [e] at h1; exact h1
  have HI : Hid (∀ o t,Calls Tryz.prog 45 #[.pointer (some ⟨B,0,none⟩),.int .i64 t] (w.alloc o) fun e w' => e = .returned (.bool (isT L t)) /\ w' = w.alloc o) := fun o t => is_any 69 B0 B lim L v (some M1) (some M2) t _ (h.below (bel1 w o))
  have HEx : Hid (∀ W,Calls Tryz.prog 59 #[.agg #[.int .i64 op,.int .i64 u,.int .i64 a,.int .i64 b,.int .i64 c,.int .u64 num,.string nm],.int .i64 2] W fun e w' => e = .returned (.bool (!br ⟨op,u,a,b,c,num,nm⟩)) /\ Below W.heap.size W w') := fun W => by
    have h1 := extra_any ⟨op,u,a,b,c,num,nm⟩ W; rw [show pt ((⟨op,u,a,b,c,num,nm⟩ : Nd)).op = 2 from hpt] at h1; exact h1
  have qu1 : decide (u < 0) = false := decide_eq_false (by omega); have qu2 : decide (64 < u) = false := decide_eq_false (by omega); have HREF : Hid (∀ w' X,rfE L ⟨op,u,a,b,c,num,nm⟩ = X -> X ≠ 0 -> Below w.heap.size w w' -> MkP 69 w B0 B lim L v (some M1) (some M2) ⟨op,u,a,b,c,num,nm⟩ (.returned (.tuple #[.int .i64 0,.int .i64 X])) w') := fun w' X hX h0 hb => by
    have := MkP.ref h (by rw [hX]; exact h0) hb; rw [hX] at this; exact this
  generalize hPP : MkP 69 w B0 B lim L v (some M1) (some M2) ⟨op,u,a,b,c,num,nm⟩ = PP at *
  have HX : Hid (rfE L ⟨op,u,a,b,c,num,nm⟩ = 1) := rfE_4 hop hu hP hBr; rw [hBr] at HEx; clear hPP hop hpt hu hP hBr h
  go_enter Tryz.func36,Tryz.ntmps36
  go_wp2_with (first | (go_at_call 58; refine (HPt.out _).mono ?_; rintro e w' ⟨rfl,rfl⟩) | (go_at_call 45; refine (HI.out _ _).mono ?_; rintro e w' ⟨rfl,rfl⟩))
  refine (HEx.out _).mono ?_; rintro e w1 ⟨rfl,hb⟩; have hb1 : Below w.heap.size w w1 := (bel1 _ _).trans (hb.mono (by simp)); clear hb
  go_wp2
  first | exact HREF.out _ 1 HX.out (by decide) hb1 | (go_ret2; exact HREF.out _ 1 HX.out (by decide) hb1)
set_option maxHeartbeats 8000000 in
set_option maxRecDepth 100000 in
theorem rbad_s2 (B0 B : Nat) (lim : Int) (L : List Nd) (v : Value) (M1 M2 : Nat) (op u a b c num : Int) (nm : ByteArray) (w : World) (h : SM 69 w B0 B lim L v (some M1) (some M2)) (_hn : (⟨op,u,a,b,c,num,nm⟩ : Nd).ok) (hop : 1 <= op /\ op <= 33) (hpt : pt op = 2) (hu : 0 <= u /\ u <= 64) (hia : isT L a = true) (hib : isT L b = true) (hP : hp L ⟨op,u,a,b,c,num,nm⟩ = true) (hBr : br ⟨op,u,a,b,c,num,nm⟩ = true) (hSf : sf op (wd L a) (wd L b) (wd L c) = false) :
    Calls Tryz.prog 36 #[.pointer (some ⟨B,0,none⟩),.agg #[.int .i64 op,.int .i64 u,.int .i64 a,.int .i64 b,.int .i64 c,.int .u64 num,.string nm]] w (MkP 69 w B0 B lim L v (some M1) (some M2) ⟨op,u,a,b,c,num,nm⟩) := by
  have HPt : Hid (∀ W,Calls Tryz.prog 58 #[.int .i64 op] W fun e w' => e = .returned (.int .i64 2) /\ w' = W) := fun W => by
    have h1 := rparts_any op W; have e : rpt op = 2 := by unfold rpt; rw [if_neg (by omega)]; exact hpt
    rw [e] at h1; exact h1
  have HI : Hid (∀ o t,Calls Tryz.prog 45 #[.pointer (some ⟨B,0,none⟩),.int .i64 t] (w.alloc o) fun e w' => e = .returned (.bool (isT L t)) /\ w' = w.alloc o) := fun o t => is_any 69 B0 B lim L v (some M1) (some M2) t _ (h.below (bel1 w o))
  have HEx : Hid (∀ W,Calls Tryz.prog 59 #[.agg #[.int .i64 op,.int .i64 u,.int .i64 a,.int .i64 b,.int .i64 c,.int .u64 num,.string nm],.int .i64 2] W fun e w' => e = .returned (.bool (!br ⟨op,u,a,b,c,num,nm⟩)) /\ Below W.heap.size W w') := fun W => by
    have h1 := extra_any ⟨op,u,a,b,c,num,nm⟩ W; rw [show pt ((⟨op,u,a,b,c,num,nm⟩ : Nd)).op = 2 from hpt] at h1; exact h1
  have qu1 : decide (u < 0) = false := decide_eq_false (by omega); have qu2 : decide (64 < u) = false := decide_eq_false (by omega); have HSo : Hid (∀ W,Below w.heap.size w W -> Calls Tryz.prog 60 #[.pointer (some ⟨B,0,none⟩),.agg #[.int .i64 op,.int .i64 u,.int .i64 a,.int .i64 b,.int .i64 c,.int .u64 num,.string nm]] W fun e w' => e = .returned (.bool false) /\ Below W.heap.size W w') := fun W hb => by
    have h1 := rsorts_any 69 B0 B lim L v (some M1) (some M2) ⟨op,u,a,b,c,num,nm⟩ W (h.below hb) hop.1 hop.2 hP hBr; rw [hSf] at h1; exact h1
  have HREF : Hid (∀ w' X,rfE L ⟨op,u,a,b,c,num,nm⟩ = X -> X ≠ 0 -> Below w.heap.size w w' -> MkP 69 w B0 B lim L v (some M1) (some M2) ⟨op,u,a,b,c,num,nm⟩ (.returned (.tuple #[.int .i64 0,.int .i64 X])) w') := fun w' X hX h0 hb => by
    have := MkP.ref h (by rw [hX]; exact h0) hb; rw [hX] at this; exact this
  generalize hPP : MkP 69 w B0 B lim L v (some M1) (some M2) ⟨op,u,a,b,c,num,nm⟩ = PP at *
  have HX : Hid (rfE L ⟨op,u,a,b,c,num,nm⟩ = 71) := rfE_5 hop hu hP hBr hSf; rw [hBr] at HEx; clear hPP hop hpt hu hP hBr h hSf
  go_enter Tryz.func36,Tryz.ntmps36
  go_wp2_with (first | (go_at_call 58; refine (HPt.out _).mono ?_; rintro e w' ⟨rfl,rfl⟩) | (go_at_call 45; refine (HI.out _ _).mono ?_; rintro e w' ⟨rfl,rfl⟩))
  refine (HEx.out _).mono ?_; rintro e w1 ⟨rfl,hb⟩; have X1 : Hid (Below (w.heap.size + 1) (w.alloc (Obj.cells #[.int .i64 op,.int .i64 u,.int .i64 a,.int .i64 b,.int .i64 c,.int .u64 num,.string nm] 64 (0,0))) w1) := hb.mono (by simp); clear hb; have d0 : w1.cell? ⟨w.heap.size,0,none⟩ = some (.int .i64 op) := box_cells X1.out 0; have d1 : w1.cell? ⟨w.heap.size,1,none⟩ = some (.int .i64 u) := box_cells X1.out 1; have d2 : w1.cell? ⟨w.heap.size,2,none⟩ = some (.int .i64 a) := box_cells X1.out 2; have d3 : w1.cell? ⟨w.heap.size,3,none⟩ = some (.int .i64 b) := box_cells X1.out 3; have d4 : w1.cell? ⟨w.heap.size,4,none⟩ = some (.int .i64 c) := box_cells X1.out 4; have d5 : w1.cell? ⟨w.heap.size,5,none⟩ = some (.int .u64 num) := box_cells X1.out 5; have d6 : w1.cell? ⟨w.heap.size,6,none⟩ = some (.string nm) := box_cells X1.out 6
  go_wp2_with fail
  refine (HSo.out _ (box_old X1.out)).mono ?_; rintro e w2 ⟨rfl,hb⟩; have X2 : Hid (Below (w.heap.size + 1) (w.alloc (Obj.cells #[.int .i64 op,.int .i64 u,.int .i64 a,.int .i64 b,.int .i64 c,.int .u64 num,.string nm] 64 (0,0))) w2) := box_next X1.out hb; clear hb; clear d0 d1 d2 d3 d4 d5 d6; have d0 : w2.cell? ⟨w.heap.size,0,none⟩ = some (.int .i64 op) := box_cells X2.out 0; have d1 : w2.cell? ⟨w.heap.size,1,none⟩ = some (.int .i64 u) := box_cells X2.out 1; have d2 : w2.cell? ⟨w.heap.size,2,none⟩ = some (.int .i64 a) := box_cells X2.out 2; have d3 : w2.cell? ⟨w.heap.size,3,none⟩ = some (.int .i64 b) := box_cells X2.out 3; have d4 : w2.cell? ⟨w.heap.size,4,none⟩ = some (.int .i64 c) := box_cells X2.out 4; have d5 : w2.cell? ⟨w.heap.size,5,none⟩ = some (.int .u64 num) := box_cells X2.out 5; have d6 : w2.cell? ⟨w.heap.size,6,none⟩ = some (.string nm) := box_cells X2.out 6
  go_wp2
  first | exact HREF.out _ 71 HX.out (by decide) (box_old X2.out) | (go_ret2; exact HREF.out _ 71 HX.out (by decide) (box_old X2.out))
set_option maxHeartbeats 8000000 in
set_option maxRecDepth 100000 in
theorem rbad_f2 (B0 B : Nat) (lim : Int) (L : List Nd) (v : Value) (M1 M2 : Nat) (op u a b c num : Int) (nm : ByteArray) (w : World) (h : SM 69 w B0 B lim L v (some M1) (some M2)) (hn : (⟨op,u,a,b,c,num,nm⟩ : Nd).ok) (hop : 1 <= op /\ op <= 33) (hpt : pt op = 2) (hu : 0 <= u /\ u <= 64) (hia : isT L a = true) (hib : isT L b = true) (hP : hp L ⟨op,u,a,b,c,num,nm⟩ = true) (hBr : br ⟨op,u,a,b,c,num,nm⟩ = true) (hSf : sf op (wd L a) (wd L b) (wd L c) = true) (hWf : wf op u num (wd L a) (wd L b) = false) :
    Calls Tryz.prog 36 #[.pointer (some ⟨B,0,none⟩),.agg #[.int .i64 op,.int .i64 u,.int .i64 a,.int .i64 b,.int .i64 c,.int .u64 num,.string nm]] w (MkP 69 w B0 B lim L v (some M1) (some M2) ⟨op,u,a,b,c,num,nm⟩) := by
  have HPt : Hid (∀ W,Calls Tryz.prog 58 #[.int .i64 op] W fun e w' => e = .returned (.int .i64 2) /\ w' = W) := fun W => by
    have h1 := rparts_any op W; have e : rpt op = 2 := by unfold rpt; rw [if_neg (by omega)]; exact hpt
    rw [e] at h1; exact h1
  have HI : Hid (∀ o t,Calls Tryz.prog 45 #[.pointer (some ⟨B,0,none⟩),.int .i64 t] (w.alloc o) fun e w' => e = .returned (.bool (isT L t)) /\ w' = w.alloc o) := fun o t => is_any 69 B0 B lim L v (some M1) (some M2) t _ (h.below (bel1 w o))
  have HEx : Hid (∀ W,Calls Tryz.prog 59 #[.agg #[.int .i64 op,.int .i64 u,.int .i64 a,.int .i64 b,.int .i64 c,.int .u64 num,.string nm],.int .i64 2] W fun e w' => e = .returned (.bool (!br ⟨op,u,a,b,c,num,nm⟩)) /\ Below W.heap.size W w') := fun W => by
    have h1 := extra_any ⟨op,u,a,b,c,num,nm⟩ W; rw [show pt ((⟨op,u,a,b,c,num,nm⟩ : Nd)).op = 2 from hpt] at h1; exact h1
  have qu1 : decide (u < 0) = false := decide_eq_false (by omega); have qu2 : decide (64 < u) = false := decide_eq_false (by omega); have HSo : Hid (∀ W,Below w.heap.size w W -> Calls Tryz.prog 60 #[.pointer (some ⟨B,0,none⟩),.agg #[.int .i64 op,.int .i64 u,.int .i64 a,.int .i64 b,.int .i64 c,.int .u64 num,.string nm]] W fun e w' => e = .returned (.bool true) /\ Below W.heap.size W w') := fun W hb => by
    have h1 := rsorts_any 69 B0 B lim L v (some M1) (some M2) ⟨op,u,a,b,c,num,nm⟩ W (h.below hb) hop.1 hop.2 hP hBr; rw [hSf] at h1; exact h1
  have HWi : Hid (∀ W,Below w.heap.size w W -> Calls Tryz.prog 61 #[.pointer (some ⟨B,0,none⟩),.agg #[.int .i64 op,.int .i64 u,.int .i64 a,.int .i64 b,.int .i64 c,.int .u64 num,.string nm]] W fun e w' => e = .returned (.bool false) /\ Below W.heap.size W w') := fun W hb => by
    have h1 := rwidth_any 69 B0 B lim L v (some M1) (some M2) ⟨op,u,a,b,c,num,nm⟩ W (h.below hb) hop.1 hop.2 (U_of3 hn.num) hu hP; rw [hWf] at h1; exact h1
  have HREF : Hid (∀ w' X,rfE L ⟨op,u,a,b,c,num,nm⟩ = X -> X ≠ 0 -> Below w.heap.size w w' -> MkP 69 w B0 B lim L v (some M1) (some M2) ⟨op,u,a,b,c,num,nm⟩ (.returned (.tuple #[.int .i64 0,.int .i64 X])) w') := fun w' X hX h0 hb => by
    have := MkP.ref h (by rw [hX]; exact h0) hb; rw [hX] at this; exact this
  generalize hPP : MkP 69 w B0 B lim L v (some M1) (some M2) ⟨op,u,a,b,c,num,nm⟩ = PP at *
  have HX : Hid (rfE L ⟨op,u,a,b,c,num,nm⟩ = 5) := rfE_6 hop hu hP hBr hSf hWf; rw [hBr] at HEx; clear hPP hop hpt hu hP hBr h hSf hWf hn
  go_enter Tryz.func36,Tryz.ntmps36
  go_wp2_with (first | (go_at_call 58; refine (HPt.out _).mono ?_; rintro e w' ⟨rfl,rfl⟩) | (go_at_call 45; refine (HI.out _ _).mono ?_; rintro e w' ⟨rfl,rfl⟩))
  refine (HEx.out _).mono ?_; rintro e w1 ⟨rfl,hb⟩; have X1 : Hid (Below (w.heap.size + 1) (w.alloc (Obj.cells #[.int .i64 op,.int .i64 u,.int .i64 a,.int .i64 b,.int .i64 c,.int .u64 num,.string nm] 64 (0,0))) w1) := hb.mono (by simp); clear hb; have d0 : w1.cell? ⟨w.heap.size,0,none⟩ = some (.int .i64 op) := box_cells X1.out 0; have d1 : w1.cell? ⟨w.heap.size,1,none⟩ = some (.int .i64 u) := box_cells X1.out 1; have d2 : w1.cell? ⟨w.heap.size,2,none⟩ = some (.int .i64 a) := box_cells X1.out 2; have d3 : w1.cell? ⟨w.heap.size,3,none⟩ = some (.int .i64 b) := box_cells X1.out 3; have d4 : w1.cell? ⟨w.heap.size,4,none⟩ = some (.int .i64 c) := box_cells X1.out 4; have d5 : w1.cell? ⟨w.heap.size,5,none⟩ = some (.int .u64 num) := box_cells X1.out 5; have d6 : w1.cell? ⟨w.heap.size,6,none⟩ = some (.string nm) := box_cells X1.out 6
  go_wp2_with fail
  refine (HSo.out _ (box_old X1.out)).mono ?_; rintro e w2 ⟨rfl,hb⟩; have X2 : Hid (Below (w.heap.size + 1) (w.alloc (Obj.cells #[.int .i64 op,.int .i64 u,.int .i64 a,.int .i64 b,.int .i64 c,.int .u64 num,.string nm] 64 (0,0))) w2) := box_next X1.out hb; clear hb; clear d0 d1 d2 d3 d4 d5 d6; have d0 : w2.cell? ⟨w.heap.size,0,none⟩ = some (.int .i64 op) := box_cells X2.out 0; have d1 : w2.cell? ⟨w.heap.size,1,none⟩ = some (.int .i64 u) := box_cells X2.out 1; have d2 : w2.cell? ⟨w.heap.size,2,none⟩ = some (.int .i64 a) := box_cells X2.out 2; have d3 : w2.cell? ⟨w.heap.size,3,none⟩ = some (.int .i64 b) := box_cells X2.out 3; have d4 : w2.cell? ⟨w.heap.size,4,none⟩ = some (.int .i64 c) := box_cells X2.out 4; have d5 : w2.cell? ⟨w.heap.size,5,none⟩ = some (.int .u64 num) := box_cells X2.out 5; have d6 : w2.cell? ⟨w.heap.size,6,none⟩ = some (.string nm) := box_cells X2.out 6
  go_wp2_with fail
  refine (HWi.out _ (box_old X2.out)).mono ?_; rintro e w3 ⟨rfl,hb⟩; have X3 : Hid (Below (w.heap.size + 1) (w.alloc (Obj.cells #[.int .i64 op,.int .i64 u,.int .i64 a,.int .i64 b,.int .i64 c,.int .u64 num,.string nm] 64 (0,0))) w3) := box_next X2.out hb; clear hb; clear d0 d1 d2 d3 d4 d5 d6; have d0 : w3.cell? ⟨w.heap.size,0,none⟩ = some (.int .i64 op) := box_cells X3.out 0; have d1 : w3.cell? ⟨w.heap.size,1,none⟩ = some (.int .i64 u) := box_cells X3.out 1; have d2 : w3.cell? ⟨w.heap.size,2,none⟩ = some (.int .i64 a) := box_cells X3.out 2; have d3 : w3.cell? ⟨w.heap.size,3,none⟩ = some (.int .i64 b) := box_cells X3.out 3; have d4 : w3.cell? ⟨w.heap.size,4,none⟩ = some (.int .i64 c) := box_cells X3.out 4; have d5 : w3.cell? ⟨w.heap.size,5,none⟩ = some (.int .u64 num) := box_cells X3.out 5; have d6 : w3.cell? ⟨w.heap.size,6,none⟩ = some (.string nm) := box_cells X3.out 6
  go_wp2
  first | exact HREF.out _ 5 HX.out (by decide) (box_old X3.out) | (go_ret2; exact HREF.out _ 5 HX.out (by decide) (box_old X3.out))
end Go.Proofs.YtldpkkbdhohcmaaGreatDoor
namespace Go.Proofs.YtldpkkbdhohcmaaGreatDoor
open Go.ChangeShapes Go.WideShapes Go.ChangeAt Go.RowKit Go.Lib Go.Tm Go.Bw Go.Bn Go.WideMaps Go.Maps Go.ChangeMaps

set_option maxHeartbeats 8000000 in
set_option maxRecDepth 100000 in
theorem rbad_x3 (B0 B : Nat) (lim : Int) (L : List Nd) (v : Value) (M1 M2 : Nat) (op u a b c num : Int) (nm : ByteArray) (w : World) (h : SM 69 w B0 B lim L v (some M1) (some M2)) (_hn : (⟨op,u,a,b,c,num,nm⟩ : Nd).ok) (hop : 1 <= op /\ op <= 33) (hpt : pt op = 3) (hu : 0 <= u /\ u <= 64) (hia : isT L a = true) (hib : isT L b = true) (hic : isT L c = true) (hP : hp L ⟨op,u,a,b,c,num,nm⟩ = true) (hBr : br ⟨op,u,a,b,c,num,nm⟩ = false) :
    Calls Tryz.prog 36 #[.pointer (some ⟨B,0,none⟩),.agg #[.int .i64 op,.int .i64 u,.int .i64 a,.int .i64 b,.int .i64 c,.int .u64 num,.string nm]] w (MkP 69 w B0 B lim L v (some M1) (some M2) ⟨op,u,a,b,c,num,nm⟩) := by
  have HPt : Hid (∀ W,Calls Tryz.prog 58 #[.int .i64 op] W fun e w' => e = .returned (.int .i64 3) /\ w' = W) := fun W => by
    have h1 := rparts_any op W; have e : rpt op = 3 := by unfold rpt; rw [if_neg (by omega)]; exact hpt
    rw [e] at h1; exact h1
  have HI : Hid (∀ o t,Calls Tryz.prog 45 #[.pointer (some ⟨B,0,none⟩),.int .i64 t] (w.alloc o) fun e w' => e = .returned (.bool (isT L t)) /\ w' = w.alloc o) := fun o t => is_any 69 B0 B lim L v (some M1) (some M2) t _ (h.below (bel1 w o))
  have HEx : Hid (∀ W,Calls Tryz.prog 59 #[.agg #[.int .i64 op,.int .i64 u,.int .i64 a,.int .i64 b,.int .i64 c,.int .u64 num,.string nm],.int .i64 3] W fun e w' => e = .returned (.bool (!br ⟨op,u,a,b,c,num,nm⟩)) /\ Below W.heap.size W w') := fun W => by
    have h1 := extra_any ⟨op,u,a,b,c,num,nm⟩ W; rw [show pt ((⟨op,u,a,b,c,num,nm⟩ : Nd)).op = 3 from hpt] at h1; exact h1
  have qu1 : decide (u < 0) = false := decide_eq_false (by omega); have qu2 : decide (64 < u) = false := decide_eq_false (by omega); have HREF : Hid (∀ w' X,rfE L ⟨op,u,a,b,c,num,nm⟩ = X -> X ≠ 0 -> Below w.heap.size w w' -> MkP 69 w B0 B lim L v (some M1) (some M2) ⟨op,u,a,b,c,num,nm⟩ (.returned (.tuple #[.int .i64 0,.int .i64 X])) w') := fun w' X hX h0 hb => by
    have := MkP.ref h (by rw [hX]; exact h0) hb; rw [hX] at this; exact this
  generalize hPP : MkP 69 w B0 B lim L v (some M1) (some M2) ⟨op,u,a,b,c,num,nm⟩ = PP at *
  have HX : Hid (rfE L ⟨op,u,a,b,c,num,nm⟩ = 1) := rfE_4 hop hu hP hBr; rw [hBr] at HEx; clear hPP hop hpt hu hP hBr h
  go_enter Tryz.func36,Tryz.ntmps36
  go_wp2_with (first | (go_at_call 58; refine (HPt.out _).mono ?_; rintro e w' ⟨rfl,rfl⟩) | (go_at_call 45; refine (HI.out _ _).mono ?_; rintro e w' ⟨rfl,rfl⟩))
  refine (HEx.out _).mono ?_; rintro e w1 ⟨rfl,hb⟩; have hb1 : Below w.heap.size w w1 := (bel1 _ _).trans (hb.mono (by simp)); clear hb
  go_wp2
  first | exact HREF.out _ 1 HX.out (by decide) hb1 | (go_ret2; exact HREF.out _ 1 HX.out (by decide) hb1)
set_option maxHeartbeats 8000000 in
set_option maxRecDepth 100000 in
theorem rbad_s3 (B0 B : Nat) (lim : Int) (L : List Nd) (v : Value) (M1 M2 : Nat) (op u a b c num : Int) (nm : ByteArray) (w : World) (h : SM 69 w B0 B lim L v (some M1) (some M2)) (_hn : (⟨op,u,a,b,c,num,nm⟩ : Nd).ok) (hop : 1 <= op /\ op <= 33) (hpt : pt op = 3) (hu : 0 <= u /\ u <= 64) (hia : isT L a = true) (hib : isT L b = true) (hic : isT L c = true) (hP : hp L ⟨op,u,a,b,c,num,nm⟩ = true) (hBr : br ⟨op,u,a,b,c,num,nm⟩ = true) (hSf : sf op (wd L a) (wd L b) (wd L c) = false) :
    Calls Tryz.prog 36 #[.pointer (some ⟨B,0,none⟩),.agg #[.int .i64 op,.int .i64 u,.int .i64 a,.int .i64 b,.int .i64 c,.int .u64 num,.string nm]] w (MkP 69 w B0 B lim L v (some M1) (some M2) ⟨op,u,a,b,c,num,nm⟩) := by
  have HPt : Hid (∀ W,Calls Tryz.prog 58 #[.int .i64 op] W fun e w' => e = .returned (.int .i64 3) /\ w' = W) := fun W => by
    have h1 := rparts_any op W; have e : rpt op = 3 := by unfold rpt; rw [if_neg (by omega)]; exact hpt
    rw [e] at h1; exact h1
  have HI : Hid (∀ o t,Calls Tryz.prog 45 #[.pointer (some ⟨B,0,none⟩),.int .i64 t] (w.alloc o) fun e w' => e = .returned (.bool (isT L t)) /\ w' = w.alloc o) := fun o t => is_any 69 B0 B lim L v (some M1) (some M2) t _ (h.below (bel1 w o))
  have HEx : Hid (∀ W,Calls Tryz.prog 59 #[.agg #[.int .i64 op,.int .i64 u,.int .i64 a,.int .i64 b,.int .i64 c,.int .u64 num,.string nm],.int .i64 3] W fun e w' => e = .returned (.bool (!br ⟨op,u,a,b,c,num,nm⟩)) /\ Below W.heap.size W w') := fun W => by
    have h1 := extra_any ⟨op,u,a,b,c,num,nm⟩ W; rw [show pt ((⟨op,u,a,b,c,num,nm⟩ : Nd)).op = 3 from hpt] at h1; exact h1
  have qu1 : decide (u < 0) = false := decide_eq_false (by omega); have qu2 : decide (64 < u) = false := decide_eq_false (by omega); have HSo : Hid (∀ W,Below w.heap.size w W -> Calls Tryz.prog 60 #[.pointer (some ⟨B,0,none⟩),.agg #[.int .i64 op,.int .i64 u,.int .i64 a,.int .i64 b,.int .i64 c,.int .u64 num,.string nm]] W fun e w' => e = .returned (.bool false) /\ Below W.heap.size W w') := fun W hb => by
    have h1 := rsorts_any 69 B0 B lim L v (some M1) (some M2) ⟨op,u,a,b,c,num,nm⟩ W (h.below hb) hop.1 hop.2 hP hBr; rw [hSf] at h1; exact h1
  have HREF : Hid (∀ w' X,rfE L ⟨op,u,a,b,c,num,nm⟩ = X -> X ≠ 0 -> Below w.heap.size w w' -> MkP 69 w B0 B lim L v (some M1) (some M2) ⟨op,u,a,b,c,num,nm⟩ (.returned (.tuple #[.int .i64 0,.int .i64 X])) w') := fun w' X hX h0 hb => by
    have := MkP.ref h (by rw [hX]; exact h0) hb; rw [hX] at this; exact this
  generalize hPP : MkP 69 w B0 B lim L v (some M1) (some M2) ⟨op,u,a,b,c,num,nm⟩ = PP at *
  have HX : Hid (rfE L ⟨op,u,a,b,c,num,nm⟩ = 71) := rfE_5 hop hu hP hBr hSf; rw [hBr] at HEx; clear hPP hop hpt hu hP hBr h hSf
  go_enter Tryz.func36,Tryz.ntmps36
  go_wp2_with (first | (go_at_call 58; refine (HPt.out _).mono ?_; rintro e w' ⟨rfl,rfl⟩) | (go_at_call 45; refine (HI.out _ _).mono ?_; rintro e w' ⟨rfl,rfl⟩))
  refine (HEx.out _).mono ?_; rintro e w1 ⟨rfl,hb⟩; have X1 : Hid (Below (w.heap.size + 1) (w.alloc (Obj.cells #[.int .i64 op,.int .i64 u,.int .i64 a,.int .i64 b,.int .i64 c,.int .u64 num,.string nm] 64 (0,0))) w1) := hb.mono (by simp); clear hb; have d0 : w1.cell? ⟨w.heap.size,0,none⟩ = some (.int .i64 op) := box_cells X1.out 0; have d1 : w1.cell? ⟨w.heap.size,1,none⟩ = some (.int .i64 u) := box_cells X1.out 1; have d2 : w1.cell? ⟨w.heap.size,2,none⟩ = some (.int .i64 a) := box_cells X1.out 2; have d3 : w1.cell? ⟨w.heap.size,3,none⟩ = some (.int .i64 b) := box_cells X1.out 3; have d4 : w1.cell? ⟨w.heap.size,4,none⟩ = some (.int .i64 c) := box_cells X1.out 4; have d5 : w1.cell? ⟨w.heap.size,5,none⟩ = some (.int .u64 num) := box_cells X1.out 5; have d6 : w1.cell? ⟨w.heap.size,6,none⟩ = some (.string nm) := box_cells X1.out 6
  go_wp2_with fail
  refine (HSo.out _ (box_old X1.out)).mono ?_; rintro e w2 ⟨rfl,hb⟩; have X2 : Hid (Below (w.heap.size + 1) (w.alloc (Obj.cells #[.int .i64 op,.int .i64 u,.int .i64 a,.int .i64 b,.int .i64 c,.int .u64 num,.string nm] 64 (0,0))) w2) := box_next X1.out hb; clear hb; clear d0 d1 d2 d3 d4 d5 d6; have d0 : w2.cell? ⟨w.heap.size,0,none⟩ = some (.int .i64 op) := box_cells X2.out 0; have d1 : w2.cell? ⟨w.heap.size,1,none⟩ = some (.int .i64 u) := box_cells X2.out 1; have d2 : w2.cell? ⟨w.heap.size,2,none⟩ = some (.int .i64 a) := box_cells X2.out 2; have d3 : w2.cell? ⟨w.heap.size,3,none⟩ = some (.int .i64 b) := box_cells X2.out 3; have d4 : w2.cell? ⟨w.heap.size,4,none⟩ = some (.int .i64 c) := box_cells X2.out 4; have d5 : w2.cell? ⟨w.heap.size,5,none⟩ = some (.int .u64 num) := box_cells X2.out 5; have d6 : w2.cell? ⟨w.heap.size,6,none⟩ = some (.string nm) := box_cells X2.out 6
  go_wp2
  first | exact HREF.out _ 71 HX.out (by decide) (box_old X2.out) | (go_ret2; exact HREF.out _ 71 HX.out (by decide) (box_old X2.out))
set_option maxHeartbeats 8000000 in
set_option maxRecDepth 100000 in
theorem rbad_f3 (B0 B : Nat) (lim : Int) (L : List Nd) (v : Value) (M1 M2 : Nat) (op u a b c num : Int) (nm : ByteArray) (w : World) (h : SM 69 w B0 B lim L v (some M1) (some M2)) (hn : (⟨op,u,a,b,c,num,nm⟩ : Nd).ok) (hop : 1 <= op /\ op <= 33) (hpt : pt op = 3) (hu : 0 <= u /\ u <= 64) (hia : isT L a = true) (hib : isT L b = true) (hic : isT L c = true) (hP : hp L ⟨op,u,a,b,c,num,nm⟩ = true) (hBr : br ⟨op,u,a,b,c,num,nm⟩ = true) (hSf : sf op (wd L a) (wd L b) (wd L c) = true) (hWf : wf op u num (wd L a) (wd L b) = false) :
    Calls Tryz.prog 36 #[.pointer (some ⟨B,0,none⟩),.agg #[.int .i64 op,.int .i64 u,.int .i64 a,.int .i64 b,.int .i64 c,.int .u64 num,.string nm]] w (MkP 69 w B0 B lim L v (some M1) (some M2) ⟨op,u,a,b,c,num,nm⟩) := by
  have HPt : Hid (∀ W,Calls Tryz.prog 58 #[.int .i64 op] W fun e w' => e = .returned (.int .i64 3) /\ w' = W) := fun W => by
    have h1 := rparts_any op W; have e : rpt op = 3 := by unfold rpt; rw [if_neg (by omega)]; exact hpt
    rw [e] at h1; exact h1
  have HI : Hid (∀ o t,Calls Tryz.prog 45 #[.pointer (some ⟨B,0,none⟩),.int .i64 t] (w.alloc o) fun e w' => e = .returned (.bool (isT L t)) /\ w' = w.alloc o) := fun o t => is_any 69 B0 B lim L v (some M1) (some M2) t _ (h.below (bel1 w o))
  have HEx : Hid (∀ W,Calls Tryz.prog 59 #[.agg #[.int .i64 op,.int .i64 u,.int .i64 a,.int .i64 b,.int .i64 c,.int .u64 num,.string nm],.int .i64 3] W fun e w' => e = .returned (.bool (!br ⟨op,u,a,b,c,num,nm⟩)) /\ Below W.heap.size W w') := fun W => by
    have h1 := extra_any ⟨op,u,a,b,c,num,nm⟩ W; rw [show pt ((⟨op,u,a,b,c,num,nm⟩ : Nd)).op = 3 from hpt] at h1; exact h1
  have qu1 : decide (u < 0) = false := decide_eq_false (by omega); have qu2 : decide (64 < u) = false := decide_eq_false (by omega); have HSo : Hid (∀ W,Below w.heap.size w W -> Calls Tryz.prog 60 #[.pointer (some ⟨B,0,none⟩),.agg #[.int .i64 op,.int .i64 u,.int .i64 a,.int .i64 b,.int .i64 c,.int .u64 num,.string nm]] W fun e w' => e = .returned (.bool true) /\ Below W.heap.size W w') := fun W hb => by
    have h1 := rsorts_any 69 B0 B lim L v (some M1) (some M2) ⟨op,u,a,b,c,num,nm⟩ W (h.below hb) hop.1 hop.2 hP hBr; rw [hSf] at h1; exact h1
  have HWi : Hid (∀ W,Below w.heap.size w W -> Calls Tryz.prog 61 #[.pointer (some ⟨B,0,none⟩),.agg #[.int .i64 op,.int .i64 u,.int .i64 a,.int .i64 b,.int .i64 c,.int .u64 num,.string nm]] W fun e w' => e = .returned (.bool false) /\ Below W.heap.size W w') := fun W hb => by
    have h1 := rwidth_any 69 B0 B lim L v (some M1) (some M2) ⟨op,u,a,b,c,num,nm⟩ W (h.below hb) hop.1 hop.2 (U_of3 hn.num) hu hP; rw [hWf] at h1; exact h1
  have HREF : Hid (∀ w' X,rfE L ⟨op,u,a,b,c,num,nm⟩ = X -> X ≠ 0 -> Below w.heap.size w w' -> MkP 69 w B0 B lim L v (some M1) (some M2) ⟨op,u,a,b,c,num,nm⟩ (.returned (.tuple #[.int .i64 0,.int .i64 X])) w') := fun w' X hX h0 hb => by
    have := MkP.ref h (by rw [hX]; exact h0) hb; rw [hX] at this; exact this
  generalize hPP : MkP 69 w B0 B lim L v (some M1) (some M2) ⟨op,u,a,b,c,num,nm⟩ = PP at *
  have HX : Hid (rfE L ⟨op,u,a,b,c,num,nm⟩ = 5) := rfE_6 hop hu hP hBr hSf hWf; rw [hBr] at HEx; clear hPP hop hpt hu hP hBr h hSf hWf hn
  go_enter Tryz.func36,Tryz.ntmps36
  go_wp2_with (first | (go_at_call 58; refine (HPt.out _).mono ?_; rintro e w' ⟨rfl,rfl⟩) | (go_at_call 45; refine (HI.out _ _).mono ?_; rintro e w' ⟨rfl,rfl⟩))
  refine (HEx.out _).mono ?_; rintro e w1 ⟨rfl,hb⟩; have X1 : Hid (Below (w.heap.size + 1) (w.alloc (Obj.cells #[.int .i64 op,.int .i64 u,.int .i64 a,.int .i64 b,.int .i64 c,.int .u64 num,.string nm] 64 (0,0))) w1) := hb.mono (by simp); clear hb; have d0 : w1.cell? ⟨w.heap.size,0,none⟩ = some (.int .i64 op) := box_cells X1.out 0; have d1 : w1.cell? ⟨w.heap.size,1,none⟩ = some (.int .i64 u) := box_cells X1.out 1; have d2 : w1.cell? ⟨w.heap.size,2,none⟩ = some (.int .i64 a) := box_cells X1.out 2; have d3 : w1.cell? ⟨w.heap.size,3,none⟩ = some (.int .i64 b) := box_cells X1.out 3; have d4 : w1.cell? ⟨w.heap.size,4,none⟩ = some (.int .i64 c) := box_cells X1.out 4; have d5 : w1.cell? ⟨w.heap.size,5,none⟩ = some (.int .u64 num) := box_cells X1.out 5; have d6 : w1.cell? ⟨w.heap.size,6,none⟩ = some (.string nm) := box_cells X1.out 6
  go_wp2_with fail
  refine (HSo.out _ (box_old X1.out)).mono ?_; rintro e w2 ⟨rfl,hb⟩; have X2 : Hid (Below (w.heap.size + 1) (w.alloc (Obj.cells #[.int .i64 op,.int .i64 u,.int .i64 a,.int .i64 b,.int .i64 c,.int .u64 num,.string nm] 64 (0,0))) w2) := box_next X1.out hb; clear hb; clear d0 d1 d2 d3 d4 d5 d6; have d0 : w2.cell? ⟨w.heap.size,0,none⟩ = some (.int .i64 op) := box_cells X2.out 0; have d1 : w2.cell? ⟨w.heap.size,1,none⟩ = some (.int .i64 u) := box_cells X2.out 1; have d2 : w2.cell? ⟨w.heap.size,2,none⟩ = some (.int .i64 a) := box_cells X2.out 2; have d3 : w2.cell? ⟨w.heap.size,3,none⟩ = some (.int .i64 b) := box_cells X2.out 3; have d4 : w2.cell? ⟨w.heap.size,4,none⟩ = some (.int .i64 c) := box_cells X2.out 4; have d5 : w2.cell? ⟨w.heap.size,5,none⟩ = some (.int .u64 num) := box_cells X2.out 5; have d6 : w2.cell? ⟨w.heap.size,6,none⟩ = some (.string nm) := box_cells X2.out 6
  go_wp2_with fail
  refine (HWi.out _ (box_old X2.out)).mono ?_; rintro e w3 ⟨rfl,hb⟩; have X3 : Hid (Below (w.heap.size + 1) (w.alloc (Obj.cells #[.int .i64 op,.int .i64 u,.int .i64 a,.int .i64 b,.int .i64 c,.int .u64 num,.string nm] 64 (0,0))) w3) := box_next X2.out hb; clear hb; clear d0 d1 d2 d3 d4 d5 d6; have d0 : w3.cell? ⟨w.heap.size,0,none⟩ = some (.int .i64 op) := box_cells X3.out 0; have d1 : w3.cell? ⟨w.heap.size,1,none⟩ = some (.int .i64 u) := box_cells X3.out 1; have d2 : w3.cell? ⟨w.heap.size,2,none⟩ = some (.int .i64 a) := box_cells X3.out 2; have d3 : w3.cell? ⟨w.heap.size,3,none⟩ = some (.int .i64 b) := box_cells X3.out 3; have d4 : w3.cell? ⟨w.heap.size,4,none⟩ = some (.int .i64 c) := box_cells X3.out 4; have d5 : w3.cell? ⟨w.heap.size,5,none⟩ = some (.int .u64 num) := box_cells X3.out 5; have d6 : w3.cell? ⟨w.heap.size,6,none⟩ = some (.string nm) := box_cells X3.out 6
  go_wp2
  first | exact HREF.out _ 5 HX.out (by decide) (box_old X3.out) | (go_ret2; exact HREF.out _ 5 HX.out (by decide) (box_old X3.out))
end Go.Proofs.YtldpkkbdhohcmaaGreatDoor
namespace Go.Proofs.YtldpkkbdhohcmaaGreatDoor
open Go.ChangeShapes Go.WideShapes Go.ChangeAt Go.RowKit Go.Lib Go.Tm Go.Bw Go.Bn Go.WideMaps Go.Maps Go.ChangeMaps

theorem pt_four : pt 4 = 0 := by unfold pt; rw [if_pos (by omega)]
theorem rmake_any (B0 B : Nat) (lim : Int) (L : List Nd) (v : Value) (M1 M2 : Option Nat) (n : Nd) (w : World) (h0 : SM 69 w B0 B lim L v M1 M2) (hM : M1 ≠ none) (hB0 : B0 <= w.heap.size) (hl : L.length < 1000000000000) (hn : n.ok) :
    Calls Tryz.prog 36 #[.pointer (some ⟨B,0,none⟩),nodeV n] w (MkP 69 w B0 B lim L v M1 M2 n) := by
  obtain ⟨m1,rfl⟩ := Option.ne_none_iff_exists'.1 hM; obtain ⟨m2,rfl⟩ := Option.ne_none_iff_exists'.1 (h0.nil2 hM); have h := h0; clear h0 hM; obtain ⟨op,u,a,b,c,num,nm⟩ := n
  by_cases hop : op < 1 ∨ 33 < op
  · exact rbad_op B0 B lim L v m1 m2 op u a b c num nm w h hn hop
  have hop' : 1 <= op /\ op <= 33 := by omega
  by_cases hu : u < 0 ∨ 64 < u
  · exact rbad_w B0 B lim L v m1 m2 op u a b c num nm w h hn hop' hu
  have hu' : 0 <= u /\ u <= 64 := by omega
  cases hP : hp L ⟨op,u,a,b,c,num,nm⟩ with
  | false => exact rbad_part B0 B lim L v m1 m2 op u a b c num nm w h hn hop' hu' hP
  | true =>
    have ga := fun h1 => hp_a hP h1
    have gb := fun h1 => hp_b hP h1
    have gc := fun h1 => hp_c hP h1
    dsimp only at ga gb gc
    have hpl := pt_lo op; have hpc : pt op = 0 ∨ pt op = 1 ∨ pt op = 2 ∨ pt op = 3 := by omega
    cases hBr : br ⟨op,u,a,b,c,num,nm⟩ with
    | false =>
      rcases hpc with e | e | e | e
      · exact rbad_x0 B0 B lim L v m1 m2 op u a b c num nm w h hn hop' e hu' hP hBr
      · exact rbad_x1 B0 B lim L v m1 m2 op u a b c num nm w h hn hop' e hu' (ga (by omega)) hP hBr
      · exact rbad_x2 B0 B lim L v m1 m2 op u a b c num nm w h hn hop' e hu' (ga (by omega)) (gb (by omega)) hP hBr
      exact rbad_x3 B0 B lim L v m1 m2 op u a b c num nm w h hn hop' e hu' (ga (by omega)) (gb (by omega)) (gc (by omega)) hP hBr
    | true =>
      cases hSf : sf op (wd L a) (wd L b) (wd L c) with
      | false =>
        rcases hpc with e | e | e | e
        · exact rbad_s0 B0 B lim L v m1 m2 op u a b c num nm w h hn hop' e hu' hP hBr hSf
        · exact rbad_s1 B0 B lim L v m1 m2 op u a b c num nm w h hn hop' e hu' (ga (by omega)) hP hBr hSf
        · exact rbad_s2 B0 B lim L v m1 m2 op u a b c num nm w h hn hop' e hu' (ga (by omega)) (gb (by omega)) hP hBr hSf
        exact rbad_s3 B0 B lim L v m1 m2 op u a b c num nm w h hn hop' e hu' (ga (by omega)) (gb (by omega)) (gc (by omega)) hP hBr hSf
      | true =>
        cases hWf : wf op u num (wd L a) (wd L b) with
        | false =>
          rcases hpc with e | e | e | e
          · exact rbad_f0 B0 B lim L v m1 m2 op u a b c num nm w h hn hop' e hu' hP hBr hSf hWf
          · exact rbad_f1 B0 B lim L v m1 m2 op u a b c num nm w h hn hop' e hu' (ga (by omega)) hP hBr hSf hWf
          · exact rbad_f2 B0 B lim L v m1 m2 op u a b c num nm w h hn hop' e hu' (ga (by omega)) (gb (by omega)) hP hBr hSf hWf
          exact rbad_f3 B0 B lim L v m1 m2 op u a b c num nm w h hn hop' e hu' (ga (by omega)) (gb (by omega)) (gc (by omega)) hP hBr hSf hWf
        | true =>
          have hr7 : rfE L ⟨op,u,a,b,c,num,nm⟩ = if op = 4 /\ nf L ⟨op,u,a,b,c,num,nm⟩ = false then 72 else 0 := rfE_7 hop' hu' hP hBr hSf hWf
          by_cases h4 : op = 4
          · have e : pt op = 0 := by rw [h4]; exact pt_four
            cases hnf : nf L ⟨op,u,a,b,c,num,nm⟩ with
            | false => exact rbad_n B0 B lim L v m1 m2 op u a b c num nm w h hn hop' e hu' hP h4 hBr hSf hWf hnf
            | true =>
              have hr : rfE L ⟨op,u,a,b,c,num,nm⟩ = 0 := by rw [hr7,if_neg (by simp [hnf])]
              cases hv : vw nm L with
              | none => exact rmake_v0 B0 B lim L v m1 m2 op u a b c num nm w h hB0 hl hn hop' e hu' h4 hv hr hP hBr hSf hWf
              | some x =>
                have hx : x = u := by
                  unfold nf at hnf
                  dsimp only at hnf
                  rw [hv] at hnf
                  simp at hnf
                  exact hnf.2
                subst hx; exact rmake_v1 B0 B lim L v m1 m2 op x a b c num nm w h hB0 hl hn hop' e hu' h4 hv hr hP hBr hSf hWf
          have hr : rfE L ⟨op,u,a,b,c,num,nm⟩ = 0 := by rw [hr7,if_neg (fun h7 => h4 h7.1)]
          rcases hpc with e | e | e | e
          · exact rmake_0 B0 B lim L v m1 m2 op u a b c num nm w h hB0 hl hn hop' e hu' h4 hr hP hBr hSf hWf
          · exact rmake_1 B0 B lim L v m1 m2 op u a b c num nm w h hB0 hl hn hop' e hu' (ga (by omega)) h4 hr hP hBr hSf hWf
          · exact rmake_2 B0 B lim L v m1 m2 op u a b c num nm w h hB0 hl hn hop' e hu' (ga (by omega)) (gb (by omega)) h4 hr hP hBr hSf hWf
          exact rmake_3 B0 B lim L v m1 m2 op u a b c num nm w h hB0 hl hn hop' e hu' (ga (by omega)) (gb (by omega)) (gc (by omega)) h4 hr hP hBr hSf hWf
end Go.Proofs.YtldpkkbdhohcmaaGreatDoor
