import Derived.Test.YtkbfoahfehfjnaaGreatDoorTmT
import Derived.Deep.RegionWith
import Derived.BigQuiet
namespace Go.Proofs.YtkbfoahfehfjnaaGreatDoor
open Go.ChangeShapes Go.WideShapes Go.ChangeAt Go.RowKit Go.Lib Go.Tm Go.Bw Go.Bn Go.WideMaps Go.Maps Go.ChangeMaps

set_option maxHeartbeats 8000000 in
theorem rsorts_1 (ty : TypeId) (B0 B : Nat) (lim : Int) (L : List Nd) (v : Value) (M1 M2 : Option Nat) (u a b c num : Int) (nm : ByteArray) (w : World) (h : SM ty w B0 B lim L v M1 M2) :
    Calls Tryz.prog 32 #[.pointer (some ⟨B, 0, none⟩), .agg #[.int .i64 1, .int .i64 u, .int .i64 a, .int .i64 b, .int .i64 c, .int .u64 num, .string nm]] w fun e w' => e = .returned (.bool (sf 1 (wd L a) (wd L b) (wd L c))) ∧ Below w.heap.size w w' := by
  have huse := h.len
  clear huse
  clear h
  go_enter Tryz.func32, Tryz.ntmps32
  go_wp2_with fail
  all_goals go_ret
  all_goals refine ⟨ret_bool ?_, by first | exact bel1 _ _ | exact (bel1 _ _).drew | exact drw (bel1 _ _) _⟩
  all_goals simp [sf]
  all_goals (try simp_all)
  all_goals (try rfl)
  all_goals (try omega)
set_option maxHeartbeats 8000000 in
theorem rsorts_2 (ty : TypeId) (B0 B : Nat) (lim : Int) (L : List Nd) (v : Value) (M1 M2 : Option Nat) (u a b c num : Int) (nm : ByteArray) (w : World) (h : SM ty w B0 B lim L v M1 M2) :
    Calls Tryz.prog 32 #[.pointer (some ⟨B, 0, none⟩), .agg #[.int .i64 2, .int .i64 u, .int .i64 a, .int .i64 b, .int .i64 c, .int .u64 num, .string nm]] w fun e w' => e = .returned (.bool (sf 2 (wd L a) (wd L b) (wd L c))) ∧ Below w.heap.size w w' := by
  have huse := h.len
  clear huse
  clear h
  go_enter Tryz.func32, Tryz.ntmps32
  go_wp2_with fail
  all_goals go_ret
  all_goals refine ⟨ret_bool ?_, by first | exact bel1 _ _ | exact (bel1 _ _).drew | exact drw (bel1 _ _) _⟩
  all_goals simp [sf]
  all_goals (try simp_all)
  all_goals (try rfl)
  all_goals (try omega)
set_option maxHeartbeats 8000000 in
theorem rsorts_3 (ty : TypeId) (B0 B : Nat) (lim : Int) (L : List Nd) (v : Value) (M1 M2 : Option Nat) (u a b c num : Int) (nm : ByteArray) (w : World) (h : SM ty w B0 B lim L v M1 M2) :
    Calls Tryz.prog 32 #[.pointer (some ⟨B, 0, none⟩), .agg #[.int .i64 3, .int .i64 u, .int .i64 a, .int .i64 b, .int .i64 c, .int .u64 num, .string nm]] w fun e w' => e = .returned (.bool (sf 3 (wd L a) (wd L b) (wd L c))) ∧ Below w.heap.size w w' := by
  have huse := h.len
  clear huse
  clear h
  go_enter Tryz.func32, Tryz.ntmps32
  go_wp2_with fail
  all_goals go_ret
  all_goals refine ⟨ret_bool ?_, by first | exact bel1 _ _ | exact (bel1 _ _).drew | exact drw (bel1 _ _) _⟩
  all_goals simp [sf]
  all_goals (try simp_all)
  all_goals (try rfl)
  all_goals (try omega)
set_option maxHeartbeats 8000000 in
theorem rsorts_4 (ty : TypeId) (B0 B : Nat) (lim : Int) (L : List Nd) (v : Value) (M1 M2 : Option Nat) (u a b c num : Int) (nm : ByteArray) (w : World) (h : SM ty w B0 B lim L v M1 M2) :
    Calls Tryz.prog 32 #[.pointer (some ⟨B, 0, none⟩), .agg #[.int .i64 4, .int .i64 u, .int .i64 a, .int .i64 b, .int .i64 c, .int .u64 num, .string nm]] w fun e w' => e = .returned (.bool (sf 4 (wd L a) (wd L b) (wd L c))) ∧ Below w.heap.size w w' := by
  have huse := h.len
  clear huse
  clear h
  go_enter Tryz.func32, Tryz.ntmps32
  go_wp2_with fail
  all_goals go_ret
  all_goals refine ⟨ret_bool ?_, by first | exact bel1 _ _ | exact (bel1 _ _).drew | exact drw (bel1 _ _) _⟩
  all_goals simp [sf]
  all_goals (try simp_all)
  all_goals (try rfl)
  all_goals (try omega)
set_option maxHeartbeats 8000000 in
theorem rsorts_5 (ty : TypeId) (B0 B : Nat) (lim : Int) (L : List Nd) (v : Value) (M1 M2 : Option Nat) (u a b c num : Int) (nm : ByteArray) (w : World) (h : SM ty w B0 B lim L v M1 M2) (ha : isT L a = true) :
    Calls Tryz.prog 32 #[.pointer (some ⟨B, 0, none⟩), .agg #[.int .i64 5, .int .i64 u, .int .i64 a, .int .i64 b, .int .i64 c, .int .u64 num, .string nm]] w fun e w' => e = .returned (.bool (sf 5 (wd L a) 0 (wd L c))) ∧ Below w.heap.size w w' := by
  have HW : Hid (∀ o t, isT L t = true → Calls Tryz.prog 28 #[.pointer (some ⟨B, 0, none⟩), .int .i64 t] (w.alloc o) fun e w' => e = .returned (.int .i64 (wd L t)) ∧ w' = w.alloc o) := fun o t ht => w_any ty B0 B lim L v M1 M2 t _ (h.below (bel1 w o)) ht
  clear h
  go_enter Tryz.func32, Tryz.ntmps32
  go_wp2_with (go_at_call 28; refine (HW.out _ _ (by assumption)).mono ?_; rintro e w' ⟨rfl, rfl⟩)
  all_goals go_ret
  all_goals refine ⟨ret_bool ?_, by first | exact bel1 _ _ | exact (bel1 _ _).drew | exact drw (bel1 _ _) _⟩
  all_goals simp [sf]
  all_goals (try simp_all)
  all_goals (try rfl)
  all_goals (try omega)
set_option maxHeartbeats 8000000 in
theorem rsorts_6 (ty : TypeId) (B0 B : Nat) (lim : Int) (L : List Nd) (v : Value) (M1 M2 : Option Nat) (u a b c num : Int) (nm : ByteArray) (w : World) (h : SM ty w B0 B lim L v M1 M2) (ha : isT L a = true) (hb : isT L b = true) :
    Calls Tryz.prog 32 #[.pointer (some ⟨B, 0, none⟩), .agg #[.int .i64 6, .int .i64 u, .int .i64 a, .int .i64 b, .int .i64 c, .int .u64 num, .string nm]] w fun e w' => e = .returned (.bool (sf 6 (wd L a) (wd L b) (wd L c))) ∧ Below w.heap.size w w' := by
  have HW : Hid (∀ o t, isT L t = true → Calls Tryz.prog 28 #[.pointer (some ⟨B, 0, none⟩), .int .i64 t] (w.alloc o) fun e w' => e = .returned (.int .i64 (wd L t)) ∧ w' = w.alloc o) := fun o t ht => w_any ty B0 B lim L v M1 M2 t _ (h.below (bel1 w o)) ht
  clear h
  go_enter Tryz.func32, Tryz.ntmps32
  go_wp2_with (go_at_call 28; refine (HW.out _ _ (by assumption)).mono ?_; rintro e w' ⟨rfl, rfl⟩)
  all_goals go_ret
  all_goals refine ⟨ret_bool ?_, by first | exact bel1 _ _ | exact (bel1 _ _).drew | exact drw (bel1 _ _) _⟩
  all_goals simp [sf]
  all_goals (try simp_all)
  all_goals (try rfl)
  all_goals (try omega)
set_option maxHeartbeats 8000000 in
theorem rsorts_7 (ty : TypeId) (B0 B : Nat) (lim : Int) (L : List Nd) (v : Value) (M1 M2 : Option Nat) (u a b c num : Int) (nm : ByteArray) (w : World) (h : SM ty w B0 B lim L v M1 M2) (ha : isT L a = true) (hb : isT L b = true) :
    Calls Tryz.prog 32 #[.pointer (some ⟨B, 0, none⟩), .agg #[.int .i64 7, .int .i64 u, .int .i64 a, .int .i64 b, .int .i64 c, .int .u64 num, .string nm]] w fun e w' => e = .returned (.bool (sf 7 (wd L a) (wd L b) (wd L c))) ∧ Below w.heap.size w w' := by
  have HW : Hid (∀ o t, isT L t = true → Calls Tryz.prog 28 #[.pointer (some ⟨B, 0, none⟩), .int .i64 t] (w.alloc o) fun e w' => e = .returned (.int .i64 (wd L t)) ∧ w' = w.alloc o) := fun o t ht => w_any ty B0 B lim L v M1 M2 t _ (h.below (bel1 w o)) ht
  clear h
  go_enter Tryz.func32, Tryz.ntmps32
  go_wp2_with (go_at_call 28; refine (HW.out _ _ (by assumption)).mono ?_; rintro e w' ⟨rfl, rfl⟩)
  all_goals go_ret
  all_goals refine ⟨ret_bool ?_, by first | exact bel1 _ _ | exact (bel1 _ _).drew | exact drw (bel1 _ _) _⟩
  all_goals simp [sf]
  all_goals (try simp_all)
  all_goals (try rfl)
  all_goals (try omega)
set_option maxHeartbeats 8000000 in
theorem rsorts_8 (ty : TypeId) (B0 B : Nat) (lim : Int) (L : List Nd) (v : Value) (M1 M2 : Option Nat) (u a b c num : Int) (nm : ByteArray) (w : World) (h : SM ty w B0 B lim L v M1 M2) (ha : isT L a = true) (hb : isT L b = true) :
    Calls Tryz.prog 32 #[.pointer (some ⟨B, 0, none⟩), .agg #[.int .i64 8, .int .i64 u, .int .i64 a, .int .i64 b, .int .i64 c, .int .u64 num, .string nm]] w fun e w' => e = .returned (.bool (sf 8 (wd L a) (wd L b) (wd L c))) ∧ Below w.heap.size w w' := by
  have HW : Hid (∀ o t, isT L t = true → Calls Tryz.prog 28 #[.pointer (some ⟨B, 0, none⟩), .int .i64 t] (w.alloc o) fun e w' => e = .returned (.int .i64 (wd L t)) ∧ w' = w.alloc o) := fun o t ht => w_any ty B0 B lim L v M1 M2 t _ (h.below (bel1 w o)) ht
  clear h
  go_enter Tryz.func32, Tryz.ntmps32
  go_wp2_with (go_at_call 28; refine (HW.out _ _ (by assumption)).mono ?_; rintro e w' ⟨rfl, rfl⟩)
  all_goals go_ret
  all_goals refine ⟨ret_bool ?_, by first | exact bel1 _ _ | exact (bel1 _ _).drew | exact drw (bel1 _ _) _⟩
  all_goals simp [sf]
  all_goals (try simp_all)
  all_goals (try rfl)
  all_goals (try omega)
set_option maxHeartbeats 8000000 in
theorem rsorts_15 (ty : TypeId) (B0 B : Nat) (lim : Int) (L : List Nd) (v : Value) (M1 M2 : Option Nat) (u a b c num : Int) (nm : ByteArray) (w : World) (h : SM ty w B0 B lim L v M1 M2) (ha : isT L a = true) :
    Calls Tryz.prog 32 #[.pointer (some ⟨B, 0, none⟩), .agg #[.int .i64 15, .int .i64 u, .int .i64 a, .int .i64 b, .int .i64 c, .int .u64 num, .string nm]] w fun e w' => e = .returned (.bool (sf 15 (wd L a) 0 (wd L c))) ∧ Below w.heap.size w w' := by
  have HW : Hid (∀ o t, isT L t = true → Calls Tryz.prog 28 #[.pointer (some ⟨B, 0, none⟩), .int .i64 t] (w.alloc o) fun e w' => e = .returned (.int .i64 (wd L t)) ∧ w' = w.alloc o) := fun o t ht => w_any ty B0 B lim L v M1 M2 t _ (h.below (bel1 w o)) ht
  clear h
  go_enter Tryz.func32, Tryz.ntmps32
  go_wp2_with (go_at_call 28; refine (HW.out _ _ (by assumption)).mono ?_; rintro e w' ⟨rfl, rfl⟩)
  all_goals go_ret
  all_goals refine ⟨ret_bool ?_, by first | exact bel1 _ _ | exact (bel1 _ _).drew | exact drw (bel1 _ _) _⟩
  all_goals simp [sf]
  all_goals (try simp_all)
  all_goals (try rfl)
  all_goals (try omega)
set_option maxHeartbeats 8000000 in
theorem rsorts_16 (ty : TypeId) (B0 B : Nat) (lim : Int) (L : List Nd) (v : Value) (M1 M2 : Option Nat) (u a b c num : Int) (nm : ByteArray) (w : World) (h : SM ty w B0 B lim L v M1 M2) (ha : isT L a = true) :
    Calls Tryz.prog 32 #[.pointer (some ⟨B, 0, none⟩), .agg #[.int .i64 16, .int .i64 u, .int .i64 a, .int .i64 b, .int .i64 c, .int .u64 num, .string nm]] w fun e w' => e = .returned (.bool (sf 16 (wd L a) 0 (wd L c))) ∧ Below w.heap.size w w' := by
  have HW : Hid (∀ o t, isT L t = true → Calls Tryz.prog 28 #[.pointer (some ⟨B, 0, none⟩), .int .i64 t] (w.alloc o) fun e w' => e = .returned (.int .i64 (wd L t)) ∧ w' = w.alloc o) := fun o t ht => w_any ty B0 B lim L v M1 M2 t _ (h.below (bel1 w o)) ht
  clear h
  go_enter Tryz.func32, Tryz.ntmps32
  go_wp2_with (go_at_call 28; refine (HW.out _ _ (by assumption)).mono ?_; rintro e w' ⟨rfl, rfl⟩)
  all_goals go_ret
  all_goals refine ⟨ret_bool ?_, by first | exact bel1 _ _ | exact (bel1 _ _).drew | exact drw (bel1 _ _) _⟩
  all_goals simp [sf]
  all_goals (try simp_all)
  all_goals (try rfl)
  all_goals (try omega)
set_option maxHeartbeats 8000000 in
theorem rsorts_30 (ty : TypeId) (B0 B : Nat) (lim : Int) (L : List Nd) (v : Value) (M1 M2 : Option Nat) (u a b c num : Int) (nm : ByteArray) (w : World) (h : SM ty w B0 B lim L v M1 M2) (ha : isT L a = true) (hb : isT L b = true) :
    Calls Tryz.prog 32 #[.pointer (some ⟨B, 0, none⟩), .agg #[.int .i64 30, .int .i64 u, .int .i64 a, .int .i64 b, .int .i64 c, .int .u64 num, .string nm]] w fun e w' => e = .returned (.bool (sf 30 (wd L a) (wd L b) (wd L c))) ∧ Below w.heap.size w w' := by
  have HW : Hid (∀ o t, isT L t = true → Calls Tryz.prog 28 #[.pointer (some ⟨B, 0, none⟩), .int .i64 t] (w.alloc o) fun e w' => e = .returned (.int .i64 (wd L t)) ∧ w' = w.alloc o) := fun o t ht => w_any ty B0 B lim L v M1 M2 t _ (h.below (bel1 w o)) ht
  clear h
  go_enter Tryz.func32, Tryz.ntmps32
  go_wp2_with (go_at_call 28; refine (HW.out _ _ (by assumption)).mono ?_; rintro e w' ⟨rfl, rfl⟩)
  all_goals go_ret
  all_goals refine ⟨ret_bool ?_, by first | exact bel1 _ _ | exact (bel1 _ _).drew | exact drw (bel1 _ _) _⟩
  all_goals simp [sf]
  all_goals (try simp_all)
  all_goals (try rfl)
  all_goals (try omega)
set_option maxHeartbeats 8000000 in
theorem rsorts_31 (ty : TypeId) (B0 B : Nat) (lim : Int) (L : List Nd) (v : Value) (M1 M2 : Option Nat) (u a b c num : Int) (nm : ByteArray) (w : World) (h : SM ty w B0 B lim L v M1 M2) (ha : isT L a = true) :
    Calls Tryz.prog 32 #[.pointer (some ⟨B, 0, none⟩), .agg #[.int .i64 31, .int .i64 u, .int .i64 a, .int .i64 b, .int .i64 c, .int .u64 num, .string nm]] w fun e w' => e = .returned (.bool (sf 31 (wd L a) 0 (wd L c))) ∧ Below w.heap.size w w' := by
  have HW : Hid (∀ o t, isT L t = true → Calls Tryz.prog 28 #[.pointer (some ⟨B, 0, none⟩), .int .i64 t] (w.alloc o) fun e w' => e = .returned (.int .i64 (wd L t)) ∧ w' = w.alloc o) := fun o t ht => w_any ty B0 B lim L v M1 M2 t _ (h.below (bel1 w o)) ht
  clear h
  go_enter Tryz.func32, Tryz.ntmps32
  go_wp2_with (go_at_call 28; refine (HW.out _ _ (by assumption)).mono ?_; rintro e w' ⟨rfl, rfl⟩)
  all_goals go_ret
  all_goals refine ⟨ret_bool ?_, by first | exact bel1 _ _ | exact (bel1 _ _).drew | exact drw (bel1 _ _) _⟩
  all_goals simp [sf]
  all_goals (try simp_all)
  all_goals (try rfl)
  all_goals (try omega)
set_option maxHeartbeats 8000000 in
theorem rsorts_32 (ty : TypeId) (B0 B : Nat) (lim : Int) (L : List Nd) (v : Value) (M1 M2 : Option Nat) (u a b c num : Int) (nm : ByteArray) (w : World) (h : SM ty w B0 B lim L v M1 M2) (ha : isT L a = true) :
    Calls Tryz.prog 32 #[.pointer (some ⟨B, 0, none⟩), .agg #[.int .i64 32, .int .i64 u, .int .i64 a, .int .i64 b, .int .i64 c, .int .u64 num, .string nm]] w fun e w' => e = .returned (.bool (sf 32 (wd L a) 0 (wd L c))) ∧ Below w.heap.size w w' := by
  have HW : Hid (∀ o t, isT L t = true → Calls Tryz.prog 28 #[.pointer (some ⟨B, 0, none⟩), .int .i64 t] (w.alloc o) fun e w' => e = .returned (.int .i64 (wd L t)) ∧ w' = w.alloc o) := fun o t ht => w_any ty B0 B lim L v M1 M2 t _ (h.below (bel1 w o)) ht
  clear h
  go_enter Tryz.func32, Tryz.ntmps32
  go_wp2_with (go_at_call 28; refine (HW.out _ _ (by assumption)).mono ?_; rintro e w' ⟨rfl, rfl⟩)
  all_goals go_ret
  all_goals refine ⟨ret_bool ?_, by first | exact bel1 _ _ | exact (bel1 _ _).drew | exact drw (bel1 _ _) _⟩
  all_goals simp [sf]
  all_goals (try simp_all)
  all_goals (try rfl)
  all_goals (try omega)
set_option maxHeartbeats 8000000 in
theorem rsorts_33 (ty : TypeId) (B0 B : Nat) (lim : Int) (L : List Nd) (v : Value) (M1 M2 : Option Nat) (u a b c num : Int) (nm : ByteArray) (w : World) (h : SM ty w B0 B lim L v M1 M2) (ha : isT L a = true) :
    Calls Tryz.prog 32 #[.pointer (some ⟨B, 0, none⟩), .agg #[.int .i64 33, .int .i64 u, .int .i64 a, .int .i64 b, .int .i64 c, .int .u64 num, .string nm]] w fun e w' => e = .returned (.bool (sf 33 (wd L a) 0 (wd L c))) ∧ Below w.heap.size w w' := by
  have HW : Hid (∀ o t, isT L t = true → Calls Tryz.prog 28 #[.pointer (some ⟨B, 0, none⟩), .int .i64 t] (w.alloc o) fun e w' => e = .returned (.int .i64 (wd L t)) ∧ w' = w.alloc o) := fun o t ht => w_any ty B0 B lim L v M1 M2 t _ (h.below (bel1 w o)) ht
  clear h
  go_enter Tryz.func32, Tryz.ntmps32
  go_wp2_with (go_at_call 28; refine (HW.out _ _ (by assumption)).mono ?_; rintro e w' ⟨rfl, rfl⟩)
  all_goals go_ret
  all_goals refine ⟨ret_bool ?_, by first | exact bel1 _ _ | exact (bel1 _ _).drew | exact drw (bel1 _ _) _⟩
  all_goals simp [sf]
  all_goals (try simp_all)
  all_goals (try rfl)
  all_goals (try omega)
set_option maxHeartbeats 8000000 in
theorem rsorts_9 (ty : TypeId) (B0 B : Nat) (lim : Int) (L : List Nd) (v : Value) (M1 M2 : Option Nat) (u a b c num : Int) (nm : ByteArray) (w : World) (h : SM ty w B0 B lim L v M1 M2) (ha : isT L a = true) (hb : isT L b = true) :
    Calls Tryz.prog 32 #[.pointer (some ⟨B, 0, none⟩), .agg #[.int .i64 9, .int .i64 u, .int .i64 a, .int .i64 b, .int .i64 c, .int .u64 num, .string nm]] w fun e w' => e = .returned (.bool (sf 9 (wd L a) (wd L b) (wd L c))) ∧ Below w.heap.size w w' := by
  have HQ : Hid (∀ o m t, isT L t = true → Calls Tryz.prog 28 #[.pointer (some ⟨B, 0, none⟩), .int .i64 t] ((w.alloc o).drewN m) fun e w' => e = .returned (.int .i64 (wd L t)) ∧ w' = (w.alloc o).drewN m) := fun o m t ht => w_any ty B0 B lim L v M1 M2 t _ (h.below (drw (bel1 w o) m)) ht
  clear h
  go_enter Tryz.func32, Tryz.ntmps32
  go_wp2_with fail
  go_big_quiet ((go_at_call 28; exact Calls.quiet_of_same (HQ.out _ _ _ (by assumption))))
  all_goals go_wp2
  all_goals go_ret
  all_goals refine ⟨ret_bool ?_, by first | exact bel1 _ _ | exact (bel1 _ _).drew | exact drw (bel1 _ _) _⟩
  all_goals rw [Bool.eq_iff_iff]
  all_goals simp [sf]
set_option maxHeartbeats 8000000 in
theorem rsorts_14 (ty : TypeId) (B0 B : Nat) (lim : Int) (L : List Nd) (v : Value) (M1 M2 : Option Nat) (u a b c num : Int) (nm : ByteArray) (w : World) (h : SM ty w B0 B lim L v M1 M2) (ha : isT L a = true) (hb : isT L b = true) (hc : isT L c = true) :
    Calls Tryz.prog 32 #[.pointer (some ⟨B, 0, none⟩), .agg #[.int .i64 14, .int .i64 u, .int .i64 a, .int .i64 b, .int .i64 c, .int .u64 num, .string nm]] w fun e w' => e = .returned (.bool (sf 14 (wd L a) (wd L b) (wd L c))) ∧ Below w.heap.size w w' := by
  have HQ : Hid (∀ o m t, isT L t = true → Calls Tryz.prog 28 #[.pointer (some ⟨B, 0, none⟩), .int .i64 t] ((w.alloc o).drewN m) fun e w' => e = .returned (.int .i64 (wd L t)) ∧ w' = (w.alloc o).drewN m) := fun o m t ht => w_any ty B0 B lim L v M1 M2 t _ (h.below (drw (bel1 w o) m)) ht
  clear h
  by_cases h0 : wd L a = 0
  · have q0 : (wd L a == 0) = true := by simpa using h0
    have hr : Hid (sf 14 (wd L a) (wd L b) (wd L c) = decide (wd L b = wd L c)) := by
      show _ = _
      simp [sf, h0]
    generalize sf 14 (wd L a) (wd L b) (wd L c) = R at *
    go_enter Tryz.func32, Tryz.ntmps32
    go_wp2_with fail
    go_big_quiet ((go_at_call 28; exact Calls.quiet_of_same (HQ.out _ _ _ (by assumption))))
    all_goals go_wp2
    all_goals go_ret
    all_goals refine ⟨ret_bool ?_, by first | exact bel1 _ _ | exact (bel1 _ _).drew | exact drw (bel1 _ _) _⟩
    all_goals rw [hr.out]
    all_goals first | rfl | (rw [Bool.eq_iff_iff]; simp)
  · have q0 : (wd L a == 0) = false := by simpa using h0
    have hr : Hid (sf 14 (wd L a) (wd L b) (wd L c) = false) := by
      show _ = _
      simp [sf, h0]
    generalize sf 14 (wd L a) (wd L b) (wd L c) = R at *
    go_enter Tryz.func32, Tryz.ntmps32
    go_wp2_with fail
    go_big_quiet ((go_at_call 28; exact Calls.quiet_of_same (HQ.out _ _ _ (by assumption))))
    all_goals go_wp2
    all_goals go_ret
    all_goals exact ⟨ret_bool hr.out.symm, by first | exact bel1 _ _ | exact (bel1 _ _).drew | exact drw (bel1 _ _) _⟩
set_option maxHeartbeats 8000000 in
theorem rsorts_d (ty : TypeId) (B0 B : Nat) (lim : Int) (L : List Nd) (v : Value) (M1 M2 : Option Nat) (op u a b c num : Int) (nm : ByteArray) (w : World) (h : SM ty w B0 B lim L v M1 M2) (ha : isT L a = true) (hb : isT L b = true) (h10 : 10 ≤ op) (h29 : op ≤ 29) (h14 : op ≠ 14) (h15 : op ≠ 15) (h16 : op ≠ 16) :
    Calls Tryz.prog 32 #[.pointer (some ⟨B, 0, none⟩), .agg #[.int .i64 op, .int .i64 u, .int .i64 a, .int .i64 b, .int .i64 c, .int .u64 num, .string nm]] w fun e w' => e = .returned (.bool (sf op (wd L a) (wd L b) (wd L c))) ∧ Below w.heap.size w w' := by
  have HQ : Hid (∀ o m t, isT L t = true → Calls Tryz.prog 28 #[.pointer (some ⟨B, 0, none⟩), .int .i64 t] ((w.alloc o).drewN m) fun e w' => e = .returned (.int .i64 (wd L t)) ∧ w' = (w.alloc o).drewN m) := fun o m t ht => w_any ty B0 B lim L v M1 M2 t _ (h.below (drw (bel1 w o) m)) ht
  have hsf : Hid (sf op (wd L a) (wd L b) (wd L c) = decide (0 < wd L a ∧ wd L a = wd L b)) := by
    show _ = _
    unfold sf
    rw [if_neg (by omega), if_neg (by omega), if_neg (by omega), if_neg h14, if_neg (by omega), if_neg (by omega)]
  have p4 : decide (op ≤ 4) = false := decide_eq_false (by omega)
  have p8 : decide (op ≤ 8) = false := decide_eq_false (by omega)
  have p31 : decide (31 ≤ op) = false := decide_eq_false (by omega)
  have e5 : (op == 5) = false := beq_eq_false_iff_ne.2 (by omega)
  have e9 : (op == 9) = false := beq_eq_false_iff_ne.2 (by omega)
  have e14 : (op == 14) = false := beq_eq_false_iff_ne.2 (by omega)
  have e15 : (op == 15) = false := beq_eq_false_iff_ne.2 (by omega)
  have e16 : (op == 16) = false := beq_eq_false_iff_ne.2 (by omega)
  have e30 : (op == 30) = false := beq_eq_false_iff_ne.2 (by omega)
  clear h10 h29 h14 h15 h16
  clear h
  by_cases h0 : 0 < wd L a
  · have q0 : decide (0 < wd L a) = true := by simpa using h0
    have hr : Hid (sf op (wd L a) (wd L b) (wd L c) = decide (wd L a = wd L b)) := by
      show _ = _
      rw [hsf.out]; simp [h0]
    generalize sf op (wd L a) (wd L b) (wd L c) = R at *
    go_enter Tryz.func32, Tryz.ntmps32
    go_wp2_with fail
    go_big_quiet ((go_at_call 28; exact Calls.quiet_of_same (HQ.out _ _ _ (by assumption))))
    all_goals go_wp2
    all_goals go_ret
    all_goals refine ⟨ret_bool ?_, by first | exact bel1 _ _ | exact (bel1 _ _).drew | exact drw (bel1 _ _) _⟩
    all_goals rw [hr.out]
    all_goals first | rfl | (rw [Bool.eq_iff_iff]; simp)
  · have q0 : decide (0 < wd L a) = false := by simpa using h0
    have hr : Hid (sf op (wd L a) (wd L b) (wd L c) = false) := by
      show _ = _
      rw [hsf.out]; exact decide_eq_false (fun h7 => h0 h7.1)
    generalize sf op (wd L a) (wd L b) (wd L c) = R at *
    go_enter Tryz.func32, Tryz.ntmps32
    go_wp2_with fail
    go_big_quiet ((go_at_call 28; exact Calls.quiet_of_same (HQ.out _ _ _ (by assumption))))
    all_goals go_wp2
    all_goals go_ret
    all_goals exact ⟨ret_bool hr.out.symm, by first | exact bel1 _ _ | exact (bel1 _ _).drew | exact drw (bel1 _ _) _⟩
theorem rsorts_any (ty : TypeId) (B0 B : Nat) (lim : Int) (L : List Nd) (v : Value) (M1 M2 : Option Nat) (n : Nd) (w : World) (h : SM ty w B0 B lim L v M1 M2) (h1 : 1 ≤ n.op) (h2 : n.op ≤ 33) (hP : hp L n = true) (hB : br n = true) :
    Calls Tryz.prog 32 #[.pointer (some ⟨B, 0, none⟩), nodeV n] w fun e w' => e = .returned (.bool (sf n.op (wd L n.a) (wd L n.b) (wd L n.c))) ∧ Below w.heap.size w w' := by
  have ga := fun h1 => hp_a hP h1
  have gb := fun h1 => hp_b hP h1
  have gc := fun h1 => hp_c hP h1
  have gz : pt n.op < 2 → wd L n.b = 0 := fun h1 => by rw [br_b hB h1]; exact wd_none (isT_zero L)
  obtain ⟨op, u, a, b, c, num, nm⟩ := n
  dsimp only at h1 h2 ga gb gc gz
  by_cases hd : 10 ≤ op ∧ op ≤ 29 ∧ op ≠ 14 ∧ op ≠ 15 ∧ op ≠ 16
  · have hp2 : pt op = 2 := by
      unfold pt
      rw [if_neg (by omega), if_neg (by omega), if_neg (by omega)]
    exact rsorts_d ty B0 B lim L v M1 M2 op u a b c num nm w h (ga (by omega)) (gb (by omega)) hd.1 hd.2.1 hd.2.2.1 hd.2.2.2.1 hd.2.2.2.2
  · have hc : op = 1 ∨ op = 2 ∨ op = 3 ∨ op = 4 ∨ op = 5 ∨ op = 6 ∨ op = 7 ∨ op = 8 ∨ op = 9 ∨ op = 14 ∨ op = 15 ∨ op = 16 ∨ op = 30 ∨ op = 31 ∨ op = 32 ∨ op = 33 := by omega
    rcases hc with rfl | rfl | rfl | rfl | rfl | rfl | rfl | rfl | rfl | rfl | rfl | rfl | rfl | rfl | rfl | rfl
    · exact rsorts_1 ty B0 B lim L v M1 M2 u a b c num nm w h
    · exact rsorts_2 ty B0 B lim L v M1 M2 u a b c num nm w h
    · exact rsorts_3 ty B0 B lim L v M1 M2 u a b c num nm w h
    · exact rsorts_4 ty B0 B lim L v M1 M2 u a b c num nm w h
    · rw [gz (by decide)]
      exact rsorts_5 ty B0 B lim L v M1 M2 u a b c num nm w h (ga (by decide))
    · exact rsorts_6 ty B0 B lim L v M1 M2 u a b c num nm w h (ga (by decide)) (gb (by decide))
    · exact rsorts_7 ty B0 B lim L v M1 M2 u a b c num nm w h (ga (by decide)) (gb (by decide))
    · exact rsorts_8 ty B0 B lim L v M1 M2 u a b c num nm w h (ga (by decide)) (gb (by decide))
    · exact rsorts_9 ty B0 B lim L v M1 M2 u a b c num nm w h (ga (by decide)) (gb (by decide))
    · exact rsorts_14 ty B0 B lim L v M1 M2 u a b c num nm w h (ga (by decide)) (gb (by decide)) (gc (by decide))
    · rw [gz (by decide)]
      exact rsorts_15 ty B0 B lim L v M1 M2 u a b c num nm w h (ga (by decide))
    · rw [gz (by decide)]
      exact rsorts_16 ty B0 B lim L v M1 M2 u a b c num nm w h (ga (by decide))
    · exact rsorts_30 ty B0 B lim L v M1 M2 u a b c num nm w h (ga (by decide)) (gb (by decide))
    · rw [gz (by decide)]
      exact rsorts_31 ty B0 B lim L v M1 M2 u a b c num nm w h (ga (by decide))
    · rw [gz (by decide)]
      exact rsorts_32 ty B0 B lim L v M1 M2 u a b c num nm w h (ga (by decide))
    · rw [gz (by decide)]
      exact rsorts_33 ty B0 B lim L v M1 M2 u a b c num nm w h (ga (by decide))
end Go.Proofs.YtkbfoahfehfjnaaGreatDoor
