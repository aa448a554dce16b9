import Derived.Test.YtobgedjpghokcaaGreatDoorTmD
import Derived.Lib.Hide
namespace Go.Proofs.YtobgedjpghokcaaGreatDoor
open Go.ChangeShapes Go.WideShapes Go.ChangeAt Go.RowKit Go.Lib Go.Tm Go.Bw Go.Bn Go.WideMaps Go.Maps Go.ChangeMaps

set_option maxHeartbeats 4000000 in
theorem ask_1 (B : Nat) (o a b c u : Int) (t : Bool) (x : Int) (nm : ByteArray) (n0 n1 n2 n3 n4 n5 : Int) (n6 : ByteArray) (w : World) (Q : Ending → World → Prop) (h : ∀ W, Below w.heap.size w W → Calls Tryz.prog 13 #[.pointer (some ⟨B, 0, none⟩), .agg #[.int .i64 n0, .int .i64 n1, .int .i64 n2, .int .i64 n3, .int .i64 n4, .int .u64 n5, .string n6]] W Q) (hq : ∀ e w', Q e w' → ∃ p q, e = .returned (.tuple #[.int .i64 p, .int .i64 q])) :
    Calls Tryz.prog 5 #[.pointer (some ⟨B, 0, none⟩), .agg #[.int .i64 1, .int .i64 o, .int .i64 a, .int .i64 b, .int .i64 c, .int .i64 u, .bool t, .int .u64 x, .string nm, .int .i64 n0, .int .i64 n1, .int .i64 n2, .int .i64 n3, .int .i64 n4, .int .u64 n5, .string n6]] w Q := by
  have HC : Hid (∀ W, Below w.heap.size w W → Calls Tryz.prog 13 #[.pointer (some ⟨B, 0, none⟩), .agg #[.int .i64 n0, .int .i64 n1, .int .i64 n2, .int .i64 n3, .int .i64 n4, .int .u64 n5, .string n6]] W Q) := h
  have HQ : Hid (∀ e w', Q e w' → ∃ p q, e = .returned (.tuple #[.int .i64 p, .int .i64 q])) := hq
  clear h hq
  go_enter Tryz.func5, Tryz.ntmps5
  go_wp2_with fail
  refine (HC.out _ ((Below.refl _ _).alloc (Nat.le_refl _) _)).mono ?_
  intro e w1 h1
  obtain ⟨p, q, rfl⟩ := HQ.out e w1 h1
  have HF : Hid (Q (.returned (.tuple #[.int .i64 p, .int .i64 q])) w1) := h1
  clear h1
  go_wp2
  first | exact HF.out | (go_ret2; exact HF.out)
set_option maxHeartbeats 4000000 in
theorem ask_2 (B : Nat) (o a b c u : Int) (t : Bool) (x : Int) (nm : ByteArray) (n0 n1 n2 n3 n4 n5 : Int) (n6 : ByteArray) (w : World) (Q : Ending → World → Prop) (h : ∀ W, Below w.heap.size w W → Calls Tryz.prog 14 #[.pointer (some ⟨B, 0, none⟩), .bool t] W Q) (hq : ∀ e w', Q e w' → ∃ p q, e = .returned (.tuple #[.int .i64 p, .int .i64 q])) :
    Calls Tryz.prog 5 #[.pointer (some ⟨B, 0, none⟩), .agg #[.int .i64 2, .int .i64 o, .int .i64 a, .int .i64 b, .int .i64 c, .int .i64 u, .bool t, .int .u64 x, .string nm, .int .i64 n0, .int .i64 n1, .int .i64 n2, .int .i64 n3, .int .i64 n4, .int .u64 n5, .string n6]] w Q := by
  have HC : Hid (∀ W, Below w.heap.size w W → Calls Tryz.prog 14 #[.pointer (some ⟨B, 0, none⟩), .bool t] W Q) := h
  have HQ : Hid (∀ e w', Q e w' → ∃ p q, e = .returned (.tuple #[.int .i64 p, .int .i64 q])) := hq
  clear h hq
  go_enter Tryz.func5, Tryz.ntmps5
  go_wp2_with fail
  refine (HC.out _ ((Below.refl _ _).alloc (Nat.le_refl _) _)).mono ?_
  intro e w1 h1
  obtain ⟨p, q, rfl⟩ := HQ.out e w1 h1
  have HF : Hid (Q (.returned (.tuple #[.int .i64 p, .int .i64 q])) w1) := h1
  clear h1
  go_wp2
  first | exact HF.out | (go_ret2; exact HF.out)
set_option maxHeartbeats 4000000 in
theorem ask_3 (B : Nat) (o a b c u : Int) (t : Bool) (x : Int) (nm : ByteArray) (n0 n1 n2 n3 n4 n5 : Int) (n6 : ByteArray) (w : World) (Q : Ending → World → Prop) (h : ∀ W, Below w.heap.size w W → Calls Tryz.prog 15 #[.pointer (some ⟨B, 0, none⟩), .int .i64 u, .int .u64 x] W Q) (hq : ∀ e w', Q e w' → ∃ p q, e = .returned (.tuple #[.int .i64 p, .int .i64 q])) :
    Calls Tryz.prog 5 #[.pointer (some ⟨B, 0, none⟩), .agg #[.int .i64 3, .int .i64 o, .int .i64 a, .int .i64 b, .int .i64 c, .int .i64 u, .bool t, .int .u64 x, .string nm, .int .i64 n0, .int .i64 n1, .int .i64 n2, .int .i64 n3, .int .i64 n4, .int .u64 n5, .string n6]] w Q := by
  have HC : Hid (∀ W, Below w.heap.size w W → Calls Tryz.prog 15 #[.pointer (some ⟨B, 0, none⟩), .int .i64 u, .int .u64 x] W Q) := h
  have HQ : Hid (∀ e w', Q e w' → ∃ p q, e = .returned (.tuple #[.int .i64 p, .int .i64 q])) := hq
  clear h hq
  go_enter Tryz.func5, Tryz.ntmps5
  go_wp2_with fail
  refine (HC.out _ ((Below.refl _ _).alloc (Nat.le_refl _) _)).mono ?_
  intro e w1 h1
  obtain ⟨p, q, rfl⟩ := HQ.out e w1 h1
  have HF : Hid (Q (.returned (.tuple #[.int .i64 p, .int .i64 q])) w1) := h1
  clear h1
  go_wp2
  first | exact HF.out | (go_ret2; exact HF.out)
set_option maxHeartbeats 4000000 in
theorem ask_4 (B : Nat) (o a b c u : Int) (t : Bool) (x : Int) (nm : ByteArray) (n0 n1 n2 n3 n4 n5 : Int) (n6 : ByteArray) (w : World) (Q : Ending → World → Prop) (h : ∀ W, Below w.heap.size w W → Calls Tryz.prog 11 #[.pointer (some ⟨B, 0, none⟩), .string nm, .int .i64 u] W Q) (hq : ∀ e w', Q e w' → ∃ p q, e = .returned (.tuple #[.int .i64 p, .int .i64 q])) :
    Calls Tryz.prog 5 #[.pointer (some ⟨B, 0, none⟩), .agg #[.int .i64 4, .int .i64 o, .int .i64 a, .int .i64 b, .int .i64 c, .int .i64 u, .bool t, .int .u64 x, .string nm, .int .i64 n0, .int .i64 n1, .int .i64 n2, .int .i64 n3, .int .i64 n4, .int .u64 n5, .string n6]] w Q := by
  have HC : Hid (∀ W, Below w.heap.size w W → Calls Tryz.prog 11 #[.pointer (some ⟨B, 0, none⟩), .string nm, .int .i64 u] W Q) := h
  have HQ : Hid (∀ e w', Q e w' → ∃ p q, e = .returned (.tuple #[.int .i64 p, .int .i64 q])) := hq
  clear h hq
  go_enter Tryz.func5, Tryz.ntmps5
  go_wp2_with fail
  refine (HC.out _ ((Below.refl _ _).alloc (Nat.le_refl _) _)).mono ?_
  intro e w1 h1
  obtain ⟨p, q, rfl⟩ := HQ.out e w1 h1
  have HF : Hid (Q (.returned (.tuple #[.int .i64 p, .int .i64 q])) w1) := h1
  clear h1
  go_wp2
  first | exact HF.out | (go_ret2; exact HF.out)
set_option maxHeartbeats 4000000 in
theorem ask_5 (B : Nat) (o a b c u : Int) (t : Bool) (x : Int) (nm : ByteArray) (n0 n1 n2 n3 n4 n5 : Int) (n6 : ByteArray) (w : World) (Q : Ending → World → Prop) (h : ∀ W, Below w.heap.size w W → Calls Tryz.prog 16 #[.pointer (some ⟨B, 0, none⟩), .int .i64 o, .int .i64 a] W Q) (hq : ∀ e w', Q e w' → ∃ p q, e = .returned (.tuple #[.int .i64 p, .int .i64 q])) :
    Calls Tryz.prog 5 #[.pointer (some ⟨B, 0, none⟩), .agg #[.int .i64 5, .int .i64 o, .int .i64 a, .int .i64 b, .int .i64 c, .int .i64 u, .bool t, .int .u64 x, .string nm, .int .i64 n0, .int .i64 n1, .int .i64 n2, .int .i64 n3, .int .i64 n4, .int .u64 n5, .string n6]] w Q := by
  have HC : Hid (∀ W, Below w.heap.size w W → Calls Tryz.prog 16 #[.pointer (some ⟨B, 0, none⟩), .int .i64 o, .int .i64 a] W Q) := h
  have HQ : Hid (∀ e w', Q e w' → ∃ p q, e = .returned (.tuple #[.int .i64 p, .int .i64 q])) := hq
  clear h hq
  go_enter Tryz.func5, Tryz.ntmps5
  go_wp2_with fail
  refine (HC.out _ ((Below.refl _ _).alloc (Nat.le_refl _) _)).mono ?_
  intro e w1 h1
  obtain ⟨p, q, rfl⟩ := HQ.out e w1 h1
  have HF : Hid (Q (.returned (.tuple #[.int .i64 p, .int .i64 q])) w1) := h1
  clear h1
  go_wp2
  first | exact HF.out | (go_ret2; exact HF.out)
set_option maxHeartbeats 4000000 in
theorem ask_6 (B : Nat) (o a b c u : Int) (t : Bool) (x : Int) (nm : ByteArray) (n0 n1 n2 n3 n4 n5 : Int) (n6 : ByteArray) (w : World) (Q : Ending → World → Prop) (h : ∀ W, Below w.heap.size w W → Calls Tryz.prog 12 #[.pointer (some ⟨B, 0, none⟩), .int .i64 o, .int .i64 a, .int .i64 b] W Q) (hq : ∀ e w', Q e w' → ∃ p q, e = .returned (.tuple #[.int .i64 p, .int .i64 q])) :
    Calls Tryz.prog 5 #[.pointer (some ⟨B, 0, none⟩), .agg #[.int .i64 6, .int .i64 o, .int .i64 a, .int .i64 b, .int .i64 c, .int .i64 u, .bool t, .int .u64 x, .string nm, .int .i64 n0, .int .i64 n1, .int .i64 n2, .int .i64 n3, .int .i64 n4, .int .u64 n5, .string n6]] w Q := by
  have HC : Hid (∀ W, Below w.heap.size w W → Calls Tryz.prog 12 #[.pointer (some ⟨B, 0, none⟩), .int .i64 o, .int .i64 a, .int .i64 b] W Q) := h
  have HQ : Hid (∀ e w', Q e w' → ∃ p q, e = .returned (.tuple #[.int .i64 p, .int .i64 q])) := hq
  clear h hq
  go_enter Tryz.func5, Tryz.ntmps5
  go_wp2_with fail
  refine (HC.out _ ((Below.refl _ _).alloc (Nat.le_refl _) _)).mono ?_
  intro e w1 h1
  obtain ⟨p, q, rfl⟩ := HQ.out e w1 h1
  have HF : Hid (Q (.returned (.tuple #[.int .i64 p, .int .i64 q])) w1) := h1
  clear h1
  go_wp2
  first | exact HF.out | (go_ret2; exact HF.out)
set_option maxHeartbeats 4000000 in
theorem ask_7 (B : Nat) (o a b c u : Int) (t : Bool) (x : Int) (nm : ByteArray) (n0 n1 n2 n3 n4 n5 : Int) (n6 : ByteArray) (w : World) (Q : Ending → World → Prop) (h : ∀ W, Below w.heap.size w W → Calls Tryz.prog 17 #[.pointer (some ⟨B, 0, none⟩), .int .i64 a, .int .i64 b, .int .i64 c] W Q) (hq : ∀ e w', Q e w' → ∃ p q, e = .returned (.tuple #[.int .i64 p, .int .i64 q])) :
    Calls Tryz.prog 5 #[.pointer (some ⟨B, 0, none⟩), .agg #[.int .i64 7, .int .i64 o, .int .i64 a, .int .i64 b, .int .i64 c, .int .i64 u, .bool t, .int .u64 x, .string nm, .int .i64 n0, .int .i64 n1, .int .i64 n2, .int .i64 n3, .int .i64 n4, .int .u64 n5, .string n6]] w Q := by
  have HC : Hid (∀ W, Below w.heap.size w W → Calls Tryz.prog 17 #[.pointer (some ⟨B, 0, none⟩), .int .i64 a, .int .i64 b, .int .i64 c] W Q) := h
  have HQ : Hid (∀ e w', Q e w' → ∃ p q, e = .returned (.tuple #[.int .i64 p, .int .i64 q])) := hq
  clear h hq
  go_enter Tryz.func5, Tryz.ntmps5
  go_wp2_with fail
  refine (HC.out _ ((Below.refl _ _).alloc (Nat.le_refl _) _)).mono ?_
  intro e w1 h1
  obtain ⟨p, q, rfl⟩ := HQ.out e w1 h1
  have HF : Hid (Q (.returned (.tuple #[.int .i64 p, .int .i64 q])) w1) := h1
  clear h1
  go_wp2
  first | exact HF.out | (go_ret2; exact HF.out)
set_option maxHeartbeats 4000000 in
theorem ask_8 (B : Nat) (o a b c u : Int) (t : Bool) (x : Int) (nm : ByteArray) (n0 n1 n2 n3 n4 n5 : Int) (n6 : ByteArray) (w : World) (Q : Ending → World → Prop) (h : ∀ W, Below w.heap.size w W → Calls Tryz.prog 18 #[.pointer (some ⟨B, 0, none⟩), .int .i64 a, .int .i64 b, .int .i64 c] W Q) (hq : ∀ e w', Q e w' → ∃ p q, e = .returned (.tuple #[.int .i64 p, .int .i64 q])) :
    Calls Tryz.prog 5 #[.pointer (some ⟨B, 0, none⟩), .agg #[.int .i64 8, .int .i64 o, .int .i64 a, .int .i64 b, .int .i64 c, .int .i64 u, .bool t, .int .u64 x, .string nm, .int .i64 n0, .int .i64 n1, .int .i64 n2, .int .i64 n3, .int .i64 n4, .int .u64 n5, .string n6]] w Q := by
  have HC : Hid (∀ W, Below w.heap.size w W → Calls Tryz.prog 18 #[.pointer (some ⟨B, 0, none⟩), .int .i64 a, .int .i64 b, .int .i64 c] W Q) := h
  have HQ : Hid (∀ e w', Q e w' → ∃ p q, e = .returned (.tuple #[.int .i64 p, .int .i64 q])) := hq
  clear h hq
  go_enter Tryz.func5, Tryz.ntmps5
  go_wp2_with fail
  refine (HC.out _ ((Below.refl _ _).alloc (Nat.le_refl _) _)).mono ?_
  intro e w1 h1
  obtain ⟨p, q, rfl⟩ := HQ.out e w1 h1
  have HF : Hid (Q (.returned (.tuple #[.int .i64 p, .int .i64 q])) w1) := h1
  clear h1
  go_wp2
  first | exact HF.out | (go_ret2; exact HF.out)
set_option maxHeartbeats 4000000 in
theorem ask_9 (B : Nat) (o a b c u : Int) (t : Bool) (x : Int) (nm : ByteArray) (n0 n1 n2 n3 n4 n5 : Int) (n6 : ByteArray) (w : World) (Q : Ending → World → Prop) (h : ∀ W, Below w.heap.size w W → Calls Tryz.prog 19 #[.pointer (some ⟨B, 0, none⟩), .int .i64 o, .int .i64 a, .int .i64 u] W Q) (hq : ∀ e w', Q e w' → ∃ p q, e = .returned (.tuple #[.int .i64 p, .int .i64 q])) :
    Calls Tryz.prog 5 #[.pointer (some ⟨B, 0, none⟩), .agg #[.int .i64 9, .int .i64 o, .int .i64 a, .int .i64 b, .int .i64 c, .int .i64 u, .bool t, .int .u64 x, .string nm, .int .i64 n0, .int .i64 n1, .int .i64 n2, .int .i64 n3, .int .i64 n4, .int .u64 n5, .string n6]] w Q := by
  have HC : Hid (∀ W, Below w.heap.size w W → Calls Tryz.prog 19 #[.pointer (some ⟨B, 0, none⟩), .int .i64 o, .int .i64 a, .int .i64 u] W Q) := h
  have HQ : Hid (∀ e w', Q e w' → ∃ p q, e = .returned (.tuple #[.int .i64 p, .int .i64 q])) := hq
  clear h hq
  go_enter Tryz.func5, Tryz.ntmps5
  go_wp2_with fail
  refine (HC.out _ ((Below.refl _ _).alloc (Nat.le_refl _) _)).mono ?_
  intro e w1 h1
  obtain ⟨p, q, rfl⟩ := HQ.out e w1 h1
  have HF : Hid (Q (.returned (.tuple #[.int .i64 p, .int .i64 q])) w1) := h1
  clear h1
  go_wp2
  first | exact HF.out | (go_ret2; exact HF.out)
set_option maxHeartbeats 4000000 in
theorem ask_no (B : Nat) (k : Int) (o a b c u : Int) (t : Bool) (x : Int) (nm : ByteArray) (n0 n1 n2 n3 n4 n5 : Int) (n6 : ByteArray) (w : World) (hk : k < 1 ∨ 9 < k) :
    Calls Tryz.prog 5 #[.pointer (some ⟨B, 0, none⟩), .agg #[.int .i64 k, .int .i64 o, .int .i64 a, .int .i64 b, .int .i64 c, .int .i64 u, .bool t, .int .u64 x, .string nm, .int .i64 n0, .int .i64 n1, .int .i64 n2, .int .i64 n3, .int .i64 n4, .int .u64 n5, .string n6]] w fun e w' => e = .returned (.tuple #[.int .i64 0, .int .i64 0]) ∧ Below w.heap.size w w' := by
  have q1 : (k == 1) = false := beq_eq_false_iff_ne.2 (by omega)
  have q2 : (k == 2) = false := beq_eq_false_iff_ne.2 (by omega)
  have q3 : (k == 3) = false := beq_eq_false_iff_ne.2 (by omega)
  have q4 : (k == 4) = false := beq_eq_false_iff_ne.2 (by omega)
  have q5 : (k == 5) = false := beq_eq_false_iff_ne.2 (by omega)
  have q6 : (k == 6) = false := beq_eq_false_iff_ne.2 (by omega)
  have q7 : (k == 7) = false := beq_eq_false_iff_ne.2 (by omega)
  have q8 : (k == 8) = false := beq_eq_false_iff_ne.2 (by omega)
  have q9 : (k == 9) = false := beq_eq_false_iff_ne.2 (by omega)
  clear hk
  go_enter Tryz.func5, Tryz.ntmps5
  go_wp2
  go_ret2
  exact ⟨rfl, (Below.refl _ _).alloc (Nat.le_refl _) _⟩
end Go.Proofs.YtobgedjpghokcaaGreatDoor
