import Derived.Test.YtopdbhkkmolllaaGreatDoorKnP
import Derived.Test.YtopdbhkkmolllaaGreatDoorKnI
namespace Go.Proofs.YtopdbhkkmolllaaGreatDoor
open Go.ChangeShapes Go.WideShapes Go.ChangeAt Go.RowKit Go.Lib Go.Kn

theorem no_any (x : Int) (w : World) : Calls Tryz.prog 7 #[.int .i64 x] w fun e w' => e = .returned (.int .i64 x) ∧ w' = w := by
  go_enter Tryz.func7, Tryz.ntmps7
  go_wp2
  go_ret
  exact ⟨rfl, rfl⟩
theorem fieldsF : Tryz.prog.underlying 24 = some (.struct (Tryz.prog.fieldsOf 24)) := by kernel_rfl
theorem heldF : Tryz.prog.stoodInHeld 24 = false := by kernel_rfl
set_option maxRecDepth 100000 in
theorem eqIn_f (a b c d e : Int) (w : World) : (Op.equalIn 10000 24 (.agg #[.int .i64 a, .int .u64 b, .int .u64 c, .int .u64 d, .int .u64 e]) (.agg #[.int .i64 a, .int .u64 b, .int .u64 c, .int .u64 d, .int .u64 e])).run Tryz.prog w = .ok true w := by
  rw [show (10000 : Nat) = 9999 + 1 from rfl, run_equalIn_struct w 9999 24 _ _ fieldsF heldF]
  obtain ⟨fs, hfs⟩ : ∃ fs, (Tryz.prog.fieldsOf 24).toList = fs := ⟨_, rfl⟩
  rw [hfs]
  have hu := Tryz.underlying24
  rw [fieldsF] at hu
  injection hu with hu
  injection hu with hu
  rw [hu] at hfs
  subst hfs
  simp [Op.eqFields, part, run_equalIn_int w 9998 3 .i64 .i64 _ _ Tryz.underlying3, run_equalIn_int w 9998 22 .u64 .u64 _ _ Tryz.underlying22]
theorem eq_f (f : Fc) (w : World) : (binOp .eql 24 (.agg #[.int .i64 f.w, .int .u64 (f.one : Int), .int .u64 (f.zero : Int), .int .u64 (f.least : Int), .int .u64 (f.top : Int)]) (.agg #[.int .i64 f.w, .int .u64 (f.one : Int), .int .u64 (f.zero : Int), .int .u64 (f.least : Int), .int .u64 (f.top : Int)])).run Tryz.prog w = .ok (.bool true) w := by
  rw [run_eql_struct, eqIn_f]
  rfl
theorem neq_f (f : Fc) (w : World) : (binOp .neq 24 (.agg #[.int .i64 f.w, .int .u64 (f.one : Int), .int .u64 (f.zero : Int), .int .u64 (f.least : Int), .int .u64 (f.top : Int)]) (.agg #[.int .i64 f.w, .int .u64 (f.one : Int), .int .u64 (f.zero : Int), .int .u64 (f.least : Int), .int .u64 (f.top : Int)])).run Tryz.prog w = .ok (.bool false) w := by
  rw [run_neq_struct, eqIn_f]
  rfl
theorem eq_n (a b c d e : Int) (w : World) : (binOp .eql 24 (.agg #[.int .i64 a, .int .u64 b, .int .u64 c, .int .u64 d, .int .u64 e]) (.agg #[.int .i64 a, .int .u64 b, .int .u64 c, .int .u64 d, .int .u64 e])).run Tryz.prog w = .ok (.bool true) w := by
  rw [run_eql_struct, eqIn_f]
  rfl
set_option maxHeartbeats 4000000 in
theorem live_any (w : World) : Calls Tryz.prog 4 #[] w fun e w' => e = .returned (.bool true) ∧ Below w.heap.size w w' := by
  have HN : Hid (∀ W x, Calls Tryz.prog 7 #[.int .i64 x] W fun e w' => e = .returned (.int .i64 x) ∧ w' = W) := fun W x => no_any x W
  have HS1 : Hid (∀ W, Calls Tryz.prog 10 #[.agg #[.int .i64 4, .int .u64 1, .int .u64 0, .int .u64 0, .int .u64 6]] W fun e w' => e = .returned (.tuple #[.agg #[.int .i64 4, .int .u64 1, .int .u64 8, .int .u64 1, .int .u64 5], .int .i64 0]) ∧ Below W.heap.size W w') := fun W => (Settle_any ⟨4, 1, 0, 0, 6⟩ W).mono (by
    rintro e w' ⟨v, c, hv, rfl, hb⟩
    obtain ⟨rfl, rfl⟩ := SA.same hv (Or.inr ⟨may4 rfl (by decide) (by decide) (by decide) (by decide), some ⟨4, 1, 8, 1, 5⟩, set_e1, rfl, rfl⟩)
    exact ⟨rfl, hb⟩)
  have HS2 : Hid (∀ W, Calls Tryz.prog 10 #[.agg #[.int .i64 4, .int .u64 0, .int .u64 0, .int .u64 5, .int .u64 6]] W fun e w' => e = .returned (.tuple #[.agg #[.int .i64 4, .int .u64 4, .int .u64 8, .int .u64 5, .int .u64 6], .int .i64 0]) ∧ Below W.heap.size W w') := fun W => (Settle_any ⟨4, 0, 0, 5, 6⟩ W).mono (by
    rintro e w' ⟨v, c, hv, rfl, hb⟩
    obtain ⟨rfl, rfl⟩ := SA.same hv (Or.inr ⟨may4 rfl (by decide) (by decide) (by decide) (by decide), some ⟨4, 4, 8, 5, 6⟩, set_e2, rfl, rfl⟩)
    exact ⟨rfl, hb⟩)
  have HS3 : Hid (∀ W, Calls Tryz.prog 10 #[.agg #[.int .i64 4, .int .u64 8, .int .u64 0, .int .u64 0, .int .u64 3]] W fun e w' => e = .returned (.tuple #[.agg #[.int .i64 0, .int .u64 0, .int .u64 0, .int .u64 0, .int .u64 0], .int .i64 1]) ∧ Below W.heap.size W w') := fun W => (Settle_any ⟨4, 8, 0, 0, 3⟩ W).mono (by
    rintro e w' ⟨v, c, hv, rfl, hb⟩
    obtain ⟨rfl, rfl⟩ := SA.same hv (Or.inr ⟨may4 rfl (by decide) (by decide) (by decide) (by decide), none, none_e3, rfl, rfl⟩)
    exact ⟨rfl, hb⟩)
  have HAl : Hid (∀ W, Calls Tryz.prog 11 #[.int .i64 4, .int .u64 5] W fun e w' => e = .returned (.tuple #[.agg #[.int .i64 4, .int .u64 5, .int .u64 10, .int .u64 5, .int .u64 5], .int .i64 0]) ∧ Below W.heap.size W w') := fun W => (Alone_any 4 5 W).mono (by
    rintro e w' ⟨v, c, hv, rfl, hb⟩
    obtain ⟨rfl, rfl⟩ := AL.same hv (Or.inr ⟨⟨by omega, by decide⟩, rfl, rfl⟩)
    exact ⟨rfl, hb⟩)
  have HAp : Hid (∀ W nm, Calls Tryz.prog 12 #[.agg #[.int .i64 20, .int .i64 4, .int .i64 0, .int .i64 0, .int .i64 0, .int .u64 0, .string nm], .agg #[.int .i64 4, .int .u64 5, .int .u64 10, .int .u64 5, .int .u64 5], .agg #[.int .i64 4, .int .u64 0, .int .u64 1, .int .u64 0, .int .u64 14], .agg #[.int .i64 0, .int .u64 0, .int .u64 0, .int .u64 0, .int .u64 0]] W fun e w' => e = .returned (.tuple #[.agg #[.int .i64 4, .int .u64 1, .int .u64 0, .int .u64 1, .int .u64 15], .int .i64 0]) ∧ Below W.heap.size W w') := fun W nm => Apply_ex nm W
  have e1 := fun W => eq_n 4 1 8 1 5 W
  have e2 := fun W => eq_n 4 4 8 5 6 W
  have e3 := fun W => eq_n 4 1 0 1 15 W
  go_enter Tryz.func4, Tryz.ntmps4
  go_wp2_with fail
  refine (HS1.out _).mono ?_
  rintro e w1 ⟨rfl, hb⟩
  have B1 : Hid (Below w.heap.size w w1) := hb
  clear hb
  go_wp2_with fail
  refine (HS2.out _).mono ?_
  rintro e w2 ⟨rfl, hb⟩
  have B2 : Hid (BX w2 w1.heap.size ⟨4, 1, 8, 1, 5⟩ ∧ Below w.heap.size w w2) := ⟨(BX.new w1 ⟨4, 1, 8, 1, 5⟩).next hb, nx (nxa B1.out _) hb⟩
  clear hb
  go_wp2_with fail
  refine (HS3.out _).mono ?_
  rintro e w3 ⟨rfl, hb⟩
  have B3 : Hid (BX w3 w2.heap.size ⟨4, 4, 8, 5, 6⟩ ∧ BX w3 w1.heap.size ⟨4, 1, 8, 1, 5⟩ ∧ Below w.heap.size w w3) := ⟨(BX.new w2 ⟨4, 4, 8, 5, 6⟩).next hb, (B2.out.1.alloc _).next hb, nx (nxa B2.out.2 _) hb⟩
  clear hb
  go_wp2_with fail
  refine (HAl.out _).mono ?_
  rintro e w4 ⟨rfl, hb⟩
  have B4 : Hid (BX w4 w2.heap.size ⟨4, 4, 8, 5, 6⟩ ∧ BX w4 w1.heap.size ⟨4, 1, 8, 1, 5⟩ ∧ Below w.heap.size w w4) := ⟨(B3.out.1.alloc _).next hb, (B3.out.2.1.alloc _).next hb, nx (nxa B3.out.2.2 _) hb⟩
  clear hb
  obtain ⟨w5, hw5⟩ : ∃ w5, w4.alloc (.cells #[.int .i64 4, .int .u64 5, .int .u64 10, .int .u64 5, .int .u64 5] 24) = w5 := ⟨_, rfl⟩
  have B5 : Hid (BX w5 w4.heap.size ⟨4, 5, 10, 5, 5⟩ ∧ BX w5 w2.heap.size ⟨4, 4, 8, 5, 6⟩ ∧ BX w5 w1.heap.size ⟨4, 1, 8, 1, 5⟩ ∧ Below w.heap.size w w5) := by
    rw [← hw5]; exact ⟨BX.new w4 ⟨4, 5, 10, 5, 5⟩, B4.out.1.alloc _, B4.out.2.1.alloc _, nxa B4.out.2.2 _⟩
  have f0 : w5.cell? ⟨w4.heap.size, 0, none⟩ = some (.int .i64 4) := B5.out.1.c.1
  have f1 : w5.cell? ⟨w4.heap.size, 1, none⟩ = some (.int .u64 5) := B5.out.1.c.2.1
  have f2 : w5.cell? ⟨w4.heap.size, 2, none⟩ = some (.int .u64 10) := B5.out.1.c.2.2.1
  have f3 : w5.cell? ⟨w4.heap.size, 3, none⟩ = some (.int .u64 5) := B5.out.1.c.2.2.2.1
  have f4 : w5.cell? ⟨w4.heap.size, 4, none⟩ = some (.int .u64 5) := B5.out.1.c.2.2.2.2
  go_wp2_with fail
  try rw [hw5]
  refine (HAp.out _ _).mono ?_
  rintro e w6 ⟨rfl, hb⟩
  have B6 : Hid (BX w6 w2.heap.size ⟨4, 4, 8, 5, 6⟩ ∧ BX w6 w1.heap.size ⟨4, 1, 8, 1, 5⟩ ∧ Below w.heap.size w w6) := ⟨B5.out.2.1.next hb, B5.out.2.2.1.next hb, nx B5.out.2.2.2 hb⟩
  clear hb f0 f1 f2 f3 f4 hw5 B5
  obtain ⟨w7, hw7⟩ : ∃ w7, w6.alloc (.cells #[.int .i64 4, .int .u64 1, .int .u64 0, .int .u64 1, .int .u64 15] 24) = w7 := ⟨_, rfl⟩
  have B7 : Hid (BX w7 w6.heap.size ⟨4, 1, 0, 1, 15⟩ ∧ BX w7 w2.heap.size ⟨4, 4, 8, 5, 6⟩ ∧ BX w7 w1.heap.size ⟨4, 1, 8, 1, 5⟩ ∧ Below w.heap.size w w7) := by
    rw [← hw7]; exact ⟨BX.new w6 ⟨4, 1, 0, 1, 15⟩, B6.out.1.alloc _, B6.out.2.1.alloc _, nxa B6.out.2.2 _⟩
  have c0 : w7.cell? ⟨w6.heap.size, 0, none⟩ = some (.int .i64 4) := B7.out.1.c.1
  have c1 : w7.cell? ⟨w6.heap.size, 1, none⟩ = some (.int .u64 1) := B7.out.1.c.2.1
  have c2 : w7.cell? ⟨w6.heap.size, 2, none⟩ = some (.int .u64 0) := B7.out.1.c.2.2.1
  have c3 : w7.cell? ⟨w6.heap.size, 3, none⟩ = some (.int .u64 1) := B7.out.1.c.2.2.2.1
  have c4 : w7.cell? ⟨w6.heap.size, 4, none⟩ = some (.int .u64 15) := B7.out.1.c.2.2.2.2
  have b0 : w7.cell? ⟨w2.heap.size, 0, none⟩ = some (.int .i64 4) := B7.out.2.1.c.1
  have b1 : w7.cell? ⟨w2.heap.size, 1, none⟩ = some (.int .u64 4) := B7.out.2.1.c.2.1
  have b2 : w7.cell? ⟨w2.heap.size, 2, none⟩ = some (.int .u64 8) := B7.out.2.1.c.2.2.1
  have b3 : w7.cell? ⟨w2.heap.size, 3, none⟩ = some (.int .u64 5) := B7.out.2.1.c.2.2.2.1
  have b4 : w7.cell? ⟨w2.heap.size, 4, none⟩ = some (.int .u64 6) := B7.out.2.1.c.2.2.2.2
  have a0 : w7.cell? ⟨w1.heap.size, 0, none⟩ = some (.int .i64 4) := B7.out.2.2.1.c.1
  have a1 : w7.cell? ⟨w1.heap.size, 1, none⟩ = some (.int .u64 1) := B7.out.2.2.1.c.2.1
  have a2 : w7.cell? ⟨w1.heap.size, 2, none⟩ = some (.int .u64 8) := B7.out.2.2.1.c.2.2.1
  have a3 : w7.cell? ⟨w1.heap.size, 3, none⟩ = some (.int .u64 1) := B7.out.2.2.1.c.2.2.2.1
  have a4 : w7.cell? ⟨w1.heap.size, 4, none⟩ = some (.int .u64 5) := B7.out.2.2.1.c.2.2.2.2
  go_wp2_with (go_at_call 7; refine (HN.out _ _).mono ?_; rintro e w' ⟨rfl, hw⟩; obtain rfl := hw.symm)
  go_ret
  exact ⟨rfl, B7.out.2.2.2⟩
end Go.Proofs.YtopdbhkkmolllaaGreatDoor
