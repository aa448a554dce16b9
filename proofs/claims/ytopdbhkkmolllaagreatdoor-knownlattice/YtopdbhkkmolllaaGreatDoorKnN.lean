import Derived.Test.YtopdbhkkmolllaaGreatDoorKnM
namespace Go.Proofs.YtopdbhkkmolllaaGreatDoor
open Go.ChangeShapes Go.WideShapes Go.ChangeAt Go.RowKit Go.Lib Go.Kn

theorem trim4 (x r : Nat) (hr : bits .and .u64 (x : Int) 15 = (r : Int)) (w : World) : Calls Tryz.prog 35 #[.int .i64 4, uV x] w fun e w' => e = .returned (uV r) ∧ w' = w := by
  have hw : IntKind.u64.wrap 16 = 16 := by decide
  have hw2 : IntKind.u64.wrap 15 = 15 := by decide
  go_enter Tryz.func35, Tryz.ntmps35
  go_wp2
  go_ret
  exact ⟨rfl, rfl⟩
set_option maxHeartbeats 4000000 in
theorem sum_ex (w : World) : Calls Tryz.prog 60 #[fV exA, fV exB] w fun e w' => e = .returned (fV exC) ∧ Below w.heap.size w w' := by
  have HC : Hid (∀ W, Calls Tryz.prog 50 #[.agg #[.int .i64 4, .int .u64 5, .int .u64 10, .int .u64 5, .int .u64 5], .agg #[.int .i64 4, .int .u64 0, .int .u64 1, .int .u64 0, .int .u64 14], .int .u64 0] W fun e w' => e = .returned (.agg #[.int .i64 4, .int .u64 1, .int .u64 0, .int .u64 0, .int .u64 15]) ∧ Below W.heap.size W w') := fun W => carried_ex W
  have HT : Hid (∀ W (x : Int), x = 5 ∨ x = 19 → Calls Tryz.prog 35 #[.int .i64 4, .int .u64 x] W fun e w' => e = .returned (.int .u64 (if x = 5 then 5 else 3)) ∧ w' = W) := fun W x hx => by
    rcases hx with rfl | rfl
    · exact trim4 5 5 (by decide) W
    · exact trim4 19 3 (by decide) W
  have t5 : IntKind.u64.wrap 5 = 5 := by decide
  have t19 : IntKind.u64.wrap 19 = 19 := by decide
  obtain ⟨w1, hw1⟩ : ∃ w1, ((w.alloc (.cells #[.int .i64 exA.w, uV exA.one, uV exA.zero, uV exA.least, uV exA.top] 24)).alloc (.cells #[.int .i64 exB.w, uV exB.one, uV exB.zero, uV exB.least, uV exB.top] 24)).alloc (.cells #[.int .i64 0, .int .u64 0, .int .u64 0, .int .u64 0, .int .u64 0] 24) = w1 := ⟨_, rfl⟩
  have HS_w1 : Hid (BX w1 w.heap.size exA ∧ BX w1 (w.heap.size + 1) exB ∧ BX w1 (w.heap.size + 1 + 1) zF ∧ Below w.heap.size w w1) := by
    rw [← hw1]
    exact boxes3 w exA exB zF
  have a0 : w1.cell? ⟨w.heap.size, 0, none⟩ = some (.int .i64 4) := HS_w1.out.1.c.1
  have a1 : w1.cell? ⟨w.heap.size, 1, none⟩ = some (.int .u64 5) := HS_w1.out.1.c.2.1
  have a2 : w1.cell? ⟨w.heap.size, 2, none⟩ = some (.int .u64 10) := HS_w1.out.1.c.2.2.1
  have a3 : w1.cell? ⟨w.heap.size, 3, none⟩ = some (.int .u64 5) := HS_w1.out.1.c.2.2.2.1
  have a4 : w1.cell? ⟨w.heap.size, 4, none⟩ = some (.int .u64 5) := HS_w1.out.1.c.2.2.2.2
  have b0 : w1.cell? ⟨(w.heap.size + 1), 0, none⟩ = some (.int .i64 4) := HS_w1.out.2.1.c.1
  have b1 : w1.cell? ⟨(w.heap.size + 1), 1, none⟩ = some (.int .u64 0) := HS_w1.out.2.1.c.2.1
  have b2 : w1.cell? ⟨(w.heap.size + 1), 2, none⟩ = some (.int .u64 1) := HS_w1.out.2.1.c.2.2.1
  have b3 : w1.cell? ⟨(w.heap.size + 1), 3, none⟩ = some (.int .u64 0) := HS_w1.out.2.1.c.2.2.2.1
  have b4 : w1.cell? ⟨(w.heap.size + 1), 4, none⟩ = some (.int .u64 14) := HS_w1.out.2.1.c.2.2.2.2
  go_enter Tryz.func60, Tryz.ntmps60
  go_wp2_with fail
  try rw [hw1]
  refine (HC.out _).mono ?_
  rintro e w2 ⟨rfl, hb⟩
  have HS_w2 : Hid (BX w2 w.heap.size exA ∧ BX w2 (w.heap.size + 1) exB ∧ BX w2 (w.heap.size + 1 + 1) zF ∧ Below w.heap.size w w2) := ⟨HS_w1.out.1.next hb, HS_w1.out.2.1.next hb, HS_w1.out.2.2.1.next hb, nx HS_w1.out.2.2.2 hb⟩
  clear a0 a1 a2 a3 a4 b0 b1 b2 b3 b4 hb HS_w1 hw1 w1
  have hgt : w.heap.size + 1 + 1 < w2.heap.size := HS_w2.out.2.2.1.lt
  obtain ⟨w3, hw3⟩ : ∃ w3, w2.alloc (.cells #[.int .i64 4, .int .u64 1, .int .u64 0, .int .u64 0, .int .u64 15] 24) = w3 := ⟨_, rfl⟩
  have HS_w3 : Hid (BX w3 w2.heap.size exC ∧ BX w3 w.heap.size exA ∧ BX w3 (w.heap.size + 1) exB ∧ BX w3 (w.heap.size + 1 + 1) zF ∧ Below w.heap.size w w3) := by
    rw [← hw3]
    exact ⟨BX.new w2 exC, HS_w2.out.1.alloc _, HS_w2.out.2.1.alloc _, HS_w2.out.2.2.1.alloc _, nxa HS_w2.out.2.2.2 _⟩
  clear HS_w2
  have a0 : w3.cell? ⟨w.heap.size, 0, none⟩ = some (.int .i64 4) := HS_w3.out.2.1.c.1
  have a1 : w3.cell? ⟨w.heap.size, 1, none⟩ = some (.int .u64 5) := HS_w3.out.2.1.c.2.1
  have a2 : w3.cell? ⟨w.heap.size, 2, none⟩ = some (.int .u64 10) := HS_w3.out.2.1.c.2.2.1
  have a3 : w3.cell? ⟨w.heap.size, 3, none⟩ = some (.int .u64 5) := HS_w3.out.2.1.c.2.2.2.1
  have a4 : w3.cell? ⟨w.heap.size, 4, none⟩ = some (.int .u64 5) := HS_w3.out.2.1.c.2.2.2.2
  have b0 : w3.cell? ⟨(w.heap.size + 1), 0, none⟩ = some (.int .i64 4) := HS_w3.out.2.2.1.c.1
  have b1 : w3.cell? ⟨(w.heap.size + 1), 1, none⟩ = some (.int .u64 0) := HS_w3.out.2.2.1.c.2.1
  have b2 : w3.cell? ⟨(w.heap.size + 1), 2, none⟩ = some (.int .u64 1) := HS_w3.out.2.2.1.c.2.2.1
  have b3 : w3.cell? ⟨(w.heap.size + 1), 3, none⟩ = some (.int .u64 0) := HS_w3.out.2.2.1.c.2.2.2.1
  have b4 : w3.cell? ⟨(w.heap.size + 1), 4, none⟩ = some (.int .u64 14) := HS_w3.out.2.2.1.c.2.2.2.2
  have f0 : w3.cell? ⟨w2.heap.size, 0, none⟩ = some (.int .i64 4) := HS_w3.out.1.c.1
  have f1 : w3.cell? ⟨w2.heap.size, 1, none⟩ = some (.int .u64 1) := HS_w3.out.1.c.2.1
  have f2 : w3.cell? ⟨w2.heap.size, 2, none⟩ = some (.int .u64 0) := HS_w3.out.1.c.2.2.1
  have f3 : w3.cell? ⟨w2.heap.size, 3, none⟩ = some (.int .u64 0) := HS_w3.out.1.c.2.2.2.1
  have f4 : w3.cell? ⟨w2.heap.size, 4, none⟩ = some (.int .u64 15) := HS_w3.out.1.c.2.2.2.2
  go_wp2_with fail
  go_big_quiet ((go_at_call 35; exact Calls.quiet_of_same (HT.out _ _ (by decide))))
  obtain ⟨wa, hwa⟩ : ∃ wa, w3.drewN nq = wa := ⟨_, rfl⟩
  have HS_wa : Hid (BX wa w2.heap.size exC ∧ BX wa w.heap.size exA ∧ BX wa (w.heap.size + 1) exB ∧ BX wa (w.heap.size + 1 + 1) zF ∧ Below w.heap.size w wa) := by
    rw [← hwa]; exact ⟨HS_w3.out.1.dN _, HS_w3.out.2.1.dN _, HS_w3.out.2.2.1.dN _, HS_w3.out.2.2.2.1.dN _, bel_drewN HS_w3.out.2.2.2.2 _⟩
  rw [hwa]
  clear a0 a1 a2 a3 a4 b0 b1 b2 b3 b4 f0 f1 f2 f3 f4 HS_w3 hwa
  have a0 : wa.cell? ⟨w.heap.size, 0, none⟩ = some (.int .i64 4) := HS_wa.out.2.1.c.1
  have a1 : wa.cell? ⟨w.heap.size, 1, none⟩ = some (.int .u64 5) := HS_wa.out.2.1.c.2.1
  have a2 : wa.cell? ⟨w.heap.size, 2, none⟩ = some (.int .u64 10) := HS_wa.out.2.1.c.2.2.1
  have a3 : wa.cell? ⟨w.heap.size, 3, none⟩ = some (.int .u64 5) := HS_wa.out.2.1.c.2.2.2.1
  have a4 : wa.cell? ⟨w.heap.size, 4, none⟩ = some (.int .u64 5) := HS_wa.out.2.1.c.2.2.2.2
  have b0 : wa.cell? ⟨(w.heap.size + 1), 0, none⟩ = some (.int .i64 4) := HS_wa.out.2.2.1.c.1
  have b1 : wa.cell? ⟨(w.heap.size + 1), 1, none⟩ = some (.int .u64 0) := HS_wa.out.2.2.1.c.2.1
  have b2 : wa.cell? ⟨(w.heap.size + 1), 2, none⟩ = some (.int .u64 1) := HS_wa.out.2.2.1.c.2.2.1
  have b3 : wa.cell? ⟨(w.heap.size + 1), 3, none⟩ = some (.int .u64 0) := HS_wa.out.2.2.1.c.2.2.2.1
  have b4 : wa.cell? ⟨(w.heap.size + 1), 4, none⟩ = some (.int .u64 14) := HS_wa.out.2.2.1.c.2.2.2.2
  have f0 : wa.cell? ⟨w2.heap.size, 0, none⟩ = some (.int .i64 4) := HS_wa.out.1.c.1
  have f1 : wa.cell? ⟨w2.heap.size, 1, none⟩ = some (.int .u64 1) := HS_wa.out.1.c.2.1
  have f2 : wa.cell? ⟨w2.heap.size, 2, none⟩ = some (.int .u64 0) := HS_wa.out.1.c.2.2.1
  have f3 : wa.cell? ⟨w2.heap.size, 3, none⟩ = some (.int .u64 0) := HS_wa.out.1.c.2.2.2.1
  have f4 : wa.cell? ⟨w2.heap.size, 4, none⟩ = some (.int .u64 15) := HS_wa.out.1.c.2.2.2.2
  obtain ⟨z0, z1, z2, z3, z4⟩ := HS_wa.out.2.2.2.1.c
  obtain ⟨y0, y1, y2, y3, y4⟩ := HS_wa.out.2.2.2.1.fz
  go_wp2_with fail
  refine bodyPost_ret (res1 rfl _ _ (w.heap.size + 1 + 1) _ _ _ rfl (set5_at HS_wa.out.2.2.2.1 _ _ _ _ _) rfl) rfl ?_
  exact ⟨rfl, set5_bel HS_wa.out.2.2.2.2 (by omega) _ _ _ _ _⟩
set_option maxHeartbeats 4000000 in
theorem two_ex (w : World) : Calls Tryz.prog 46 #[.int .i64 20, fV exA, fV exB] w fun e w' => e = .returned (fV exC) ∧ Below w.heap.size w w' := by
  have HC : Hid (∀ W, Calls Tryz.prog 60 #[.agg #[.int .i64 4, .int .u64 5, .int .u64 10, .int .u64 5, .int .u64 5], .agg #[.int .i64 4, .int .u64 0, .int .u64 1, .int .u64 0, .int .u64 14]] W fun e w' => e = .returned (.agg #[.int .i64 4, .int .u64 1, .int .u64 0, .int .u64 0, .int .u64 15]) ∧ Below W.heap.size W w') := fun W => sum_ex W
  obtain ⟨w1, hw1⟩ : ∃ w1, (((w.alloc (.cells #[.int .i64 20] 3)).alloc (.cells #[.int .i64 exA.w, uV exA.one, uV exA.zero, uV exA.least, uV exA.top] 24)).alloc (.cells #[.int .i64 exB.w, uV exB.one, uV exB.zero, uV exB.least, uV exB.top] 24)).alloc (.cells #[.int .i64 0, .int .u64 0, .int .u64 0, .int .u64 0, .int .u64 0] 24) = w1 := ⟨_, rfl⟩
  have HS_w1 : Hid (BX w1 (w.heap.size + 1 + 1 + 1) zF ∧ Below w.heap.size w w1 ∧ BX w1 (w.heap.size + 1) exA ∧ BX w1 (w.heap.size + 1 + 1) exB) := by
    rw [← hw1]
    refine ⟨?_, nxa (bel3 _ _ _ _) _, ((BX.alloc (hp2 w _ _) _).alloc _), BX.alloc (hp3 w _ _ _) _⟩
    have := BX.new (((w.alloc (.cells #[.int .i64 20] 3)).alloc (.cells #[.int .i64 exA.w, uV exA.one, uV exA.zero, uV exA.least, uV exA.top] 24)).alloc (.cells #[.int .i64 exB.w, uV exB.one, uV exB.zero, uV exB.least, uV exB.top] 24)) zF
    simp at this
    exact this
  have o0 : w1.cell? ⟨w.heap.size, 0, none⟩ = some (.int .i64 20) := by
    rw [← hw1]; exact blk_cell (at_alloc _ (at_alloc _ (at_alloc _ (heap_alloc_new w _)))) 0
  have a0 : w1.cell? ⟨(w.heap.size + 1), 0, none⟩ = some (.int .i64 4) := HS_w1.out.2.2.1.c.1
  have a1 : w1.cell? ⟨(w.heap.size + 1), 1, none⟩ = some (.int .u64 5) := HS_w1.out.2.2.1.c.2.1
  have a2 : w1.cell? ⟨(w.heap.size + 1), 2, none⟩ = some (.int .u64 10) := HS_w1.out.2.2.1.c.2.2.1
  have a3 : w1.cell? ⟨(w.heap.size + 1), 3, none⟩ = some (.int .u64 5) := HS_w1.out.2.2.1.c.2.2.2.1
  have a4 : w1.cell? ⟨(w.heap.size + 1), 4, none⟩ = some (.int .u64 5) := HS_w1.out.2.2.1.c.2.2.2.2
  have b0 : w1.cell? ⟨(w.heap.size + 1 + 1), 0, none⟩ = some (.int .i64 4) := HS_w1.out.2.2.2.c.1
  have b1 : w1.cell? ⟨(w.heap.size + 1 + 1), 1, none⟩ = some (.int .u64 0) := HS_w1.out.2.2.2.c.2.1
  have b2 : w1.cell? ⟨(w.heap.size + 1 + 1), 2, none⟩ = some (.int .u64 1) := HS_w1.out.2.2.2.c.2.2.1
  have b3 : w1.cell? ⟨(w.heap.size + 1 + 1), 3, none⟩ = some (.int .u64 0) := HS_w1.out.2.2.2.c.2.2.2.1
  have b4 : w1.cell? ⟨(w.heap.size + 1 + 1), 4, none⟩ = some (.int .u64 14) := HS_w1.out.2.2.2.c.2.2.2.2
  go_enter Tryz.func46, Tryz.ntmps46
  go_wp2_with fail
  try rw [hw1]
  refine (HC.out _).mono ?_
  rintro e w2 ⟨rfl, hb⟩
  have HS_w2 : Hid (BX w2 (w.heap.size + 1 + 1 + 1) zF ∧ Below w.heap.size w w2) := ⟨HS_w1.out.1.next hb, nx HS_w1.out.2.1 hb⟩
  clear HS_w1 hw1 hb a0 a1 a2 a3 a4 b0 b1 b2 b3 b4 o0
  obtain ⟨z0, z1, z2, z3, z4⟩ := HS_w2.out.1.c
  obtain ⟨y0, y1, y2, y3, y4⟩ := HS_w2.out.1.fz
  go_wp2_with fail
  refine bodyPost_ret (res1 rfl _ _ (w.heap.size + 1 + 1 + 1) _ _ _ rfl (set5_at HS_w2.out.1 _ _ _ _ _) rfl) rfl ?_
  exact ⟨rfl, set5_bel HS_w2.out.2 (by omega) _ _ _ _ _⟩
abbrev ndV (nm : ByteArray) : Value := .agg #[.int .i64 20, .int .i64 4, .int .i64 0, .int .i64 0, .int .i64 0, .int .u64 0, .string nm]
set_option maxHeartbeats 4000000 in
theorem table_ex (nm : ByteArray) (G c : Nat) (w : World) (hG : G < w.heap.size) (hr : RowF w G 0 [exA, exB]) : Calls Tryz.prog 32 #[ndV nm, .slice (some ⟨G, 0, none⟩) 2 c] w fun e w' => e = .returned (fV exC) ∧ Below w.heap.size w w' := by
  have HC : Hid (∀ W, Calls Tryz.prog 46 #[.int .i64 20, .agg #[.int .i64 4, .int .u64 5, .int .u64 10, .int .u64 5, .int .u64 5], .agg #[.int .i64 4, .int .u64 0, .int .u64 1, .int .u64 0, .int .u64 14]] W fun e w' => e = .returned (.agg #[.int .i64 4, .int .u64 1, .int .u64 0, .int .u64 0, .int .u64 15]) ∧ Below W.heap.size W w') := fun W => two_ex W
  obtain ⟨w1, hw1⟩ : ∃ w1, (w.alloc (.cells #[.int .i64 20, .int .i64 4, .int .i64 0, .int .i64 0, .int .i64 0, .int .u64 0, .string nm] 38)).alloc (.cells #[.int .i64 0, .int .u64 0, .int .u64 0, .int .u64 0, .int .u64 0] 24) = w1 := ⟨_, rfl⟩
  have HS_w1 : Hid (BX w1 (w.heap.size + 1) zF ∧ Below w.heap.size w w1 ∧ RowF w1 G 0 [exA, exB]) := by
    rw [← hw1]
    exact ⟨hp2 _ _ _, bel2 _ _ _, hr.next hG (bel2 _ _ _)⟩
  have n0 : w1.cell? ⟨w.heap.size, 0, none⟩ = some (.int .i64 20) := by
    rw [← hw1]; exact blk_cell (at_alloc _ (heap_alloc_new w _)) 0
  obtain ⟨r0, r1⟩ : w1.cell? ⟨G, 0, none⟩ = some (.int .i64 4) ∧ w1.cell? ⟨G, 1, none⟩ = some (.int .u64 5) := ⟨(HS_w1.out.2.2 0 (by simp)).1, (HS_w1.out.2.2 0 (by simp)).2.1⟩
  obtain ⟨r2, r3, r4⟩ : w1.cell? ⟨G, 2, none⟩ = some (.int .u64 10) ∧ w1.cell? ⟨G, 3, none⟩ = some (.int .u64 5) ∧ w1.cell? ⟨G, 4, none⟩ = some (.int .u64 5) := (HS_w1.out.2.2 0 (by simp)).2.2
  obtain ⟨s0, s1⟩ : w1.cell? ⟨G, 5, none⟩ = some (.int .i64 4) ∧ w1.cell? ⟨G, 6, none⟩ = some (.int .u64 0) := ⟨(HS_w1.out.2.2 1 (by simp)).1, (HS_w1.out.2.2 1 (by simp)).2.1⟩
  obtain ⟨s2, s3, s4⟩ : w1.cell? ⟨G, 7, none⟩ = some (.int .u64 1) ∧ w1.cell? ⟨G, 8, none⟩ = some (.int .u64 0) ∧ w1.cell? ⟨G, 9, none⟩ = some (.int .u64 14) := (HS_w1.out.2.2 1 (by simp)).2.2
  clear hr
  go_enter Tryz.func32, Tryz.ntmps32
  go_wp2_with fail
  try rw [hw1]
  first | (go_region_with (go_at_call 46; refine (HC.out _).mono ?_; rintro e w3 ⟨rfl, hb⟩; have hbw : Below w1.heap.size w1 w3 := nx (by first | exact Below.refl _ _ | exact (Below.refl _ _).drew) hb; have HS_w3 : Hid (BX w3 (w.heap.size + 1) zF ∧ Below w.heap.size w w3) := ⟨HS_w1.out.1.next hbw, nx HS_w1.out.2.1 hbw⟩; obtain ⟨z0, z1, z2, z3, z4⟩ := HS_w3.out.1.c; obtain ⟨y0, y1, y2, y3, y4⟩ := HS_w3.out.1.fz; clear hb hbw)) | fail
  all_goals go_wp2_with fail
  all_goals refine bodyPost_ret (res1 rfl _ _ (w.heap.size + 1) _ _ _ rfl (set5_at HS_w3.out.1 _ _ _ _ _) rfl) rfl ?_
  all_goals exact ⟨rfl, set5_bel HS_w3.out.2 (by omega) _ _ _ _ _⟩
end Go.Proofs.YtopdbhkkmolllaaGreatDoor
