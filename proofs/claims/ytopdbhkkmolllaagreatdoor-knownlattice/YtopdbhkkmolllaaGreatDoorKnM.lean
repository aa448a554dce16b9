import Derived.Test.YtopdbhkkmolllaaGreatDoorKnK
namespace Go.Proofs.YtopdbhkkmolllaaGreatDoor
open Go.ChangeShapes Go.WideShapes Go.ChangeAt Go.RowKit Go.Lib Go.Kn

/-- the sample's first part, the second one, the table's fact of their sum -/
def exA : Fc := ⟨4, 5, 10, 5, 5⟩
def exB : Fc := ⟨4, 0, 1, 0, 14⟩
def exC : Fc := ⟨4, 1, 0, 0, 15⟩
theorem BX.set {W : World} {g g' : Nat} {f : Fc} (h : BX W g f) (hne : g ≠ g') (i : Nat) (v : Value) : BX (W.setCell ⟨g', i, none⟩ v) g f := (heap_setCell_other _ _ _ _ (fun e => hne e)).trans h
theorem BX.dN {W : World} {g : Nat} {f : Fc} (h : BX W g f) (n : Nat) : BX (W.drewN n) g f := h.next (bel_drewN (Below.refl _ _) n)
set_option maxHeartbeats 4000000 in
theorem carried_ex (w : World) : Calls Tryz.prog 50 #[fV exA, fV exB, uV 0] w fun e w' => e = .returned (fV exC) ∧ Below w.heap.size w w' := by
  have HN : Hid (∀ W, Calls Tryz.prog 29 #[.int .i64 4] W fun e w' => e = .returned (fV (noth 4)) ∧ Below W.heap.size W w') := fun W => nothing_any 4 W (by omega) (by omega)
  obtain ⟨w1, hw1⟩ : ∃ w1, ((w.alloc (.cells #[.int .i64 exA.w, uV exA.one, uV exA.zero, uV exA.least, uV exA.top] 24)).alloc (.cells #[.int .i64 exB.w, uV exB.one, uV exB.zero, uV exB.least, uV exB.top] 24)).alloc (.cells #[.int .i64 0, .int .u64 0, .int .u64 0, .int .u64 0, .int .u64 0] 24) = w1 := ⟨_, rfl⟩
  have HS_w1 : Hid (BX w1 w.heap.size exA ∧ BX w1 (w.heap.size + 1) exB ∧ BX w1 (w.heap.size + 1 + 1) zF ∧ Below w.heap.size w w1) := by
    rw [← hw1]
    exact boxes3 w exA exB zF
  have hn4 : noth 4 = ⟨4, 0, 0, 0, 15⟩ := rfl
  rw [hn4] at HN
  clear hn4
  have c0 : w1.cell? ⟨w.heap.size, 0, none⟩ = some (.int .i64 4) := HS_w1.out.1.c.1
  have c1 : w1.cell? ⟨w.heap.size, 1, none⟩ = some (.int .u64 5) := HS_w1.out.1.c.2.1
  have c2 : w1.cell? ⟨w.heap.size, 2, none⟩ = some (.int .u64 10) := HS_w1.out.1.c.2.2.1
  have c3 : w1.cell? ⟨w.heap.size, 3, none⟩ = some (.int .u64 5) := HS_w1.out.1.c.2.2.2.1
  have c4 : w1.cell? ⟨w.heap.size, 4, none⟩ = some (.int .u64 5) := HS_w1.out.1.c.2.2.2.2
  have k5 : bits .and .u64 5 1 = 1 := by decide
  have k2 : bits .and .u64 2 1 = 0 := by decide
  have k1 : bits .and .u64 1 1 = 1 := by decide
  have k0 : bits .and .u64 0 1 = 0 := by decide
  have k10 : bits .and .u64 10 1 = 0 := by decide
  have o1 : bits .or .u64 0 1 = 1 := by decide
  have o0 : bits .or .u64 0 0 = 0 := by decide
  have t0 : IntKind.u64.wrap 0 = 0 := by decide
  have t1 : IntKind.u64.wrap 1 = 1 := by decide
  have t2 : IntKind.u64.wrap 2 = 2 := by decide
  have t3 : IntKind.u64.wrap 3 = 3 := by decide
  go_enter Tryz.func50, Tryz.ntmps50
  go_wp2_with fail
  try rw [hw1]
  refine (HN.out _).mono ?_
  rintro e w2 ⟨rfl, hb⟩
  have HS_w2 : Hid (BX w2 w.heap.size exA ∧ BX w2 (w.heap.size + 1) exB ∧ BX w2 (w.heap.size + 1 + 1) zF ∧ Below w.heap.size w w2) := ⟨HS_w1.out.1.next hb, HS_w1.out.2.1.next hb, HS_w1.out.2.2.1.next hb, nx HS_w1.out.2.2.2 hb⟩
  clear c0 c1 c2 c3 c4 hb HS_w1 hw1 w1
  have hgt : w.heap.size + 1 + 1 < w2.heap.size := HS_w2.out.2.2.1.lt
  obtain ⟨w3, hw3⟩ : ∃ w3, w2.alloc (.cells #[.int .i64 4, .int .u64 0, .int .u64 0, .int .u64 0, .int .u64 15] 24) = w3 := ⟨_, rfl⟩
  have HS_w3 : Hid (BX w3 w2.heap.size ⟨4, 0, 0, 0, 15⟩ ∧ BX w3 w.heap.size exA ∧ BX w3 (w.heap.size + 1) exB ∧ BX w3 (w.heap.size + 1 + 1) zF ∧ Below w.heap.size w w3) := by
    rw [← hw3]
    exact ⟨BX.new w2 ⟨4, 0, 0, 0, 15⟩, HS_w2.out.1.alloc _, HS_w2.out.2.1.alloc _, HS_w2.out.2.2.1.alloc _, nxa HS_w2.out.2.2.2 _⟩
  clear HS_w2
  have c0 : w3.cell? ⟨w.heap.size, 0, none⟩ = some (.int .i64 4) := HS_w3.out.2.1.c.1
  have c1 : w3.cell? ⟨w.heap.size, 1, none⟩ = some (.int .u64 5) := HS_w3.out.2.1.c.2.1
  have c2 : w3.cell? ⟨w.heap.size, 2, none⟩ = some (.int .u64 10) := HS_w3.out.2.1.c.2.2.1
  have c3 : w3.cell? ⟨w.heap.size, 3, none⟩ = some (.int .u64 5) := HS_w3.out.2.1.c.2.2.2.1
  have c4 : w3.cell? ⟨w.heap.size, 4, none⟩ = some (.int .u64 5) := HS_w3.out.2.1.c.2.2.2.2
  go_wp2_with fail
  go_loopg [8, 9, 22] 4 (fun gk v8 v9 v22 wr => ∃ k : Nat, k + gk = 4 ∧ v8 = .int .u64 0 ∧ v9 = .int .u64 (if k ≤ 2 then 1 else 0) ∧ v22 = .int .i64 (k : Int) ∧ Aside (BX wr w2.heap.size ⟨4, if k = 0 then 0 else 1, 0, 0, 15⟩ ∧ BX wr w.heap.size exA ∧ BX wr (w.heap.size + 1) exB ∧ BX wr (w.heap.size + 1 + 1) zF ∧ Below w.heap.size w wr))
  case atStart => exact ⟨0, rfl, rfl, rfl, rfl, HS_w3.out⟩
  case round =>
    obtain ⟨k, hk, rfl, rfl, rfl, HA⟩ := hrel
    clear c0 c1 c2 c3 c4
    rcases (show k = 0 ∨ k = 1 ∨ k = 2 ∨ k = 3 ∨ k = 4 by omega) with rfl | rfl | rfl | rfl | rfl
    · skip
      have HA0 : Hid (BX wr w2.heap.size ⟨4, 0, 0, 0, 15⟩ ∧ BX wr w.heap.size exA ∧ BX wr (w.heap.size + 1) exB ∧ BX wr (w.heap.size + 1 + 1) zF ∧ Below w.heap.size w wr) := HA.out
      clear HA
      have f0 : wr.cell? ⟨w2.heap.size, 0, none⟩ = some (.int .i64 4) := HA0.out.1.c.1
      have f1 : wr.cell? ⟨w2.heap.size, 1, none⟩ = some (.int .u64 0) := HA0.out.1.c.2.1
      have f2 : wr.cell? ⟨w2.heap.size, 2, none⟩ = some (.int .u64 0) := HA0.out.1.c.2.2.1
      have f3 : wr.cell? ⟨w2.heap.size, 3, none⟩ = some (.int .u64 0) := HA0.out.1.c.2.2.2.1
      have f4 : wr.cell? ⟨w2.heap.size, 4, none⟩ = some (.int .u64 15) := HA0.out.1.c.2.2.2.2
      have a0 : wr.cell? ⟨w.heap.size, 0, none⟩ = some (.int .i64 4) := HA0.out.2.1.c.1
      have a1 : wr.cell? ⟨w.heap.size, 1, none⟩ = some (.int .u64 5) := HA0.out.2.1.c.2.1
      have a2 : wr.cell? ⟨w.heap.size, 2, none⟩ = some (.int .u64 10) := HA0.out.2.1.c.2.2.1
      have a3 : wr.cell? ⟨w.heap.size, 3, none⟩ = some (.int .u64 5) := HA0.out.2.1.c.2.2.2.1
      have a4 : wr.cell? ⟨w.heap.size, 4, none⟩ = some (.int .u64 5) := HA0.out.2.1.c.2.2.2.2
      have b0 : wr.cell? ⟨(w.heap.size + 1), 0, none⟩ = some (.int .i64 4) := HA0.out.2.2.1.c.1
      have b1 : wr.cell? ⟨(w.heap.size + 1), 1, none⟩ = some (.int .u64 0) := HA0.out.2.2.1.c.2.1
      have b2 : wr.cell? ⟨(w.heap.size + 1), 2, none⟩ = some (.int .u64 1) := HA0.out.2.2.1.c.2.2.1
      have b3 : wr.cell? ⟨(w.heap.size + 1), 3, none⟩ = some (.int .u64 0) := HA0.out.2.2.1.c.2.2.2.1
      have b4 : wr.cell? ⟨(w.heap.size + 1), 4, none⟩ = some (.int .u64 14) := HA0.out.2.2.1.c.2.2.2.2
      go_wp2_with fail
      go_big_quiet (fail)
      obtain ⟨wa, hwa⟩ : ∃ wa, wr.drewN nq = wa := ⟨_, rfl⟩
      have HA1 : Hid (BX wa w2.heap.size ⟨4, 0, 0, 0, 15⟩ ∧ BX wa w.heap.size exA ∧ BX wa (w.heap.size + 1) exB ∧ BX wa (w.heap.size + 1 + 1) zF ∧ Below w.heap.size w wa) := by
        rw [← hwa]; exact ⟨HA0.out.1.dN _, HA0.out.2.1.dN _, HA0.out.2.2.1.dN _, HA0.out.2.2.2.1.dN _, bel_drewN HA0.out.2.2.2.2 _⟩
      rw [hwa]
      clear f0 f1 f2 f3 f4 a0 a1 a2 a3 a4 b0 b1 b2 b3 b4 HA0 hwa
      have f0 : wa.cell? ⟨w2.heap.size, 0, none⟩ = some (.int .i64 4) := HA1.out.1.c.1
      have f1 : wa.cell? ⟨w2.heap.size, 1, none⟩ = some (.int .u64 0) := HA1.out.1.c.2.1
      have f2 : wa.cell? ⟨w2.heap.size, 2, none⟩ = some (.int .u64 0) := HA1.out.1.c.2.2.1
      have f3 : wa.cell? ⟨w2.heap.size, 3, none⟩ = some (.int .u64 0) := HA1.out.1.c.2.2.2.1
      have f4 : wa.cell? ⟨w2.heap.size, 4, none⟩ = some (.int .u64 15) := HA1.out.1.c.2.2.2.2
      have a0 : wa.cell? ⟨w.heap.size, 0, none⟩ = some (.int .i64 4) := HA1.out.2.1.c.1
      have a1 : wa.cell? ⟨w.heap.size, 1, none⟩ = some (.int .u64 5) := HA1.out.2.1.c.2.1
      have a2 : wa.cell? ⟨w.heap.size, 2, none⟩ = some (.int .u64 10) := HA1.out.2.1.c.2.2.1
      have a3 : wa.cell? ⟨w.heap.size, 3, none⟩ = some (.int .u64 5) := HA1.out.2.1.c.2.2.2.1
      have a4 : wa.cell? ⟨w.heap.size, 4, none⟩ = some (.int .u64 5) := HA1.out.2.1.c.2.2.2.2
      have b0 : wa.cell? ⟨(w.heap.size + 1), 0, none⟩ = some (.int .i64 4) := HA1.out.2.2.1.c.1
      have b1 : wa.cell? ⟨(w.heap.size + 1), 1, none⟩ = some (.int .u64 0) := HA1.out.2.2.1.c.2.1
      have b2 : wa.cell? ⟨(w.heap.size + 1), 2, none⟩ = some (.int .u64 1) := HA1.out.2.2.1.c.2.2.1
      have b3 : wa.cell? ⟨(w.heap.size + 1), 3, none⟩ = some (.int .u64 0) := HA1.out.2.2.1.c.2.2.2.1
      have b4 : wa.cell? ⟨(w.heap.size + 1), 4, none⟩ = some (.int .u64 14) := HA1.out.2.2.1.c.2.2.2.2
      go_wp2_with fail
      go_big_quiet (fail)
      obtain ⟨wb, hwb⟩ : ∃ wb, wa.drewN nq = wb := ⟨_, rfl⟩
      have HA2 : Hid (BX wb w2.heap.size ⟨4, 0, 0, 0, 15⟩ ∧ BX wb w.heap.size exA ∧ BX wb (w.heap.size + 1) exB ∧ BX wb (w.heap.size + 1 + 1) zF ∧ Below w.heap.size w wb) := by
        rw [← hwb]; exact ⟨HA1.out.1.dN _, HA1.out.2.1.dN _, HA1.out.2.2.1.dN _, HA1.out.2.2.2.1.dN _, bel_drewN HA1.out.2.2.2.2 _⟩
      rw [hwb]
      clear f0 f1 f2 f3 f4 a0 a1 a2 a3 a4 b0 b1 b2 b3 b4 HA1 hwb
      have f0 : wb.cell? ⟨w2.heap.size, 0, none⟩ = some (.int .i64 4) := HA2.out.1.c.1
      have f1 : wb.cell? ⟨w2.heap.size, 1, none⟩ = some (.int .u64 0) := HA2.out.1.c.2.1
      have f2 : wb.cell? ⟨w2.heap.size, 2, none⟩ = some (.int .u64 0) := HA2.out.1.c.2.2.1
      have f3 : wb.cell? ⟨w2.heap.size, 3, none⟩ = some (.int .u64 0) := HA2.out.1.c.2.2.2.1
      have f4 : wb.cell? ⟨w2.heap.size, 4, none⟩ = some (.int .u64 15) := HA2.out.1.c.2.2.2.2
      obtain ⟨y0, y1, y2, y3, y4⟩ := HA2.out.1.fz
      go_wp2_with fail
      go_region
      all_goals go_wp2_with fail
      all_goals go_region
      all_goals go_wp2_with fail
      go_roundg 3
      case measure => omega
      case rel =>
        have l1 := HA2.out.2.2.2.1.lt
        have hF : BX (((wb.setCell ⟨w2.heap.size, 1, none⟩ (.int .u64 1)).setCell ⟨w2.heap.size, 2, none⟩ (.int .u64 0)).drew.drew) w2.heap.size ⟨4, 1, 0, 0, 15⟩ := Go.heap_setCell_same _ w2.heap.size 2 _ _ (.int .u64 0) (Go.heap_setCell_same wb w2.heap.size 1 _ _ (.int .u64 1) HA2.out.1)
        exact ⟨1, by omega, rfl, rfl, rfl, hF, (HA2.out.2.1.set (by omega) 1 _).set (by omega) 2 _, (HA2.out.2.2.1.set (by omega) 1 _).set (by omega) 2 _, (HA2.out.2.2.2.1.set (by omega) 1 _).set (by omega) 2 _, (bel_set (bel_set HA2.out.2.2.2.2 (by omega) _ _) (by omega) _ _).drew.drew⟩
    · skip
      have HA0 : Hid (BX wr w2.heap.size ⟨4, 1, 0, 0, 15⟩ ∧ BX wr w.heap.size exA ∧ BX wr (w.heap.size + 1) exB ∧ BX wr (w.heap.size + 1 + 1) zF ∧ Below w.heap.size w wr) := HA.out
      clear HA
      have f0 : wr.cell? ⟨w2.heap.size, 0, none⟩ = some (.int .i64 4) := HA0.out.1.c.1
      have f1 : wr.cell? ⟨w2.heap.size, 1, none⟩ = some (.int .u64 1) := HA0.out.1.c.2.1
      have f2 : wr.cell? ⟨w2.heap.size, 2, none⟩ = some (.int .u64 0) := HA0.out.1.c.2.2.1
      have f3 : wr.cell? ⟨w2.heap.size, 3, none⟩ = some (.int .u64 0) := HA0.out.1.c.2.2.2.1
      have f4 : wr.cell? ⟨w2.heap.size, 4, none⟩ = some (.int .u64 15) := HA0.out.1.c.2.2.2.2
      have a0 : wr.cell? ⟨w.heap.size, 0, none⟩ = some (.int .i64 4) := HA0.out.2.1.c.1
      have a1 : wr.cell? ⟨w.heap.size, 1, none⟩ = some (.int .u64 5) := HA0.out.2.1.c.2.1
      have a2 : wr.cell? ⟨w.heap.size, 2, none⟩ = some (.int .u64 10) := HA0.out.2.1.c.2.2.1
      have a3 : wr.cell? ⟨w.heap.size, 3, none⟩ = some (.int .u64 5) := HA0.out.2.1.c.2.2.2.1
      have a4 : wr.cell? ⟨w.heap.size, 4, none⟩ = some (.int .u64 5) := HA0.out.2.1.c.2.2.2.2
      have b0 : wr.cell? ⟨(w.heap.size + 1), 0, none⟩ = some (.int .i64 4) := HA0.out.2.2.1.c.1
      have b1 : wr.cell? ⟨(w.heap.size + 1), 1, none⟩ = some (.int .u64 0) := HA0.out.2.2.1.c.2.1
      have b2 : wr.cell? ⟨(w.heap.size + 1), 2, none⟩ = some (.int .u64 1) := HA0.out.2.2.1.c.2.2.1
      have b3 : wr.cell? ⟨(w.heap.size + 1), 3, none⟩ = some (.int .u64 0) := HA0.out.2.2.1.c.2.2.2.1
      have b4 : wr.cell? ⟨(w.heap.size + 1), 4, none⟩ = some (.int .u64 14) := HA0.out.2.2.1.c.2.2.2.2
      go_wp2_with fail
      go_big_quiet (fail)
      obtain ⟨wa, hwa⟩ : ∃ wa, wr.drewN nq = wa := ⟨_, rfl⟩
      have HA1 : Hid (BX wa w2.heap.size ⟨4, 1, 0, 0, 15⟩ ∧ BX wa w.heap.size exA ∧ BX wa (w.heap.size + 1) exB ∧ BX wa (w.heap.size + 1 + 1) zF ∧ Below w.heap.size w wa) := by
        rw [← hwa]; exact ⟨HA0.out.1.dN _, HA0.out.2.1.dN _, HA0.out.2.2.1.dN _, HA0.out.2.2.2.1.dN _, bel_drewN HA0.out.2.2.2.2 _⟩
      rw [hwa]
      clear f0 f1 f2 f3 f4 a0 a1 a2 a3 a4 b0 b1 b2 b3 b4 HA0 hwa
      have f0 : wa.cell? ⟨w2.heap.size, 0, none⟩ = some (.int .i64 4) := HA1.out.1.c.1
      have f1 : wa.cell? ⟨w2.heap.size, 1, none⟩ = some (.int .u64 1) := HA1.out.1.c.2.1
      have f2 : wa.cell? ⟨w2.heap.size, 2, none⟩ = some (.int .u64 0) := HA1.out.1.c.2.2.1
      have f3 : wa.cell? ⟨w2.heap.size, 3, none⟩ = some (.int .u64 0) := HA1.out.1.c.2.2.2.1
      have f4 : wa.cell? ⟨w2.heap.size, 4, none⟩ = some (.int .u64 15) := HA1.out.1.c.2.2.2.2
      have a0 : wa.cell? ⟨w.heap.size, 0, none⟩ = some (.int .i64 4) := HA1.out.2.1.c.1
      have a1 : wa.cell? ⟨w.heap.size, 1, none⟩ = some (.int .u64 5) := HA1.out.2.1.c.2.1
      have a2 : wa.cell? ⟨w.heap.size, 2, none⟩ = some (.int .u64 10) := HA1.out.2.1.c.2.2.1
      have a3 : wa.cell? ⟨w.heap.size, 3, none⟩ = some (.int .u64 5) := HA1.out.2.1.c.2.2.2.1
      have a4 : wa.cell? ⟨w.heap.size, 4, none⟩ = some (.int .u64 5) := HA1.out.2.1.c.2.2.2.2
      have b0 : wa.cell? ⟨(w.heap.size + 1), 0, none⟩ = some (.int .i64 4) := HA1.out.2.2.1.c.1
      have b1 : wa.cell? ⟨(w.heap.size + 1), 1, none⟩ = some (.int .u64 0) := HA1.out.2.2.1.c.2.1
      have b2 : wa.cell? ⟨(w.heap.size + 1), 2, none⟩ = some (.int .u64 1) := HA1.out.2.2.1.c.2.2.1
      have b3 : wa.cell? ⟨(w.heap.size + 1), 3, none⟩ = some (.int .u64 0) := HA1.out.2.2.1.c.2.2.2.1
      have b4 : wa.cell? ⟨(w.heap.size + 1), 4, none⟩ = some (.int .u64 14) := HA1.out.2.2.1.c.2.2.2.2
      go_wp2_with fail
      go_big_quiet (fail)
      obtain ⟨wb, hwb⟩ : ∃ wb, wa.drewN nq = wb := ⟨_, rfl⟩
      have HA2 : Hid (BX wb w2.heap.size ⟨4, 1, 0, 0, 15⟩ ∧ BX wb w.heap.size exA ∧ BX wb (w.heap.size + 1) exB ∧ BX wb (w.heap.size + 1 + 1) zF ∧ Below w.heap.size w wb) := by
        rw [← hwb]; exact ⟨HA1.out.1.dN _, HA1.out.2.1.dN _, HA1.out.2.2.1.dN _, HA1.out.2.2.2.1.dN _, bel_drewN HA1.out.2.2.2.2 _⟩
      rw [hwb]
      clear f0 f1 f2 f3 f4 a0 a1 a2 a3 a4 b0 b1 b2 b3 b4 HA1 hwb
      go_wp2_with fail
      go_roundg (2)
      case measure => omega
      case rel => exact ⟨2, by omega, rfl, rfl, rfl, HA2.out⟩
    · skip
      have HA0 : Hid (BX wr w2.heap.size ⟨4, 1, 0, 0, 15⟩ ∧ BX wr w.heap.size exA ∧ BX wr (w.heap.size + 1) exB ∧ BX wr (w.heap.size + 1 + 1) zF ∧ Below w.heap.size w wr) := HA.out
      clear HA
      have f0 : wr.cell? ⟨w2.heap.size, 0, none⟩ = some (.int .i64 4) := HA0.out.1.c.1
      have f1 : wr.cell? ⟨w2.heap.size, 1, none⟩ = some (.int .u64 1) := HA0.out.1.c.2.1
      have f2 : wr.cell? ⟨w2.heap.size, 2, none⟩ = some (.int .u64 0) := HA0.out.1.c.2.2.1
      have f3 : wr.cell? ⟨w2.heap.size, 3, none⟩ = some (.int .u64 0) := HA0.out.1.c.2.2.2.1
      have f4 : wr.cell? ⟨w2.heap.size, 4, none⟩ = some (.int .u64 15) := HA0.out.1.c.2.2.2.2
      have a0 : wr.cell? ⟨w.heap.size, 0, none⟩ = some (.int .i64 4) := HA0.out.2.1.c.1
      have a1 : wr.cell? ⟨w.heap.size, 1, none⟩ = some (.int .u64 5) := HA0.out.2.1.c.2.1
      have a2 : wr.cell? ⟨w.heap.size, 2, none⟩ = some (.int .u64 10) := HA0.out.2.1.c.2.2.1
      have a3 : wr.cell? ⟨w.heap.size, 3, none⟩ = some (.int .u64 5) := HA0.out.2.1.c.2.2.2.1
      have a4 : wr.cell? ⟨w.heap.size, 4, none⟩ = some (.int .u64 5) := HA0.out.2.1.c.2.2.2.2
      have b0 : wr.cell? ⟨(w.heap.size + 1), 0, none⟩ = some (.int .i64 4) := HA0.out.2.2.1.c.1
      have b1 : wr.cell? ⟨(w.heap.size + 1), 1, none⟩ = some (.int .u64 0) := HA0.out.2.2.1.c.2.1
      have b2 : wr.cell? ⟨(w.heap.size + 1), 2, none⟩ = some (.int .u64 1) := HA0.out.2.2.1.c.2.2.1
      have b3 : wr.cell? ⟨(w.heap.size + 1), 3, none⟩ = some (.int .u64 0) := HA0.out.2.2.1.c.2.2.2.1
      have b4 : wr.cell? ⟨(w.heap.size + 1), 4, none⟩ = some (.int .u64 14) := HA0.out.2.2.1.c.2.2.2.2
      go_wp2_with fail
      go_big_quiet (fail)
      obtain ⟨wa, hwa⟩ : ∃ wa, wr.drewN nq = wa := ⟨_, rfl⟩
      have HA1 : Hid (BX wa w2.heap.size ⟨4, 1, 0, 0, 15⟩ ∧ BX wa w.heap.size exA ∧ BX wa (w.heap.size + 1) exB ∧ BX wa (w.heap.size + 1 + 1) zF ∧ Below w.heap.size w wa) := by
        rw [← hwa]; exact ⟨HA0.out.1.dN _, HA0.out.2.1.dN _, HA0.out.2.2.1.dN _, HA0.out.2.2.2.1.dN _, bel_drewN HA0.out.2.2.2.2 _⟩
      rw [hwa]
      clear f0 f1 f2 f3 f4 a0 a1 a2 a3 a4 b0 b1 b2 b3 b4 HA0 hwa
      have f0 : wa.cell? ⟨w2.heap.size, 0, none⟩ = some (.int .i64 4) := HA1.out.1.c.1
      have f1 : wa.cell? ⟨w2.heap.size, 1, none⟩ = some (.int .u64 1) := HA1.out.1.c.2.1
      have f2 : wa.cell? ⟨w2.heap.size, 2, none⟩ = some (.int .u64 0) := HA1.out.1.c.2.2.1
      have f3 : wa.cell? ⟨w2.heap.size, 3, none⟩ = some (.int .u64 0) := HA1.out.1.c.2.2.2.1
      have f4 : wa.cell? ⟨w2.heap.size, 4, none⟩ = some (.int .u64 15) := HA1.out.1.c.2.2.2.2
      have a0 : wa.cell? ⟨w.heap.size, 0, none⟩ = some (.int .i64 4) := HA1.out.2.1.c.1
      have a1 : wa.cell? ⟨w.heap.size, 1, none⟩ = some (.int .u64 5) := HA1.out.2.1.c.2.1
      have a2 : wa.cell? ⟨w.heap.size, 2, none⟩ = some (.int .u64 10) := HA1.out.2.1.c.2.2.1
      have a3 : wa.cell? ⟨w.heap.size, 3, none⟩ = some (.int .u64 5) := HA1.out.2.1.c.2.2.2.1
      have a4 : wa.cell? ⟨w.heap.size, 4, none⟩ = some (.int .u64 5) := HA1.out.2.1.c.2.2.2.2
      have b0 : wa.cell? ⟨(w.heap.size + 1), 0, none⟩ = some (.int .i64 4) := HA1.out.2.2.1.c.1
      have b1 : wa.cell? ⟨(w.heap.size + 1), 1, none⟩ = some (.int .u64 0) := HA1.out.2.2.1.c.2.1
      have b2 : wa.cell? ⟨(w.heap.size + 1), 2, none⟩ = some (.int .u64 1) := HA1.out.2.2.1.c.2.2.1
      have b3 : wa.cell? ⟨(w.heap.size + 1), 3, none⟩ = some (.int .u64 0) := HA1.out.2.2.1.c.2.2.2.1
      have b4 : wa.cell? ⟨(w.heap.size + 1), 4, none⟩ = some (.int .u64 14) := HA1.out.2.2.1.c.2.2.2.2
      go_wp2_with fail
      go_big_quiet (fail)
      obtain ⟨wb, hwb⟩ : ∃ wb, wa.drewN nq = wb := ⟨_, rfl⟩
      have HA2 : Hid (BX wb w2.heap.size ⟨4, 1, 0, 0, 15⟩ ∧ BX wb w.heap.size exA ∧ BX wb (w.heap.size + 1) exB ∧ BX wb (w.heap.size + 1 + 1) zF ∧ Below w.heap.size w wb) := by
        rw [← hwb]; exact ⟨HA1.out.1.dN _, HA1.out.2.1.dN _, HA1.out.2.2.1.dN _, HA1.out.2.2.2.1.dN _, bel_drewN HA1.out.2.2.2.2 _⟩
      rw [hwb]
      clear f0 f1 f2 f3 f4 a0 a1 a2 a3 a4 b0 b1 b2 b3 b4 HA1 hwb
      go_wp2_with fail
      go_roundg (1)
      case measure => omega
      case rel => exact ⟨3, by omega, rfl, rfl, rfl, HA2.out⟩
    · skip
      have HA0 : Hid (BX wr w2.heap.size ⟨4, 1, 0, 0, 15⟩ ∧ BX wr w.heap.size exA ∧ BX wr (w.heap.size + 1) exB ∧ BX wr (w.heap.size + 1 + 1) zF ∧ Below w.heap.size w wr) := HA.out
      clear HA
      have f0 : wr.cell? ⟨w2.heap.size, 0, none⟩ = some (.int .i64 4) := HA0.out.1.c.1
      have f1 : wr.cell? ⟨w2.heap.size, 1, none⟩ = some (.int .u64 1) := HA0.out.1.c.2.1
      have f2 : wr.cell? ⟨w2.heap.size, 2, none⟩ = some (.int .u64 0) := HA0.out.1.c.2.2.1
      have f3 : wr.cell? ⟨w2.heap.size, 3, none⟩ = some (.int .u64 0) := HA0.out.1.c.2.2.2.1
      have f4 : wr.cell? ⟨w2.heap.size, 4, none⟩ = some (.int .u64 15) := HA0.out.1.c.2.2.2.2
      have a0 : wr.cell? ⟨w.heap.size, 0, none⟩ = some (.int .i64 4) := HA0.out.2.1.c.1
      have a1 : wr.cell? ⟨w.heap.size, 1, none⟩ = some (.int .u64 5) := HA0.out.2.1.c.2.1
      have a2 : wr.cell? ⟨w.heap.size, 2, none⟩ = some (.int .u64 10) := HA0.out.2.1.c.2.2.1
      have a3 : wr.cell? ⟨w.heap.size, 3, none⟩ = some (.int .u64 5) := HA0.out.2.1.c.2.2.2.1
      have a4 : wr.cell? ⟨w.heap.size, 4, none⟩ = some (.int .u64 5) := HA0.out.2.1.c.2.2.2.2
      have b0 : wr.cell? ⟨(w.heap.size + 1), 0, none⟩ = some (.int .i64 4) := HA0.out.2.2.1.c.1
      have b1 : wr.cell? ⟨(w.heap.size + 1), 1, none⟩ = some (.int .u64 0) := HA0.out.2.2.1.c.2.1
      have b2 : wr.cell? ⟨(w.heap.size + 1), 2, none⟩ = some (.int .u64 1) := HA0.out.2.2.1.c.2.2.1
      have b3 : wr.cell? ⟨(w.heap.size + 1), 3, none⟩ = some (.int .u64 0) := HA0.out.2.2.1.c.2.2.2.1
      have b4 : wr.cell? ⟨(w.heap.size + 1), 4, none⟩ = some (.int .u64 14) := HA0.out.2.2.1.c.2.2.2.2
      go_wp2_with fail
      go_big_quiet (fail)
      obtain ⟨wa, hwa⟩ : ∃ wa, wr.drewN nq = wa := ⟨_, rfl⟩
      have HA1 : Hid (BX wa w2.heap.size ⟨4, 1, 0, 0, 15⟩ ∧ BX wa w.heap.size exA ∧ BX wa (w.heap.size + 1) exB ∧ BX wa (w.heap.size + 1 + 1) zF ∧ Below w.heap.size w wa) := by
        rw [← hwa]; exact ⟨HA0.out.1.dN _, HA0.out.2.1.dN _, HA0.out.2.2.1.dN _, HA0.out.2.2.2.1.dN _, bel_drewN HA0.out.2.2.2.2 _⟩
      rw [hwa]
      clear f0 f1 f2 f3 f4 a0 a1 a2 a3 a4 b0 b1 b2 b3 b4 HA0 hwa
      have f0 : wa.cell? ⟨w2.heap.size, 0, none⟩ = some (.int .i64 4) := HA1.out.1.c.1
      have f1 : wa.cell? ⟨w2.heap.size, 1, none⟩ = some (.int .u64 1) := HA1.out.1.c.2.1
      have f2 : wa.cell? ⟨w2.heap.size, 2, none⟩ = some (.int .u64 0) := HA1.out.1.c.2.2.1
      have f3 : wa.cell? ⟨w2.heap.size, 3, none⟩ = some (.int .u64 0) := HA1.out.1.c.2.2.2.1
      have f4 : wa.cell? ⟨w2.heap.size, 4, none⟩ = some (.int .u64 15) := HA1.out.1.c.2.2.2.2
      have a0 : wa.cell? ⟨w.heap.size, 0, none⟩ = some (.int .i64 4) := HA1.out.2.1.c.1
      have a1 : wa.cell? ⟨w.heap.size, 1, none⟩ = some (.int .u64 5) := HA1.out.2.1.c.2.1
      have a2 : wa.cell? ⟨w.heap.size, 2, none⟩ = some (.int .u64 10) := HA1.out.2.1.c.2.2.1
      have a3 : wa.cell? ⟨w.heap.size, 3, none⟩ = some (.int .u64 5) := HA1.out.2.1.c.2.2.2.1
      have a4 : wa.cell? ⟨w.heap.size, 4, none⟩ = some (.int .u64 5) := HA1.out.2.1.c.2.2.2.2
      have b0 : wa.cell? ⟨(w.heap.size + 1), 0, none⟩ = some (.int .i64 4) := HA1.out.2.2.1.c.1
      have b1 : wa.cell? ⟨(w.heap.size + 1), 1, none⟩ = some (.int .u64 0) := HA1.out.2.2.1.c.2.1
      have b2 : wa.cell? ⟨(w.heap.size + 1), 2, none⟩ = some (.int .u64 1) := HA1.out.2.2.1.c.2.2.1
      have b3 : wa.cell? ⟨(w.heap.size + 1), 3, none⟩ = some (.int .u64 0) := HA1.out.2.2.1.c.2.2.2.1
      have b4 : wa.cell? ⟨(w.heap.size + 1), 4, none⟩ = some (.int .u64 14) := HA1.out.2.2.1.c.2.2.2.2
      go_wp2_with fail
      go_big_quiet (fail)
      obtain ⟨wb, hwb⟩ : ∃ wb, wa.drewN nq = wb := ⟨_, rfl⟩
      have HA2 : Hid (BX wb w2.heap.size ⟨4, 1, 0, 0, 15⟩ ∧ BX wb w.heap.size exA ∧ BX wb (w.heap.size + 1) exB ∧ BX wb (w.heap.size + 1 + 1) zF ∧ Below w.heap.size w wb) := by
        rw [← hwb]; exact ⟨HA1.out.1.dN _, HA1.out.2.1.dN _, HA1.out.2.2.1.dN _, HA1.out.2.2.2.1.dN _, bel_drewN HA1.out.2.2.2.2 _⟩
      rw [hwb]
      clear f0 f1 f2 f3 f4 a0 a1 a2 a3 a4 b0 b1 b2 b3 b4 HA1 hwb
      go_wp2_with fail
      go_roundg (0)
      case measure => omega
      case rel => exact ⟨4, by omega, rfl, rfl, rfl, HA2.out⟩
    · have HA0 : Hid (BX wr w2.heap.size exC ∧ BX wr w.heap.size exA ∧ BX wr (w.heap.size + 1) exB ∧ BX wr (w.heap.size + 1 + 1) zF ∧ Below w.heap.size w wr) := HA.out
      clear HA
      have f0 : wr.cell? ⟨w2.heap.size, 0, none⟩ = some (.int .i64 4) := HA0.out.1.c.1
      have f1 : wr.cell? ⟨w2.heap.size, 1, none⟩ = some (.int .u64 1) := HA0.out.1.c.2.1
      have f2 : wr.cell? ⟨w2.heap.size, 2, none⟩ = some (.int .u64 0) := HA0.out.1.c.2.2.1
      have f3 : wr.cell? ⟨w2.heap.size, 3, none⟩ = some (.int .u64 0) := HA0.out.1.c.2.2.2.1
      have f4 : wr.cell? ⟨w2.heap.size, 4, none⟩ = some (.int .u64 15) := HA0.out.1.c.2.2.2.2
      obtain ⟨z0, z1, z2, z3, z4⟩ := HA0.out.2.2.2.1.c
      obtain ⟨y0, y1, y2, y3, y4⟩ := HA0.out.2.2.2.1.fz
      go_wp2_with fail
      refine bodyPost_ret (res1 rfl _ _ (w.heap.size + 1 + 1) _ _ _ rfl (set5_at HA0.out.2.2.2.1 _ _ _ _ _) rfl) rfl ?_
      exact ⟨rfl, set5_bel HA0.out.2.2.2.2 (by omega) _ _ _ _ _⟩
end Go.Proofs.YtopdbhkkmolllaaGreatDoor
