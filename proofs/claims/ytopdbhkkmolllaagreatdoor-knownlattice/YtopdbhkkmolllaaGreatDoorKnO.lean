import Derived.Test.YtopdbhkkmolllaaGreatDoorKnN
import Derived.Test.YtopdbhkkmolllaaGreatDoorKnX
namespace Go.Proofs.YtopdbhkkmolllaaGreatDoor
open Go.ChangeShapes Go.WideShapes Go.ChangeAt Go.RowKit Go.Lib Go.Kn

/-- the sample's node in a box -/
def ND (W : World) (g : Nat) (nm : ByteArray) : Prop := W.heap[g]? = some (.cells #[.int .i64 20, .int .i64 4, .int .i64 0, .int .i64 0, .int .i64 0, .int .u64 0, .string nm] 38 (0, 0))
theorem ND.next {W W' : World} {g : Nat} {nm : ByteArray} (h : ND W g nm) (hb : Below W.heap.size W W') : ND W' g nm := (hb.block g (Array.getElem?_eq_some_iff.1 h).1).trans h
set_option maxHeartbeats 4000000 in
theorem fact_ex (nm : ByteArray) (G c : Nat) (w : World) (hG : G < w.heap.size) (hr : RowF w G 0 [exA, exB]) : Calls Tryz.prog 23 #[ndV nm, .slice (some ⟨G, 0, none⟩) 2 c] w fun e w' => e = .returned (fV ⟨4, 1, 0, 1, 15⟩) ∧ Below w.heap.size w w' := by
  have HR : Hid (RowF w G 0 [exA, exB]) := hr
  have HHA : Hid (∀ W, Calls Tryz.prog 30 #[.agg #[.int .i64 4, .int .u64 5, .int .u64 10, .int .u64 5, .int .u64 5]] W fun e w' => e = .returned (.bool true) ∧ Below W.heap.size W w') := fun W => hasOne_any exA W
  have HT : Hid (∀ W, G < W.heap.size → RowF W G 0 [exA, exB] → Calls Tryz.prog 32 #[ndV nm, .slice (some ⟨G, 0, none⟩) 2 c] W fun e w' => e = .returned (fV exC) ∧ Below W.heap.size W w') := fun W h1 h2 => table_ex nm G c W h1 h2
  have HHB : Hid (∀ W, Calls Tryz.prog 30 #[.agg #[.int .i64 4, .int .u64 0, .int .u64 1, .int .u64 0, .int .u64 14]] W fun e w' => e = .returned (.bool false) ∧ Below W.heap.size W w') := fun W => hasOne_any exB W
  have HSt : Hid (∀ W, Calls Tryz.prog 17 #[fV exC] W fun e w' => e = .returned (.tuple #[fV ⟨4, 1, 0, 1, 15⟩, .bool true]) ∧ Below W.heap.size W w') := fun W => (settle_any exC W (may4 rfl (by decide) (by decide) (by decide) (by decide))).mono (by
    rintro e w' ⟨r, hr, rfl, hb⟩
    obtain rfl : r = some ⟨4, 1, 0, 1, 15⟩ := ST.same (f := exC) (f' := exC) rfl (fun _ => Iff.rfl) hr (show ST exC (some ⟨4, 1, 0, 1, 15⟩) from set_C)
    exact ⟨rfl, hb⟩)
  obtain ⟨w1, hw1⟩ : ∃ w1, (w.alloc (.cells #[.int .i64 20, .int .i64 4, .int .i64 0, .int .i64 0, .int .i64 0, .int .u64 0, .string nm] 38)).alloc (.cells #[.int .i64 0, .int .u64 0, .int .u64 0, .int .u64 0, .int .u64 0] 24) = w1 := ⟨_, rfl⟩
  have HS_w1 : Hid (ND w1 w.heap.size nm ∧ BX w1 (w.heap.size + 1) zF ∧ RowF w1 G 0 [exA, exB] ∧ Below w.heap.size w w1) := by
    rw [← hw1]
    exact ⟨at_alloc _ (heap_alloc_new _ _), hp2 _ _ _, hr.next hG (bel2 _ _ _), bel2 _ _ _⟩
  clear hr HR
  have n0 : w1.cell? ⟨w.heap.size, 0, none⟩ = some (.int .i64 20) := blk_cell HS_w1.out.1 0
  have n1 : w1.cell? ⟨w.heap.size, 1, none⟩ = some (.int .i64 4) := blk_cell HS_w1.out.1 1
  have n2 : w1.cell? ⟨w.heap.size, 2, none⟩ = some (.int .i64 0) := blk_cell HS_w1.out.1 2
  have n3 : w1.cell? ⟨w.heap.size, 3, none⟩ = some (.int .i64 0) := blk_cell HS_w1.out.1 3
  have n4 : w1.cell? ⟨w.heap.size, 4, none⟩ = some (.int .i64 0) := blk_cell HS_w1.out.1 4
  have n5 : w1.cell? ⟨w.heap.size, 5, none⟩ = some (.int .u64 0) := blk_cell HS_w1.out.1 5
  have n6 : w1.cell? ⟨w.heap.size, 6, none⟩ = some (.string nm) := blk_cell HS_w1.out.1 6
  go_enter Tryz.func23, Tryz.ntmps23
  go_wp2_with fail
  try rw [hw1]
  go_loopg [5, 18] 2 (fun gk v5 v18 wr => ∃ k : Nat, k + gk = 2 ∧ v5 = .bool (decide (k = 2)) ∧ v18 = .int .i64 (k : Int) ∧ Aside (ND wr w.heap.size nm ∧ BX wr (w.heap.size + 1) zF ∧ RowF wr G 0 [exA, exB] ∧ Below w.heap.size w wr))
  case atStart => exact ⟨0, rfl, rfl, rfl, HS_w1.out⟩
  case round =>
    obtain ⟨k, hk, rfl, rfl, HA⟩ := hrel
    clear n0 n1 n2 n3 n4 n5 n6
    rcases (show k = 0 ∨ k = 1 ∨ k = 2 by omega) with rfl | rfl | rfl
    · skip
      have r0 : wr.cell? ⟨G, 0, none⟩ = some (.int .i64 4) := (HA.out.2.2.1 0 (by simp)).1
      have r1 : wr.cell? ⟨G, 1, none⟩ = some (.int .u64 5) := (HA.out.2.2.1 0 (by simp)).2.1
      have r2 : wr.cell? ⟨G, 2, none⟩ = some (.int .u64 10) := (HA.out.2.2.1 0 (by simp)).2.2.1
      have r3 : wr.cell? ⟨G, 3, none⟩ = some (.int .u64 5) := (HA.out.2.2.1 0 (by simp)).2.2.2.1
      have r4 : wr.cell? ⟨G, 4, none⟩ = some (.int .u64 5) := (HA.out.2.2.1 0 (by simp)).2.2.2.2
      go_wp2_with fail
      refine (HHA.out _).mono ?_
      rintro e w2 ⟨rfl, hb⟩
      have hb2 : Below wr.heap.size wr w2 := nx (bel1 _ _) hb
      have HA2 : Hid (ND w2 w.heap.size nm ∧ BX w2 (w.heap.size + 1) zF ∧ RowF w2 G 0 [exA, exB] ∧ Below w.heap.size w w2) := ⟨HA.out.1.next hb2, HA.out.2.1.next hb2, HA.out.2.2.1.next (Nat.lt_of_lt_of_le hG HA.out.2.2.2.size) hb2, nx HA.out.2.2.2 hb2⟩
      clear hb hb2 HA r0 r1 r2 r3 r4
      go_wp2_with fail
      go_roundg (1)
      case measure => omega
      case rel => exact ⟨1, by omega, rfl, rfl, HA2.out⟩
    · skip
      have r0 : wr.cell? ⟨G, 5, none⟩ = some (.int .i64 4) := (HA.out.2.2.1 1 (by simp)).1
      have r1 : wr.cell? ⟨G, 6, none⟩ = some (.int .u64 0) := (HA.out.2.2.1 1 (by simp)).2.1
      have r2 : wr.cell? ⟨G, 7, none⟩ = some (.int .u64 1) := (HA.out.2.2.1 1 (by simp)).2.2.1
      have r3 : wr.cell? ⟨G, 8, none⟩ = some (.int .u64 0) := (HA.out.2.2.1 1 (by simp)).2.2.2.1
      have r4 : wr.cell? ⟨G, 9, none⟩ = some (.int .u64 14) := (HA.out.2.2.1 1 (by simp)).2.2.2.2
      go_wp2_with fail
      refine (HHB.out _).mono ?_
      rintro e w2 ⟨rfl, hb⟩
      have hb2 : Below wr.heap.size wr w2 := nx (bel1 _ _) hb
      have HA2 : Hid (ND w2 w.heap.size nm ∧ BX w2 (w.heap.size + 1) zF ∧ RowF w2 G 0 [exA, exB] ∧ Below w.heap.size w w2) := ⟨HA.out.1.next hb2, HA.out.2.1.next hb2, HA.out.2.2.1.next (Nat.lt_of_lt_of_le hG HA.out.2.2.2.size) hb2, nx HA.out.2.2.2 hb2⟩
      clear hb hb2 HA r0 r1 r2 r3 r4
      go_wp2_with fail
      go_roundg (0)
      case measure => omega
      case rel => exact ⟨2, by omega, rfl, rfl, HA2.out⟩
    · skip
      have n0 : wr.cell? ⟨w.heap.size, 0, none⟩ = some (.int .i64 20) := blk_cell HA.out.1 0
      have n1 : wr.cell? ⟨w.heap.size, 1, none⟩ = some (.int .i64 4) := blk_cell HA.out.1 1
      have n2 : wr.cell? ⟨w.heap.size, 2, none⟩ = some (.int .i64 0) := blk_cell HA.out.1 2
      have n3 : wr.cell? ⟨w.heap.size, 3, none⟩ = some (.int .i64 0) := blk_cell HA.out.1 3
      have n4 : wr.cell? ⟨w.heap.size, 4, none⟩ = some (.int .i64 0) := blk_cell HA.out.1 4
      have n5 : wr.cell? ⟨w.heap.size, 5, none⟩ = some (.int .u64 0) := blk_cell HA.out.1 5
      have n6 : wr.cell? ⟨w.heap.size, 6, none⟩ = some (.string nm) := blk_cell HA.out.1 6
      go_wp2_with fail
      refine (HT.out _ (Nat.lt_of_lt_of_le hG HA.out.2.2.2.size) HA.out.2.2.1).mono ?_
      rintro e w2 ⟨rfl, hb⟩
      have HA2 : Hid (BX w2 (w.heap.size + 1) zF ∧ Below w.heap.size w w2) := ⟨HA.out.2.1.next hb, nx HA.out.2.2.2 hb⟩
      clear hb HA n0 n1 n2 n3 n4 n5 n6
      go_wp2_with fail
      refine (HSt.out _).mono ?_
      rintro e w3 ⟨rfl, hb⟩
      have HA3 : Hid (BX w3 (w.heap.size + 1) zF ∧ Below w.heap.size w w3) := ⟨HA2.out.1.next hb, nx HA2.out.2 hb⟩
      clear hb HA2
      obtain ⟨z0, z1, z2, z3, z4⟩ := HA3.out.1.c
      obtain ⟨y0, y1, y2, y3, y4⟩ := HA3.out.1.fz
      have hlt : w.heap.size + 1 < w3.heap.size := HA3.out.1.lt
      have hne : ¬ w.heap.size + 1 = w3.heap.size := by omega
      go_wp2_with fail
      refine bodyPost_ret (res1 rfl _ _ (w.heap.size + 1) _ _ _ rfl (at_alloc _ (set5_at HA3.out.1 _ _ _ _ _)) rfl) rfl ?_
      exact ⟨rfl, nxa (set5_bel HA3.out.2 (by omega) _ _ _ _ _) _⟩
set_option maxHeartbeats 4000000 in
set_option maxRecDepth 100000 in
theorem fits_ex (nm : ByteArray) (G c : Nat) (w : World) (hG : G < w.heap.size) (hr : RowF w G 0 [exA, exB]) : Calls Tryz.prog 22 #[ndV nm, .slice (some ⟨G, 0, none⟩) 2 c] w fun e w' => e = .returned (.bool true) ∧ Below w.heap.size w w' := by
  obtain ⟨w1, hw1⟩ : ∃ w1, (w.alloc (.cells #[.int .i64 20, .int .i64 4, .int .i64 0, .int .i64 0, .int .i64 0, .int .u64 0, .string nm] 38)).alloc (.cells #[.int .i64 0, .int .i64 0, .int .i64 0] 54) = w1 := ⟨_, rfl⟩
  have HS_w1 : Hid (ND w1 w.heap.size nm ∧ w1.heap[w.heap.size + 1]? = some (.cells #[.int .i64 0, .int .i64 0, .int .i64 0] 54 (0, 0)) ∧ Below w.heap.size w w1) := by
    rw [← hw1]
    exact ⟨at_alloc _ (heap_alloc_new _ _), hp2 _ _ _, bel2 _ _ _⟩
  have HR : Hid (RowF w G 0 [exA, exB]) := hr
  clear hr
  have n0 : w1.cell? ⟨w.heap.size, 0, none⟩ = some (.int .i64 20) := blk_cell HS_w1.out.1 0
  have n1 : w1.cell? ⟨w.heap.size, 1, none⟩ = some (.int .i64 4) := blk_cell HS_w1.out.1 1
  have n2 : w1.cell? ⟨w.heap.size, 2, none⟩ = some (.int .i64 0) := blk_cell HS_w1.out.1 2
  have n3 : w1.cell? ⟨w.heap.size, 3, none⟩ = some (.int .i64 0) := blk_cell HS_w1.out.1 3
  have n4 : w1.cell? ⟨w.heap.size, 4, none⟩ = some (.int .i64 0) := blk_cell HS_w1.out.1 4
  have n5 : w1.cell? ⟨w.heap.size, 5, none⟩ = some (.int .u64 0) := blk_cell HS_w1.out.1 5
  have n6 : w1.cell? ⟨w.heap.size, 6, none⟩ = some (.string nm) := blk_cell HS_w1.out.1 6
  go_enter Tryz.func22, Tryz.ntmps22
  go_wp2_with fail
  try rw [hw1]
  go_loopg [26] 2 (fun gk v26 wr => ∃ k : Nat, k + gk = 2 ∧ v26 = .int .i64 (k : Int) ∧ Aside (ND wr w.heap.size nm ∧ wr.heap[w.heap.size + 1]? = some (.cells #[.int .i64 (if k = 0 then 0 else 4), .int .i64 (if k = 2 then 4 else 0), .int .i64 0] 54 (0, 0)) ∧ Below w.heap.size w wr))
  case atStart => exact ⟨0, rfl, rfl, HS_w1.out⟩
  case round =>
    obtain ⟨k, hk, rfl, HA⟩ := hrel
    clear n0 n1 n2 n3 n4 n5 n6
    rcases (show k = 0 ∨ k = 1 ∨ k = 2 by omega) with rfl | rfl | rfl
    · have HA0 : Hid (ND wr w.heap.size nm ∧ wr.heap[w.heap.size + 1]? = some (.cells #[.int .i64 0, .int .i64 0, .int .i64 0] 54 (0, 0)) ∧ Below w.heap.size w wr) := HA.out
      clear HA
      have r0 : wr.cell? ⟨G, 0, none⟩ = some (.int .i64 4) := (HR.out.next hG HA0.out.2.2 0 (by simp)).1
      have r1 : wr.cell? ⟨G, 1, none⟩ = some (.int .u64 5) := (HR.out.next hG HA0.out.2.2 0 (by simp)).2.1
      have r2 : wr.cell? ⟨G, 2, none⟩ = some (.int .u64 10) := (HR.out.next hG HA0.out.2.2 0 (by simp)).2.2.1
      have r3 : wr.cell? ⟨G, 3, none⟩ = some (.int .u64 5) := (HR.out.next hG HA0.out.2.2 0 (by simp)).2.2.2.1
      have r4 : wr.cell? ⟨G, 4, none⟩ = some (.int .u64 5) := (HR.out.next hG HA0.out.2.2 0 (by simp)).2.2.2.2
      have f0 : wr.cell? ⟨w.heap.size + 1, 0, none⟩ = some (.int .i64 0) := blk_cell HA0.out.2.1 0
      have f1 : wr.cell? ⟨w.heap.size + 1, 1, none⟩ = some (.int .i64 0) := blk_cell HA0.out.2.1 1
      have e0 : wr.frozen? ⟨w.heap.size + 1, 0, none⟩ = false := by simp [World.frozen?, HA0.out.2.1]
      have e1 : wr.frozen? ⟨w.heap.size + 1, 1, none⟩ = false := by simp [World.frozen?, HA0.out.2.1]
      have hlt : w.heap.size + 1 < wr.heap.size := (Array.getElem?_eq_some_iff.1 HA0.out.2.1).1
      have hne : ¬ w.heap.size + 1 = wr.heap.size := by omega
      go_wp2_with fail
      go_roundg (1)
      case measure => omega
      case rel =>
        have l1 : w.heap.size ≠ w.heap.size + 1 := by omega
        exact ⟨1, by omega, rfl, at_alloc _ ((heap_setCell_other _ _ _ _ (fun e => l1 e)).trans HA0.out.1), at_alloc _ (Go.heap_setCell_same wr (w.heap.size + 1) 0 _ _ (.int .i64 4) HA0.out.2.1), nxa (bel_set HA0.out.2.2 (by omega) _ _) _⟩
    · have HA0 : Hid (ND wr w.heap.size nm ∧ wr.heap[w.heap.size + 1]? = some (.cells #[.int .i64 4, .int .i64 0, .int .i64 0] 54 (0, 0)) ∧ Below w.heap.size w wr) := HA.out
      clear HA
      have r0 : wr.cell? ⟨G, 5, none⟩ = some (.int .i64 4) := (HR.out.next hG HA0.out.2.2 1 (by simp)).1
      have r1 : wr.cell? ⟨G, 6, none⟩ = some (.int .u64 0) := (HR.out.next hG HA0.out.2.2 1 (by simp)).2.1
      have r2 : wr.cell? ⟨G, 7, none⟩ = some (.int .u64 1) := (HR.out.next hG HA0.out.2.2 1 (by simp)).2.2.1
      have r3 : wr.cell? ⟨G, 8, none⟩ = some (.int .u64 0) := (HR.out.next hG HA0.out.2.2 1 (by simp)).2.2.2.1
      have r4 : wr.cell? ⟨G, 9, none⟩ = some (.int .u64 14) := (HR.out.next hG HA0.out.2.2 1 (by simp)).2.2.2.2
      have f0 : wr.cell? ⟨w.heap.size + 1, 0, none⟩ = some (.int .i64 4) := blk_cell HA0.out.2.1 0
      have f1 : wr.cell? ⟨w.heap.size + 1, 1, none⟩ = some (.int .i64 0) := blk_cell HA0.out.2.1 1
      have e0 : wr.frozen? ⟨w.heap.size + 1, 0, none⟩ = false := by simp [World.frozen?, HA0.out.2.1]
      have e1 : wr.frozen? ⟨w.heap.size + 1, 1, none⟩ = false := by simp [World.frozen?, HA0.out.2.1]
      have hlt : w.heap.size + 1 < wr.heap.size := (Array.getElem?_eq_some_iff.1 HA0.out.2.1).1
      have hne : ¬ w.heap.size + 1 = wr.heap.size := by omega
      go_wp2_with fail
      go_roundg (0)
      case measure => omega
      case rel =>
        have l1 : w.heap.size ≠ w.heap.size + 1 := by omega
        exact ⟨2, by omega, rfl, at_alloc _ ((heap_setCell_other _ _ _ _ (fun e => l1 e)).trans HA0.out.1), at_alloc _ (Go.heap_setCell_same wr (w.heap.size + 1) 1 _ _ (.int .i64 4) HA0.out.2.1), nxa (bel_set HA0.out.2.2 (by omega) _ _) _⟩
    · have HA0 : Hid (ND wr w.heap.size nm ∧ wr.heap[w.heap.size + 1]? = some (.cells #[.int .i64 4, .int .i64 4, .int .i64 0] 54 (0, 0)) ∧ Below w.heap.size w wr) := HA.out
      clear HA
      have n0 : wr.cell? ⟨w.heap.size, 0, none⟩ = some (.int .i64 20) := blk_cell HA0.out.1 0
      have n1 : wr.cell? ⟨w.heap.size, 1, none⟩ = some (.int .i64 4) := blk_cell HA0.out.1 1
      have n2 : wr.cell? ⟨w.heap.size, 2, none⟩ = some (.int .i64 0) := blk_cell HA0.out.1 2
      have n3 : wr.cell? ⟨w.heap.size, 3, none⟩ = some (.int .i64 0) := blk_cell HA0.out.1 3
      have n4 : wr.cell? ⟨w.heap.size, 4, none⟩ = some (.int .i64 0) := blk_cell HA0.out.1 4
      have n5 : wr.cell? ⟨w.heap.size, 5, none⟩ = some (.int .u64 0) := blk_cell HA0.out.1 5
      have n6 : wr.cell? ⟨w.heap.size, 6, none⟩ = some (.string nm) := blk_cell HA0.out.1 6
      have f0 : wr.cell? ⟨w.heap.size + 1, 0, none⟩ = some (.int .i64 4) := blk_cell HA0.out.2.1 0
      have f1 : wr.cell? ⟨w.heap.size + 1, 1, none⟩ = some (.int .i64 4) := blk_cell HA0.out.2.1 1
      have f2 : wr.cell? ⟨w.heap.size + 1, 2, none⟩ = some (.int .i64 0) := blk_cell HA0.out.2.1 2
      go_wp2_with fail
      go_big_quiet (fail)
      obtain ⟨wa, hwa⟩ : ∃ wa, wr.drewN nq = wa := ⟨_, rfl⟩
      have HA1 : Hid (ND wa w.heap.size nm ∧ Below w.heap.size w wa) := by
        rw [← hwa]; exact ⟨HA0.out.1.next (bel_drewN (Below.refl _ _) _), bel_drewN HA0.out.2.2 _⟩
      rw [hwa]
      clear n0 n1 n2 n3 n4 n5 n6 f0 f1 f2 HA0 hwa
      have n0 : wa.cell? ⟨w.heap.size, 0, none⟩ = some (.int .i64 20) := blk_cell HA1.out.1 0
      have n1 : wa.cell? ⟨w.heap.size, 1, none⟩ = some (.int .i64 4) := blk_cell HA1.out.1 1
      have n2 : wa.cell? ⟨w.heap.size, 2, none⟩ = some (.int .i64 0) := blk_cell HA1.out.1 2
      have n3 : wa.cell? ⟨w.heap.size, 3, none⟩ = some (.int .i64 0) := blk_cell HA1.out.1 3
      have n4 : wa.cell? ⟨w.heap.size, 4, none⟩ = some (.int .i64 0) := blk_cell HA1.out.1 4
      have n5 : wa.cell? ⟨w.heap.size, 5, none⟩ = some (.int .u64 0) := blk_cell HA1.out.1 5
      have n6 : wa.cell? ⟨w.heap.size, 6, none⟩ = some (.string nm) := blk_cell HA1.out.1 6
      go_wp2_with fail
      go_ret
      exact ⟨rfl, HA1.out.2⟩
end Go.Proofs.YtopdbhkkmolllaaGreatDoor
