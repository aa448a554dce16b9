import Derived.Test.YtopdbhkkmolllaaGreatDoorKnO
namespace Go.Proofs.YtopdbhkkmolllaaGreatDoor
open Go.ChangeShapes Go.WideShapes Go.ChangeAt Go.RowKit Go.Lib Go.Kn

theorem sz1 (w : World) (o : Obj) : (w.alloc o).heap.size = w.heap.size + 1 := by simp
theorem partsOf_ex (w : World) : Calls Tryz.prog 21 #[.int .i64 20] w fun e w' => e = .returned (.int .i64 2) ∧ w' = w := by
  go_enter Tryz.func21, Tryz.ntmps21
  go_wp2
  go_ret
  exact ⟨rfl, rfl⟩
theorem allA : (fun (fs : List Fc) => fs.length = 2 ∧ (fs.getD 0 zF).may ∧ (fs.getD 1 zF).may) [exA, exB] := ⟨rfl, may4 rfl (by decide) (by decide) (by decide) (by decide), may4 rfl (by decide) (by decide) (by decide) (by decide)⟩
theorem all_ex (G c : Nat) (w : World) (hG : G < w.heap.size) (hr : RowF w G 0 [exA, exB]) :
    Calls Tryz.prog 13 #[.slice (some ⟨G, 0, none⟩) 2 c] w fun e w' => ∃ H, e = .returned (.tuple #[.slice (some ⟨H, 0, none⟩) 2 2, .int .i64 0]) ∧ H < w'.heap.size ∧ RowF w' H 0 [exA, exB] ∧ Below w.heap.size w w' :=
  (all_any [exA, exB] G 2 c w rfl (by omega) hG hr).mono (by
    rintro e w' ⟨v, cc, hp, rfl, hb⟩
    rcases hp with ⟨-, -, i, hi, hn⟩ | ⟨-, -, -, i, hi, hn⟩ | ⟨-, rfl, H, gs, rfl, hl, hset, hrow, -, hH⟩
    · have hi : i < 2 := hi
      rcases (show i = 0 ∨ i = 1 by omega) with rfl | rfl
      · exact absurd allA.2.1 hn
      · exact absurd allA.2.2 hn
    · have hi : i < 2 := hi
      rcases (show i = 0 ∨ i = 1 by omega) with rfl | rfl
      · exact absurd set_A.lw (hn _)
      · exact absurd set_B.lw (hn _)
    · refine ⟨H, rfl, hH, fun i hi => ?_, hb⟩
      have hi : i < 2 := hi
      have := hrow i (by rw [hl]; exact hi)
      rcases (show i = 0 ∨ i = 1 by omega) with rfl | rfl
      · rw [show gs.getD 0 zF = exA from SET.uniq (hset 0 (by simp)) set_A] at this; exact this
      · rw [show gs.getD 1 zF = exB from SET.uniq (hset 1 (by simp)) set_B] at this; exact this)
theorem row3 {W : World} {f g h : Fc} : RowF (W.alloc (.cells #[.int .i64 f.w, uV f.one, uV f.zero, uV f.least, uV f.top, .int .i64 g.w, uV g.one, uV g.zero, uV g.least, uV g.top, .int .i64 h.w, uV h.one, uV h.zero, uV h.least, uV h.top] 24)) W.heap.size 0 [f, g] := fun i hi => by
  have h := heap_alloc_new W (.cells #[.int .i64 f.w, uV f.one, uV f.zero, uV f.least, uV f.top, .int .i64 g.w, uV g.one, uV g.zero, uV g.least, uV g.top, .int .i64 h.w, uV h.one, uV h.zero, uV h.least, uV h.top] 24)
  have hi : i < 2 := hi
  rcases (show i = 0 ∨ i = 1 by omega) with rfl | rfl
  · exact ⟨blk_cell h _, blk_cell h _, blk_cell h _, blk_cell h _, blk_cell h _⟩
  · exact ⟨blk_cell h _, blk_cell h _, blk_cell h _, blk_cell h _, blk_cell h _⟩
set_option maxHeartbeats 4000000 in
theorem Apply_ex (nm : ByteArray) (w : World) : Calls Tryz.prog 12 #[ndV nm, fV exA, fV exB, fV zF] w fun e w' => e = .returned (.tuple #[fV ⟨4, 1, 0, 1, 15⟩, eV 0]) ∧ Below w.heap.size w w' := by
  have HI : Hid (∀ W, Calls Tryz.prog 18 #[.int .i64 4] W fun e w' => e = .returned (.bool true) ∧ w' = W) := fun W => isw_any 4 W
  have HP : Hid (∀ W, Calls Tryz.prog 21 #[.int .i64 20] W fun e w' => e = .returned (.int .i64 2) ∧ w' = W) := fun W => partsOf_ex W
  have HAl : Hid (∀ (W : World) G c, G < W.heap.size → RowF W G 0 [exA, exB] → Calls Tryz.prog 13 #[.slice (some ⟨G, 0, none⟩) 2 c] W fun e w' => ∃ H, e = .returned (.tuple #[.slice (some ⟨H, 0, none⟩) 2 2, .int .i64 0]) ∧ H < w'.heap.size ∧ RowF w' H 0 [exA, exB] ∧ Below W.heap.size W w') := fun W G c h1 h2 => all_ex G c W h1 h2
  have HFi : Hid (∀ (W : World) G c, G < W.heap.size → RowF W G 0 [exA, exB] → Calls Tryz.prog 22 #[ndV nm, .slice (some ⟨G, 0, none⟩) 2 c] W fun e w' => e = .returned (.bool true) ∧ Below W.heap.size W w') := fun W G c h1 h2 => fits_ex nm G c W h1 h2
  have HFo : Hid (∀ (W : World) G c, G < W.heap.size → RowF W G 0 [exA, exB] → Calls Tryz.prog 23 #[ndV nm, .slice (some ⟨G, 0, none⟩) 2 c] W fun e w' => e = .returned (fV ⟨4, 1, 0, 1, 15⟩) ∧ Below W.heap.size W w') := fun W G c h1 h2 => fact_ex nm G c W h1 h2
  obtain ⟨w1, hw1⟩ : ∃ w1, ((((w.alloc (.cells #[.int .i64 20, .int .i64 4, .int .i64 0, .int .i64 0, .int .i64 0, .int .u64 0, .string nm] 38)).alloc (.cells #[.int .i64 exA.w, uV exA.one, uV exA.zero, uV exA.least, uV exA.top] 24)).alloc (.cells #[.int .i64 exB.w, uV exB.one, uV exB.zero, uV exB.least, uV exB.top] 24)).alloc (.cells #[.int .i64 zF.w, uV zF.one, uV zF.zero, uV zF.least, uV zF.top] 24)).alloc (.cells #[.int .i64 0, .int .u64 0, .int .u64 0, .int .u64 0, .int .u64 0] 24) = w1 := ⟨_, rfl⟩
  have HS1 : Hid (ND w1 w.heap.size nm ∧ BX w1 (w.heap.size + 1) exA ∧ BX w1 (w.heap.size + 1 + 1) exB ∧ BX w1 (w.heap.size + 1 + 1 + 1) zF ∧ BX w1 (w.heap.size + 1 + 1 + 1 + 1) zF ∧ Below w.heap.size w w1) := by
    rw [← hw1]
    refine ⟨at_alloc _ (at_alloc _ (at_alloc _ (at_alloc _ (heap_alloc_new w _)))), ((BX.alloc (hp2 w _ _) _).alloc _).alloc _, (BX.alloc (hp3 w _ _ _) _).alloc _, ?_, ?_, nxa (nxa (bel3 _ _ _ _) _) _⟩
    · have := BX.new (((w.alloc (.cells #[.int .i64 20, .int .i64 4, .int .i64 0, .int .i64 0, .int .i64 0, .int .u64 0, .string nm] 38)).alloc (.cells #[.int .i64 exA.w, uV exA.one, uV exA.zero, uV exA.least, uV exA.top] 24)).alloc (.cells #[.int .i64 exB.w, uV exB.one, uV exB.zero, uV exB.least, uV exB.top] 24)) zF
      simp only [sz1] at this
      exact this.alloc _
    · have := BX.new ((((w.alloc (.cells #[.int .i64 20, .int .i64 4, .int .i64 0, .int .i64 0, .int .i64 0, .int .u64 0, .string nm] 38)).alloc (.cells #[.int .i64 exA.w, uV exA.one, uV exA.zero, uV exA.least, uV exA.top] 24)).alloc (.cells #[.int .i64 exB.w, uV exB.one, uV exB.zero, uV exB.least, uV exB.top] 24)).alloc (.cells #[.int .i64 zF.w, uV zF.one, uV zF.zero, uV zF.least, uV zF.top] 24)) zF
      simp only [sz1] at this
      exact this
  have n0 : w1.cell? ⟨w.heap.size, 0, none⟩ = some (.int .i64 20) := blk_cell HS1.out.1 0
  have n1 : w1.cell? ⟨w.heap.size, 1, none⟩ = some (.int .i64 4) := blk_cell HS1.out.1 1
  have n2 : w1.cell? ⟨w.heap.size, 2, none⟩ = some (.int .i64 0) := blk_cell HS1.out.1 2
  have n3 : w1.cell? ⟨w.heap.size, 3, none⟩ = some (.int .i64 0) := blk_cell HS1.out.1 3
  have n4 : w1.cell? ⟨w.heap.size, 4, none⟩ = some (.int .i64 0) := blk_cell HS1.out.1 4
  have n5 : w1.cell? ⟨w.heap.size, 5, none⟩ = some (.int .u64 0) := blk_cell HS1.out.1 5
  have n6 : w1.cell? ⟨w.heap.size, 6, none⟩ = some (.string nm) := blk_cell HS1.out.1 6
  have a0 : w1.cell? ⟨(w.heap.size + 1), 0, none⟩ = some (.int .i64 4) := HS1.out.2.1.c.1
  have a1 : w1.cell? ⟨(w.heap.size + 1), 1, none⟩ = some (.int .u64 5) := HS1.out.2.1.c.2.1
  have a2 : w1.cell? ⟨(w.heap.size + 1), 2, none⟩ = some (.int .u64 10) := HS1.out.2.1.c.2.2.1
  have a3 : w1.cell? ⟨(w.heap.size + 1), 3, none⟩ = some (.int .u64 5) := HS1.out.2.1.c.2.2.2.1
  have a4 : w1.cell? ⟨(w.heap.size + 1), 4, none⟩ = some (.int .u64 5) := HS1.out.2.1.c.2.2.2.2
  have b0 : w1.cell? ⟨(w.heap.size + 1 + 1), 0, none⟩ = some (.int .i64 4) := HS1.out.2.2.1.c.1
  have b1 : w1.cell? ⟨(w.heap.size + 1 + 1), 1, none⟩ = some (.int .u64 0) := HS1.out.2.2.1.c.2.1
  have b2 : w1.cell? ⟨(w.heap.size + 1 + 1), 2, none⟩ = some (.int .u64 1) := HS1.out.2.2.1.c.2.2.1
  have b3 : w1.cell? ⟨(w.heap.size + 1 + 1), 3, none⟩ = some (.int .u64 0) := HS1.out.2.2.1.c.2.2.2.1
  have b4 : w1.cell? ⟨(w.heap.size + 1 + 1), 4, none⟩ = some (.int .u64 14) := HS1.out.2.2.1.c.2.2.2.2
  have d0 : w1.cell? ⟨(w.heap.size + 1 + 1 + 1), 0, none⟩ = some (.int .i64 0) := HS1.out.2.2.2.1.c.1
  have d1 : w1.cell? ⟨(w.heap.size + 1 + 1 + 1), 1, none⟩ = some (.int .u64 0) := HS1.out.2.2.2.1.c.2.1
  have d2 : w1.cell? ⟨(w.heap.size + 1 + 1 + 1), 2, none⟩ = some (.int .u64 0) := HS1.out.2.2.2.1.c.2.2.1
  have d3 : w1.cell? ⟨(w.heap.size + 1 + 1 + 1), 3, none⟩ = some (.int .u64 0) := HS1.out.2.2.2.1.c.2.2.2.1
  have d4 : w1.cell? ⟨(w.heap.size + 1 + 1 + 1), 4, none⟩ = some (.int .u64 0) := HS1.out.2.2.2.1.c.2.2.2.2
  have hl4 : w.heap.size + 1 + 1 + 1 + 1 < w1.heap.size := HS1.out.2.2.2.2.1.lt
  have hne0 : ¬ w.heap.size = w1.heap.size := by omega
  have hne1 : ¬ w.heap.size + 1 = w1.heap.size := by omega
  have hne2 : ¬ w.heap.size + 1 + 1 = w1.heap.size := by omega
  have hne3 : ¬ w.heap.size + 1 + 1 + 1 = w1.heap.size := by omega
  have hne4 : ¬ w.heap.size + 1 + 1 + 1 + 1 = w1.heap.size := by omega
  have hn0a : ∀ o : Obj, (w1.alloc o).cell? ⟨w.heap.size, 0, none⟩ = some (.int .i64 20) := fun o => ((bel1 w1 o).cell (p := ⟨w.heap.size, 0, none⟩) (by show w.heap.size < w1.heap.size; omega)).trans n0
  have hn0b : ∀ o : Obj, (w1.drew.alloc o).cell? ⟨w.heap.size, 0, none⟩ = some (.int .i64 20) := fun o => ((nxa (Below.refl _ _).drew o).cell (p := ⟨w.heap.size, 0, none⟩) (by show w.heap.size < w1.heap.size; omega)).trans n0
  have HAl2 : Hid (∀ W, W = w1.alloc (.cells #[.int .i64 4, .int .u64 5, .int .u64 10, .int .u64 5, .int .u64 5, .int .i64 4, .int .u64 0, .int .u64 1, .int .u64 0, .int .u64 14, .int .i64 0, .int .u64 0, .int .u64 0, .int .u64 0, .int .u64 0] 24) ∨ W = (w1.alloc (.cells #[.int .i64 4, .int .u64 5, .int .u64 10, .int .u64 5, .int .u64 5, .int .i64 4, .int .u64 0, .int .u64 1, .int .u64 0, .int .u64 14, .int .i64 0, .int .u64 0, .int .u64 0, .int .u64 0, .int .u64 0] 24)).drew → Calls Tryz.prog 13 #[.slice (some ⟨w1.heap.size, 0, none⟩) 2 3] W fun e w' => ∃ H, e = .returned (.tuple #[.slice (some ⟨H, 0, none⟩) 2 2, .int .i64 0]) ∧ H < w'.heap.size ∧ RowF w' H 0 [exA, exB] ∧ Below w1.heap.size w1 w') := by
    have hrw : RowF (w1.alloc (.cells #[.int .i64 4, .int .u64 5, .int .u64 10, .int .u64 5, .int .u64 5, .int .i64 4, .int .u64 0, .int .u64 1, .int .u64 0, .int .u64 14, .int .i64 0, .int .u64 0, .int .u64 0, .int .u64 0, .int .u64 0] 24)) w1.heap.size 0 [exA, exB] := row3 (W := w1) (f := exA) (g := exB) (h := zF)
    intro W hW
    rcases hW with rfl | rfl
    · exact (HAl.out _ _ _ (by simp) hrw).mono (by rintro e w' ⟨H, h1, h2, h3, h4⟩; exact ⟨H, h1, h2, h3, nx (bel1 _ _) h4⟩)
    · exact (HAl.out _ _ _ (by simp) (hrw.next (by simp) (Below.refl _ _).drew)).mono (by rintro e w' ⟨H, h1, h2, h3, h4⟩; exact ⟨H, h1, h2, h3, nx (bel1 _ _).drew h4⟩)
  clear HAl
  go_enter Tryz.func12, Tryz.ntmps12
  go_wp2_with (first | (go_at_call 18; refine (HI.out _).mono ?_; rintro e w' ⟨rfl, hw⟩; obtain rfl := hw.symm) | (go_at_call 21; refine (HP.out _).mono ?_; rintro e w' ⟨rfl, hw⟩; obtain rfl := hw.symm))
  try rw [hw1]
  go_region_held3 (fun W => W.cell? ⟨w.heap.size, 0, none⟩ = some (.int .i64 20) ∧ W.cell? ⟨w.heap.size + 1, 0, none⟩ = some (.int .i64 4) ∧ W.cell? ⟨w.heap.size + 1, 1, none⟩ = some (.int .u64 5) ∧ W.cell? ⟨w.heap.size + 1, 2, none⟩ = some (.int .u64 10) ∧ W.cell? ⟨w.heap.size + 1, 3, none⟩ = some (.int .u64 5) ∧ W.cell? ⟨w.heap.size + 1, 4, none⟩ = some (.int .u64 5) ∧ W.cell? ⟨w.heap.size + 1 + 1, 0, none⟩ = some (.int .i64 4) ∧ W.cell? ⟨w.heap.size + 1 + 1, 1, none⟩ = some (.int .u64 0) ∧ W.cell? ⟨w.heap.size + 1 + 1, 2, none⟩ = some (.int .u64 1) ∧ W.cell? ⟨w.heap.size + 1 + 1, 3, none⟩ = some (.int .u64 0) ∧ W.cell? ⟨w.heap.size + 1 + 1, 4, none⟩ = some (.int .u64 14) ∧ W.cell? ⟨w.heap.size + 1 + 1 + 1, 0, none⟩ = some (.int .i64 0) ∧ W.cell? ⟨w.heap.size + 1 + 1 + 1, 1, none⟩ = some (.int .u64 0) ∧ W.cell? ⟨w.heap.size + 1 + 1 + 1, 2, none⟩ = some (.int .u64 0) ∧ W.cell? ⟨w.heap.size + 1 + 1 + 1, 3, none⟩ = some (.int .u64 0) ∧ W.cell? ⟨w.heap.size + 1 + 1 + 1, 4, none⟩ = some (.int .u64 0)) (go_keep) (first | ((go_at_call 21; refine (HP.out _).mono ?_; rintro e w' ⟨rfl, hw⟩; obtain rfl := hw.symm)) | ((go_at_call 13; refine (HAl2.out _ (by first | exact Or.inl rfl | exact Or.inr rfl)).mono ?_; rintro e w2 ⟨H, rfl, hH, hrow, hb⟩; have HS2 : Hid ((ND w2 w.heap.size nm ∧ BX w2 (w.heap.size + 1 + 1 + 1 + 1) zF ∧ Below w.heap.size w w2) ∧ H < w2.heap.size ∧ RowF w2 H 0 [exA, exB]) := ⟨⟨HS1.out.1.next hb, HS1.out.2.2.2.2.1.next hb, nx HS1.out.2.2.2.2.2 hb⟩, hH, hrow⟩; have m0 : w2.cell? ⟨w.heap.size, 0, none⟩ = some (.int .i64 20) := (hb.cell (p := ⟨w.heap.size, 0, none⟩) (by show w.heap.size < w1.heap.size; omega)).trans n0; have m1 : w2.cell? ⟨w.heap.size + 1, 0, none⟩ = some (.int .i64 4) := (hb.cell (p := ⟨w.heap.size + 1, 0, none⟩) (by show w.heap.size + 1 < w1.heap.size; omega)).trans a0; have m2 : w2.cell? ⟨w.heap.size + 1, 1, none⟩ = some (.int .u64 5) := (hb.cell (p := ⟨w.heap.size + 1, 1, none⟩) (by show w.heap.size + 1 < w1.heap.size; omega)).trans a1; have m3 : w2.cell? ⟨w.heap.size + 1, 2, none⟩ = some (.int .u64 10) := (hb.cell (p := ⟨w.heap.size + 1, 2, none⟩) (by show w.heap.size + 1 < w1.heap.size; omega)).trans a2; have m4 : w2.cell? ⟨w.heap.size + 1, 3, none⟩ = some (.int .u64 5) := (hb.cell (p := ⟨w.heap.size + 1, 3, none⟩) (by show w.heap.size + 1 < w1.heap.size; omega)).trans a3; have m5 : w2.cell? ⟨w.heap.size + 1, 4, none⟩ = some (.int .u64 5) := (hb.cell (p := ⟨w.heap.size + 1, 4, none⟩) (by show w.heap.size + 1 < w1.heap.size; omega)).trans a4; have m6 : w2.cell? ⟨w.heap.size + 1 + 1, 0, none⟩ = some (.int .i64 4) := (hb.cell (p := ⟨w.heap.size + 1 + 1, 0, none⟩) (by show w.heap.size + 1 + 1 < w1.heap.size; omega)).trans b0; have m7 : w2.cell? ⟨w.heap.size + 1 + 1, 1, none⟩ = some (.int .u64 0) := (hb.cell (p := ⟨w.heap.size + 1 + 1, 1, none⟩) (by show w.heap.size + 1 + 1 < w1.heap.size; omega)).trans b1; have m8 : w2.cell? ⟨w.heap.size + 1 + 1, 2, none⟩ = some (.int .u64 1) := (hb.cell (p := ⟨w.heap.size + 1 + 1, 2, none⟩) (by show w.heap.size + 1 + 1 < w1.heap.size; omega)).trans b2; have m9 : w2.cell? ⟨w.heap.size + 1 + 1, 3, none⟩ = some (.int .u64 0) := (hb.cell (p := ⟨w.heap.size + 1 + 1, 3, none⟩) (by show w.heap.size + 1 + 1 < w1.heap.size; omega)).trans b3; have m10 : w2.cell? ⟨w.heap.size + 1 + 1, 4, none⟩ = some (.int .u64 14) := (hb.cell (p := ⟨w.heap.size + 1 + 1, 4, none⟩) (by show w.heap.size + 1 + 1 < w1.heap.size; omega)).trans b4; have m11 : w2.cell? ⟨w.heap.size + 1 + 1 + 1, 0, none⟩ = some (.int .i64 0) := (hb.cell (p := ⟨w.heap.size + 1 + 1 + 1, 0, none⟩) (by show w.heap.size + 1 + 1 + 1 < w1.heap.size; omega)).trans d0; have m12 : w2.cell? ⟨w.heap.size + 1 + 1 + 1, 1, none⟩ = some (.int .u64 0) := (hb.cell (p := ⟨w.heap.size + 1 + 1 + 1, 1, none⟩) (by show w.heap.size + 1 + 1 + 1 < w1.heap.size; omega)).trans d1; have m13 : w2.cell? ⟨w.heap.size + 1 + 1 + 1, 2, none⟩ = some (.int .u64 0) := (hb.cell (p := ⟨w.heap.size + 1 + 1 + 1, 2, none⟩) (by show w.heap.size + 1 + 1 + 1 < w1.heap.size; omega)).trans d2; have m14 : w2.cell? ⟨w.heap.size + 1 + 1 + 1, 3, none⟩ = some (.int .u64 0) := (hb.cell (p := ⟨w.heap.size + 1 + 1 + 1, 3, none⟩) (by show w.heap.size + 1 + 1 + 1 < w1.heap.size; omega)).trans d3; have m15 : w2.cell? ⟨w.heap.size + 1 + 1 + 1, 4, none⟩ = some (.int .u64 0) := (hb.cell (p := ⟨w.heap.size + 1 + 1 + 1, 4, none⟩) (by show w.heap.size + 1 + 1 + 1 < w1.heap.size; omega)).trans d4; clear hH hrow hb)))
  all_goals (
    clear n0 n1 n2 n3 n4 n5 n6
    have n0 : w2.cell? ⟨w.heap.size, 0, none⟩ = some (.int .i64 20) := blk_cell HS2.out.1.1 0
    have n1 : w2.cell? ⟨w.heap.size, 1, none⟩ = some (.int .i64 4) := blk_cell HS2.out.1.1 1
    have n2 : w2.cell? ⟨w.heap.size, 2, none⟩ = some (.int .i64 0) := blk_cell HS2.out.1.1 2
    have n3 : w2.cell? ⟨w.heap.size, 3, none⟩ = some (.int .i64 0) := blk_cell HS2.out.1.1 3
    have n4 : w2.cell? ⟨w.heap.size, 4, none⟩ = some (.int .i64 0) := blk_cell HS2.out.1.1 4
    have n5 : w2.cell? ⟨w.heap.size, 5, none⟩ = some (.int .u64 0) := blk_cell HS2.out.1.1 5
    have n6 : w2.cell? ⟨w.heap.size, 6, none⟩ = some (.string nm) := blk_cell HS2.out.1.1 6
    go_wp2_with fail
    refine (HFi.out _ _ _ HS2.out.2.1 HS2.out.2.2).mono ?_
    rintro e w3 ⟨rfl, hb⟩
    have HS3 : Hid ((ND w3 w.heap.size nm ∧ BX w3 (w.heap.size + 1 + 1 + 1 + 1) zF ∧ Below w.heap.size w w3) ∧ H < w3.heap.size ∧ RowF w3 H 0 [exA, exB]) := ⟨⟨HS2.out.1.1.next hb, HS2.out.1.2.1.next hb, nx HS2.out.1.2.2 hb⟩, Nat.lt_of_lt_of_le HS2.out.2.1 hb.size, HS2.out.2.2.next HS2.out.2.1 hb⟩
    clear n0 n1 n2 n3 n4 n5 n6 hb
    have n0 : w3.cell? ⟨w.heap.size, 0, none⟩ = some (.int .i64 20) := blk_cell HS3.out.1.1 0
    have n1 : w3.cell? ⟨w.heap.size, 1, none⟩ = some (.int .i64 4) := blk_cell HS3.out.1.1 1
    have n2 : w3.cell? ⟨w.heap.size, 2, none⟩ = some (.int .i64 0) := blk_cell HS3.out.1.1 2
    have n3 : w3.cell? ⟨w.heap.size, 3, none⟩ = some (.int .i64 0) := blk_cell HS3.out.1.1 3
    have n4 : w3.cell? ⟨w.heap.size, 4, none⟩ = some (.int .i64 0) := blk_cell HS3.out.1.1 4
    have n5 : w3.cell? ⟨w.heap.size, 5, none⟩ = some (.int .u64 0) := blk_cell HS3.out.1.1 5
    have n6 : w3.cell? ⟨w.heap.size, 6, none⟩ = some (.string nm) := blk_cell HS3.out.1.1 6
    go_wp2_with fail
    refine (HFo.out _ _ _ HS3.out.2.1 HS3.out.2.2).mono ?_
    rintro e w4 ⟨rfl, hb⟩
    have HS4 : Hid (BX w4 (w.heap.size + 1 + 1 + 1 + 1) zF ∧ Below w.heap.size w w4) := ⟨HS3.out.1.2.1.next hb, nx HS3.out.1.2.2 hb⟩
    clear n0 n1 n2 n3 n4 n5 n6 hb
    obtain ⟨z0, z1, z2, z3, z4⟩ := HS4.out.1.c
    obtain ⟨y0, y1, y2, y3, y4⟩ := HS4.out.1.fz
    go_wp2_with fail
    refine bodyPost_ret (res2 rfl _ _ (w.heap.size + 1 + 1 + 1 + 1) _ _ _ _ rfl (set5_at HS4.out.1 _ _ _ _ _) rfl rfl) rfl ?_
    exact ⟨rfl, set5_bel HS4.out.2 (by omega) _ _ _ _ _⟩)
end Go.Proofs.YtopdbhkkmolllaaGreatDoor
