import Derived.Test.YtnknbijbhidpnaaGreatDoorTidy
namespace Go.Proofs.YtnknbijbhidpnaaGreatDoor
open Go.ChangeShapes Go.WideShapes Go.ChangeAt Go.RowKit Go.Cn Go.Maps
open Go.Sort (HoldsK get_flatK)

theorem set12 : setL [1, 2] = [1, 2] := by decide
theorem two12 : two [1, 2] = false := by decide
theorem lit12 : ∀ x ∈ ([1, 2] : List Int), litB x = true := by decide
theorem ck12 : ck 2 [[1, 2]] = (0, 0) := by decide
theorem Gath.dn {w : World} {B G M n : Nat} {v : Value} {ps : List (Value × Int)} {lits : Int} {over : Bool} {D : DataW Unit} (h : Gath w B G M v ps lits over n D) (m : Nat) : Gath (w.drewN m) B G M v ps lits over n D := ⟨h.blk, h.row, h.map, h.bg, h.bm⟩
theorem sz2 (w : World) (o o2 : Obj) : ((w.alloc o).alloc o2).heap.size = w.heap.size + 2 := by simp
theorem sz1 (w : World) (o : Obj) : (w.alloc o).heap.size = w.heap.size + 1 := by simp
set_option maxHeartbeats 4000000 in
set_option maxRecDepth 100000 in
theorem tidy_one (ad : Option Addr) (c : Nat) (w : World) (h : Cls w ad [[1, 2]]) (htab : PowT w.heap.size w) :
    Calls Tryz.prog 28 #[.agg #[.int .i64 2, .slice ad 1 c]] w fun e w' => ∃ ad' c', e = .returned (.tuple #[.agg #[.int .i64 2, .slice ad' 1 c'], .int .i64 0]) ∧ Cls w' ad' [[1, 2]] ∧ Below w.heap.size w w' := by
  have HK : Hid (∀ W, Below w.heap.size w W → Calls Tryz.prog 14 #[.agg #[.int .i64 2, .slice ad 1 c]] W fun e w' => e = .returned (.tuple #[.int .i64 0, .int .i64 0]) ∧ Below W.heap.size W w') := by
    intro W hW
    have := check_any 2 ad [[1, 2]] c W (h.below hW) (by decide) (fun j hj => by obtain rfl : j = 0 := (by simpa using hj); decide)
    rw [ck12] at this
    exact this
  obtain ⟨b, off, rfl, hb, hc⟩ := h (by decide)
  obtain ⟨aj, cj, c0, hI⟩ := hc 0 (by decide)
  have c0' : w.cell? ⟨b, off, none⟩ = some (.slice aj 2 cj) := by simpa using c0
  obtain ⟨b2, off2, rfl, hb2, _⟩ := hI (by decide)
  have HC0 : Hid (∀ W, Below w.heap.size w W → W.cell? ⟨b, off, none⟩ = some (.slice (some ⟨b2, off2, none⟩) 2 cj)) := fun W hW => (hW.cell (p := ⟨b, off, none⟩) hb).trans c0'
  have HI : Hid (∀ W, Below w.heap.size w W → Ints W (some ⟨b2, off2, none⟩) [1, 2]) := fun W hW => hI.below hW
  have HT : Hid (∀ W, Below w.heap.size w W → PowT W.heap.size W) := fun W hW W' hW' => htab W' (hW.trans (hW'.mono hW.size))
  clear hc c0 c0' hI h htab
  have HB0 : Hid (∀ o o2, Below w.heap.size w ((w.alloc o).alloc o2)) := fun o o2 => ((Below.refl _ _).alloc (Nat.le_refl _) o).alloc (by simp) o2
  go_enter Tryz.func28, Tryz.ntmps28
  go_wp2_with fail
  refine (HK.out _ (HB0.out _ _)).mono ?_
  rintro e w1 ⟨rfl, hb1⟩
  have hs1 : w.heap.size + 2 ≤ w1.heap.size := by have := hb1.size; rw [sz2] at this; omega
  have HB1 : Hid (Below w.heap.size w w1) := (HB0.out _ _).trans (hb1.mono (by rw [sz2]; omega))
  have x0 : w1.heap[w.heap.size]? = some (.cells #[.int .i64 2, .slice (some ⟨b, off, none⟩) 1 c] 24 (0, 0)) := by
    rw [hb1.block w.heap.size (by rw [sz2]; omega), Below.heap_alloc _ _ _ (by rw [sz1]; omega)]; exact heap_alloc_at _ _
  have x1 : w1.heap[w.heap.size + 1]? = some (.cells #[.int .i64 0, .slice none 0 0] 24 (0, 0)) := by
    rw [hb1.block (w.heap.size + 1) (by rw [sz2]; omega)]
    have h := heap_alloc_at (w.alloc (.cells #[.int .i64 2, .slice (some ⟨b, off, none⟩) 1 c] 24)) (.cells #[.int .i64 0, .slice none 0 0] 24)
    simpa using h
  have HX : Hid (w1.heap[w.heap.size]? = some (.cells #[.int .i64 2, .slice (some ⟨b, off, none⟩) 1 c] 24 (0, 0)) ∧ w1.heap[w.heap.size + 1]? = some (.cells #[.int .i64 0, .slice none 0 0] 24 (0, 0))) := ⟨x0, x1⟩
  clear hb1 x0 x1
  go_wp2_with fail
  refine (newG_any w1).mono ?_
  rintro e w2 ⟨G, M, rfl, hG, hb2'⟩
  have HG : Hid (Gath w2 w1.heap.size G M (.slice none 0 0) [] 0 false 0 (.map [])) := hG
  have HB2 : Hid (Below w.heap.size w w2) := HB1.out.trans (hb2'.mono HB1.out.size)
  have hs2 : w1.heap.size ≤ w2.heap.size := hb2'.size
  have HX2 : Hid (w2.heap[w.heap.size]? = some (.cells #[.int .i64 2, .slice (some ⟨b, off, none⟩) 1 c] 24 (0, 0)) ∧ w2.heap[w.heap.size + 1]? = some (.cells #[.int .i64 0, .slice none 0 0] 24 (0, 0))) := ⟨(hb2'.block _ (by omega)).trans HX.out.1, (hb2'.block _ (by omega)).trans HX.out.2⟩
  clear hG hb2' HX
  have e1 : w2.cell? ⟨w.heap.size, 1, none⟩ = some (.slice (some ⟨b, off, none⟩) 1 c) := blk_cell HX2.out.1 1
  have e2 := HC0.out w2 HB2.out
  go_wp2
  refine wp_loop_rounds 2 ?_
  rw [rounds_succ]
  go_wp2_with fail
  have hS := setOf_any b2 off2 cj [1, 2] w2 (HI.out w2 HB2.out) (by decide) lit12
  rw [set12] at hS
  refine hS.mono ?_
  rintro e w3 ⟨v3, rfl, ho3, hb3⟩
  obtain ⟨ad3, cap3, rfl, HI3⟩ := own_ints ho3
  have hT := twofold_any ad3 [1, 2] cap3 w3 HI3 (by decide) lit12 (by unfold SetC; decide)
  rw [two12] at hT
  have hs3 : w2.heap.size ≤ w3.heap.size := hb3.size
  have HB3 : Hid (Below w.heap.size w w3) := HB2.out.trans (hb3.mono HB2.out.size)
  have HO3 : Hid (w3.ownsRow w2.heap.size 3 1 (.slice ad3 2 cap3) 2 ([1, 2].map (Value.int .i64))) := ho3
  have HG3 : Hid (Gath w3 w1.heap.size G M (.slice none 0 0) [] 0 false 0 (.map [])) := by
    have g := HG.out
    have hGl : G < w2.heap.size := (Array.getElem?_eq_some_iff.1 g.blk).1
    obtain ⟨es, clock, m1, m2⟩ := g.map
    have hMl : M < w2.heap.size := (Array.getElem?_eq_some_iff.1 m1).1
    exact ⟨(hb3.block G hGl).trans g.blk, World.ownsRow_nil _ _ _ _, ⟨es, clock, (hb3.block M hMl).trans m1, m2⟩, g.bg, g.bm⟩
  have HX3 : Hid (w3.heap[w.heap.size]? = some (.cells #[.int .i64 2, .slice (some ⟨b, off, none⟩) 1 c] 24 (0, 0)) ∧ w3.heap[w.heap.size + 1]? = some (.cells #[.int .i64 0, .slice none 0 0] 24 (0, 0))) := ⟨(hb3.block _ (by omega)).trans HX2.out.1, (hb3.block _ (by omega)).trans HX2.out.2⟩
  have HT3 : Hid (Calls Tryz.prog 24 #[.slice ad3 2 cap3] w3 fun e w' => e = .returned (.bool false) ∧ ∃ m, w' = w3.drewN m) := hT
  clear hS hT ho3 hb3 HI3 HX2 e1 e2
  go_wp2_with fail
  refine HT3.out.mono ?_
  rintro e w4 ⟨rfl, m4, rfl⟩
  have hA := add_new w1.heap.size G M 0 (.slice none 0 0) [] 0 0 false (.map []) ad3 [1, 2] cap3 (w3.drewN m4) (HG3.out.dn m4) (own_ints HO3.out |> fun ⟨_, _, e, h⟩ => by cases e; exact h) lit12 (by decide) (HT.out _ (below_dn HB3.out m4)) (by show w1.heap.size ≤ w3.heap.size; omega) rfl (by decide) (by decide) (by decide) (by decide)
  have HA : Hid (Calls Tryz.prog 49 #[.pointer (some ⟨G, 0, none⟩), .slice ad3 2 cap3, .int .i64 0] (w3.drewN m4) fun e w' => e = .returned (.tuple #[]) ∧ ∃ v', Gath w' w1.heap.size G M v' ([((ad3, 2, cap3), (0 : Fin 4611686018427387904))].map slP) 2 false 1 (DataW.put (.map []) (.string (txtL [1, 2])) (.lit (.int .i64 0))) ∧ GKept (w3.drewN m4) w' G M (.slice none 0 0)) := hA
  clear hA
  go_wp2_with fail
  refine HA.out.mono ?_
  rintro e w5 ⟨rfl, v5, hg5, hk5⟩
  have hs5 : w3.heap.size ≤ w5.heap.size := hk5.size
  have hb5 : Below w1.heap.size w3 w5 := hk5.below (HG3.out.dn m4) (below_dn (Below.refl _ _) m4) (by show w1.heap.size ≤ w3.heap.size; omega)
  have HB5 : Hid (Below w.heap.size w w5) := HB3.out.trans (hb5.mono (by omega))
  have HX5 : Hid (w5.heap[w.heap.size]? = some (.cells #[.int .i64 2, .slice (some ⟨b, off, none⟩) 1 c] 24 (0, 0)) ∧ w5.heap[w.heap.size + 1]? = some (.cells #[.int .i64 0, .slice none 0 0] 24 (0, 0))) := ⟨(hb5.block _ (by omega)).trans HX3.out.1, (hb5.block _ (by omega)).trans HX3.out.2⟩
  have HO5 : Hid (w5.ownsRow w2.heap.size 3 1 (.slice ad3 2 cap3) 2 ([1, 2].map (Value.int .i64))) := by
    have ho := HO3.out
    rcases ho.2 with ⟨e, h0⟩ | ⟨g, cap, cur, e, q1, q2, q3⟩
    · omega
    · refine ⟨ho.1, Or.inr ⟨g, cap, cur, e, q1, ?_, q3⟩⟩
      have n1 : g ≠ G := fun e2 => by have := HG3.out.blk; rw [← e2, q2] at this; cases this
      have n2 : g ≠ M := fun e2 => by obtain ⟨es, clock, m1, _⟩ := HG3.out.map; rw [← e2, q2] at m1; cases m1
      rw [hk5.block g (Array.getElem?_eq_some_iff.1 q2).1 n1 n2 (by simp [Value.ownBlock])]
      exact q2
  have HF : Hid (Calls Tryz.prog 50 #[.pointer (some ⟨G, 0, none⟩), .int .i64 2] w5 fun e w' => ∃ v', e = .returned (.agg #[.int .i64 2, v']) ∧ w'.ownsRow w5.heap.size 37 1 v' 1 [.slice ad3 2 cap3] ∧ Below w5.heap.size w5 w') :=
    formula_of w1.heap.size G M 1 v5 [((ad3, 2, cap3), 0)] 2 2 false _ w5 hg5 (by simp) (hsort_of hg5 (by simp) (by simp) (by simp))
  clear hg5 hk5 hb5 HX3
  have e0 : w5.cell? ⟨w.heap.size, 0, none⟩ = some (.int .i64 2) := blk_cell HX5.out.1 0
  go_wp2
  rw [rounds_succ]
  go_wp2_with fail
  refine HF.out.mono ?_
  rintro e w6 ⟨v6, rfl, ho6, hb6⟩
  obtain ⟨ad6, cap6, rfl⟩ := own_shapeC ho6
  have HB6 : Hid (Below w.heap.size w w6) := HB5.out.trans (hb6.mono HB5.out.size)
  have hs6 : w5.heap.size ≤ w6.heap.size := hb6.size
  have x6 : w6.heap[w.heap.size + 1]? = some (.cells #[.int .i64 0, .slice none 0 0] 24 (0, 0)) := (hb6.block _ (by omega)).trans HX5.out.2
  have HO6 : Hid (w6.ownsRow w5.heap.size 37 1 (.slice ad6 1 cap6) 1 [.slice ad3 2 cap3] ∧ w6.ownsRow w2.heap.size 3 1 (.slice ad3 2 cap3) 2 ([1, 2].map (Value.int .i64))) := ⟨ho6, row_below HO5.out hb6⟩
  have HX6 : Hid (w6.heap[w.heap.size + 1]? = some (.cells #[.int .i64 0, .slice none 0 0] 24 (0, 0))) := x6
  have q0 : w6.cell? ⟨w.heap.size + 1, 0, none⟩ = some (.int .i64 0) := blk_cell x6 0
  have q1 : w6.cell? ⟨w.heap.size + 1, 1, none⟩ = some (.slice none 0 0) := blk_cell x6 1
  have q2 : w6.frozen? ⟨w.heap.size + 1, 0, none⟩ = false := blk_frozen x6 0
  have q3 : w6.frozen? ⟨w.heap.size + 1, 1, none⟩ = false := blk_frozen x6 1
  clear ho6 hb6 x6 e0
  go_wp2
  have hfin : ((w6.setCell ⟨w.heap.size + 1, 0, none⟩ (.int .i64 2)).setCell ⟨w.heap.size + 1, 1, none⟩ (.slice ad6 1 cap6)).heap[w.heap.size + 1]? = some (.cells #[.int .i64 2, .slice ad6 1 cap6] 24 (0, 0)) := by
    rw [heap_setCell_same _ (w.heap.size + 1) 1 _ _ _ (heap_setCell_same _ (w.heap.size + 1) 0 _ _ _ HX6.out)]; rfl
  refine bodyPost_ret (v := .tuple #[.agg #[.int .i64 2, .slice ad6 1 cap6], .int .i64 0]) (res_ct (p := 2) (u := 3) rfl _ _ (w.heap.size + 1) 24 _ (0, 0) _ rfl hfin Tryz.underlying24 rfl (by kernel_rfl)) rfl ?_
  have hle : w.heap.size ≤ w.heap.size + 1 := by omega
  have hne := row_ne_blk HO6.out.1 HX6.out (by decide)
  have hne2 := row_ne_blk HO6.out.2 HX6.out (by decide)
  have h1 := World.ownsRow.kept (World.ownsRow.kept HO6.out.1 (gb_set w6 ⟨w.heap.size + 1, 0, none⟩ (.int .i64 2)) (Or.inr hne)) (gb_set _ ⟨w.heap.size + 1, 1, none⟩ (.slice ad6 1 cap6)) (Or.inr hne)
  have h2 := World.ownsRow.kept (World.ownsRow.kept HO6.out.2 (gb_set w6 ⟨w.heap.size + 1, 0, none⟩ (.int .i64 2)) (Or.inr hne2)) (gb_set _ ⟨w.heap.size + 1, 1, none⟩ (.slice ad6 1 cap6)) (Or.inr hne2)
  refine ⟨ad6, cap6, rfl, ?_, (HB6.out.setCell hle _).setCell hle _⟩
  intro _
  rcases h1.2 with ⟨e, h0⟩ | ⟨g, cap, cur, e, _, hg, _⟩
  · omega
  · cases e
    refine ⟨g, 0, rfl, (Array.getElem?_eq_some_iff.1 hg).1, fun j hj => ?_⟩
    obtain rfl : j = 0 := by simpa using hj
    refine ⟨ad3, cap3, ?_, ?_⟩
    · rw [Nat.zero_add, h1.cellAt 0 (by omega)]; rfl
    · obtain ⟨_, _, e, hi⟩ := own_ints (xs := [1, 2]) h2
      cases e
      exact hi
end Go.Proofs.YtnknbijbhidpnaaGreatDoor
