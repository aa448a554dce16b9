import Derived.Test.YtkpapgfbnledpaaGreatDoorTmI0
import Derived.Deep.RegionLaw
namespace Go.Proofs.YtkpapgfbnledpaaGreatDoor
open Go.ChangeShapes Go.WideShapes Go.ChangeAt Go.RowKit Go.Lib Go.Tm Go.Bw Go.Bn Go.WideMaps Go.Maps Go.ChangeMaps

set_option maxHeartbeats 4000000 in
set_option maxRecDepth 100000 in
theorem add_no (B0 B : Nat) (lim : Int) (L : List Nd) (v : Value) (M1 M2 : Nat) (op u a b c num : Int) (nm : ByteArray) (w : World) (h : SM 78 w B0 B lim L v (some M1) (some M2)) (h4 : op ≠ 4) (hl : L.length < 1000000000000) (hB0 : B0 ≤ w.heap.size) (hk : (⟨op, u, a, b, c, num, nm⟩ : Nd).ok) (hr : rfE L ⟨op, u, a, b, c, num, nm⟩ = 0) (hp : pos ⟨op, u, a, b, c, num, nm⟩ L = none) :
    Calls Tryz.prog 57 #[.pointer (some ⟨B, 0, none⟩), .agg #[.int .i64 op, .int .i64 u, .int .i64 a, .int .i64 b, .int .i64 c, .int .u64 num, .string nm]] w fun e w' => e = .returned (.int .i64 ((L.length : Int) + 1)) ∧ AddP 78 w B0 B lim (L ++ [⟨op, u, a, b, c, num, nm⟩]) v (some M1) (some M2) w' := by
  obtain ⟨kl, hkl⟩ := key_node _ hk
  have HKL : Hid (keyOf Tryz.prog 40 (nodeV ⟨op, u, a, b, c, num, nm⟩) = some kl) := hkl
  have HOK : Hid (((⟨op, u, a, b, c, num, nm⟩ : Nd)).ok) := hk
  have HRF : Hid (rfE L ⟨op, u, a, b, c, num, nm⟩ = 0) := hr
  have HPS : Hid (pos ⟨op, u, a, b, c, num, nm⟩ L = none) := hp
  have HBB : Hid (B0 ≤ w.heap.size) := hB0
  clear hkl hr hp hB0
  obtain ⟨i0, hi, hz0, hz1, hz2⟩ := info_parts (P := Tryz.prog) (e := 40) (z := .agg #[.int .i64 0, .int .i64 0, .int .i64 0, .int .i64 0, .int .i64 0, .int .u64 0, .string ⟨#[]⟩]) (size := 7) (bytes := 64) (by kernel_rfl)
  obtain ⟨ad, cp, rfl, hc, -⟩ := h.form
  have HS : Hid (SM 78 w B0 B lim L (.slice ad L.length cp) (some M1) (some M2)) := h
  have hBl : B < w.heap.size := (Array.getElem?_eq_some_iff.1 h.blk).1
  have q4 : (op == 4) = false := beq_eq_false_iff_ne.2 h4
  have c2 : w.cell? ⟨B, 2, none⟩ = some (.map (some M1)) := blk_cell h.blk 2
  have HF2 : Hid (∀ y, varF L y = varF (L ++ [⟨op, u, a, b, c, num, nm⟩]) y) := fun y => varF_no h4 y
  have HN2 : Hid (L.length ≤ L.length + 1) := Nat.le_succ _
  have HM : Hid (∀ k, M1 = k ∨ M2 = k → Own B (.slice ad L.length cp) (some M1) (some M2) k ∨ w.heap.size ≤ k) := fun k hk => by
    rcases hk with rfl | rfl
    · exact Or.inl (Or.inr (Or.inr (Or.inl rfl)))
    · exact Or.inl (Or.inr (Or.inr (Or.inr rfl)))
  clear hk h4
  have qT : ∀ (w : World) (r : Option Nat), (binOp .eql 75 (.map r) (.map none)).run Tryz.prog w = .ok (.bool r.isNone) w := fun w r => run_eql_map_nil w _ _ _ r Tryz.underlying75
  go_enter Tryz.func57, Tryz.ntmps57
  go_wp2_with fail
  have HBX : Hid ((w.alloc (Obj.cells #[.int .i64 op, .int .i64 u, .int .i64 a, .int .i64 b, .int .i64 c, .int .u64 num, .string nm] 40 (0, 0))).heap[w.heap.size]? = some (Obj.cells #[.int .i64 op, .int .i64 u, .int .i64 a, .int .i64 b, .int .i64 c, .int .u64 num, .string nm] 40 (0, 0))) := heap_alloc_new w _
  have HX1 : Hid (SX 78 (w.alloc (Obj.cells #[.int .i64 op, .int .i64 u, .int .i64 a, .int .i64 b, .int .i64 c, .int .u64 num, .string nm] 40 (0, 0))) B0 B lim L (.slice ad L.length cp) M1 M2 (numF L) (varF L) L.length L.length) := (HS.out.below (bel1 w _)).x
  have HOB : Hid ((Value.slice ad L.length cp).ownBlock ≠ some w.heap.size) := fun e => by have := HS.out.lt (Or.inr (Or.inl e)); omega
  have HK1 : Hid (Kp w (w.alloc (Obj.cells #[.int .i64 op, .int .i64 u, .int .i64 a, .int .i64 b, .int .i64 c, .int .u64 num, .string nm] 40 (0, 0))) B (.slice ad L.length cp) (some M1) (some M2)) := Kp.of_below (bel1 w _)
  have hne3 : ¬ B = w.heap.size := by omega
  have HSZ : Hid (w.heap.size ≤ (w.alloc (Obj.cells #[.int .i64 op, .int .i64 u, .int .i64 a, .int .i64 b, .int .i64 c, .int .u64 num, .string nm] 40 (0, 0))).heap.size) := by show _ ≤ _; simp
  obtain ⟨W1, hW1⟩ : ∃ W1, w.alloc (Obj.cells #[.int .i64 op, .int .i64 u, .int .i64 a, .int .i64 b, .int .i64 c, .int .u64 num, .string nm] 40 (0, 0)) = W1 := ⟨_, rfl⟩
  rw [hW1] at HBX HX1 HK1 HSZ ⊢
  obtain ⟨bx, hbxe⟩ : ∃ bx, w.heap.size = bx := ⟨_, rfl⟩
  have HBE : Hid (w.heap.size = bx) := hbxe
  rw [hbxe] at HBX HOB hne3 ⊢
  clear hW1 hbxe h c2 hBl
  have HR1 : Hid (W1.ownsRow B0 40 7 (.slice ad L.length cp) L.length (flat L)) := HX1.out.row
  have hlt1 : B < W1.heap.size := (Array.getElem?_eq_some_iff.1 HX1.out.blk).1
  have hlt2 : bx < W1.heap.size := (Array.getElem?_eq_some_iff.1 HBX.out).1
  have hB1 : B0 ≤ W1.heap.size := by have := HBB.out; have := HSZ.out; omega
  have hne1 : ¬ B = W1.heap.size := by omega
  have hne2 : ¬ bx = W1.heap.size := by omega
  have c1 : W1.cell? ⟨B, 1, none⟩ = some (.slice ad L.length cp) := blk_cell HX1.out.blk 1
  have c2 : W1.cell? ⟨B, 2, none⟩ = some (.map (some M1)) := blk_cell HX1.out.blk 2
  have d0 : W1.cell? ⟨bx, 0, none⟩ = some (.int .i64 op) := blk_cell HBX.out 0
  have d1 : W1.cell? ⟨bx, 1, none⟩ = some (.int .i64 u) := blk_cell HBX.out 1
  have d2 : W1.cell? ⟨bx, 2, none⟩ = some (.int .i64 a) := blk_cell HBX.out 2
  have d3 : W1.cell? ⟨bx, 3, none⟩ = some (.int .i64 b) := blk_cell HBX.out 3
  have d4 : W1.cell? ⟨bx, 4, none⟩ = some (.int .i64 c) := blk_cell HBX.out 4
  have d5 : W1.cell? ⟨bx, 5, none⟩ = some (.int .u64 num) := blk_cell HBX.out 5
  have d6 : W1.cell? ⟨bx, 6, none⟩ = some (.string nm) := blk_cell HBX.out 6
  obtain ⟨FL, hFL⟩ : ∃ FL, flat L = FL := ⟨_, rfl⟩
  have HFL : Hid (flat L = FL) := hFL
  rw [hFL] at HR1
  clear hFL
  obtain ⟨n, hn⟩ : ∃ n, L.length = n := ⟨_, rfl⟩
  have HN : Hid (L.length = n) := hn
  rw [hn] at HR1 HX1 c1 hl hc HOB
  clear hn
  go_region_law (first
    | (refine step_append_lies _ (by rfl) _ _ _ (by rfl) B0 40 i0 _ 7 64 Tryz.underlying74 hi hz0 hz1 hz2 rfl (by omega) (.slice ad n cp) n FL (by rfl) ((HR1.out.alloc _).drew) ⟨W1.heap.size, 0, none⟩ 1 1 [.int .i64 op, .int .i64 u, .int .i64 a, .int .i64 b, .int .i64 c, .int .u64 num, .string nm] (by rfl) (by rfl) (World.news_of_block (cs := #[.int .i64 op, .int .i64 u, .int .i64 a, .int .i64 b, .int .i64 c, .int .u64 num, .string nm]) (t := 40) (fr := (0, 0)) (heap_alloc_new W1 _)) (by intro u hu; simp at hu; rcases hu with rfl | rfl | rfl | rfl | rfl | rfl | rfl <;> rfl) (by omega) (by unfold maxLen; omega) (by omega) (by simp; omega) (W1.heap.size + 1) (by simp) ?_; intro g4 cap4 w4 hown4 hgrow4 hat4 hlt4; have k7 : w4.heap[B]? = some (.cells #[.int .i64 lim, .slice ad n cp, .map (some M1), .map (some M2)] 78 (0, 0)) := ((hgrow4.block B (by simp; omega) (own_ne HR1.out HX1.out.blk (by decide))).trans ((Below.heap_alloc _ _ _ (by omega)).trans HX1.out.blk)); have k8 := blk_cell k7 1; have k9 : w4.frozen? ⟨B, 1, none⟩ = false := (by simp [World.frozen?, k7]); have HK : Hid (w4.ownsRow B0 40 7 (.slice (some ⟨g4, 0, none⟩) (n + 1) cap4) (n + 1) (FL ++ [.int .i64 op, .int .i64 u, .int .i64 a, .int .i64 b, .int .i64 c, .int .u64 num, .string nm]) ∧ (W1.alloc (Obj.cells #[.int .i64 op, .int .i64 u, .int .i64 a, .int .i64 b, .int .i64 c, .int .u64 num, .string nm] 40 (0, 0))).grownBy w4 (Value.slice ad n cp).ownBlock ∧ ((Value.slice ad n cp).ownBlock = some g4 ∨ g4 = W1.heap.size + 1)) := ⟨hown4, ⟨hgrow4.os, hgrow4.tape, hgrow4.output, hgrow4.size, hgrow4.block⟩, hat4⟩; clear hown4 hgrow4 hat4 hlt4))
  all_goals go_wp2_with fail
  all_goals
    (have hX5 := HX1.out.grow (x := ⟨op, u, a, b, c, num, nm⟩) (by decide) (by rw [HN.out, HFL.out]; exact HK.out.1) HK.out.2.1
     rw [HN.out] at hX5
     have hbx4 : w4.heap[bx]? = some (Obj.cells #[.int .i64 op, .int .i64 u, .int .i64 a, .int .i64 b, .int .i64 c, .int .u64 num, .string nm] 40 (0, 0)) := (HK.out.2.1.block bx (by simp; omega) (fun e => HOB.out e.symm)).trans ((Below.heap_alloc _ _ _ hlt2).trans HBX.out)
     have hbx5 := ((gb_set w4 ⟨B, 1, none⟩ (.slice (some ⟨g4, 0, none⟩) (n + 1) cap4)).block bx (Array.getElem?_eq_some_iff.1 hbx4).1 (fun e => hne3 (by cases e; rfl))).trans hbx4
     obtain ⟨w5, hw5⟩ : ∃ w5, w4.setCell ⟨B, 1, none⟩ (.slice (some ⟨g4, 0, none⟩) (n + 1) cap4) = w5 := ⟨_, rfl⟩
     have HW5 : Hid (w4.setCell ⟨B, 1, none⟩ (.slice (some ⟨g4, 0, none⟩) (n + 1) cap4) = w5) := hw5
     rw [hw5] at hX5 hbx5 ⊢
     clear d0 d1 d2 d3 d4 d5 d6 c1 c2 hw5 hbx4
     obtain ⟨D, hm, hF⟩ := hX5.m1
     obtain ⟨w6, hrun6, hm6, hg6⟩ := hm.drew.update lawN Tryz.underlying75 (by unfold maxLen; omega) HKL.out (plainElem_int Tryz.underlying3 (wf_i (x := (n : Int) + 1) (by unfold I64; omega)))
     have d0 : w5.cell? ⟨bx, 0, none⟩ = some (.int .i64 op) := blk_cell hbx5 0
     have d1 : w5.cell? ⟨bx, 1, none⟩ = some (.int .i64 u) := blk_cell hbx5 1
     have d2 : w5.cell? ⟨bx, 2, none⟩ = some (.int .i64 a) := blk_cell hbx5 2
     have d3 : w5.cell? ⟨bx, 3, none⟩ = some (.int .i64 b) := blk_cell hbx5 3
     have d4 : w5.cell? ⟨bx, 4, none⟩ = some (.int .i64 c) := blk_cell hbx5 4
     have d5 : w5.cell? ⟨bx, 5, none⟩ = some (.int .u64 num) := blk_cell hbx5 5
     have d6 : w5.cell? ⟨bx, 6, none⟩ = some (.string nm) := blk_cell hbx5 6
     have c1 : w5.cell? ⟨B, 1, none⟩ = some (.slice (some ⟨g4, 0, none⟩) (n + 1) cap4) := blk_cell hX5.blk 1
     have c2 : w5.cell? ⟨B, 2, none⟩ = some (.map (some M1)) := blk_cell hX5.blk 2
     have hX5d : SX 78 w5.drew B0 B lim (L ++ [⟨op, u, a, b, c, num, nm⟩]) (.slice (some ⟨g4, 0, none⟩) (n + 1) cap4) M1 M2 (numF L) (varF L) n n := ⟨hX5.blk, hX5.row, hX5.m1, hX5.m2, hX5.ne⟩
     have hX6 := hX5d.put1 hm6 (hF.put (dec := ndDec) lawN node_inj HKL.out ((n : Int) + 1)) hg6
     have c16 : w6.cell? ⟨B, 1, none⟩ = some (.slice (some ⟨g4, 0, none⟩) (n + 1) cap4) := blk_cell hX6.blk 1
     have HX6 : Hid (SX 78 w6 B0 B lim (L ++ [⟨op, u, a, b, c, num, nm⟩]) (.slice (some ⟨g4, 0, none⟩) (n + 1) cap4) M1 M2 (fun y => @ite _ (y = ⟨op, u, a, b, c, num, nm⟩) (ndDec y ⟨op, u, a, b, c, num, nm⟩) (some ((n : Int) + 1)) (numF L y)) (varF L) (n + 1) n) := hX6
     have HG6 : Hid (w5.drew.grownBy w6 (some M1)) := hg6
     clear hm hm6 hg6 hF hX5 hbx5 hX5d hX6
     go_region
     all_goals go_wp2
     all_goals go_ret
     all_goals (refine ⟨ret_int (by rw [HN.out]), ?_⟩)
     all_goals
       (obtain hw5 := HW5.out
        subst hw5
        obtain hnn := HN.out
        subst hnn
        exact add_end HS.out HBB.out hl HOK.out HRF.out HPS.out HK1.out HM.out HK.out.2.1 HK.out.2.2 HG6.out HX6.out HN2.out HF2.out))
end Go.Proofs.YtkpapgfbnledpaaGreatDoor
namespace Go.Proofs.YtkpapgfbnledpaaGreatDoor
open Go.ChangeShapes Go.WideShapes Go.ChangeAt Go.RowKit Go.Lib Go.Tm Go.Bw Go.Bn Go.WideMaps Go.Maps Go.ChangeMaps

set_option maxHeartbeats 4000000 in
set_option maxRecDepth 100000 in
theorem add_var (B0 B : Nat) (lim : Int) (L : List Nd) (v : Value) (M1 M2 : Nat) (op u a b c num : Int) (nm : ByteArray) (w : World) (h : SM 78 w B0 B lim L v (some M1) (some M2)) (h4 : op = 4) (hl : L.length < 1000000000000) (hB0 : B0 ≤ w.heap.size) (hk : (⟨op, u, a, b, c, num, nm⟩ : Nd).ok) (hr : rfE L ⟨op, u, a, b, c, num, nm⟩ = 0) (hp : pos ⟨op, u, a, b, c, num, nm⟩ L = none) :
    Calls Tryz.prog 57 #[.pointer (some ⟨B, 0, none⟩), .agg #[.int .i64 op, .int .i64 u, .int .i64 a, .int .i64 b, .int .i64 c, .int .u64 num, .string nm]] w fun e w' => e = .returned (.int .i64 ((L.length : Int) + 1)) ∧ AddP 78 w B0 B lim (L ++ [⟨op, u, a, b, c, num, nm⟩]) v (some M1) (some M2) w' := by
  obtain ⟨kl, hkl⟩ := key_node _ hk
  have HKL : Hid (keyOf Tryz.prog 40 (nodeV ⟨op, u, a, b, c, num, nm⟩) = some kl) := hkl
  have HOK : Hid (((⟨op, u, a, b, c, num, nm⟩ : Nd)).ok) := hk
  have HRF : Hid (rfE L ⟨op, u, a, b, c, num, nm⟩ = 0) := hr
  have HPS : Hid (pos ⟨op, u, a, b, c, num, nm⟩ L = none) := hp
  have HBB : Hid (B0 ≤ w.heap.size) := hB0
  clear hkl hr hp hB0
  obtain ⟨i0, hi, hz0, hz1, hz2⟩ := info_parts (P := Tryz.prog) (e := 40) (z := .agg #[.int .i64 0, .int .i64 0, .int .i64 0, .int .i64 0, .int .i64 0, .int .u64 0, .string ⟨#[]⟩]) (size := 7) (bytes := 64) (by kernel_rfl)
  obtain ⟨ad, cp, rfl, hc, -⟩ := h.form
  have HS : Hid (SM 78 w B0 B lim L (.slice ad L.length cp) (some M1) (some M2)) := h
  have hBl : B < w.heap.size := (Array.getElem?_eq_some_iff.1 h.blk).1
  subst h4
  have c2 : w.cell? ⟨B, 2, none⟩ = some (.map (some M1)) := blk_cell h.blk 2
  have HF2 : Hid (∀ y, (if y = nm then some u else varF L y) = varF (L ++ [⟨4, u, a, b, c, num, nm⟩]) y) := fun y => varF_var (n := ⟨4, u, a, b, c, num, nm⟩) rfl (rfE_nf HRF.out rfl) y
  have HN2 : Hid (L.length + 1 ≤ L.length + 1) := Nat.le_refl _
  have HM : Hid (∀ k, M1 = k ∨ M2 = k → Own B (.slice ad L.length cp) (some M1) (some M2) k ∨ w.heap.size ≤ k) := fun k hk => by
    rcases hk with rfl | rfl
    · exact Or.inl (Or.inr (Or.inr (Or.inl rfl)))
    · exact Or.inl (Or.inr (Or.inr (Or.inr rfl)))
  have HCL : Hid (∀ W, Calls Tryz.prog 94 #[.string nm] W fun e w' => e = .returned (.string nm) ∧ Below W.heap.size W w') := fun W => clone_any nm W hk.name
  have HNM : Hid (nm.size ≤ 140737488355328) := hk.name
  have HU : Hid (I64 u) := hk.w
  clear hk
  have qT : ∀ (w : World) (r : Option Nat), (binOp .eql 75 (.map r) (.map none)).run Tryz.prog w = .ok (.bool r.isNone) w := fun w r => run_eql_map_nil w _ _ _ r Tryz.underlying75
  go_enter Tryz.func57, Tryz.ntmps57
  go_wp2_with fail
  refine (HCL.out _).mono ?_
  rintro e w1 ⟨rfl, hb0⟩
  have hbx1 : w1.heap[w.heap.size]? = some (Obj.cells #[.int .i64 4, .int .i64 u, .int .i64 a, .int .i64 b, .int .i64 c, .int .u64 num, .string nm] 40 (0, 0)) := (hb0.block w.heap.size (by simp)).trans (heap_alloc_new w _)
  have hb : Below w.heap.size w w1 := (bel1 _ _).trans (hb0.mono (by simp))
  have hs1 : w.heap.size < w1.heap.size := (Array.getElem?_eq_some_iff.1 hbx1).1
  have k9 : w1.frozen? ⟨w.heap.size, 6, none⟩ = false := (by simp [World.frozen?, hbx1])
  have d0 : w1.cell? ⟨w.heap.size, 0, none⟩ = some (.int .i64 4) := blk_cell hbx1 0
  have d1 : w1.cell? ⟨w.heap.size, 1, none⟩ = some (.int .i64 u) := blk_cell hbx1 1
  have d2 : w1.cell? ⟨w.heap.size, 2, none⟩ = some (.int .i64 a) := blk_cell hbx1 2
  have d3 : w1.cell? ⟨w.heap.size, 3, none⟩ = some (.int .i64 b) := blk_cell hbx1 3
  have d4 : w1.cell? ⟨w.heap.size, 4, none⟩ = some (.int .i64 c) := blk_cell hbx1 4
  have d5 : w1.cell? ⟨w.heap.size, 5, none⟩ = some (.int .u64 num) := blk_cell hbx1 5
  have d6 : w1.cell? ⟨w.heap.size, 6, none⟩ = some (.string nm) := blk_cell hbx1 6
  have HBW : Hid (Below w.heap.size w (w1.setCell ⟨w.heap.size, 6, none⟩ (.string nm))) := ⟨hb.os, hb.tape, hb.output, by have := hb.size; simp; omega, fun k hk => ((gb_set w1 ⟨w.heap.size, 6, none⟩ (.string nm)).block k (by have := hb.size; omega) (fun e => by injection e with e; exact absurd e (by dsimp only; omega))).trans (hb.block k hk)⟩
  have HB2 : Hid ((w1.setCell ⟨w.heap.size, 6, none⟩ (.string nm)).heap[w.heap.size]? = some (Obj.cells #[.int .i64 4, .int .i64 u, .int .i64 a, .int .i64 b, .int .i64 c, .int .u64 num, .string nm] 40 (0, 0))) := by
    show _ = _
    rw [heap_setCell_same _ w.heap.size 6 _ _ _ hbx1]
    rfl
  clear hb0 hbx1 hb c2
  go_wp2_with fail
  obtain ⟨W2, hW2⟩ : ∃ W2, w1.setCell ⟨w.heap.size, 6, none⟩ (.string nm) = W2 := ⟨_, rfl⟩
  rw [hW2] at HBW HB2 ⊢
  clear hW2 d0 d1 d2 d3 d4 d5 d6 k9
  have hS2 := HS.out.below HBW.out
  obtain ⟨D2, hm2, hF2⟩ := hS2.m2
  obtain ⟨ks, hks, -, -⟩ := hF2.2 nm HNM.out
  obtain ⟨w3, hrun3, hm3, hg3⟩ := (show W2.ownsMap Tryz.prog 9 (plainElem Tryz.prog 3) M2 L.length D2 from hm2).drew.update lawS Tryz.underlying76 (by unfold maxLen; omega) hks (plainElem_int Tryz.underlying3 (wf_i HU.out))
  have d1 : W2.cell? ⟨w.heap.size, 1, none⟩ = some (.int .i64 u) := blk_cell HB2.out 1
  have d6 : W2.cell? ⟨w.heap.size, 6, none⟩ = some (.string nm) := blk_cell HB2.out 6
  have c3 : W2.cell? ⟨B, 3, none⟩ = some (.map (some M2)) := blk_cell hS2.blk 3
  have hlt2 : w.heap.size < W2.heap.size := (Array.getElem?_eq_some_iff.1 HB2.out).1
  have hx2 := hS2.x
  have hX2d : SX 78 W2.drew B0 B lim L (.slice ad L.length cp) M1 M2 (numF L) (varF L) L.length L.length := ⟨hx2.blk, hx2.row, hx2.m1, hx2.m2, hx2.ne⟩
  have HX1 : Hid (SX 78 w3 B0 B lim L (.slice ad L.length cp) M1 M2 (numF L) (fun y => if y = nm then some u else varF L y) L.length (L.length + 1)) := hX2d.put2 hm3 (hF2.put lawS (fun x y e => by injection e) hks u) hg3
  have hM2 : M2 < w.heap.size := HS.out.lt (Or.inr (Or.inr (Or.inr rfl)))
  have HBX : Hid (w3.heap[w.heap.size]? = some (Obj.cells #[.int .i64 4, .int .i64 u, .int .i64 a, .int .i64 b, .int .i64 c, .int .u64 num, .string nm] 40 (0, 0))) := (hg3.block w.heap.size hlt2 (fun e => by injection e with e; omega)).trans HB2.out
  have HOB : Hid ((Value.slice ad L.length cp).ownBlock ≠ some w.heap.size) := fun e => by have := HS.out.lt (Or.inr (Or.inl e)); omega
  have HK1 : Hid (Kp w w3 B (.slice ad L.length cp) (some M1) (some M2)) := (Kp.of_below HBW.out).trans (⟨hg3.os, hg3.tape, hg3.output, hg3.size, fun k hk hno => hg3.block k hk (fun e => hno (Or.inr (Or.inr (Or.inr e.symm))))⟩ : Kp W2 w3 B (.slice ad L.length cp) (some M1) (some M2)) (fun k e => Or.inl e)
  have hne3 : ¬ B = w.heap.size := by omega
  have HSZ : Hid (w.heap.size ≤ w3.heap.size) := HK1.out.size
  clear hm2 hF2 hm3 hg3 hx2 hX2d hS2 hM2 hks
  go_region
  go_wp2_with fail
  obtain ⟨bx, hbxe⟩ : ∃ bx, w.heap.size = bx := ⟨_, rfl⟩
  have HBE : Hid (w.heap.size = bx) := hbxe
  rw [hbxe] at HBX HOB hne3 ⊢
  clear hbxe h hBl d1 d6 c3 hrun3 HB2 HBW
  have HR1 : Hid (w3.ownsRow B0 40 7 (.slice ad L.length cp) L.length (flat L)) := HX1.out.row
  have hlt1 : B < w3.heap.size := (Array.getElem?_eq_some_iff.1 HX1.out.blk).1
  have hlt2 : bx < w3.heap.size := (Array.getElem?_eq_some_iff.1 HBX.out).1
  have hB1 : B0 ≤ w3.heap.size := by have := HBB.out; have := HSZ.out; omega
  have hne1 : ¬ B = w3.heap.size := by omega
  have hne2 : ¬ bx = w3.heap.size := by omega
  have c1 : w3.cell? ⟨B, 1, none⟩ = some (.slice ad L.length cp) := blk_cell HX1.out.blk 1
  have c2 : w3.cell? ⟨B, 2, none⟩ = some (.map (some M1)) := blk_cell HX1.out.blk 2
  have d0 : w3.cell? ⟨bx, 0, none⟩ = some (.int .i64 4) := blk_cell HBX.out 0
  have d1 : w3.cell? ⟨bx, 1, none⟩ = some (.int .i64 u) := blk_cell HBX.out 1
  have d2 : w3.cell? ⟨bx, 2, none⟩ = some (.int .i64 a) := blk_cell HBX.out 2
  have d3 : w3.cell? ⟨bx, 3, none⟩ = some (.int .i64 b) := blk_cell HBX.out 3
  have d4 : w3.cell? ⟨bx, 4, none⟩ = some (.int .i64 c) := blk_cell HBX.out 4
  have d5 : w3.cell? ⟨bx, 5, none⟩ = some (.int .u64 num) := blk_cell HBX.out 5
  have d6 : w3.cell? ⟨bx, 6, none⟩ = some (.string nm) := blk_cell HBX.out 6
  obtain ⟨FL, hFL⟩ : ∃ FL, flat L = FL := ⟨_, rfl⟩
  have HFL : Hid (flat L = FL) := hFL
  rw [hFL] at HR1
  clear hFL
  obtain ⟨n, hn⟩ : ∃ n, L.length = n := ⟨_, rfl⟩
  have HN : Hid (L.length = n) := hn
  rw [hn] at HR1 HX1 c1 hl hc HOB
  clear hn
  go_region_law (first
    | (refine step_append_lies _ (by rfl) _ _ _ (by rfl) B0 40 i0 _ 7 64 Tryz.underlying74 hi hz0 hz1 hz2 rfl (by omega) (.slice ad n cp) n FL (by rfl) ((HR1.out.alloc _).drew) ⟨w3.heap.size, 0, none⟩ 1 1 [.int .i64 4, .int .i64 u, .int .i64 a, .int .i64 b, .int .i64 c, .int .u64 num, .string nm] (by rfl) (by rfl) (World.news_of_block (cs := #[.int .i64 4, .int .i64 u, .int .i64 a, .int .i64 b, .int .i64 c, .int .u64 num, .string nm]) (t := 40) (fr := (0, 0)) (heap_alloc_new w3 _)) (by intro u hu; simp at hu; rcases hu with rfl | rfl | rfl | rfl | rfl | rfl | rfl <;> rfl) (by omega) (by unfold maxLen; omega) (by omega) (by simp; omega) (w3.heap.size + 1) (by simp) ?_; intro g4 cap4 w4 hown4 hgrow4 hat4 hlt4; have k7 : w4.heap[B]? = some (.cells #[.int .i64 lim, .slice ad n cp, .map (some M1), .map (some M2)] 78 (0, 0)) := ((hgrow4.block B (by simp; omega) (own_ne HR1.out HX1.out.blk (by decide))).trans ((Below.heap_alloc _ _ _ (by omega)).trans HX1.out.blk)); have k8 := blk_cell k7 1; have k9 : w4.frozen? ⟨B, 1, none⟩ = false := (by simp [World.frozen?, k7]); have HK : Hid (w4.ownsRow B0 40 7 (.slice (some ⟨g4, 0, none⟩) (n + 1) cap4) (n + 1) (FL ++ [.int .i64 4, .int .i64 u, .int .i64 a, .int .i64 b, .int .i64 c, .int .u64 num, .string nm]) ∧ (w3.alloc (Obj.cells #[.int .i64 4, .int .i64 u, .int .i64 a, .int .i64 b, .int .i64 c, .int .u64 num, .string nm] 40 (0, 0))).grownBy w4 (Value.slice ad n cp).ownBlock ∧ ((Value.slice ad n cp).ownBlock = some g4 ∨ g4 = w3.heap.size + 1)) := ⟨hown4, ⟨hgrow4.os, hgrow4.tape, hgrow4.output, hgrow4.size, hgrow4.block⟩, hat4⟩; clear hown4 hgrow4 hat4 hlt4))
  all_goals go_wp2_with fail
  all_goals
    (have hX5 := HX1.out.grow (x := ⟨4, u, a, b, c, num, nm⟩) (by decide) (by rw [HN.out, HFL.out]; exact HK.out.1) HK.out.2.1
     rw [HN.out] at hX5
     have hbx4 : w4.heap[bx]? = some (Obj.cells #[.int .i64 4, .int .i64 u, .int .i64 a, .int .i64 b, .int .i64 c, .int .u64 num, .string nm] 40 (0, 0)) := (HK.out.2.1.block bx (by simp; omega) (fun e => HOB.out e.symm)).trans ((Below.heap_alloc _ _ _ hlt2).trans HBX.out)
     have hbx5 := ((gb_set w4 ⟨B, 1, none⟩ (.slice (some ⟨g4, 0, none⟩) (n + 1) cap4)).block bx (Array.getElem?_eq_some_iff.1 hbx4).1 (fun e => hne3 (by cases e; rfl))).trans hbx4
     obtain ⟨w5, hw5⟩ : ∃ w5, w4.setCell ⟨B, 1, none⟩ (.slice (some ⟨g4, 0, none⟩) (n + 1) cap4) = w5 := ⟨_, rfl⟩
     have HW5 : Hid (w4.setCell ⟨B, 1, none⟩ (.slice (some ⟨g4, 0, none⟩) (n + 1) cap4) = w5) := hw5
     rw [hw5] at hX5 hbx5 ⊢
     clear d0 d1 d2 d3 d4 d5 d6 c1 c2 hw5 hbx4
     obtain ⟨D, hm, hF⟩ := hX5.m1
     obtain ⟨w6, hrun6, hm6, hg6⟩ := hm.drew.update lawN Tryz.underlying75 (by unfold maxLen; omega) HKL.out (plainElem_int Tryz.underlying3 (wf_i (x := (n : Int) + 1) (by unfold I64; omega)))
     have d0 : w5.cell? ⟨bx, 0, none⟩ = some (.int .i64 4) := blk_cell hbx5 0
     have d1 : w5.cell? ⟨bx, 1, none⟩ = some (.int .i64 u) := blk_cell hbx5 1
     have d2 : w5.cell? ⟨bx, 2, none⟩ = some (.int .i64 a) := blk_cell hbx5 2
     have d3 : w5.cell? ⟨bx, 3, none⟩ = some (.int .i64 b) := blk_cell hbx5 3
     have d4 : w5.cell? ⟨bx, 4, none⟩ = some (.int .i64 c) := blk_cell hbx5 4
     have d5 : w5.cell? ⟨bx, 5, none⟩ = some (.int .u64 num) := blk_cell hbx5 5
     have d6 : w5.cell? ⟨bx, 6, none⟩ = some (.string nm) := blk_cell hbx5 6
     have c1 : w5.cell? ⟨B, 1, none⟩ = some (.slice (some ⟨g4, 0, none⟩) (n + 1) cap4) := blk_cell hX5.blk 1
     have c2 : w5.cell? ⟨B, 2, none⟩ = some (.map (some M1)) := blk_cell hX5.blk 2
     have hX5d : SX 78 w5.drew B0 B lim (L ++ [⟨4, u, a, b, c, num, nm⟩]) (.slice (some ⟨g4, 0, none⟩) (n + 1) cap4) M1 M2 (numF L) (fun y => if y = nm then some u else varF L y) n (n + 1) := ⟨hX5.blk, hX5.row, hX5.m1, hX5.m2, hX5.ne⟩
     have hX6 := hX5d.put1 hm6 (hF.put (dec := ndDec) lawN node_inj HKL.out ((n : Int) + 1)) hg6
     have c16 : w6.cell? ⟨B, 1, none⟩ = some (.slice (some ⟨g4, 0, none⟩) (n + 1) cap4) := blk_cell hX6.blk 1
     have HX6 : Hid (SX 78 w6 B0 B lim (L ++ [⟨4, u, a, b, c, num, nm⟩]) (.slice (some ⟨g4, 0, none⟩) (n + 1) cap4) M1 M2 (fun y => @ite _ (y = ⟨4, u, a, b, c, num, nm⟩) (ndDec y ⟨4, u, a, b, c, num, nm⟩) (some ((n : Int) + 1)) (numF L y)) (fun y => if y = nm then some u else varF L y) (n + 1) (n + 1)) := hX6
     have HG6 : Hid (w5.drew.grownBy w6 (some M1)) := hg6
     clear hm hm6 hg6 hF hX5 hbx5 hX5d hX6
     go_region
     all_goals go_wp2
     all_goals go_ret
     all_goals (refine ⟨ret_int (by rw [HN.out]), ?_⟩)
     all_goals
       (obtain hw5 := HW5.out
        subst hw5
        obtain hnn := HN.out
        subst hnn
        exact add_end HS.out HBB.out hl HOK.out HRF.out HPS.out HK1.out HM.out HK.out.2.1 HK.out.2.2 HG6.out HX6.out HN2.out HF2.out))

end Go.Proofs.YtkpapgfbnledpaaGreatDoor
namespace Go.Proofs.YtkpapgfbnledpaaGreatDoor
open Go.ChangeShapes Go.WideShapes Go.ChangeAt Go.RowKit Go.Lib Go.Tm Go.Bw Go.Bn Go.WideMaps Go.Maps Go.ChangeMaps

set_option maxHeartbeats 4000000 in
set_option maxRecDepth 100000 in
theorem add_nil_no (B0 B : Nat) (lim : Int) (L : List Nd) (v : Value) (O2 : Option Nat) (op u a b c num : Int) (nm : ByteArray) (w : World) (h : SM 78 w B0 B lim L v none O2) (h4 : op ≠ 4) (hl : L.length < 1000000000000) (hB0 : B0 ≤ w.heap.size) (hk : (⟨op, u, a, b, c, num, nm⟩ : Nd).ok) (hr : rfE L ⟨op, u, a, b, c, num, nm⟩ = 0) (hp : pos ⟨op, u, a, b, c, num, nm⟩ L = none) :
    Calls Tryz.prog 57 #[.pointer (some ⟨B, 0, none⟩), .agg #[.int .i64 op, .int .i64 u, .int .i64 a, .int .i64 b, .int .i64 c, .int .u64 num, .string nm]] w fun e w' => e = .returned (.int .i64 ((L.length : Int) + 1)) ∧ AddP 78 w B0 B lim (L ++ [⟨op, u, a, b, c, num, nm⟩]) v none O2 w' := by
  obtain ⟨kl, hkl⟩ := key_node _ hk
  have HKL : Hid (keyOf Tryz.prog 40 (nodeV ⟨op, u, a, b, c, num, nm⟩) = some kl) := hkl
  have HOK : Hid (((⟨op, u, a, b, c, num, nm⟩ : Nd)).ok) := hk
  have HRF : Hid (rfE L ⟨op, u, a, b, c, num, nm⟩ = 0) := hr
  have HPS : Hid (pos ⟨op, u, a, b, c, num, nm⟩ L = none) := hp
  have HBB : Hid (B0 ≤ w.heap.size) := hB0
  clear hkl hr hp hB0
  obtain ⟨i0, hi, hz0, hz1, hz2⟩ := info_parts (P := Tryz.prog) (e := 40) (z := .agg #[.int .i64 0, .int .i64 0, .int .i64 0, .int .i64 0, .int .i64 0, .int .u64 0, .string ⟨#[]⟩]) (size := 7) (bytes := 64) (by kernel_rfl)
  obtain ⟨ad, cp, rfl, hc, -⟩ := h.form
  have HS : Hid (SM 78 w B0 B lim L (.slice ad L.length cp) none O2) := h
  have hBl : B < w.heap.size := (Array.getElem?_eq_some_iff.1 h.blk).1
  have q4 : (op == 4) = false := beq_eq_false_iff_ne.2 h4
  have HF2 : Hid (∀ y, varF L y = varF (L ++ [⟨op, u, a, b, c, num, nm⟩]) y) := fun y => varF_no h4 y
  have HN2 : Hid (L.length ≤ L.length + 1) := Nat.le_succ _
  clear h4
  have c2 : w.cell? ⟨B, 2, none⟩ = some (.map none) := blk_cell h.blk 2
  have hWm : (((w.alloc (Obj.cells #[.int .i64 op, .int .i64 u, .int .i64 a, .int .i64 b, .int .i64 c, .int .u64 num, .string nm] 40 (0, 0))).alloc (Obj.map #[] 0)).alloc (Obj.map #[] 0)).heap[B]? = some (.cells #[.int .i64 lim, .slice ad L.length cp, .map none, .map O2] 78 (0, 0)) := by
    rw [Below.heap_alloc _ _ _ (by simp; omega), Below.heap_alloc _ _ _ (by simp; omega), Below.heap_alloc _ _ _ hBl]
    exact h.blk
  have hWa : ((((w.alloc (Obj.cells #[.int .i64 op, .int .i64 u, .int .i64 a, .int .i64 b, .int .i64 c, .int .u64 num, .string nm] 40 (0, 0))).alloc (Obj.map #[] 0)).alloc (Obj.map #[] 0)).setCell ⟨B, 2, none⟩ (.map (some (w.heap.size + 1)))).heap[B]? = some (.cells #[.int .i64 lim, .slice ad L.length cp, .map (some (w.heap.size + 1)), .map O2] 78 (0, 0)) := by
    rw [heap_setCell_same _ B 2 _ _ _ hWm]
    rfl
  have hWb : (((((w.alloc (Obj.cells #[.int .i64 op, .int .i64 u, .int .i64 a, .int .i64 b, .int .i64 c, .int .u64 num, .string nm] 40 (0, 0))).alloc (Obj.map #[] 0)).alloc (Obj.map #[] 0)).setCell ⟨B, 2, none⟩ (.map (some (w.heap.size + 1)))).setCell ⟨B, 3, none⟩ (.map (some (w.heap.size + 1 + 1)))).heap[B]? = some (.cells #[.int .i64 lim, .slice ad L.length cp, .map (some (w.heap.size + 1)), .map (some (w.heap.size + 1 + 1))] 78 (0, 0)) := by
    rw [heap_setCell_same _ B 3 _ _ _ hWa]
    rfl
  have hold : ∀ k, k ≠ B → (((((w.alloc (Obj.cells #[.int .i64 op, .int .i64 u, .int .i64 a, .int .i64 b, .int .i64 c, .int .u64 num, .string nm] 40 (0, 0))).alloc (Obj.map #[] 0)).alloc (Obj.map #[] 0)).setCell ⟨B, 2, none⟩ (.map (some (w.heap.size + 1)))).setCell ⟨B, 3, none⟩ (.map (some (w.heap.size + 1 + 1)))).heap[k]? = (((w.alloc (Obj.cells #[.int .i64 op, .int .i64 u, .int .i64 a, .int .i64 b, .int .i64 c, .int .u64 num, .string nm] 40 (0, 0))).alloc (Obj.map #[] 0)).alloc (Obj.map #[] 0)).heap[k]? := fun k hk => (heap_setCell_other _ _ _ _ (fun e => hk (by rw [e]))).trans (heap_setCell_other _ _ _ _ (fun e => hk (by rw [e])))
  have HBX : Hid ((((((w.alloc (Obj.cells #[.int .i64 op, .int .i64 u, .int .i64 a, .int .i64 b, .int .i64 c, .int .u64 num, .string nm] 40 (0, 0))).alloc (Obj.map #[] 0)).alloc (Obj.map #[] 0)).setCell ⟨B, 2, none⟩ (.map (some (w.heap.size + 1)))).setCell ⟨B, 3, none⟩ (.map (some (w.heap.size + 1 + 1)))).heap[w.heap.size]? = some (Obj.cells #[.int .i64 op, .int .i64 u, .int .i64 a, .int .i64 b, .int .i64 c, .int .u64 num, .string nm] 40 (0, 0))) := by
    show _ = _
    rw [hold _ (by omega), Below.heap_alloc _ _ _ (by simp; omega), Below.heap_alloc _ _ _ (by simp)]
    exact heap_alloc_new w _
  have cm2 : (((w.alloc (Obj.cells #[.int .i64 op, .int .i64 u, .int .i64 a, .int .i64 b, .int .i64 c, .int .u64 num, .string nm] 40 (0, 0))).alloc (Obj.map #[] 0)).alloc (Obj.map #[] 0)).cell? ⟨B, 2, none⟩ = some (.map none) := blk_cell hWm 2
  have fm2 : (((w.alloc (Obj.cells #[.int .i64 op, .int .i64 u, .int .i64 a, .int .i64 b, .int .i64 c, .int .u64 num, .string nm] 40 (0, 0))).alloc (Obj.map #[] 0)).alloc (Obj.map #[] 0)).frozen? ⟨B, 2, none⟩ = false := by simp [World.frozen?, hWm]
  have ca3 : ((((w.alloc (Obj.cells #[.int .i64 op, .int .i64 u, .int .i64 a, .int .i64 b, .int .i64 c, .int .u64 num, .string nm] 40 (0, 0))).alloc (Obj.map #[] 0)).alloc (Obj.map #[] 0)).setCell ⟨B, 2, none⟩ (.map (some (w.heap.size + 1)))).cell? ⟨B, 3, none⟩ = some (.map O2) := blk_cell hWa 3
  have fa3 : ((((w.alloc (Obj.cells #[.int .i64 op, .int .i64 u, .int .i64 a, .int .i64 b, .int .i64 c, .int .u64 num, .string nm] 40 (0, 0))).alloc (Obj.map #[] 0)).alloc (Obj.map #[] 0)).setCell ⟨B, 2, none⟩ (.map (some (w.heap.size + 1)))).frozen? ⟨B, 3, none⟩ = false := by simp [World.frozen?, hWa]
  have hm1 : (((((w.alloc (Obj.cells #[.int .i64 op, .int .i64 u, .int .i64 a, .int .i64 b, .int .i64 c, .int .u64 num, .string nm] 40 (0, 0))).alloc (Obj.map #[] 0)).alloc (Obj.map #[] 0)).setCell ⟨B, 2, none⟩ (.map (some (w.heap.size + 1)))).setCell ⟨B, 3, none⟩ (.map (some (w.heap.size + 1 + 1)))).heap[w.heap.size + 1]? = some (Obj.map #[] 0) := by
    rw [hold _ (by omega), Below.heap_alloc _ _ _ (by simp)]
    have := heap_alloc_new (w.alloc (Obj.cells #[.int .i64 op, .int .i64 u, .int .i64 a, .int .i64 b, .int .i64 c, .int .u64 num, .string nm] 40 (0, 0))) (Obj.map #[] 0)
    simpa using this
  have hm2 : (((((w.alloc (Obj.cells #[.int .i64 op, .int .i64 u, .int .i64 a, .int .i64 b, .int .i64 c, .int .u64 num, .string nm] 40 (0, 0))).alloc (Obj.map #[] 0)).alloc (Obj.map #[] 0)).setCell ⟨B, 2, none⟩ (.map (some (w.heap.size + 1)))).setCell ⟨B, 3, none⟩ (.map (some (w.heap.size + 1 + 1)))).heap[w.heap.size + 1 + 1]? = some (Obj.map #[] 0) := by
    rw [hold _ (by omega)]
    have := heap_alloc_new ((w.alloc (Obj.cells #[.int .i64 op, .int .i64 u, .int .i64 a, .int .i64 b, .int .i64 c, .int .u64 num, .string nm] 40 (0, 0))).alloc (Obj.map #[] 0)) (Obj.map #[] 0)
    simpa using this
  have hold2 : ∀ k, k < w.heap.size → k ≠ B → (((((w.alloc (Obj.cells #[.int .i64 op, .int .i64 u, .int .i64 a, .int .i64 b, .int .i64 c, .int .u64 num, .string nm] 40 (0, 0))).alloc (Obj.map #[] 0)).alloc (Obj.map #[] 0)).setCell ⟨B, 2, none⟩ (.map (some (w.heap.size + 1)))).setCell ⟨B, 3, none⟩ (.map (some (w.heap.size + 1 + 1)))).heap[k]? = w.heap[k]? := fun k hk hkB => by
    rw [hold k hkB, Below.heap_alloc _ _ _ (by simp; omega), Below.heap_alloc _ _ _ (by simp; omega), Below.heap_alloc _ _ _ hk]
  have HX1 : Hid (SX 78 (((((w.alloc (Obj.cells #[.int .i64 op, .int .i64 u, .int .i64 a, .int .i64 b, .int .i64 c, .int .u64 num, .string nm] 40 (0, 0))).alloc (Obj.map #[] 0)).alloc (Obj.map #[] 0)).setCell ⟨B, 2, none⟩ (.map (some (w.heap.size + 1)))).setCell ⟨B, 3, none⟩ (.map (some (w.heap.size + 1 + 1)))) B0 B lim L (.slice ad L.length cp) (w.heap.size + 1) (w.heap.size + 1 + 1) (numF L) (varF L) L.length L.length) := nil_made h hWb hm1 hm2 (by omega) hold2
  have HSZ : Hid (w.heap.size ≤ (((((w.alloc (Obj.cells #[.int .i64 op, .int .i64 u, .int .i64 a, .int .i64 b, .int .i64 c, .int .u64 num, .string nm] 40 (0, 0))).alloc (Obj.map #[] 0)).alloc (Obj.map #[] 0)).setCell ⟨B, 2, none⟩ (.map (some (w.heap.size + 1)))).setCell ⟨B, 3, none⟩ (.map (some (w.heap.size + 1 + 1)))).heap.size) := by show _ ≤ _; simp; omega
  have HK1 : Hid (Kp w (((((w.alloc (Obj.cells #[.int .i64 op, .int .i64 u, .int .i64 a, .int .i64 b, .int .i64 c, .int .u64 num, .string nm] 40 (0, 0))).alloc (Obj.map #[] 0)).alloc (Obj.map #[] 0)).setCell ⟨B, 2, none⟩ (.map (some (w.heap.size + 1)))).setCell ⟨B, 3, none⟩ (.map (some (w.heap.size + 1 + 1)))) B (.slice ad L.length cp) none O2) := nil_kp rfl rfl rfl HSZ.out hold2
  have HM : Hid (∀ k, w.heap.size + 1 = k ∨ w.heap.size + 1 + 1 = k → Own B (.slice ad L.length cp) none O2 k ∨ w.heap.size ≤ k) := fun k hk => Or.inr (by omega)
  have HOB : Hid ((Value.slice ad L.length cp).ownBlock ≠ some w.heap.size) := fun e => by have := HS.out.lt (Or.inr (Or.inl e)); omega
  have hne3 : ¬ B = w.heap.size := by omega
  have db0 : (((((w.alloc (Obj.cells #[.int .i64 op, .int .i64 u, .int .i64 a, .int .i64 b, .int .i64 c, .int .u64 num, .string nm] 40 (0, 0))).alloc (Obj.map #[] 0)).alloc (Obj.map #[] 0)).setCell ⟨B, 2, none⟩ (.map (some (w.heap.size + 1)))).setCell ⟨B, 3, none⟩ (.map (some (w.heap.size + 1 + 1)))).cell? ⟨w.heap.size, 0, none⟩ = some (.int .i64 op) := blk_cell HBX.out 0
  have hmm := @run_makeMap Tryz.prog
  have qT : ∀ (w : World) (r : Option Nat), (binOp .eql 75 (.map r) (.map none)).run Tryz.prog w = .ok (.bool r.isNone) w := fun w r => run_eql_map_nil w _ _ _ r Tryz.underlying75
  clear hWm hWa hWb hold hold2 hm1 hm2 h hk
  go_enter Tryz.func57, Tryz.ntmps57
  go_wp2_with fail
  obtain ⟨W1, hW1⟩ : ∃ W1, (((((w.alloc (Obj.cells #[.int .i64 op, .int .i64 u, .int .i64 a, .int .i64 b, .int .i64 c, .int .u64 num, .string nm] 40 (0, 0))).alloc (Obj.map #[] 0)).alloc (Obj.map #[] 0)).setCell ⟨B, 2, none⟩ (.map (some (w.heap.size + 1)))).setCell ⟨B, 3, none⟩ (.map (some (w.heap.size + 1 + 1)))) = W1 := ⟨_, rfl⟩
  rw [hW1] at HBX HX1 HK1 HSZ ⊢
  clear hW1 hmm qT c2 cm2 fm2 ca3 fa3 db0
  obtain ⟨M1, hM1⟩ : ∃ M1, w.heap.size + 1 = M1 := ⟨_, rfl⟩
  obtain ⟨M2, hM2⟩ : ∃ M2, w.heap.size + 1 + 1 = M2 := ⟨_, rfl⟩
  rw [hM2, hM1] at HX1 HM ⊢
  obtain ⟨bx, hbxe⟩ : ∃ bx, w.heap.size = bx := ⟨_, rfl⟩
  have HBE : Hid (w.heap.size = bx) := hbxe
  rw [hbxe] at HBX HOB hne3 ⊢
  clear hM1 hM2 hbxe hBl
  have HR1 : Hid (W1.ownsRow B0 40 7 (.slice ad L.length cp) L.length (flat L)) := HX1.out.row
  have hlt1 : B < W1.heap.size := (Array.getElem?_eq_some_iff.1 HX1.out.blk).1
  have hlt2 : bx < W1.heap.size := (Array.getElem?_eq_some_iff.1 HBX.out).1
  have hB1 : B0 ≤ W1.heap.size := by have := HBB.out; have := HSZ.out; omega
  have hne1 : ¬ B = W1.heap.size := by omega
  have hne2 : ¬ bx = W1.heap.size := by omega
  have c1 : W1.cell? ⟨B, 1, none⟩ = some (.slice ad L.length cp) := blk_cell HX1.out.blk 1
  have c2 : W1.cell? ⟨B, 2, none⟩ = some (.map (some M1)) := blk_cell HX1.out.blk 2
  have d0 : W1.cell? ⟨bx, 0, none⟩ = some (.int .i64 op) := blk_cell HBX.out 0
  have d1 : W1.cell? ⟨bx, 1, none⟩ = some (.int .i64 u) := blk_cell HBX.out 1
  have d2 : W1.cell? ⟨bx, 2, none⟩ = some (.int .i64 a) := blk_cell HBX.out 2
  have d3 : W1.cell? ⟨bx, 3, none⟩ = some (.int .i64 b) := blk_cell HBX.out 3
  have d4 : W1.cell? ⟨bx, 4, none⟩ = some (.int .i64 c) := blk_cell HBX.out 4
  have d5 : W1.cell? ⟨bx, 5, none⟩ = some (.int .u64 num) := blk_cell HBX.out 5
  have d6 : W1.cell? ⟨bx, 6, none⟩ = some (.string nm) := blk_cell HBX.out 6
  obtain ⟨FL, hFL⟩ : ∃ FL, flat L = FL := ⟨_, rfl⟩
  have HFL : Hid (flat L = FL) := hFL
  rw [hFL] at HR1
  clear hFL
  obtain ⟨n, hn⟩ : ∃ n, L.length = n := ⟨_, rfl⟩
  have HN : Hid (L.length = n) := hn
  rw [hn] at HR1 HX1 c1 hl hc HOB
  clear hn
  go_region_law (first
    | (refine step_append_lies _ (by rfl) _ _ _ (by rfl) B0 40 i0 _ 7 64 Tryz.underlying74 hi hz0 hz1 hz2 rfl (by omega) (.slice ad n cp) n FL (by rfl) ((HR1.out.alloc _).drew) ⟨W1.heap.size, 0, none⟩ 1 1 [.int .i64 op, .int .i64 u, .int .i64 a, .int .i64 b, .int .i64 c, .int .u64 num, .string nm] (by rfl) (by rfl) (World.news_of_block (cs := #[.int .i64 op, .int .i64 u, .int .i64 a, .int .i64 b, .int .i64 c, .int .u64 num, .string nm]) (t := 40) (fr := (0, 0)) (heap_alloc_new W1 _)) (by intro u hu; simp at hu; rcases hu with rfl | rfl | rfl | rfl | rfl | rfl | rfl <;> rfl) (by omega) (by unfold maxLen; omega) (by omega) (by simp; omega) (W1.heap.size + 1) (by simp) ?_; intro g4 cap4 w4 hown4 hgrow4 hat4 hlt4; have k7 : w4.heap[B]? = some (.cells #[.int .i64 lim, .slice ad n cp, .map (some M1), .map (some M2)] 78 (0, 0)) := ((hgrow4.block B (by simp; omega) (own_ne HR1.out HX1.out.blk (by decide))).trans ((Below.heap_alloc _ _ _ (by omega)).trans HX1.out.blk)); have k8 := blk_cell k7 1; have k9 : w4.frozen? ⟨B, 1, none⟩ = false := (by simp [World.frozen?, k7]); have HK : Hid (w4.ownsRow B0 40 7 (.slice (some ⟨g4, 0, none⟩) (n + 1) cap4) (n + 1) (FL ++ [.int .i64 op, .int .i64 u, .int .i64 a, .int .i64 b, .int .i64 c, .int .u64 num, .string nm]) ∧ (W1.alloc (Obj.cells #[.int .i64 op, .int .i64 u, .int .i64 a, .int .i64 b, .int .i64 c, .int .u64 num, .string nm] 40 (0, 0))).grownBy w4 (Value.slice ad n cp).ownBlock ∧ ((Value.slice ad n cp).ownBlock = some g4 ∨ g4 = W1.heap.size + 1)) := ⟨hown4, ⟨hgrow4.os, hgrow4.tape, hgrow4.output, hgrow4.size, hgrow4.block⟩, hat4⟩; clear hown4 hgrow4 hat4 hlt4))
  all_goals go_wp2_with fail
  all_goals
    (have hX5 := HX1.out.grow (x := ⟨op, u, a, b, c, num, nm⟩) (by decide) (by rw [HN.out, HFL.out]; exact HK.out.1) HK.out.2.1
     rw [HN.out] at hX5
     have hbx4 : w4.heap[bx]? = some (Obj.cells #[.int .i64 op, .int .i64 u, .int .i64 a, .int .i64 b, .int .i64 c, .int .u64 num, .string nm] 40 (0, 0)) := (HK.out.2.1.block bx (by simp; omega) (fun e => HOB.out e.symm)).trans ((Below.heap_alloc _ _ _ hlt2).trans HBX.out)
     have hbx5 := ((gb_set w4 ⟨B, 1, none⟩ (.slice (some ⟨g4, 0, none⟩) (n + 1) cap4)).block bx (Array.getElem?_eq_some_iff.1 hbx4).1 (fun e => hne3 (by cases e; rfl))).trans hbx4
     obtain ⟨w5, hw5⟩ : ∃ w5, w4.setCell ⟨B, 1, none⟩ (.slice (some ⟨g4, 0, none⟩) (n + 1) cap4) = w5 := ⟨_, rfl⟩
     have HW5 : Hid (w4.setCell ⟨B, 1, none⟩ (.slice (some ⟨g4, 0, none⟩) (n + 1) cap4) = w5) := hw5
     rw [hw5] at hX5 hbx5 ⊢
     clear d0 d1 d2 d3 d4 d5 d6 c1 c2 hw5 hbx4
     obtain ⟨D, hm, hF⟩ := hX5.m1
     obtain ⟨w6, hrun6, hm6, hg6⟩ := hm.drew.update lawN Tryz.underlying75 (by unfold maxLen; omega) HKL.out (plainElem_int Tryz.underlying3 (wf_i (x := (n : Int) + 1) (by unfold I64; omega)))
     have d0 : w5.cell? ⟨bx, 0, none⟩ = some (.int .i64 op) := blk_cell hbx5 0
     have d1 : w5.cell? ⟨bx, 1, none⟩ = some (.int .i64 u) := blk_cell hbx5 1
     have d2 : w5.cell? ⟨bx, 2, none⟩ = some (.int .i64 a) := blk_cell hbx5 2
     have d3 : w5.cell? ⟨bx, 3, none⟩ = some (.int .i64 b) := blk_cell hbx5 3
     have d4 : w5.cell? ⟨bx, 4, none⟩ = some (.int .i64 c) := blk_cell hbx5 4
     have d5 : w5.cell? ⟨bx, 5, none⟩ = some (.int .u64 num) := blk_cell hbx5 5
     have d6 : w5.cell? ⟨bx, 6, none⟩ = some (.string nm) := blk_cell hbx5 6
     have c1 : w5.cell? ⟨B, 1, none⟩ = some (.slice (some ⟨g4, 0, none⟩) (n + 1) cap4) := blk_cell hX5.blk 1
     have c2 : w5.cell? ⟨B, 2, none⟩ = some (.map (some M1)) := blk_cell hX5.blk 2
     have hX5d : SX 78 w5.drew B0 B lim (L ++ [⟨op, u, a, b, c, num, nm⟩]) (.slice (some ⟨g4, 0, none⟩) (n + 1) cap4) M1 M2 (numF L) (varF L) n n := ⟨hX5.blk, hX5.row, hX5.m1, hX5.m2, hX5.ne⟩
     have hX6 := hX5d.put1 hm6 (hF.put (dec := ndDec) lawN node_inj HKL.out ((n : Int) + 1)) hg6
     have c16 : w6.cell? ⟨B, 1, none⟩ = some (.slice (some ⟨g4, 0, none⟩) (n + 1) cap4) := blk_cell hX6.blk 1
     have HX6 : Hid (SX 78 w6 B0 B lim (L ++ [⟨op, u, a, b, c, num, nm⟩]) (.slice (some ⟨g4, 0, none⟩) (n + 1) cap4) M1 M2 (fun y => @ite _ (y = ⟨op, u, a, b, c, num, nm⟩) (ndDec y ⟨op, u, a, b, c, num, nm⟩) (some ((n : Int) + 1)) (numF L y)) (varF L) (n + 1) n) := hX6
     have HG6 : Hid (w5.drew.grownBy w6 (some M1)) := hg6
     clear hm hm6 hg6 hF hX5 hbx5 hX5d hX6
     go_region
     all_goals go_wp2
     all_goals go_ret
     all_goals (refine ⟨ret_int (by rw [HN.out]), ?_⟩)
     all_goals
       (obtain hw5 := HW5.out
        subst hw5
        obtain hnn := HN.out
        subst hnn
        exact add_end HS.out HBB.out hl HOK.out HRF.out HPS.out HK1.out HM.out HK.out.2.1 HK.out.2.2 HG6.out HX6.out HN2.out HF2.out))
end Go.Proofs.YtkpapgfbnledpaaGreatDoor
namespace Go.Proofs.YtkpapgfbnledpaaGreatDoor
open Go.ChangeShapes Go.WideShapes Go.ChangeAt Go.RowKit Go.Lib Go.Tm Go.Bw Go.Bn Go.WideMaps Go.Maps Go.ChangeMaps

set_option maxHeartbeats 4000000 in
set_option maxRecDepth 100000 in
theorem add_nil_var (B0 B : Nat) (lim : Int) (L : List Nd) (v : Value) (O2 : Option Nat) (op u a b c num : Int) (nm : ByteArray) (w : World) (h : SM 78 w B0 B lim L v none O2) (h4 : op = 4) (hl : L.length < 1000000000000) (hB0 : B0 ≤ w.heap.size) (hk : (⟨op, u, a, b, c, num, nm⟩ : Nd).ok) (hr : rfE L ⟨op, u, a, b, c, num, nm⟩ = 0) (hp : pos ⟨op, u, a, b, c, num, nm⟩ L = none) :
    Calls Tryz.prog 57 #[.pointer (some ⟨B, 0, none⟩), .agg #[.int .i64 op, .int .i64 u, .int .i64 a, .int .i64 b, .int .i64 c, .int .u64 num, .string nm]] w fun e w' => e = .returned (.int .i64 ((L.length : Int) + 1)) ∧ AddP 78 w B0 B lim (L ++ [⟨op, u, a, b, c, num, nm⟩]) v none O2 w' := by
  obtain ⟨kl, hkl⟩ := key_node _ hk
  have HKL : Hid (keyOf Tryz.prog 40 (nodeV ⟨op, u, a, b, c, num, nm⟩) = some kl) := hkl
  have HOK : Hid (((⟨op, u, a, b, c, num, nm⟩ : Nd)).ok) := hk
  have HRF : Hid (rfE L ⟨op, u, a, b, c, num, nm⟩ = 0) := hr
  have HPS : Hid (pos ⟨op, u, a, b, c, num, nm⟩ L = none) := hp
  have HBB : Hid (B0 ≤ w.heap.size) := hB0
  clear hkl hr hp hB0
  obtain ⟨i0, hi, hz0, hz1, hz2⟩ := info_parts (P := Tryz.prog) (e := 40) (z := .agg #[.int .i64 0, .int .i64 0, .int .i64 0, .int .i64 0, .int .i64 0, .int .u64 0, .string ⟨#[]⟩]) (size := 7) (bytes := 64) (by kernel_rfl)
  obtain ⟨ad, cp, rfl, hc, -⟩ := h.form
  have HS : Hid (SM 78 w B0 B lim L (.slice ad L.length cp) none O2) := h
  have hBl : B < w.heap.size := (Array.getElem?_eq_some_iff.1 h.blk).1
  subst h4
  have HF2 : Hid (∀ y, (if y = nm then some u else varF L y) = varF (L ++ [⟨4, u, a, b, c, num, nm⟩]) y) := fun y => varF_var (n := ⟨4, u, a, b, c, num, nm⟩) rfl (rfE_nf HRF.out rfl) y
  have HN2 : Hid (L.length + 1 ≤ L.length + 1) := Nat.le_refl _
  have HCL : Hid (∀ W, Calls Tryz.prog 94 #[.string nm] W fun e w' => e = .returned (.string nm) ∧ Below W.heap.size W w') := fun W => clone_any nm W hk.name
  have HNM : Hid (nm.size ≤ 140737488355328) := hk.name
  have HU : Hid (I64 u) := hk.w
  have c2 : w.cell? ⟨B, 2, none⟩ = some (.map none) := blk_cell h.blk 2
  have hWm : (((w.alloc (Obj.cells #[.int .i64 4, .int .i64 u, .int .i64 a, .int .i64 b, .int .i64 c, .int .u64 num, .string nm] 40 (0, 0))).alloc (Obj.map #[] 0)).alloc (Obj.map #[] 0)).heap[B]? = some (.cells #[.int .i64 lim, .slice ad L.length cp, .map none, .map O2] 78 (0, 0)) := by
    rw [Below.heap_alloc _ _ _ (by simp; omega), Below.heap_alloc _ _ _ (by simp; omega), Below.heap_alloc _ _ _ hBl]
    exact h.blk
  have hWa : ((((w.alloc (Obj.cells #[.int .i64 4, .int .i64 u, .int .i64 a, .int .i64 b, .int .i64 c, .int .u64 num, .string nm] 40 (0, 0))).alloc (Obj.map #[] 0)).alloc (Obj.map #[] 0)).setCell ⟨B, 2, none⟩ (.map (some (w.heap.size + 1)))).heap[B]? = some (.cells #[.int .i64 lim, .slice ad L.length cp, .map (some (w.heap.size + 1)), .map O2] 78 (0, 0)) := by
    rw [heap_setCell_same _ B 2 _ _ _ hWm]
    rfl
  have hWb : (((((w.alloc (Obj.cells #[.int .i64 4, .int .i64 u, .int .i64 a, .int .i64 b, .int .i64 c, .int .u64 num, .string nm] 40 (0, 0))).alloc (Obj.map #[] 0)).alloc (Obj.map #[] 0)).setCell ⟨B, 2, none⟩ (.map (some (w.heap.size + 1)))).setCell ⟨B, 3, none⟩ (.map (some (w.heap.size + 1 + 1)))).heap[B]? = some (.cells #[.int .i64 lim, .slice ad L.length cp, .map (some (w.heap.size + 1)), .map (some (w.heap.size + 1 + 1))] 78 (0, 0)) := by
    rw [heap_setCell_same _ B 3 _ _ _ hWa]
    rfl
  have hold : ∀ k, k ≠ B → (((((w.alloc (Obj.cells #[.int .i64 4, .int .i64 u, .int .i64 a, .int .i64 b, .int .i64 c, .int .u64 num, .string nm] 40 (0, 0))).alloc (Obj.map #[] 0)).alloc (Obj.map #[] 0)).setCell ⟨B, 2, none⟩ (.map (some (w.heap.size + 1)))).setCell ⟨B, 3, none⟩ (.map (some (w.heap.size + 1 + 1)))).heap[k]? = (((w.alloc (Obj.cells #[.int .i64 4, .int .i64 u, .int .i64 a, .int .i64 b, .int .i64 c, .int .u64 num, .string nm] 40 (0, 0))).alloc (Obj.map #[] 0)).alloc (Obj.map #[] 0)).heap[k]? := fun k hk => (heap_setCell_other _ _ _ _ (fun e => hk (by rw [e]))).trans (heap_setCell_other _ _ _ _ (fun e => hk (by rw [e])))
  have HBX : Hid ((((((w.alloc (Obj.cells #[.int .i64 4, .int .i64 u, .int .i64 a, .int .i64 b, .int .i64 c, .int .u64 num, .string nm] 40 (0, 0))).alloc (Obj.map #[] 0)).alloc (Obj.map #[] 0)).setCell ⟨B, 2, none⟩ (.map (some (w.heap.size + 1)))).setCell ⟨B, 3, none⟩ (.map (some (w.heap.size + 1 + 1)))).heap[w.heap.size]? = some (Obj.cells #[.int .i64 4, .int .i64 u, .int .i64 a, .int .i64 b, .int .i64 c, .int .u64 num, .string nm] 40 (0, 0))) := by
    show _ = _
    rw [hold _ (by omega), Below.heap_alloc _ _ _ (by simp; omega), Below.heap_alloc _ _ _ (by simp)]
    exact heap_alloc_new w _
  have cm2 : (((w.alloc (Obj.cells #[.int .i64 4, .int .i64 u, .int .i64 a, .int .i64 b, .int .i64 c, .int .u64 num, .string nm] 40 (0, 0))).alloc (Obj.map #[] 0)).alloc (Obj.map #[] 0)).cell? ⟨B, 2, none⟩ = some (.map none) := blk_cell hWm 2
  have fm2 : (((w.alloc (Obj.cells #[.int .i64 4, .int .i64 u, .int .i64 a, .int .i64 b, .int .i64 c, .int .u64 num, .string nm] 40 (0, 0))).alloc (Obj.map #[] 0)).alloc (Obj.map #[] 0)).frozen? ⟨B, 2, none⟩ = false := by simp [World.frozen?, hWm]
  have ca3 : ((((w.alloc (Obj.cells #[.int .i64 4, .int .i64 u, .int .i64 a, .int .i64 b, .int .i64 c, .int .u64 num, .string nm] 40 (0, 0))).alloc (Obj.map #[] 0)).alloc (Obj.map #[] 0)).setCell ⟨B, 2, none⟩ (.map (some (w.heap.size + 1)))).cell? ⟨B, 3, none⟩ = some (.map O2) := blk_cell hWa 3
  have fa3 : ((((w.alloc (Obj.cells #[.int .i64 4, .int .i64 u, .int .i64 a, .int .i64 b, .int .i64 c, .int .u64 num, .string nm] 40 (0, 0))).alloc (Obj.map #[] 0)).alloc (Obj.map #[] 0)).setCell ⟨B, 2, none⟩ (.map (some (w.heap.size + 1)))).frozen? ⟨B, 3, none⟩ = false := by simp [World.frozen?, hWa]
  have hm1 : (((((w.alloc (Obj.cells #[.int .i64 4, .int .i64 u, .int .i64 a, .int .i64 b, .int .i64 c, .int .u64 num, .string nm] 40 (0, 0))).alloc (Obj.map #[] 0)).alloc (Obj.map #[] 0)).setCell ⟨B, 2, none⟩ (.map (some (w.heap.size + 1)))).setCell ⟨B, 3, none⟩ (.map (some (w.heap.size + 1 + 1)))).heap[w.heap.size + 1]? = some (Obj.map #[] 0) := by
    rw [hold _ (by omega), Below.heap_alloc _ _ _ (by simp)]
    have := heap_alloc_new (w.alloc (Obj.cells #[.int .i64 4, .int .i64 u, .int .i64 a, .int .i64 b, .int .i64 c, .int .u64 num, .string nm] 40 (0, 0))) (Obj.map #[] 0)
    simpa using this
  have hm2 : (((((w.alloc (Obj.cells #[.int .i64 4, .int .i64 u, .int .i64 a, .int .i64 b, .int .i64 c, .int .u64 num, .string nm] 40 (0, 0))).alloc (Obj.map #[] 0)).alloc (Obj.map #[] 0)).setCell ⟨B, 2, none⟩ (.map (some (w.heap.size + 1)))).setCell ⟨B, 3, none⟩ (.map (some (w.heap.size + 1 + 1)))).heap[w.heap.size + 1 + 1]? = some (Obj.map #[] 0) := by
    rw [hold _ (by omega)]
    have := heap_alloc_new ((w.alloc (Obj.cells #[.int .i64 4, .int .i64 u, .int .i64 a, .int .i64 b, .int .i64 c, .int .u64 num, .string nm] 40 (0, 0))).alloc (Obj.map #[] 0)) (Obj.map #[] 0)
    simpa using this
  have hold2 : ∀ k, k < w.heap.size → k ≠ B → (((((w.alloc (Obj.cells #[.int .i64 4, .int .i64 u, .int .i64 a, .int .i64 b, .int .i64 c, .int .u64 num, .string nm] 40 (0, 0))).alloc (Obj.map #[] 0)).alloc (Obj.map #[] 0)).setCell ⟨B, 2, none⟩ (.map (some (w.heap.size + 1)))).setCell ⟨B, 3, none⟩ (.map (some (w.heap.size + 1 + 1)))).heap[k]? = w.heap[k]? := fun k hk hkB => by
    rw [hold k hkB, Below.heap_alloc _ _ _ (by simp; omega), Below.heap_alloc _ _ _ (by simp; omega), Below.heap_alloc _ _ _ hk]
  have HX1 : Hid (SX 78 (((((w.alloc (Obj.cells #[.int .i64 4, .int .i64 u, .int .i64 a, .int .i64 b, .int .i64 c, .int .u64 num, .string nm] 40 (0, 0))).alloc (Obj.map #[] 0)).alloc (Obj.map #[] 0)).setCell ⟨B, 2, none⟩ (.map (some (w.heap.size + 1)))).setCell ⟨B, 3, none⟩ (.map (some (w.heap.size + 1 + 1)))) B0 B lim L (.slice ad L.length cp) (w.heap.size + 1) (w.heap.size + 1 + 1) (numF L) (varF L) L.length L.length) := nil_made h hWb hm1 hm2 (by omega) hold2
  have HSZ : Hid (w.heap.size ≤ (((((w.alloc (Obj.cells #[.int .i64 4, .int .i64 u, .int .i64 a, .int .i64 b, .int .i64 c, .int .u64 num, .string nm] 40 (0, 0))).alloc (Obj.map #[] 0)).alloc (Obj.map #[] 0)).setCell ⟨B, 2, none⟩ (.map (some (w.heap.size + 1)))).setCell ⟨B, 3, none⟩ (.map (some (w.heap.size + 1 + 1)))).heap.size) := by show _ ≤ _; simp; omega
  have HK1 : Hid (Kp w (((((w.alloc (Obj.cells #[.int .i64 4, .int .i64 u, .int .i64 a, .int .i64 b, .int .i64 c, .int .u64 num, .string nm] 40 (0, 0))).alloc (Obj.map #[] 0)).alloc (Obj.map #[] 0)).setCell ⟨B, 2, none⟩ (.map (some (w.heap.size + 1)))).setCell ⟨B, 3, none⟩ (.map (some (w.heap.size + 1 + 1)))) B (.slice ad L.length cp) none O2) := nil_kp rfl rfl rfl HSZ.out hold2
  have HM : Hid (∀ k, w.heap.size + 1 = k ∨ w.heap.size + 1 + 1 = k → Own B (.slice ad L.length cp) none O2 k ∨ w.heap.size ≤ k) := fun k hk => Or.inr (by omega)
  have HOB : Hid ((Value.slice ad L.length cp).ownBlock ≠ some w.heap.size) := fun e => by have := HS.out.lt (Or.inr (Or.inl e)); omega
  have hne3 : ¬ B = w.heap.size := by omega
  have db0 : (((((w.alloc (Obj.cells #[.int .i64 4, .int .i64 u, .int .i64 a, .int .i64 b, .int .i64 c, .int .u64 num, .string nm] 40 (0, 0))).alloc (Obj.map #[] 0)).alloc (Obj.map #[] 0)).setCell ⟨B, 2, none⟩ (.map (some (w.heap.size + 1)))).setCell ⟨B, 3, none⟩ (.map (some (w.heap.size + 1 + 1)))).cell? ⟨w.heap.size, 0, none⟩ = some (.int .i64 4) := blk_cell HBX.out 0
  have db6 : (((((w.alloc (Obj.cells #[.int .i64 4, .int .i64 u, .int .i64 a, .int .i64 b, .int .i64 c, .int .u64 num, .string nm] 40 (0, 0))).alloc (Obj.map #[] 0)).alloc (Obj.map #[] 0)).setCell ⟨B, 2, none⟩ (.map (some (w.heap.size + 1)))).setCell ⟨B, 3, none⟩ (.map (some (w.heap.size + 1 + 1)))).cell? ⟨w.heap.size, 6, none⟩ = some (.string nm) := blk_cell HBX.out 6
  have hmm := @run_makeMap Tryz.prog
  have qT : ∀ (w : World) (r : Option Nat), (binOp .eql 75 (.map r) (.map none)).run Tryz.prog w = .ok (.bool r.isNone) w := fun w r => run_eql_map_nil w _ _ _ r Tryz.underlying75
  clear hWm hWa hWb hold hold2 hm1 hm2 h hk
  go_enter Tryz.func57, Tryz.ntmps57
  go_wp2_with fail
  refine (HCL.out _).mono ?_
  rintro e w1 ⟨rfl, hb0⟩
  obtain ⟨W0, hW0⟩ : ∃ W0, (((((w.alloc (Obj.cells #[.int .i64 4, .int .i64 u, .int .i64 a, .int .i64 b, .int .i64 c, .int .u64 num, .string nm] 40 (0, 0))).alloc (Obj.map #[] 0)).alloc (Obj.map #[] 0)).setCell ⟨B, 2, none⟩ (.map (some (w.heap.size + 1)))).setCell ⟨B, 3, none⟩ (.map (some (w.heap.size + 1 + 1)))) = W0 := ⟨_, rfl⟩
  rw [hW0] at HBX HX1 HK1 HSZ hb0
  clear hW0 hmm qT c2 cm2 fm2 ca3 fa3 db0 db6
  obtain ⟨M1, hM1⟩ : ∃ M1, w.heap.size + 1 = M1 := ⟨_, rfl⟩
  obtain ⟨M2, hM2⟩ : ∃ M2, w.heap.size + 1 + 1 = M2 := ⟨_, rfl⟩
  rw [hM2, hM1] at HX1 HM ⊢
  have hlt0 : w.heap.size < W0.heap.size := (Array.getElem?_eq_some_iff.1 HBX.out).1
  have hbx1 : w1.heap[w.heap.size]? = some (Obj.cells #[.int .i64 4, .int .i64 u, .int .i64 a, .int .i64 b, .int .i64 c, .int .u64 num, .string nm] 40 (0, 0)) := (hb0.block _ hlt0).trans HBX.out
  have hX1 := HX1.out.kept (fun k hk => hb0.block k (HX1.out.lt hk))
  have hs1 : w.heap.size < w1.heap.size := (Array.getElem?_eq_some_iff.1 hbx1).1
  have k9 : w1.frozen? ⟨w.heap.size, 6, none⟩ = false := (by simp [World.frozen?, hbx1])
  have d0 : w1.cell? ⟨w.heap.size, 0, none⟩ = some (.int .i64 4) := blk_cell hbx1 0
  have d1 : w1.cell? ⟨w.heap.size, 1, none⟩ = some (.int .i64 u) := blk_cell hbx1 1
  have d2 : w1.cell? ⟨w.heap.size, 2, none⟩ = some (.int .i64 a) := blk_cell hbx1 2
  have d3 : w1.cell? ⟨w.heap.size, 3, none⟩ = some (.int .i64 b) := blk_cell hbx1 3
  have d4 : w1.cell? ⟨w.heap.size, 4, none⟩ = some (.int .i64 c) := blk_cell hbx1 4
  have d5 : w1.cell? ⟨w.heap.size, 5, none⟩ = some (.int .u64 num) := blk_cell hbx1 5
  have d6 : w1.cell? ⟨w.heap.size, 6, none⟩ = some (.string nm) := blk_cell hbx1 6
  have hset := gb_set w1 ⟨w.heap.size, 6, none⟩ (.string nm)
  have hbo : ∀ k, Own B (.slice ad L.length cp) (some M1) (some M2) k → some k ≠ some w.heap.size := fun k hk e => by
    injection e with e
    subst e
    rcases hk with e | e | e | e
    · exact hne3 e.symm
    · exact HOB.out e
    · injection e with e; omega
    · injection e with e; omega
  have HX2 : Hid (SX 78 (w1.setCell ⟨w.heap.size, 6, none⟩ (.string nm)) B0 B lim L (.slice ad L.length cp) M1 M2 (numF L) (varF L) L.length L.length) := hX1.kept (fun k hk => hset.block k (hX1.lt hk) (hbo k hk))
  have HK2 : Hid (Kp w (w1.setCell ⟨w.heap.size, 6, none⟩ (.string nm)) B (.slice ad L.length cp) none O2) := ⟨hset.os.trans (hb0.os.trans HK1.out.os), hset.tape.trans (hb0.tape.trans HK1.out.tape), hset.output.trans (hb0.output.trans HK1.out.output), by have := hset.size; omega, fun k hk hno => (hset.block k (by omega) (fun e => by injection e with e; dsimp only at e; omega)).trans ((hb0.block k (by omega)).trans (HK1.out.block k hk hno))⟩
  have HB2 : Hid ((w1.setCell ⟨w.heap.size, 6, none⟩ (.string nm)).heap[w.heap.size]? = some (Obj.cells #[.int .i64 4, .int .i64 u, .int .i64 a, .int .i64 b, .int .i64 c, .int .u64 num, .string nm] 40 (0, 0))) := by
    show _ = _
    rw [heap_setCell_same _ w.heap.size 6 _ _ _ hbx1]
    rfl
  clear hb0 hbx1 hX1 HX1 HK1 HBX HSZ hset hlt0
  go_wp2_with fail
  obtain ⟨W2, hW2⟩ : ∃ W2, (w1.setCell ⟨w.heap.size, 6, none⟩ (.string nm)) = W2 := ⟨_, rfl⟩
  rw [hW2] at HX2 HK2 HB2 ⊢
  clear hW2 d0 d1 d2 d3 d4 d5 d6 k9 hs1
  obtain ⟨D2, hm2, hF2⟩ := HX2.out.m2
  obtain ⟨ks, hks, -, -⟩ := hF2.2 nm HNM.out
  obtain ⟨w3, hrun3, hm3, hg3⟩ := hm2.drew.update lawS Tryz.underlying76 (by unfold maxLen; omega) hks (plainElem_int Tryz.underlying3 (wf_i HU.out))
  have d1 : W2.cell? ⟨w.heap.size, 1, none⟩ = some (.int .i64 u) := blk_cell HB2.out 1
  have d6 : W2.cell? ⟨w.heap.size, 6, none⟩ = some (.string nm) := blk_cell HB2.out 6
  have c3 : W2.cell? ⟨B, 3, none⟩ = some (.map (some M2)) := blk_cell HX2.out.blk 3
  have hlt2 : w.heap.size < W2.heap.size := (Array.getElem?_eq_some_iff.1 HB2.out).1
  have hx2 := HX2.out
  have hX2d : SX 78 W2.drew B0 B lim L (.slice ad L.length cp) M1 M2 (numF L) (varF L) L.length L.length := ⟨hx2.blk, hx2.row, hx2.m1, hx2.m2, hx2.ne⟩
  have HX1 : Hid (SX 78 w3 B0 B lim L (.slice ad L.length cp) M1 M2 (numF L) (fun y => if y = nm then some u else varF L y) L.length (L.length + 1)) := hX2d.put2 hm3 (hF2.put lawS (fun x y e => by injection e) hks u) hg3
  have HBX : Hid (w3.heap[w.heap.size]? = some (Obj.cells #[.int .i64 4, .int .i64 u, .int .i64 a, .int .i64 b, .int .i64 c, .int .u64 num, .string nm] 40 (0, 0))) := (hg3.block w.heap.size hlt2 (fun e => by injection e with e; omega)).trans HB2.out
  have HK1 : Hid (Kp w w3 B (.slice ad L.length cp) none O2) := ⟨hg3.os.trans HK2.out.os, hg3.tape.trans HK2.out.tape, hg3.output.trans HK2.out.output, Nat.le_trans HK2.out.size hg3.size, fun k hk hno => (hg3.block k (by show k < W2.heap.size; omega) (fun e => by injection e with e; omega)).trans (HK2.out.block k hk hno)⟩
  have HSZ : Hid (w.heap.size ≤ w3.heap.size) := HK1.out.size
  clear hm2 hF2 hm3 hg3 hx2 hX2d hks HX2 HK2 hbo
  go_region
  go_wp2_with fail
  obtain ⟨bx, hbxe⟩ : ∃ bx, w.heap.size = bx := ⟨_, rfl⟩
  have HBE : Hid (w.heap.size = bx) := hbxe
  rw [hbxe] at HBX HOB hne3 ⊢
  clear hM1 hM2 hbxe hBl d1 d6 c3 hrun3 HB2
  have HR1 : Hid (w3.ownsRow B0 40 7 (.slice ad L.length cp) L.length (flat L)) := HX1.out.row
  have hlt1 : B < w3.heap.size := (Array.getElem?_eq_some_iff.1 HX1.out.blk).1
  have hlt2 : bx < w3.heap.size := (Array.getElem?_eq_some_iff.1 HBX.out).1
  have hB1 : B0 ≤ w3.heap.size := by have := HBB.out; have := HSZ.out; omega
  have hne1 : ¬ B = w3.heap.size := by omega
  have hne2 : ¬ bx = w3.heap.size := by omega
  have c1 : w3.cell? ⟨B, 1, none⟩ = some (.slice ad L.length cp) := blk_cell HX1.out.blk 1
  have c2 : w3.cell? ⟨B, 2, none⟩ = some (.map (some M1)) := blk_cell HX1.out.blk 2
  have d0 : w3.cell? ⟨bx, 0, none⟩ = some (.int .i64 4) := blk_cell HBX.out 0
  have d1 : w3.cell? ⟨bx, 1, none⟩ = some (.int .i64 u) := blk_cell HBX.out 1
  have d2 : w3.cell? ⟨bx, 2, none⟩ = some (.int .i64 a) := blk_cell HBX.out 2
  have d3 : w3.cell? ⟨bx, 3, none⟩ = some (.int .i64 b) := blk_cell HBX.out 3
  have d4 : w3.cell? ⟨bx, 4, none⟩ = some (.int .i64 c) := blk_cell HBX.out 4
  have d5 : w3.cell? ⟨bx, 5, none⟩ = some (.int .u64 num) := blk_cell HBX.out 5
  have d6 : w3.cell? ⟨bx, 6, none⟩ = some (.string nm) := blk_cell HBX.out 6
  obtain ⟨FL, hFL⟩ : ∃ FL, flat L = FL := ⟨_, rfl⟩
  have HFL : Hid (flat L = FL) := hFL
  rw [hFL] at HR1
  clear hFL
  obtain ⟨n, hn⟩ : ∃ n, L.length = n := ⟨_, rfl⟩
  have HN : Hid (L.length = n) := hn
  rw [hn] at HR1 HX1 c1 hl hc HOB
  clear hn
  go_region_law (first
    | (refine step_append_lies _ (by rfl) _ _ _ (by rfl) B0 40 i0 _ 7 64 Tryz.underlying74 hi hz0 hz1 hz2 rfl (by omega) (.slice ad n cp) n FL (by rfl) ((HR1.out.alloc _).drew) ⟨w3.heap.size, 0, none⟩ 1 1 [.int .i64 4, .int .i64 u, .int .i64 a, .int .i64 b, .int .i64 c, .int .u64 num, .string nm] (by rfl) (by rfl) (World.news_of_block (cs := #[.int .i64 4, .int .i64 u, .int .i64 a, .int .i64 b, .int .i64 c, .int .u64 num, .string nm]) (t := 40) (fr := (0, 0)) (heap_alloc_new w3 _)) (by intro u hu; simp at hu; rcases hu with rfl | rfl | rfl | rfl | rfl | rfl | rfl <;> rfl) (by omega) (by unfold maxLen; omega) (by omega) (by simp; omega) (w3.heap.size + 1) (by simp) ?_; intro g4 cap4 w4 hown4 hgrow4 hat4 hlt4; have k7 : w4.heap[B]? = some (.cells #[.int .i64 lim, .slice ad n cp, .map (some M1), .map (some M2)] 78 (0, 0)) := ((hgrow4.block B (by simp; omega) (own_ne HR1.out HX1.out.blk (by decide))).trans ((Below.heap_alloc _ _ _ (by omega)).trans HX1.out.blk)); have k8 := blk_cell k7 1; have k9 : w4.frozen? ⟨B, 1, none⟩ = false := (by simp [World.frozen?, k7]); have HK : Hid (w4.ownsRow B0 40 7 (.slice (some ⟨g4, 0, none⟩) (n + 1) cap4) (n + 1) (FL ++ [.int .i64 4, .int .i64 u, .int .i64 a, .int .i64 b, .int .i64 c, .int .u64 num, .string nm]) ∧ (w3.alloc (Obj.cells #[.int .i64 4, .int .i64 u, .int .i64 a, .int .i64 b, .int .i64 c, .int .u64 num, .string nm] 40 (0, 0))).grownBy w4 (Value.slice ad n cp).ownBlock ∧ ((Value.slice ad n cp).ownBlock = some g4 ∨ g4 = w3.heap.size + 1)) := ⟨hown4, ⟨hgrow4.os, hgrow4.tape, hgrow4.output, hgrow4.size, hgrow4.block⟩, hat4⟩; clear hown4 hgrow4 hat4 hlt4))
  all_goals go_wp2_with fail
  all_goals
    (have hX5 := HX1.out.grow (x := ⟨4, u, a, b, c, num, nm⟩) (by decide) (by rw [HN.out, HFL.out]; exact HK.out.1) HK.out.2.1
     rw [HN.out] at hX5
     have hbx4 : w4.heap[bx]? = some (Obj.cells #[.int .i64 4, .int .i64 u, .int .i64 a, .int .i64 b, .int .i64 c, .int .u64 num, .string nm] 40 (0, 0)) := (HK.out.2.1.block bx (by simp; omega) (fun e => HOB.out e.symm)).trans ((Below.heap_alloc _ _ _ hlt2).trans HBX.out)
     have hbx5 := ((gb_set w4 ⟨B, 1, none⟩ (.slice (some ⟨g4, 0, none⟩) (n + 1) cap4)).block bx (Array.getElem?_eq_some_iff.1 hbx4).1 (fun e => hne3 (by cases e; rfl))).trans hbx4
     obtain ⟨w5, hw5⟩ : ∃ w5, w4.setCell ⟨B, 1, none⟩ (.slice (some ⟨g4, 0, none⟩) (n + 1) cap4) = w5 := ⟨_, rfl⟩
     have HW5 : Hid (w4.setCell ⟨B, 1, none⟩ (.slice (some ⟨g4, 0, none⟩) (n + 1) cap4) = w5) := hw5
     rw [hw5] at hX5 hbx5 ⊢
     clear d0 d1 d2 d3 d4 d5 d6 c1 c2 hw5 hbx4
     obtain ⟨D, hm, hF⟩ := hX5.m1
     obtain ⟨w6, hrun6, hm6, hg6⟩ := hm.drew.update lawN Tryz.underlying75 (by unfold maxLen; omega) HKL.out (plainElem_int Tryz.underlying3 (wf_i (x := (n : Int) + 1) (by unfold I64; omega)))
     have d0 : w5.cell? ⟨bx, 0, none⟩ = some (.int .i64 4) := blk_cell hbx5 0
     have d1 : w5.cell? ⟨bx, 1, none⟩ = some (.int .i64 u) := blk_cell hbx5 1
     have d2 : w5.cell? ⟨bx, 2, none⟩ = some (.int .i64 a) := blk_cell hbx5 2
     have d3 : w5.cell? ⟨bx, 3, none⟩ = some (.int .i64 b) := blk_cell hbx5 3
     have d4 : w5.cell? ⟨bx, 4, none⟩ = some (.int .i64 c) := blk_cell hbx5 4
     have d5 : w5.cell? ⟨bx, 5, none⟩ = some (.int .u64 num) := blk_cell hbx5 5
     have d6 : w5.cell? ⟨bx, 6, none⟩ = some (.string nm) := blk_cell hbx5 6
     have c1 : w5.cell? ⟨B, 1, none⟩ = some (.slice (some ⟨g4, 0, none⟩) (n + 1) cap4) := blk_cell hX5.blk 1
     have c2 : w5.cell? ⟨B, 2, none⟩ = some (.map (some M1)) := blk_cell hX5.blk 2
     have hX5d : SX 78 w5.drew B0 B lim (L ++ [⟨4, u, a, b, c, num, nm⟩]) (.slice (some ⟨g4, 0, none⟩) (n + 1) cap4) M1 M2 (numF L) (fun y => if y = nm then some u else varF L y) n (n + 1) := ⟨hX5.blk, hX5.row, hX5.m1, hX5.m2, hX5.ne⟩
     have hX6 := hX5d.put1 hm6 (hF.put (dec := ndDec) lawN node_inj HKL.out ((n : Int) + 1)) hg6
     have c16 : w6.cell? ⟨B, 1, none⟩ = some (.slice (some ⟨g4, 0, none⟩) (n + 1) cap4) := blk_cell hX6.blk 1
     have HX6 : Hid (SX 78 w6 B0 B lim (L ++ [⟨4, u, a, b, c, num, nm⟩]) (.slice (some ⟨g4, 0, none⟩) (n + 1) cap4) M1 M2 (fun y => @ite _ (y = ⟨4, u, a, b, c, num, nm⟩) (ndDec y ⟨4, u, a, b, c, num, nm⟩) (some ((n : Int) + 1)) (numF L y)) (fun y => if y = nm then some u else varF L y) (n + 1) (n + 1)) := hX6
     have HG6 : Hid (w5.drew.grownBy w6 (some M1)) := hg6
     clear hm hm6 hg6 hF hX5 hbx5 hX5d hX6
     go_region
     all_goals go_wp2
     all_goals go_ret
     all_goals (refine ⟨ret_int (by rw [HN.out]), ?_⟩)
     all_goals
       (obtain hw5 := HW5.out
        subst hw5
        obtain hnn := HN.out
        subst hnn
        exact add_end HS.out HBB.out hl HOK.out HRF.out HPS.out HK1.out HM.out HK.out.2.1 HK.out.2.2 HG6.out HX6.out HN2.out HF2.out))
end Go.Proofs.YtkpapgfbnledpaaGreatDoor
