import Derived.Test.YtokpjegiinggdaaDoorElim2
namespace Go.Proofs.YtokpjegiinggdaaDoor
open Go.ChangeShapes Go.WideShapes Go.ChangeAt Go.RowKit Go.Cn Go.WideMaps Go.Maps

theorem cellsP_set : ∀ (ps : List (Value × Int)) (i : Nat) (x : Value) (p0 p : Int), ps[i]? = some (x, p0) → (cellsP ps).set (i * 2 + 1) (.int .i64 p) = cellsP (ps.set i (x, p))
  | [], i, x, p0, p, h => by simp at h
  | q :: l, 0, x, p0, p, h => by
    simp at h
    subst h
    rfl
  | q :: l, i + 1, x, p0, p, h => by
    have e : cellsP (q :: l) = q.1 :: .int .i64 q.2 :: cellsP l := rfl
    have h' : l[i]? = some (x, p0) := by simpa using h
    rw [e, show (i + 1) * 2 + 1 = (i * 2 + 1) + 1 + 1 by omega]
    simp only [List.set_cons_succ]
    rw [cellsP_set l i x p0 p h']
    rfl
/-- an element of a row of two cells is turned -/
theorem row_set {w : World} {B t g cap n j : Nat} {L : List Value} (u : Value) (h : w.ownsRow B t 2 (.slice (some ⟨g, 0, none⟩) n cap) n L) : (w.setCell ⟨g, j, none⟩ u).ownsRow B t 2 (.slice (some ⟨g, 0, none⟩) n cap) n (L.set j u) := by
  rcases h.2 with ⟨e, _⟩ | ⟨g', cap', cur, e, hB, hg, h1, h2, h3, h4⟩
  · cases e
  · cases e
    refine ⟨by rw [List.length_set]; exact h.1, Or.inr ⟨g, cap, cur.setIfInBounds j u, rfl, hB, heap_setCell_same _ _ _ _ _ _ hg, h1, h2, by simpa using h3, ?_⟩⟩
    rw [← h4, ← List.take_set, Array.toList_setIfInBounds]
set_option maxHeartbeats 4000000 in
set_option maxRecDepth 100000 in
theorem add_min (B G M n : Nat) (v : Value) (ps : List (Value × Int)) (lits : Int) (place p0 : Nat) (over : Bool) (D : DataW Unit) (ad : Option Addr) (S : List Int) (c i : Nat) (x : Value) (w : World)
    (hG : Gath w B G M v ps lits over n D) (hI : Ints w ad S) (hlit : ∀ x ∈ S, litB x = true) (hS : S.length ≤ 65536) (htab : PowT w.heap.size w)
    (hhas : has D (.string (txtL S)) = true) (hat : ∀ zd, D.atKey (.string (txtL S)) zd = .lit (.int .i64 i)) (hi : ps[i]? = some (x, (p0 : Int))) :
    Calls Tryd.prog 32 #[.pointer (some ⟨G, 0, none⟩), .slice ad S.length c, .int .i64 place] w fun e w' => e = .returned (.tuple #[]) ∧ Gath w' B G M v (ps.set i (x, ((min p0 place : Nat) : Int))) lits over n D ∧ GKept w w' G M v := by
  have hlt : (txtL S).length ≤ 22 * S.length := txtL_len S hlit
  have HA : Hid (Calls Tryd.prog 24 #[.slice none 0 0, .slice ad S.length c] w fun e w' => ∃ v, e = .returned v ∧ w'.ownsRow w.heap.size 5 1 v (txtL S).length (Lib.byteCells (txtL S)) ∧ Below w.heap.size w w') :=
    appendLits_any w.heap.size (.slice none 0 0) [] ad S c w (World.ownsRow_nil _ _ _ _) (Nat.le_refl _) htab (fun W hW => hI.below hW) hlit (by simp; omega)
  have HG : Hid (Gath w B G M v ps lits over n D) := hG
  have HH : Hid (has D (.string (txtL S)) = true ∧ ∀ zd, D.atKey (.string (txtL S)) zd = .lit (.int .i64 i)) := ⟨hhas, hat⟩
  have hil : i < ps.length := by
    rcases Nat.lt_or_ge i ps.length with h | h
    · exact h
    · rw [List.getElem?_eq_none h] at hi; cases hi
  have HSet : Hid ((cellsP ps).set (i * 2 + 1) (.int .i64 ((min p0 place : Nat) : Int)) = cellsP (ps.set i (x, ((min p0 place : Nat) : Int)))) := cellsP_set ps i x p0 _ hi
  clear hG hI hlit htab hhas hat
  go_enter Tryd.func32, Tryd.ntmps32
  go_wp2_with fail
  refine HA.out.mono ?_
  rintro e w1 ⟨v1, rfl, hown1, hb1⟩
  have hcv := conv_text hown1
  have hG1 : G < w.heap.size := (Array.getElem?_eq_some_iff.1 HG.out.blk).1
  have hM1 : M < w.heap.size := HG.out.map.lt
  have hblk1 : w1.heap[G]? = some (.cells #[v, .map (some M), .int .i64 lits, .bool over] 71 (0, 0)) := (hb1.block G hG1).trans HG.out.blk
  have c0 : w1.cell? ⟨G, 0, none⟩ = some v := blk_cell hblk1 0
  have c1 : w1.cell? ⟨G, 1, none⟩ = some (.map (some M)) := blk_cell hblk1 1
  have hmap1 : w1.ownsMap Tryd.prog 9 (plainElem Tryd.prog 3) M n D := by
    obtain ⟨es, clock, h1, h2⟩ := HG.out.map
    exact ⟨es, clock, (hb1.block M hM1).trans h1, h2⟩
  have hkey : keyOf Tryd.prog 9 (.string ⟨(txtL S).toArray⟩) = some (.string (txtL S)) := by
    have h := keyOf_string_mk (P := Tryd.prog) (s := ⟨(txtL S).toArray⟩) Tryd.underlying9 (by show (txtL S).toArray.size ≤ maxLen; unfold maxLen; simp; omega)
    simpa using h
  obtain ⟨vv, pss, hrun, hR⟩ := hmap1.look_ok lawT Tryd.underlying69 (zeroT w1) (plainElem_int Tryd.underlying3 (by decide)) hkey
  rw [HH.out.2] at hR
  obtain ⟨cc, rfl, ecc, -⟩ := plainElem_int_inv Tryd.underlying3 hR
  rw [HH.out.1] at hrun
  have hcc : cc = (i : Int) := by have := ecc.symm; simp at this; exact this.1
  subst hcc
  obtain ⟨g, capv, rfl⟩ : ∃ g capv, v = .slice (some ⟨g, 0, none⟩) ps.length capv := by
    rcases HG.out.row.2 with ⟨e, h0⟩ | ⟨g, cap, cur, e, _⟩
    · omega
    · exact ⟨_, _, e⟩
  have hrow1 : w1.ownsRow B 89 2 (.slice (some ⟨g, 0, none⟩) ps.length capv) ps.length (cellsP ps) := row_below HG.out.row hb1
  have HX : Hid (w1.ownsMap Tryd.prog 9 (plainElem Tryd.prog 3) M n D ∧ Below w.heap.size w w1 ∧ w1.heap[G]? = some (.cells #[.slice (some ⟨g, 0, none⟩) ps.length capv, .map (some M), .int .i64 lits, .bool over] 71 (0, 0)) ∧ w1.ownsRow B 89 2 (.slice (some ⟨g, 0, none⟩) ps.length capv) ps.length (cellsP ps)) := ⟨hmap1, hb1, hblk1, hrow1⟩
  clear hkey hmap1 hR hown1 hb1 hblk1 ecc
  generalize (⟨(txtL S).toArray⟩ : ByteArray) = tx at *
  have q1 : (i : Int) < (ps.length : Int) := by omega
  have cp : w1.cell? ⟨g, i * 2 + 1, none⟩ = some (.int .i64 p0) := by rw [hrow1.cellAt (i * 2 + 1) (by omega)]; exact (cellsP_at ps i x p0 hi).2
  have fp : w1.frozen? ⟨g, i * 2 + 1, none⟩ = false := by
    rcases hrow1.2 with ⟨e, _⟩ | ⟨g', cap', cur, e, _, hg, _⟩
    · cases e
    · cases e; exact blk_frozen hg _
  clear hrow1
  go_wp2
  go_region
  have hmin : min (p0 : Int) (place : Int) = ((min p0 place : Nat) : Int) := by omega
  rw [hmin]
  go_wp2
  refine bodyPost_ret (results_none rfl _ _ _) rfl ?_
  have hGg : G ≠ g := fun e2 => row_ne_blk HX.out.2.2.2 HX.out.2.2.1 (by decide) (by rw [e2]; rfl)
  have hMg : M ≠ g := fun e2 => row_ne_map HX.out.2.2.2 HX.out.1 (by rw [e2]; rfl)
  have hb1 := HX.out.2.1
  refine ⟨rfl, ⟨?_, ?_, ?_, HG.out.bg, HG.out.bm⟩, ⟨hb1.os, hb1.tape, hb1.output, ?_, fun k hk h1 h2 h3 => ?_⟩⟩
  · show (w1.setCell ⟨g, i * 2 + 1, none⟩ _).heap[G]? = _
    rw [heap_setCell_other _ _ G _ hGg]
    exact HX.out.2.2.1
  · have hr := row_set (j := i * 2 + 1) (.int .i64 ((min p0 place : Nat) : Int)) HX.out.2.2.2
    rw [HSet.out] at hr
    simp only [List.length_set]
    exact hr
  · have := World.ownsMap.kept HX.out.1 (gb_set w1 ⟨g, i * 2 + 1, none⟩ (.int .i64 ((min p0 place : Nat) : Int))) (fun e => hMg (by cases e; rfl))
    exact this
  · have := hb1.size
    simp
    exact this
  · show (w1.setCell ⟨g, i * 2 + 1, none⟩ _).heap[k]? = _
    rw [heap_setCell_other _ _ k _ (fun e => h3 (by rw [e]; rfl))]
    exact hb1.block k hk
set_option maxHeartbeats 4000000 in
set_option maxRecDepth 100000 in
theorem add_full (B G M n : Nat) (v : Value) (ps : List (Value × Int)) (lits place : Int) (over : Bool) (D : DataW Unit) (ad : Option Addr) (S : List Int) (c : Nat) (w : World)
    (hG : Gath w B G M v ps lits over n D) (hI : Ints w ad S) (hlit : ∀ x ∈ S, litB x = true) (hS : S.length ≤ 65536) (htab : PowT w.heap.size w)
    (hhas : has D (.string (txtL S)) = false) (hl0 : 0 ≤ lits) (hl1 : lits ≤ 4194304) (hps : ps.length ≤ 1048576) (hfull : ps.length = 1048576 ∨ 4194304 < lits + S.length) :
    Calls Tryd.prog 32 #[.pointer (some ⟨G, 0, none⟩), .slice ad S.length c, .int .i64 place] w fun e w' => e = .returned (.tuple #[]) ∧ Gath w' B G M v ps lits true n D ∧ GKept w w' G M v := by
  have hlt : (txtL S).length ≤ 22 * S.length := txtL_len S hlit
  have HA : Hid (Calls Tryd.prog 24 #[.slice none 0 0, .slice ad S.length c] w fun e w' => ∃ v, e = .returned v ∧ w'.ownsRow w.heap.size 5 1 v (txtL S).length (Lib.byteCells (txtL S)) ∧ Below w.heap.size w w') :=
    appendLits_any w.heap.size (.slice none 0 0) [] ad S c w (World.ownsRow_nil _ _ _ _) (Nat.le_refl _) htab (fun W hW => hI.below hW) hlit (by simp; omega)
  have HG : Hid (Gath w B G M v ps lits over n D) := hG
  have HH : Hid (has D (.string (txtL S)) = false) := hhas
  clear hG hI hlit htab hhas
  go_enter Tryd.func32, Tryd.ntmps32
  go_wp2_with fail
  refine HA.out.mono ?_
  rintro e w1 ⟨v1, rfl, hown1, hb1⟩
  have hcv := conv_text hown1
  have hG1 : G < w.heap.size := (Array.getElem?_eq_some_iff.1 HG.out.blk).1
  have hM1 : M < w.heap.size := HG.out.map.lt
  have hblk1 : w1.heap[G]? = some (.cells #[v, .map (some M), .int .i64 lits, .bool over] 71 (0, 0)) := (hb1.block G hG1).trans HG.out.blk
  have c0 : w1.cell? ⟨G, 0, none⟩ = some v := blk_cell hblk1 0
  have c1 : w1.cell? ⟨G, 1, none⟩ = some (.map (some M)) := blk_cell hblk1 1
  have c2 : w1.cell? ⟨G, 2, none⟩ = some (.int .i64 lits) := blk_cell hblk1 2
  have c3 : w1.cell? ⟨G, 3, none⟩ = some (.bool over) := blk_cell hblk1 3
  have f3 : w1.frozen? ⟨G, 3, none⟩ = false := blk_frozen hblk1 3
  have hmap1 : w1.ownsMap Tryd.prog 9 (plainElem Tryd.prog 3) M n D := by
    obtain ⟨es, clock, h1, h2⟩ := HG.out.map
    exact ⟨es, clock, (hb1.block M hM1).trans h1, h2⟩
  have hkey : keyOf Tryd.prog 9 (.string ⟨(txtL S).toArray⟩) = some (.string (txtL S)) := by
    have h := keyOf_string_mk (P := Tryd.prog) (s := ⟨(txtL S).toArray⟩) Tryd.underlying9 (by show (txtL S).toArray.size ≤ maxLen; unfold maxLen; simp; omega)
    simpa using h
  obtain ⟨vv, pss, hrun, hR⟩ := hmap1.look_ok lawT Tryd.underlying69 (zeroT w1) (plainElem_int Tryd.underlying3 (by decide)) hkey
  obtain ⟨cc, rfl, -, -⟩ := plainElem_int_inv Tryd.underlying3 hR
  rw [HH.out] at hrun
  obtain ⟨adv, capv, hv⟩ : ∃ adv capv, v = .slice adv ps.length capv := by
    rcases HG.out.row.2 with ⟨e, h0⟩ | ⟨g, cap, cur, e, _⟩
    · exact ⟨none, 0, by rw [e, h0]⟩
    · exact ⟨_, _, e⟩
  subst hv
  have HX : Hid (w1.ownsMap Tryd.prog 9 (plainElem Tryd.prog 3) M n D ∧ Below w.heap.size w w1 ∧ w1.heap[G]? = some (.cells #[.slice adv ps.length capv, .map (some M), .int .i64 lits, .bool over] 71 (0, 0))) := ⟨hmap1, hb1, hblk1⟩
  clear hkey hmap1 hR hown1 hb1 hblk1
  generalize (⟨(txtL S).toArray⟩ : ByteArray) = tx at *
  have fin : ∀ W, W = w1.setCell ⟨G, 3, none⟩ (.bool true) ∨ W = (w1.drew).setCell ⟨G, 3, none⟩ (.bool true) → Gath W B G M (.slice adv ps.length capv) ps lits true n D ∧ GKept w W G M (.slice adv ps.length capv) := by
    intro W hW
    have hh : W.heap = (w1.setCell ⟨G, 3, none⟩ (.bool true)).heap ∧ W.os = w1.os ∧ W.tape = w1.tape ∧ W.output = w1.output := by
      rcases hW with rfl | rfl
      · exact ⟨rfl, rfl, rfl, rfl⟩
      · exact ⟨rfl, rfl, rfl, rfl⟩
    have hr1 : w1.ownsRow B 89 2 (.slice adv ps.length capv) ps.length (cellsP ps) := row_below HG.out.row HX.out.2.1
    have hne := row_ne_blk hr1 HX.out.2.2 (by decide)
    have hGM : G ≠ M := by
      intro e
      obtain ⟨es, clock, hb, _⟩ := HX.out.1
      rw [← e, HX.out.2.2] at hb
      cases hb
    have g0 : (w1.setCell ⟨G, 3, none⟩ (.bool true)).grownBy W none := ⟨hh.2.1, hh.2.2.1, hh.2.2.2, by rw [hh.1]; exact Nat.le_refl _, fun k _ _ => by rw [hh.1]⟩
    refine ⟨⟨?_, ?_, ?_, HG.out.bg, HG.out.bm⟩, ⟨hh.2.1.trans HX.out.2.1.os, hh.2.2.1.trans HX.out.2.1.tape, hh.2.2.2.trans HX.out.2.1.output, ?_, fun k hk h1 h2 h3 => ?_⟩⟩
    · rw [hh.1, heap_setCell_same _ G 3 _ _ _ HX.out.2.2]
      rfl
    · exact World.ownsRow.kept (World.ownsRow.kept hr1 (gb_set w1 ⟨G, 3, none⟩ (.bool true)) (Or.inr hne)) g0 (Classical.em _)
    · exact World.ownsMap.kept (World.ownsMap.kept HX.out.1 (gb_set w1 ⟨G, 3, none⟩ (.bool true)) (fun e => hGM (by cases e; rfl))) g0 (fun e => by cases e)
    · rw [hh.1]
      have := HX.out.2.1.size
      simp
      exact this
    · rw [hh.1, heap_setCell_other _ _ k _ h1]
      exact HX.out.2.1.block k hk
  have Fin : Hid (∀ W, W = w1.setCell ⟨G, 3, none⟩ (.bool true) ∨ W = (w1.drew).setCell ⟨G, 3, none⟩ (.bool true) → Gath W B G M (.slice adv ps.length capv) ps lits true n D ∧ GKept w W G M (.slice adv ps.length capv)) := fin
  clear fin
  by_cases h0 : ps.length = 1048576
  · have hne : ((ps.length : Int) == 1048576) = true := by simp; omega
    go_wp2
    refine bodyPost_ret (results_none rfl _ _ _) rfl ?_
    first | exact ⟨rfl, Fin.out _ (Or.inl rfl)⟩ | exact ⟨rfl, Fin.out _ (Or.inr rfl)⟩
  · have hne : ((ps.length : Int) == 1048576) = false := by simp; omega
    have hgt : decide ((S.length : Int) > 4194304 - lits) = true := by simp; omega
    go_wp2
    refine bodyPost_ret (results_none rfl _ _ _) rfl ?_
    first | exact ⟨rfl, Fin.out _ (Or.inl rfl)⟩ | exact ⟨rfl, Fin.out _ (Or.inr rfl)⟩
end Go.Proofs.YtokpjegiinggdaaDoor
