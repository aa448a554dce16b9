import Derived.Test.YtokpjegiinggdaaDoorAdd
import Derived.Test.YtokpjegiinggdaaDoorRes
namespace Go.Proofs.YtokpjegiinggdaaDoor
open Go.ChangeShapes Go.WideShapes Go.ChangeAt Go.RowKit Go.Cn Go.WideMaps Go.Maps

theorem set_self (cur : Array Value) (j : Nat) (u : Value) (h : cur[j]? = some u) : cur.setIfInBounds j u = cur := by
  apply Array.ext_getElem?
  intro i
  rw [Array.getElem?_setIfInBounds]
  split
  · next e =>
    subst e
    rw [h]
    split
    · rfl
    · next h2 => rw [Array.getElem?_eq_none (by omega)] at h; cases h
  · rfl
/-- what is written over by itself -/
theorem below_self {w : World} {g j : Nat} {u : Value} {cur : Array Value} {e : TypeId} (hg : w.heap[g]? = some (.cells cur e (0, 0))) (hc : w.cell? ⟨g, j, none⟩ = some u) : Below w.heap.size w (w.setCell ⟨g, j, none⟩ u) := by
  refine ⟨rfl, rfl, rfl, by simp, fun k _ => ?_⟩
  by_cases hk : k = g
  · subst hk
    rw [heap_setCell_same _ k j _ _ _ hg, hg, set_self cur j u (by rw [blk_cell hg] at hc; exact hc)]
  · exact heap_setCell_other _ _ _ _ hk
theorem Gath.below {w w' : World} {B G M n : Nat} {v : Value} {ps : List (Value × Int)} {lits : Int} {over : Bool} {D : DataW Unit} (h : Gath w B G M v ps lits over n D) (hb : Below w.heap.size w w') : Gath w' B G M v ps lits over n D := by
  refine ⟨?_, row_below h.row hb, ?_, h.bg, h.bm⟩
  · rw [hb.block G (Array.getElem?_eq_some_iff.1 h.blk).1]; exact h.blk
  · have hM := h.map.lt
    obtain ⟨es, clock, h1, h2⟩ := h.map
    exact ⟨es, clock, (hb.block M hM).trans h1, h2⟩
theorem GKept.of_below {w w' : World} {G M : Nat} {v : Value} (hb : Below w.heap.size w w') : GKept w w' G M v := ⟨hb.os, hb.tape, hb.output, hb.size, fun k hk _ _ _ => hb.block k hk⟩
theorem cellsP_at : ∀ (ps : List (Value × Int)) (i : Nat) (x : Value) (p : Int), ps[i]? = some (x, p) → (cellsP ps)[i * 2]? = some x ∧ (cellsP ps)[i * 2 + 1]? = some (.int .i64 p)
  | [], i, x, p, h => by simp at h
  | q :: l, 0, x, p, h => by
    simp at h
    subst h
    exact ⟨rfl, rfl⟩
  | q :: l, i + 1, x, p, h => by
    have e : cellsP (q :: l) = q.1 :: .int .i64 q.2 :: cellsP l := rfl
    have h' : l[i]? = some (x, p) := by simpa using h
    rw [e, show (i + 1) * 2 = i * 2 + 1 + 1 by omega, show i * 2 + 1 + 1 + 1 = (i * 2 + 1) + 1 + 1 by omega]
    simp only [List.getElem?_cons_succ]
    exact cellsP_at l i x p h'
set_option maxHeartbeats 4000000 in
set_option maxRecDepth 100000 in
theorem add_old (B G M n : Nat) (v : Value) (ps : List (Value × Int)) (lits place : Int) (over : Bool) (D : DataW Unit) (ad : Option Addr) (S : List Int) (c i : Nat) (x : Value) (p0 : Int) (w : World)
    (hG : Gath w B G M v ps lits over n D) (hI : Ints w ad S) (hlit : ∀ x ∈ S, litB x = true) (hS : S.length ≤ 65536) (htab : PowT w.heap.size w)
    (hhas : has D (.string (txtL S)) = true) (hat : ∀ zd, D.atKey (.string (txtL S)) zd = .lit (.int .i64 i)) (hi : ps[i]? = some (x, p0)) (hp : p0 ≤ place) :
    Calls Tryd.prog 32 #[.pointer (some ⟨G, 0, none⟩), .slice ad S.length c, .int .i64 place] w fun e w' => e = .returned (.tuple #[]) ∧ Gath w' B G M v ps lits over n D ∧ GKept w w' G M v := by
  have hlt : (txtL S).length ≤ 22 * S.length := txtL_len S hlit
  have HA : Hid (Calls Tryd.prog 24 #[.slice none 0 0, .slice ad S.length c] w fun e w' => ∃ v, e = .returned v ∧ w'.ownsRow w.heap.size 5 1 v (txtL S).length (Lib.byteCells (txtL S)) ∧ Below w.heap.size w w') :=
    appendLits_any w.heap.size (.slice none 0 0) [] ad S c w (World.ownsRow_nil _ _ _ _) (Nat.le_refl _) htab (fun W hW => hI.below hW) hlit (by simp; omega)
  have HG : Hid (Gath w B G M v ps lits over n D) := hG
  have HH : Hid (has D (.string (txtL S)) = true ∧ ∀ zd, D.atKey (.string (txtL S)) zd = .lit (.int .i64 i)) := ⟨hhas, hat⟩
  have hil : i < ps.length := by
    rcases Nat.lt_or_ge i ps.length with h | h
    · exact h
    · rw [List.getElem?_eq_none h] at hi; cases hi
  clear hG hI hlit htab hhas hat
  go_enter Tryd.func32, Tryd.ntmps32
  go_wp2_with fail
  refine HA.out.mono ?_
  rintro e w1 ⟨v1, rfl, hown1, hb1⟩
  have hcv := conv_text hown1
  have hG1 : G < w.heap.size := (Array.getElem?_eq_some_iff.1 HG.out.blk).1
  have hM1 : M < w.heap.size := HG.out.map.lt
  have hblk1 : w1.heap[G]? = some (.cells #[v, .map (some M), .int .i64 lits, .bool over] 71 (0, 0)) := (hb1.block G hG1).trans HG.out.blk
  have c0 : w1.cell? ⟨G, 0, none⟩ = some v := blk_cell hblk1 0
  have c1 : w1.cell? ⟨G, 1, none⟩ = some (.map (some M)) := blk_cell hblk1 1
  have hmap1 : w1.ownsMap Tryd.prog 9 (plainElem Tryd.prog 3) M n D := by
    obtain ⟨es, clock, h1, h2⟩ := HG.out.map
    exact ⟨es, clock, (hb1.block M hM1).trans h1, h2⟩
  have hkey : keyOf Tryd.prog 9 (.string ⟨(txtL S).toArray⟩) = some (.string (txtL S)) := by
    have h := keyOf_string_mk (P := Tryd.prog) (s := ⟨(txtL S).toArray⟩) Tryd.underlying9 (by show (txtL S).toArray.size ≤ maxLen; unfold maxLen; simp; omega)
    simpa using h
  obtain ⟨vv, pss, hrun, hR⟩ := hmap1.look_ok lawT Tryd.underlying69 (zeroT w1) (plainElem_int Tryd.underlying3 (by decide)) hkey
  rw [HH.out.2] at hR
  obtain ⟨cc, rfl, ecc, -⟩ := plainElem_int_inv Tryd.underlying3 hR
  rw [HH.out.1] at hrun
  have hcc : cc = (i : Int) := by have := ecc.symm; simp at this; exact this.1
  subst hcc
  obtain ⟨g, capv, rfl⟩ : ∃ g capv, v = .slice (some ⟨g, 0, none⟩) ps.length capv := by
    rcases HG.out.row.2 with ⟨e, h0⟩ | ⟨g, cap, cur, e, _⟩
    · omega
    · exact ⟨_, _, e⟩
  have hrow1 : w1.ownsRow B 89 2 (.slice (some ⟨g, 0, none⟩) ps.length capv) ps.length (cellsP ps) := row_below HG.out.row hb1
  have HX : Hid (w1.ownsMap Tryd.prog 9 (plainElem Tryd.prog 3) M n D ∧ Below w.heap.size w w1 ∧ w1.heap[G]? = some (.cells #[.slice (some ⟨g, 0, none⟩) ps.length capv, .map (some M), .int .i64 lits, .bool over] 71 (0, 0)) ∧ w1.ownsRow B 89 2 (.slice (some ⟨g, 0, none⟩) ps.length capv) ps.length (cellsP ps)) := ⟨hmap1, hb1, hblk1, hrow1⟩
  clear hkey hmap1 hR hown1 hb1 hblk1 ecc
  generalize (⟨(txtL S).toArray⟩ : ByteArray) = tx at *
  have q1 : (i : Int) < (ps.length : Int) := by omega
  have cp : w1.cell? ⟨g, i * 2 + 1, none⟩ = some (.int .i64 p0) := by rw [hrow1.cellAt (i * 2 + 1) (by omega)]; exact (cellsP_at ps i x p0 hi).2
  have fp : w1.frozen? ⟨g, i * 2 + 1, none⟩ = false := by
    rcases hrow1.2 with ⟨e, _⟩ | ⟨g', cap', cur, e, _, hg, _⟩
    · cases e
    · cases e; exact blk_frozen hg _
  clear hrow1
  go_wp2
  go_region
  have hmin : min p0 place = p0 := by omega
  rw [hmin]
  go_wp2
  refine bodyPost_ret (results_none rfl _ _ _) rfl ?_
  obtain ⟨cur, hcur⟩ : ∃ cur, w1.heap[g]? = some (.cells cur 89 (0, 0)) := by
    rcases HX.out.2.2.2.2 with ⟨e, _⟩ | ⟨g', cap', cur, e, _, hg, _⟩
    · cases e
    · cases e; exact ⟨cur, hg⟩
  have hb2 : Below w.heap.size w (w1.setCell ⟨g, i * 2 + 1, none⟩ (.int .i64 p0)).drew := (below_next HX.out.2.1 (below_self hcur cp)).drew
  exact ⟨rfl, HG.out.below hb2, GKept.of_below hb2⟩
end Go.Proofs.YtokpjegiinggdaaDoor
