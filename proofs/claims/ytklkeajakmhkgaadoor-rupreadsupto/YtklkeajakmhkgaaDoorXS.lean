import Derived.Test.YtklkeajakmhkgaaDoorXP
namespace Go.Proofs.YtklkeajakmhkgaaDoor
open Go.ChangeShapes Go.WideShapes Go.ChangeAt Go.RowKit Go.Lib

theorem rows_stp {B : Nat} {wr : World} {ps : List (Bool × List Int)} {v : Value} {q : Nat → Value} (hrow : wr.ownsRow B 30 2 v ps.length (stC ps q ps.length)) (hrq : ∀ j, j < ps.length → wr.ownsRow B 3 1 (q j) (ps.getD j (false, [])).2.length ((ps.getD j (false, [])).2.map (Value.int .i64))) : ∃ aM cM, v = .slice aM ps.length cM ∧ Stp wr aM ps := by
  obtain ⟨aM, cM, e, hb⟩ := rowO_form hrow
  refine ⟨aM, cM, e, fun h0 => ?_⟩
  obtain ⟨b, rfl, hlt⟩ := hb h0
  refine ⟨b, 0, rfl, hlt, fun j hj => ?_⟩
  obtain ⟨aj, cj, ej, hj2⟩ := rowO_form (hrq j hj)
  have hr := hrow
  rw [e] at hr
  have hg := stC_get ps q ps.length j hj
  refine ⟨aj, cj, ?_, ?_, fun hp => ?_⟩
  · rw [Nat.zero_add, hr.cellAt (j * 2) (by omega)]
    exact hg.1
  · rw [Nat.zero_add, hr.cellAt (j * 2 + 1) (by omega), ← ej]
    exact hg.2
  · obtain ⟨b2, e2, h5⟩ := hj2 hp
    have h6 := hrq j hj
    rw [ej, e2] at h6
    refine ⟨b2, 0, e2, h5, fun i hi => ?_⟩
    rw [Nat.zero_add, h6.cellAt i (by omega), List.getElem?_map, List.getElem?_eq_getElem hi, getD_of _ _ _ hi]
    rfl
theorem RST.stp {w wr : World} {ps : List (Bool × List Int)} {v : Value} {q : Nat → Value} (h : RST w wr ps v q) : ∃ aM cM, v = .slice aM ps.length cM ∧ Stp wr aM ps := rows_stp h.row h.rq
/-- steps that are written over and grown, beside others that stand: w1 behind the first reading, w3 behind the last -/
structure AST (w w1 w3 wr : World) (ps : List (Bool × List Int)) (v : Value) (q : Nat → Value) (L : Nat → List Value) : Prop where
  row : wr.ownsRow w.heap.size 30 2 v ps.length (stC ps q ps.length)
  rq : ∀ j, j < ps.length → wr.ownsRow w.heap.size 3 1 (q j) (L j).length (L j)
  ap : ∀ i j, i < j → j < ps.length → ∀ b, (q i).ownBlock = some b → (q j).ownBlock ≠ some b
  out : ∀ j, j < ps.length → ∀ b, (q j).ownBlock = some b → b < w1.heap.size ∨ w3.heap.size ≤ b
  vout : ∀ b, v.ownBlock = some b → b < w1.heap.size
  size : w3.heap.size ≤ wr.heap.size
  kept : ∀ k, w1.heap.size ≤ k → k < w3.heap.size → wr.heap[k]? = w3.heap[k]?
  bel : Below w.heap.size w wr
theorem AST.start {w w1 w3 : World} {ps : List (Bool × List Int)} {v : Value} {q : Nat → Value} (h : RST w w1 ps v q) (hb : Below w1.heap.size w1 w3) : AST w w1 w3 w3 ps v q (fun j => (ps.getD j (false, [])).2.map (Value.int .i64)) := by
  have h2 := h.over hb
  refine ⟨h2.row, fun j hj => ?_, h.ap, fun j hj b hb => Or.inl ((h.rq j hj).lt b hb).2, fun b hb => (h.row.lt b hb).2, Nat.le_refl _, fun _ _ _ => rfl, h2.bel⟩
  have h3 := h2.rq j hj
  rw [List.length_map]
  exact h3
theorem AST.dn {w w1 w3 wr : World} {ps : List (Bool × List Int)} {v : Value} {q : Nat → Value} {L : Nat → List Value} (h : AST w w1 w3 wr ps v q L) (m : Nat) : AST w w1 w3 (wr.drewN m) ps v q L :=
  ⟨h.row, h.rq, h.ap, h.out, h.vout, h.size, h.kept, ⟨h.bel.os, h.bel.tape, h.bel.output, h.bel.size, h.bel.block⟩⟩
theorem AST.apart {w w1 w3 wr : World} {ps : List (Bool × List Int)} {v : Value} {q : Nat → Value} {L : Nat → List Value} (h : AST w w1 w3 wr ps v q L) {i j : Nat} (hi : i < ps.length) (hj : j < ps.length) (hne : i ≠ j) {b : Nat} (hb : (q i).ownBlock = some b) : (q j).ownBlock ≠ some b := by
  rcases Nat.lt_or_gt_of_ne hne with h1 | h1
  · exact h.ap i j h1 hj b hb
  · exact fun e => h.ap j i h1 hi b e hb
/-- one number written over -/
theorem AST.set {w w1 w3 wr : World} {ps : List (Bool × List Int)} {v : Value} {q : Nat → Value} {L : Nat → List Value} (h : AST w w1 w3 wr ps v q L) {j : Nat} (hj : j < ps.length) {b c : Nat} (hq : q j = .slice (some ⟨b, 0, none⟩) (L j).length c) {i : Nat} (hi : i < (L j).length) (u : Value) :
    (∃ z, wr.cell? ⟨b, i, none⟩ = some z) ∧ wr.frozen? ⟨b, i, none⟩ = false ∧ AST w w1 w3 (wr.setCell ⟨b, i, none⟩ u) ps v q (fun x => if x = j then (L j).set i u else L x) := by
  have r := h.rq j hj
  rw [hq] at r
  have hb : ∃ cur, wr.heap[b]? = some (.cells cur 3 (0, 0)) := by
    rcases r.2 with ⟨e, _⟩ | ⟨b', cap, cur, e, _, hb, _⟩
    · cases e
    · cases e; exact ⟨cur, hb⟩
  obtain ⟨cur, hb⟩ := hb
  have hqb : (q j).ownBlock = some b := by rw [hq]; rfl
  have hB : w.heap.size ≤ b := (h.rq j hj).lt b hqb |>.1
  have hoth : ∀ x, x ≠ b → (wr.setCell ⟨b, i, none⟩ u).heap[x]? = wr.heap[x]? := fun x hx => heap_setCell_other _ _ _ _ (fun e => hx e)
  refine ⟨?_, by simp [World.frozen?, hb], ⟨rowO_same h.row (fun k hk => hoth k (fun e => row_ne_blk h.row hb (by decide) (e ▸ hk))), fun x hx => ?_, h.ap, h.out, h.vout, by simpa using h.size, fun k h1 h2 => ?_, ?_⟩⟩
  · rw [r.cellAt i (by omega), List.getElem?_eq_getElem hi]
    exact ⟨_, rfl⟩
  · by_cases e : x = j
    · rw [if_pos e, e, hq, List.length_set]
      exact (r.stored i u).1
    · rw [if_neg e]
      exact rowO_same (h.rq x hx) (fun k hk => hoth k (fun e2 => h.apart hj hx (fun e3 => e e3.symm) hqb (e2 ▸ hk)))
  · refine (hoth k (fun e => ?_)).trans (h.kept k h1 h2)
    rcases h.out j hj b hqb with h3 | h3 <;> omega
  · exact ⟨h.bel.os, h.bel.tape, h.bel.output, by simpa using h.bel.size, fun k hk => (hoth k (by omega)).trans (h.bel.block k hk)⟩
theorem stC_set (ps : List (Bool × List Int)) (q : Nat → Value) (j : Nat) (u : Value) : ∀ k, j < k → (stC ps q k).set (j * 2 + 1) u = stC ps (fun x => if x = j then u else q x) k
  | 0, h => absurd h (Nat.not_lt_zero j)
  | k + 1, h => by
    rw [stC_succ, stC_succ]
    by_cases e : j < k
    · rw [List.set_append_left _ _ (by rw [stC_len]; omega), stC_set ps q j u k e, if_neg (by omega)]
    · obtain rfl : j = k := by omega
      rw [List.set_append_right _ _ (by rw [stC_len]; omega), stC_len, if_pos rfl, stC_congr ps q (fun x => if x = j then u else q x) j (fun x hx => (if_neg (by omega)).symm)]
      have e2 : j * 2 + 1 - j * 2 = 1 := by omega
      rw [e2]
      rfl
/-- a clause grown, and laid back -/
theorem AST.grow {w w1 w3 wr w5 : World} {ps : List (Bool × List Int)} {q : Nat → Value} {L : Nat → List Value} {bv cv : Nat} (h : AST w w1 w3 wr ps (.slice (some ⟨bv, 0, none⟩) ps.length cv) q L) {j : Nat} (hj : j < ps.length) {g5 cap5 n : Nat} (hn : (L j).length = n) {u : Value} {o : Obj}
    (hr : w5.ownsRow w.heap.size 3 1 (.slice (some ⟨g5, 0, none⟩) (n + 1) cap5) (n + 1) (L j ++ [u])) (hgr : (wr.alloc o).grownBy w5 (q j).ownBlock) (hat : (q j).ownBlock = some g5 ∨ g5 = wr.heap.size + 1) :
    w5.cell? ⟨bv, j * 2 + 1, none⟩ = some (q j) ∧ w5.frozen? ⟨bv, j * 2 + 1, none⟩ = false ∧
    AST w w1 w3 (w5.setCell ⟨bv, j * 2 + 1, none⟩ (.slice (some ⟨g5, 0, none⟩) (n + 1) cap5)) ps (.slice (some ⟨bv, 0, none⟩) ps.length cv) (fun x => if x = j then .slice (some ⟨g5, 0, none⟩) (n + 1) cap5 else q x) (fun x => if x = j then L j ++ [u] else L x) := by
  subst hn
  have hk : ∀ x, x < wr.heap.size → some x ≠ (q j).ownBlock → w5.heap[x]? = wr.heap[x]? := fun x hx hne => (hgr.block x (by simp; omega) hne).trans (Below.heap_alloc _ _ x hx)
  have hvb : ∃ cur, wr.heap[bv]? = some (.cells cur 30 (0, 0)) := by
    rcases h.row.2 with ⟨e, _⟩ | ⟨b', cap, cur, e, _, hb, _⟩
    · cases e
    · cases e; exact ⟨cur, hb⟩
  obtain ⟨cur, hvb⟩ := hvb
  have hbl : bv < wr.heap.size := (Array.getElem?_eq_some_iff.1 hvb).1
  have hqv : ∀ x, x < ps.length → (q x).ownBlock ≠ some bv := fun x hx => row_ne_blk (h.rq x hx) hvb (by decide)
  have hv5 : w5.heap[bv]? = wr.heap[bv]? := hk bv hbl (fun e => hqv j hj e.symm)
  have hg5 : g5 ≠ bv := fun e => by
    rcases hat with h1 | h1
    · exact hqv j hj (by rw [h1, e])
    · omega
  have hrow5 : w5.ownsRow w.heap.size 30 2 (.slice (some ⟨bv, 0, none⟩) ps.length cv) ps.length (stC ps q ps.length) := rowO_same h.row (fun k hk2 => by
    have e : bv = k := by simpa [Value.ownBlock] using hk2
    rw [← e]; exact hv5)
  have hBv : w.heap.size ≤ bv := (h.row.lt bv rfl).1
  have hsz := hgr.size
  simp at hsz
  have hsz2 := h.size
  have hsz3 := h.bel.size
  have hoth : ∀ (U : Value) (x : Nat), x ≠ bv → (w5.setCell ⟨bv, j * 2 + 1, none⟩ U).heap[x]? = w5.heap[x]? := fun U x hx => heap_setCell_other _ _ _ _ (fun e => hx e)
  refine ⟨?_, by simp [World.frozen?, hv5, hvb], ⟨?_, fun x hx => ?_, fun x y hxy hy b hb1 hb2 => ?_, fun x hx b hb => ?_, h.vout, by simp; omega, fun k h1 h2 => ?_, ?_⟩⟩
  · rw [hrow5.cellAt (j * 2 + 1) (by omega)]
    exact (stC_get ps q ps.length j hj).2
  · rw [← stC_set ps q j _ ps.length hj]
    exact (hrow5.stored (j * 2 + 1) _).1
  · by_cases e : x = j
    · rw [if_pos e, if_pos e, List.length_append, List.length_singleton]
      exact rowO_same hr (fun k hk2 => hoth _ k (fun e2 => by
        have e3 : g5 = k := by simpa [Value.ownBlock] using hk2
        omega))
    · rw [if_neg e, if_neg e]
      refine rowO_same (h.rq x hx) (fun k hk2 => (hoth _ k (fun e2 => hqv x hx (e2 ▸ hk2))).trans (hk k ((h.rq x hx).lt k hk2).2 (fun e2 => h.apart hx hj e hk2 e2.symm)))
  · by_cases e : x = j
    · rw [if_pos e] at hb1
      rw [if_neg (by omega)] at hb2
      have e3 : g5 = b := by simpa [Value.ownBlock] using hb1
      rcases hat with h1 | h1
      · exact h.apart hj hy (by omega) (e3 ▸ h1) hb2
      · have := ((h.rq y hy).lt b hb2).2
        omega
    · rw [if_neg e] at hb1
      by_cases e2 : y = j
      · rw [if_pos e2] at hb2
        have e3 : g5 = b := by simpa [Value.ownBlock] using hb2
        rcases hat with h1 | h1
        · exact h.apart (by omega) hj e hb1 (e3 ▸ h1)
        · have := ((h.rq x (by omega)).lt b hb1).2
          omega
      · rw [if_neg e2] at hb2
        exact h.ap x y hxy hy b hb1 hb2
  · by_cases e : x = j
    · rw [if_pos e] at hb
      have e3 : g5 = b := by simpa [Value.ownBlock] using hb
      rcases hat with h1 | h1
      · exact h.out j hj b (e3 ▸ h1)
      · right; omega
    · rw [if_neg e] at hb
      exact h.out x hx b hb
  · refine (hoth _ k (fun e => ?_)).trans ((hk k (by omega) (fun e => ?_)).trans (h.kept k h1 h2))
    · have := h.vout bv rfl
      omega
    · rcases h.out j hj k e.symm with h3 | h3 <;> omega
  · refine ⟨hgr.os.trans h.bel.os, hgr.tape.trans h.bel.tape, hgr.output.trans h.bel.output, by simp; omega, fun k hk2 => ?_⟩
    refine (hoth _ k (by omega)).trans ((hk k (by omega) (fun e => ?_)).trans (h.bel.block k hk2))
    have := ((h.rq j hj).lt k e.symm).1
    omega
/-- what stands beside, stands -/
theorem AST.beside {w w1 w3 wr : World} {ps : List (Bool × List Int)} {v : Value} {q : Nat → Value} {L : Nat → List Value} (h : AST w w1 w3 wr ps v q L) {wx : World} {ps2 : List (Bool × List Int)} {v2 : Value} {q2 : Nat → Value} (h2 : RST wx w3 ps2 v2 q2) (hx : w1.heap.size ≤ wx.heap.size) : ∃ aM cM, v2 = .slice aM ps2.length cM ∧ Stp wr aM ps2 := by
  have hrow := rowO_same (w' := wr) h2.row (fun k hk => h.kept k (Nat.le_trans hx (h2.row.lt k hk).1) (h2.row.lt k hk).2)
  have hrq : ∀ j, j < ps2.length → wr.ownsRow wx.heap.size 3 1 (q2 j) (ps2.getD j (false, [])).2.length ((ps2.getD j (false, [])).2.map (Value.int .i64)) := fun j hj => rowO_same (h2.rq j hj) (fun k hk => h.kept k (Nat.le_trans hx ((h2.rq j hj).lt k hk).1) ((h2.rq j hj).lt k hk).2)
  exact rows_stp hrow hrq
abbrev ln (ps : List (Bool × List Int)) (j : Nat) : Nat := (ps.getD j (false, [])).2.length
def Hd7 (l : List Value) : Prop := l[0]? = some (.int .i64 7777777)
theorem AST.at {w w1 w3 wr : World} {ps : List (Bool × List Int)} {a1 : Option Addr} {c1 : Nat} {q : Nat → Value} {L : Nat → List Value} (h : AST w w1 w3 wr ps (.slice a1 ps.length c1) q L) {i : Nat} (hi : i < ps.length) : ∃ bv ad c, a1 = some ⟨bv, 0, none⟩ ∧ wr.cell? ⟨bv, i * 2 + 1, none⟩ = some (q i) ∧ q i = .slice ad (L i).length c ∧ (0 < (L i).length → ∃ b, ad = some ⟨b, 0, none⟩) := by
  obtain ⟨aM, cM, e, hb⟩ := rowO_form h.row
  cases e
  obtain ⟨bv, rfl, hlt⟩ := hb (by omega)
  obtain ⟨ad, c, e2, hb2⟩ := rowO_form (h.rq i hi)
  refine ⟨bv, ad, c, rfl, ?_, e2, fun h0 => ?_⟩
  · rw [h.row.cellAt (i * 2 + 1) (by omega)]
    exact (stC_get ps q ps.length i hi).2
  · obtain ⟨b, e3, _⟩ := hb2 h0
    exact ⟨b, e3⟩
/-- the first writing, behind i clauses and k numbers -/
def IV1 (w w1 w3 : World) (ps : List (Bool × List Int)) (a1 : Option Addr) (c1 : Nat) (wr : World) (i k : Nat) : Prop :=
  ∃ q L, AST w w1 w3 wr ps (.slice a1 ps.length c1) q L ∧ (∀ j, j < ps.length → (L j).length = ln ps j) ∧ (∀ j, j < i → 0 < ln ps j → Hd7 (L j)) ∧ (0 < k → Hd7 (L i))
/-- the second writing, behind i clauses and k numbers -/
def IV2 (w w1 w3 : World) (ps : List (Bool × List Int)) (a1 : Option Addr) (c1 : Nat) (wr : World) (i k : Nat) : Prop :=
  ∃ q L, AST w w1 w3 wr ps (.slice a1 ps.length c1) q L ∧ (∀ j, j < i → (L j).length = ln ps j + 16) ∧ (i < ps.length → (L i).length = ln ps i + k) ∧ (∀ j, i < j → j < ps.length → (L j).length = ln ps j) ∧ (∀ j, j < ps.length → 0 < ln ps j → Hd7 (L j))
theorem IV1.dn {w w1 w3 : World} {ps : List (Bool × List Int)} {a1 : Option Addr} {c1 : Nat} {wr : World} {i k : Nat} (h : IV1 w w1 w3 ps a1 c1 wr i k) (m : Nat) : IV1 w w1 w3 ps a1 c1 (wr.drewN m) i k := by
  obtain ⟨q, L, h1, h2⟩ := h
  exact ⟨q, L, h1.dn m, h2⟩
theorem IV2.dn {w w1 w3 : World} {ps : List (Bool × List Int)} {a1 : Option Addr} {c1 : Nat} {wr : World} {i k : Nat} (h : IV2 w w1 w3 ps a1 c1 wr i k) (m : Nat) : IV2 w w1 w3 ps a1 c1 (wr.drewN m) i k := by
  obtain ⟨q, L, h1, h2⟩ := h
  exact ⟨q, L, h1.dn m, h2⟩
theorem IV1.next {w w1 w3 : World} {ps : List (Bool × List Int)} {a1 : Option Addr} {c1 : Nat} {wr : World} {i : Nat} (h : IV1 w w1 w3 ps a1 c1 wr i (ln ps i)) : IV1 w w1 w3 ps a1 c1 wr (i + 1) 0 := by
  obtain ⟨q, L, h1, h2, h3, h4⟩ := h
  refine ⟨q, L, h1, h2, fun j hj h0 => ?_, fun h => absurd h (Nat.lt_irrefl 0)⟩
  by_cases e : j = i
  · subst e; exact h4 h0
  · exact h3 j (by omega) h0
theorem IV1.turn {w w1 w3 : World} {ps : List (Bool × List Int)} {a1 : Option Addr} {c1 : Nat} {wr : World} {k : Nat} (h : IV1 w w1 w3 ps a1 c1 wr ps.length k) : IV2 w w1 w3 ps a1 c1 wr 0 0 := by
  obtain ⟨q, L, h1, h2, h3, _⟩ := h
  exact ⟨q, L, h1, fun j hj => absurd hj (Nat.not_lt_zero j), fun h => h2 0 h, fun j _ hj => h2 j hj, h3⟩
theorem IV2.next {w w1 w3 : World} {ps : List (Bool × List Int)} {a1 : Option Addr} {c1 : Nat} {wr : World} {i : Nat} (hi : i < ps.length) (h : IV2 w w1 w3 ps a1 c1 wr i 16) : IV2 w w1 w3 ps a1 c1 wr (i + 1) 0 := by
  obtain ⟨q, L, h1, h2, h3, h4, h5⟩ := h
  refine ⟨q, L, h1, fun j hj => ?_, fun hj => h4 (i + 1) (by omega) hj, fun j hj hj2 => h4 j (by omega) hj2, h5⟩
  by_cases e : j = i
  · subst e; exact h3 hi
  · exact h2 j (by omega)
theorem IV1.cell {w w1 w3 : World} {ps : List (Bool × List Int)} {a1 : Option Addr} {c1 : Nat} {wr : World} {i k : Nat} (h : IV1 w w1 w3 ps a1 c1 wr i k) (hi : i < ps.length) : ∃ bv ad c, a1 = some ⟨bv, 0, none⟩ ∧ wr.cell? ⟨bv, i * 2 + 1, none⟩ = some (.slice ad (ln ps i) c) ∧
    (k < ln ps i → ∃ b, ad = some ⟨b, 0, none⟩ ∧ (∃ z, wr.cell? ⟨b, k, none⟩ = some z) ∧ wr.frozen? ⟨b, k, none⟩ = false ∧ IV1 w w1 w3 ps a1 c1 (wr.setCell ⟨b, k, none⟩ (.int .i64 7777777)) i (k + 1)) := by
  obtain ⟨q, L, h1, h2, h3, h4⟩ := h
  obtain ⟨bv, ad, c, e1, e2, e3, e4⟩ := h1.at hi
  have e5 := h2 i hi
  refine ⟨bv, ad, c, e1, by rw [e2, e3, e5], fun hk => ?_⟩
  obtain ⟨b, rfl⟩ := e4 (by omega)
  obtain ⟨f1, f2, f3⟩ := h1.set hi e3 (i := k) (by omega) (.int .i64 7777777)
  refine ⟨b, rfl, f1, f2, q, _, f3, fun j hj => ?_, fun j hj h0 => ?_, fun _ => ?_⟩
  · by_cases e : j = i
    · rw [if_pos e, List.length_set, e]; exact e5
    · rw [if_neg e]; exact h2 j hj
  · rw [if_neg (by omega)]
    exact h3 j hj h0
  · rw [if_pos rfl]
    unfold Hd7
    by_cases e : k = 0
    · rw [e, List.getElem?_set_self (by omega)]
    · rw [List.getElem?_set_ne e]
      exact h4 (by omega)
theorem IV2.cell {w w1 w3 : World} {ps : List (Bool × List Int)} {a1 : Option Addr} {c1 : Nat} {wr : World} {i k : Nat} (h : IV2 w w1 w3 ps a1 c1 wr i k) (hi : i < ps.length) : ∃ bv ad c Li, a1 = some ⟨bv, 0, none⟩ ∧ wr.cell? ⟨bv, i * 2 + 1, none⟩ = some (.slice ad (ln ps i + k) c) ∧ wr.ownsRow w.heap.size 3 1 (.slice ad (ln ps i + k) c) (ln ps i + k) Li ∧ w.heap.size ≤ wr.heap.size ∧
    ∀ (w5 : World) (g5 cap5 : Nat) (o : Obj), w5.ownsRow w.heap.size 3 1 (.slice (some ⟨g5, 0, none⟩) (ln ps i + k + 1) cap5) (ln ps i + k + 1) (Li ++ [.int .i64 8888888]) → (wr.alloc o).grownBy w5 (Value.slice ad (ln ps i + k) c).ownBlock → ((Value.slice ad (ln ps i + k) c).ownBlock = some g5 ∨ g5 = wr.heap.size + 1) →
      (∃ z, w5.cell? ⟨bv, i * 2 + 1, none⟩ = some z) ∧ w5.frozen? ⟨bv, i * 2 + 1, none⟩ = false ∧ IV2 w w1 w3 ps a1 c1 (w5.setCell ⟨bv, i * 2 + 1, none⟩ (.slice (some ⟨g5, 0, none⟩) (ln ps i + k + 1) cap5)) i (k + 1) := by
  obtain ⟨q, L, h1, h2, h3, h4, h5⟩ := h
  obtain ⟨bv, ad, c, rfl, e2, e3, e4⟩ := h1.at hi
  have e5 := h3 hi
  have hr := h1.rq i hi
  rw [e3, e5] at hr
  refine ⟨bv, ad, c, L i, rfl, by rw [e2, e3, e5], hr, h1.bel.size, fun w5 g5 cap5 o k1 k2 k3 => ?_⟩
  have e6 : (q i).ownBlock = (Value.slice ad (ln ps i + k) c).ownBlock := by rw [e3, e5]
  obtain ⟨f1, f2, f3⟩ := h1.grow hi e5 k1 (e6 ▸ k2) (e6 ▸ k3)
  refine ⟨⟨_, f1⟩, f2, _, _, f3, fun j hj => ?_, fun _ => ?_, fun j hj hj2 => ?_, fun j hj h0 => ?_⟩
  · rw [if_neg (by omega)]; exact h2 j hj
  · rw [if_pos rfl, List.length_append, List.length_singleton, e5]; omega
  · rw [if_neg (by omega)]; exact h4 j hj hj2
  · by_cases e : j = i
    · rw [if_pos e]
      subst e
      have h6 := h5 j hj h0
      unfold Hd7 at h6 ⊢
      rw [List.getElem?_append_left (by omega)]
      exact h6
    · rw [if_neg e]; exact h5 j hj h0
theorem IV2.look {w w1 w3 : World} {ps : List (Bool × List Int)} {a1 : Option Addr} {c1 : Nat} {wr : World} {k : Nat} (h : IV2 w w1 w3 ps a1 c1 wr ps.length k) {i : Nat} (hi : i < ps.length) : ∃ bv ad c, a1 = some ⟨bv, 0, none⟩ ∧ wr.cell? ⟨bv, i * 2 + 1, none⟩ = some (.slice ad (ln ps i + 16) c) ∧ ∃ b, ad = some ⟨b, 0, none⟩ ∧ (0 < ln ps i → wr.cell? ⟨b, 0, none⟩ = some (.int .i64 7777777)) := by
  obtain ⟨q, L, h1, h2, h3, h4, h5⟩ := h
  obtain ⟨bv, ad, c, rfl, e2, e3, e4⟩ := h1.at hi
  have e5 := h2 i hi
  obtain ⟨b, rfl⟩ := e4 (by omega)
  refine ⟨bv, _, c, rfl, by rw [e2, e3, e5], b, rfl, fun h0 => ?_⟩
  have hr := h1.rq i hi
  rw [e3] at hr
  rw [hr.cellAt 0 (by omega)]
  exact h5 i hi h0
end Go.Proofs.YtklkeajakmhkgaaDoor
