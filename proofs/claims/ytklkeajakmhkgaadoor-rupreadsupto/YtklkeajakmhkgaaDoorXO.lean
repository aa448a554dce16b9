import Derived.Test.YtklkeajakmhkgaaDoorXM
namespace Go.Proofs.YtklkeajakmhkgaaDoor
open Go.ChangeShapes Go.WideShapes Go.ChangeAt Go.RowKit Go.Lib

/-- what the readers read of the program's variables -/
structure ENV (w : World) : Prop where
  sent : SENT w
  max : ∃ m : Int, w.cell? ⟨0, 0, none⟩ = some (.int .i64 m)
theorem ENV.below {w w' : World} (h : ENV w) (hb : Below w.heap.size w w') : ENV w' := by
  obtain ⟨m, hm⟩ := h.max
  exact ⟨h.sent.below hb, m, (hb.cell (p := ⟨0, 0, none⟩) (Lib.lt_of_cell hm)).trans hm⟩
/-- steps that were read, each in memory of its own -/
structure RST (w wr : World) (ps : List (Bool × List Int)) (v : Value) (q : Nat → Value) : Prop where
  row : wr.ownsRow w.heap.size 30 2 v ps.length (stC ps q ps.length)
  rq : ∀ j, j < ps.length → wr.ownsRow w.heap.size 3 1 (q j) (ps.getD j (false, [])).2.length ((ps.getD j (false, [])).2.map (Value.int .i64))
  ap : ∀ i j, i < j → j < ps.length → ∀ b, (q i).ownBlock = some b → (q j).ownBlock ≠ some b
  bel : Below w.heap.size w wr
theorem RST.nil {w wr : World} (h : Below w.heap.size w wr) : RST w wr [] (.slice none 0 0) (fun _ => .slice none 0 0) := ⟨World.ownsRow_nil _ _ _ _, fun j hj => absurd hj (Nat.not_lt_zero j), fun _ j _ hj => absurd hj (Nat.not_lt_zero j), h⟩
theorem RST.over {w wr w' : World} {ps : List (Bool × List Int)} {v : Value} {q : Nat → Value} (h : RST w wr ps v q) (hb : Below wr.heap.size wr w') : RST w w' ps v q :=
  ⟨rowO_same h.row (fun j hj => hb.block j (h.row.lt j hj).2), fun j hj => own_below (h.rq j hj) hb, h.ap, below_next h.bel hb⟩
theorem stC_more (ps : List (Bool × List Int)) (s : Bool × List Int) (q q' : Nat → Value) (h : ∀ j, j < ps.length → q' j = q j) : stC (ps ++ [s]) q' (ps ++ [s]).length = stC ps q ps.length ++ [.bool s.1, q' ps.length] := by
  have e : ∀ k, k ≤ ps.length → stC (ps ++ [s]) q' k = stC ps q k := by
    intro k
    induction k with
    | zero => intro _; rfl
    | succ k ih =>
      intro hk
      rw [stC_succ, stC_succ, ih (by omega), h k (by omega), List.getD_eq_getElem?_getD, List.getElem?_append_left (by omega), ← List.getD_eq_getElem?_getD]
  rw [List.length_append, List.length_singleton, stC_succ, e _ (Nat.le_refl _), List.getD_eq_getElem?_getD, List.getElem?_append_right (Nat.le_refl _)]
  simp
theorem own_up2 {w : World} {B B' e n : Nat} {v : Value} {L : List Value} (h : w.ownsRow B e 1 v n L) (hb : B' ≤ B) : w.ownsRow B' e 1 v n L := by
  refine ⟨h.1, ?_⟩
  rcases h.2 with h3 | ⟨b, cap, cur, e, h4, h5⟩
  · exact Or.inl h3
  · exact Or.inr ⟨b, cap, cur, e, by omega, h5⟩
/-- one step more -/
theorem RST.add {w wr w2 w6 : World} {ps : List (Bool × List Int)} {v vx v6 : Value} {q : Nat → Value} {d : Bool} {c : List Int} (h : RST w wr ps v q) (hb : Below wr.heap.size wr w2) (hx : w2.ownsRow wr.heap.size 3 1 vx c.length (c.map (Value.int .i64))) {o : Obj}
    (k1 : w6.ownsRow w.heap.size 30 2 v6 (ps.length + 1) (stC ps q ps.length ++ [.bool d, vx])) (k2 : (w2.alloc o).grownBy w6 v.ownBlock) : ∃ q', RST w w6 (ps ++ [(d, c)]) v6 q' := by
  have h2 := h.over hb
  have hz := h.bel.size
  have hz2 := hb.size
  have hk : ∀ j cs, w2.heap[j]? = some (Obj.cells cs 3 (0, 0)) → w6.heap[j]? = w2.heap[j]? := fun j cs hj => by
    have hl := (Array.getElem?_eq_some_iff.1 hj).1
    rw [k2.block j (by simp; omega) (fun e => row_ne_blk h2.row hj (by decide) e.symm)]
    exact Below.heap_alloc _ _ j hl
  have hrow : ∀ {B n : Nat} {u : Value} {L : List Value}, w2.ownsRow B 3 1 u n L → w6.ownsRow B 3 1 u n L := fun {B n u L} ho => by
    refine ⟨ho.1, ?_⟩
    rcases ho.2 with h3 | ⟨b, cap, cur, e, h4, h5, h6⟩
    · exact Or.inl h3
    · exact Or.inr ⟨b, cap, cur, e, h4, (hk b _ h5).trans h5, h6⟩
  refine ⟨fun j => if j = ps.length then vx else q j, ?_, fun j hj => ?_, fun i j hij hj b hb1 hb2 => ?_, ?_⟩
  · rw [stC_more ps (d, c) q _ (fun j hj => if_neg (by omega)), if_pos rfl, List.length_append, List.length_singleton]
    exact k1
  · rw [List.length_append, List.length_singleton] at hj
    by_cases e : j = ps.length
    · rw [if_pos e, e, List.getD_eq_getElem?_getD, List.getElem?_append_right (Nat.le_refl _)]
      simp
      exact own_up2 (hrow hx) hz
    · rw [if_neg e, List.getD_eq_getElem?_getD, List.getElem?_append_left (by omega), ← List.getD_eq_getElem?_getD]
      exact hrow (h2.rq j (by omega))
  · rw [List.length_append, List.length_singleton] at hj
    have hi : ¬ i = ps.length := by omega
    rw [if_neg hi] at hb1
    by_cases e : j = ps.length
    · rw [if_pos e] at hb2
      have h5 := ((h.rq i (by omega)).lt b hb1).2
      have h6 := (hx.lt b hb2).1
      omega
    · rw [if_neg e] at hb2
      exact h.ap i j hij (by omega) b hb1 hb2
  · refine ⟨k2.os.trans h2.bel.os, k2.tape.trans h2.bel.tape, k2.output.trans h2.bel.output, ?_, fun j hj => ?_⟩
    · have h3 := k2.size; have h4 := h2.bel.size; simp at h3; omega
    · rw [k2.block j (by simp; omega) (fun e => by have := (h2.row.lt j e.symm).1; omega)]
      exact (Below.heap_alloc _ _ j (by omega)).trans (h2.bel.block j hj)
/-- the rows that are left of a text -/
def remL (l : List UInt8) : List (List UInt8) := if l = [] then [] else sgo [] l
theorem pgo_rem (l : List UInt8) (k : Nat) (ps : List (Bool × List Int)) : pgo (sgo [] l) k ps = pgo (remL l) k ps := by
  unfold remL
  split
  · next h =>
    subst h
    have e : rowOf ([] : List UInt8) = some none := rowOf_none (by rfl)
    show pgo [[]] k ps = pgo [] k ps
    simp only [pgo, e]
  · rfl
theorem pgo_cut {l : List UInt8} (h : l ≠ []) (k : Nat) (ps : List (Bool × List Int)) : pgo (remL l) k ps = match rowOf (Lib.cut l [10]).1 with
    | none => ([], k, 3)
    | some none => pgo (remL (Lib.cut l [10]).2.1) (k + 1) ps
    | some (some st) => pgo (remL (Lib.cut l [10]).2.1) (k + 1) (ps ++ [st]) := by
  have hrest : ∀ k ps, pgo (if (Lib.cut l [10]).2.2 = true then sgo [] (Lib.cut l [10]).2.1 else []) k ps = pgo (remL (Lib.cut l [10]).2.1) k ps := fun k ps => by
    split
    · exact pgo_rem _ _ _
    · next h2 =>
      have e : (Lib.cut l [10]).2.1 = [] := by
        unfold Lib.cut at h2 ⊢
        split
        · next h3 => rw [if_pos h3] at h2; exact absurd rfl h2
        · rfl
      rw [e]
      rfl
  unfold remL
  rw [if_neg h, segs_cut, pgo]
  cases rowOf (Lib.cut l [10]).1 with
  | none => rfl
  | some o =>
    cases o with
    | none => exact hrest _ _
    | some st => exact hrest _ _
theorem cut_len {l : List UInt8} (h : l ≠ []) : (Lib.cut l [10]).1.length ≤ l.length ∧ (Lib.cut l [10]).2.1.length < l.length := by
  have hp : 0 < l.length := List.length_pos_iff.2 h
  unfold Lib.cut
  split
  · constructor
    · simp; omega
    · simp; omega
  · exact ⟨Nat.le_refl _, by simp; exact hp⟩
end Go.Proofs.YtklkeajakmhkgaaDoor
