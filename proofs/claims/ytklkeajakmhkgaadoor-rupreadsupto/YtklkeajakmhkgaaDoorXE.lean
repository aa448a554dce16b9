import Derived.Test.YtklkeajakmhkgaaDoorXD
namespace Go.Proofs.YtklkeajakmhkgaaDoor
open Go.ChangeShapes Go.WideShapes Go.ChangeAt Go.RowKit Go.Lib

theorem blk_cell {w : World} {G : Nat} {cs : Array Value} {e : TypeId} (h : w.heap[G]? = some (.cells cs e (0, 0))) (j : Nat) : w.cell? ⟨G, j, none⟩ = cs[j]? := by
  simp [World.cell?, h]
theorem row_ne_blk {w : World} {B e size n G : Nat} {v : Value} {L : List Value} {cs : Array Value} {t : TypeId} {fr : Nat × Nat} (h : w.ownsRow B e size v n L) (hb : w.heap[G]? = some (.cells cs t fr)) (hne : e ≠ t) : v.ownBlock ≠ some G := by
  intro e1
  rcases h.2 with ⟨h0, _⟩ | ⟨g, cap, cur, h0, _, hg, _⟩
  · rw [h0] at e1; cases e1
  · rw [h0] at e1
    have e2 : g = G := by simpa [Value.ownBlock] using e1
    rw [← e2, hg] at hb
    cases hb
    exact hne rfl
theorem rowO_same {w w' : World} {base e size n : Nat} {v : Value} {L : List Value} (h : w.ownsRow base e size v n L) (hk : ∀ k, v.ownBlock = some k → w'.heap[k]? = w.heap[k]?) : w'.ownsRow base e size v n L := by
  refine ⟨h.1, ?_⟩
  rcases h.2 with h3 | ⟨b, cap, cur, e, h4, h5, h6⟩
  · exact Or.inl h3
  · exact Or.inr ⟨b, cap, cur, e, h4, (hk b (by rw [e]; rfl)).trans h5, h6⟩
theorem rowO_form {w : World} {base e size n : Nat} {v : Value} {L : List Value} (h : w.ownsRow base e size v n L) : ∃ ad c, v = .slice ad n c ∧ (0 < n → ∃ b, ad = some ⟨b, 0, none⟩ ∧ b < w.heap.size) := by
  rcases h.2 with ⟨e, h0⟩ | ⟨b, cap, cur, e, _, hb, hc, _⟩
  · exact ⟨none, 0, by rw [e, h0], fun h => by omega⟩
  · exact ⟨_, cap, e, fun _ => ⟨b, rfl, (Array.getElem?_eq_some_iff.1 hb).1⟩⟩
/-- a clause that was copied: in new memory -/
def CQ (w : World) (B : Nat) (v : Value) (c : List Int) : Prop :=
  ∃ ad cp, v = .slice ad c.length cp ∧ (0 < c.length → ∃ b cs, ad = some ⟨b, 0, none⟩ ∧ B ≤ b ∧ w.heap[b]? = some (.cells cs 3 (0, 0)) ∧ ∀ j, j < c.length → w.cell? ⟨b, 0 + j, none⟩ = some (.int .i64 (c.getD j 0)))
theorem CQ.kept {w w' : World} {B : Nat} {v : Value} {c : List Int} (h : CQ w B v c) (hk : ∀ k, B ≤ k → (∃ cs, w.heap[k]? = some (.cells cs 3 (0, 0))) → w'.heap[k]? = w.heap[k]?) : CQ w' B v c := by
  obtain ⟨ad, cp, h1, h2⟩ := h
  refine ⟨ad, cp, h1, fun h0 => ?_⟩
  obtain ⟨b, cs, h3, h4, h5, h6⟩ := h2 h0
  have h7 := hk b h4 ⟨cs, h5⟩
  exact ⟨b, cs, h3, h4, h7.trans h5, fun j hj => (World.cell?_of_block h7).trans (h6 j hj)⟩
theorem CQ_own {w : World} {B b k cap : Nat} {xs : List Int} (h : w.ownsRow 0 3 1 (.slice (some ⟨b, 0, none⟩) k cap) k (xs.map (Value.int .i64))) (hO : B ≤ b) (hk : xs.length = k) : CQ w B (.slice (some ⟨b, 0, none⟩) k cap) xs := by
  refine ⟨_, cap, by rw [hk], fun _ => ?_⟩
  have h1 := h
  rcases h.2 with ⟨e, _⟩ | ⟨g', cap', cur, e, _, hb, _⟩
  · cases e
  · cases e
    refine ⟨b, cur, rfl, hO, hb, fun j hj => ?_⟩
    rw [Nat.zero_add, h1.cellAt j (by omega), List.getElem?_map, List.getElem?_eq_getElem hj, getD_of _ _ _ hj]
    rfl
def stC (ps : List (Bool × List Int)) (q : Nat → Value) (k : Nat) : List Value := (List.range k).flatMap fun j => [.bool (ps.getD j (false, [])).1, q j]
theorem stC_succ (ps : List (Bool × List Int)) (q : Nat → Value) (k : Nat) : stC ps q (k + 1) = stC ps q k ++ [.bool (ps.getD k (false, [])).1, q k] := by
  unfold stC
  rw [List.range_succ, List.flatMap_append]
  rfl
theorem stC_congr (ps : List (Bool × List Int)) (q q' : Nat → Value) (k : Nat) (h : ∀ j, j < k → q j = q' j) : stC ps q k = stC ps q' k := by
  induction k with
  | zero => rfl
  | succ k ih => rw [stC_succ, stC_succ, ih (fun j hj => h j (by omega)), h k (by omega)]
theorem stC_len (ps : List (Bool × List Int)) (q : Nat → Value) (k : Nat) : (stC ps q k).length = k * 2 := by
  induction k with
  | zero => rfl
  | succ k ih => rw [stC_succ, List.length_append, ih]; simp; omega
theorem stC_get (ps : List (Bool × List Int)) (q : Nat → Value) : ∀ (k j : Nat), j < k → (stC ps q k)[j * 2]? = some (.bool (ps.getD j (false, [])).1) ∧ (stC ps q k)[j * 2 + 1]? = some (q j)
  | 0, j, h => absurd h (Nat.not_lt_zero j)
  | k + 1, j, h => by
    rw [stC_succ]
    by_cases e : j < k
    · have := stC_get ps q k j e
      rw [List.getElem?_append_left (by rw [stC_len]; omega), List.getElem?_append_left (by rw [stC_len]; omega)]
      exact this
    · obtain rfl : j = k := by omega
      rw [List.getElem?_append_right (by rw [stC_len]; omega), List.getElem?_append_right (by rw [stC_len]; omega), stC_len]
      simp
/-- the copy on its way -/
structure SST (w wr : World) (ps : List (Bool × List Int)) (k : Nat) (v : Value) (q : Nat → Value) : Prop where
  row : wr.ownsRow w.heap.size 30 2 v k (stC ps q k)
  rq : ∀ j, j < k → CQ wr w.heap.size (q j) (ps.getD j (false, [])).2
  below : Below w.heap.size w wr
theorem SST.kept {w wr w' : World} {ps : List (Bool × List Int)} {k : Nat} {v : Value} {q : Nat → Value} (h : SST w wr ps k v q) (hs : wr.heap.size ≤ w'.heap.size) (hk : ∀ j, j < wr.heap.size → w'.heap[j]? = wr.heap[j]?) (ho : w'.os = wr.os ∧ w'.tape = wr.tape ∧ w'.output = wr.output) : SST w w' ps k v q := by
  have hz := h.below.size
  refine ⟨rowO_same h.row (fun j hj => hk j (h.row.lt j hj).2), fun j hj => (h.rq j hj).kept (fun i _ hc => by
    obtain ⟨cs, hc⟩ := hc
    exact hk i (Array.getElem?_eq_some_iff.1 hc).1), ⟨ho.1.trans h.below.os, ho.2.1.trans h.below.tape, ho.2.2.trans h.below.output, Nat.le_trans h.below.size hs, fun j hj => (hk j (by omega)).trans (h.below.block j hj)⟩⟩
/-- behind both appends -/
theorem SST.add {w wr w4 w6 : World} {ps : List (Bool × List Int)} {k : Nat} {v : Value} {q : Nat → Value} (h : SST w wr ps k v q)
    (hs4 : wr.heap.size ≤ w4.heap.size) (hk4 : ∀ j, j < wr.heap.size → w4.heap[j]? = wr.heap[j]?) (ho4 : w4.os = wr.os ∧ w4.tape = wr.tape ∧ w4.output = wr.output) {vx v6 : Value} (hq : CQ w4 w.heap.size vx (ps.getD k (false, [])).2)
    (k1 : w6.ownsRow w.heap.size 30 2 v6 (k + 1) (stC ps q k ++ [.bool (ps.getD k (false, [])).1, vx])) (k2 : (w4.alloc (.cells #[.bool (ps.getD k (false, [])).1, vx] 30)).grownBy w6 v.ownBlock) : ∃ q', SST w w6 ps (k + 1) v6 q' := by
  have h4 := h.kept hs4 hk4 ho4
  have ha := h4.kept (w' := w4.alloc (.cells #[.bool (ps.getD k (false, [])).1, vx] 30)) (by simp) (fun j hj => Below.heap_alloc _ _ j hj) ⟨rfl, rfl, rfl⟩
  have hqa : CQ (w4.alloc (.cells #[.bool (ps.getD k (false, [])).1, vx] 30)) w.heap.size vx (ps.getD k (false, [])).2 := hq.kept (fun j _ hc => by
    obtain ⟨o, hc⟩ := hc
    exact Below.heap_alloc _ _ j (Array.getElem?_eq_some_iff.1 hc).1)
  have hcq : ∀ {u : Value} {c : List Int}, CQ (w4.alloc (.cells #[.bool (ps.getD k (false, [])).1, vx] 30)) w.heap.size u c → CQ w6 w.heap.size u c := fun hq => hq.kept (fun i _ hc => by
    obtain ⟨cs, hc⟩ := hc
    exact k2.block i (Array.getElem?_eq_some_iff.1 hc).1 (fun e => row_ne_blk ha.row hc (by decide) e.symm))
  refine ⟨fun j => if j = k then vx else q j, ?_, fun j hj => ?_, ?_⟩
  · rw [stC_succ, if_pos rfl, stC_congr ps _ q k (fun j hj => if_neg (by omega))]
    exact k1
  · by_cases e : j = k
    · rw [if_pos e, e]
      exact hcq hqa
    · rw [if_neg e]
      exact hcq (ha.rq j (by omega))
  · have hz := ha.below.size
    exact ⟨k2.os.trans ha.below.os, k2.tape.trans ha.below.tape, k2.output.trans ha.below.output, Nat.le_trans ha.below.size k2.size, fun j hj => (k2.block j (by omega) (fun e => by have := (ha.row.lt j e.symm).1; omega)).trans (ha.below.block j hj)⟩
theorem SST.stp {w wr : World} {ps : List (Bool × List Int)} {v : Value} {q : Nat → Value} (h : SST w wr ps ps.length v q) : ∃ aM cM, v = .slice aM ps.length cM ∧ Stp wr aM ps := by
  obtain ⟨aM, cM, e, hb⟩ := rowO_form h.row
  refine ⟨aM, cM, e, fun h0 => ?_⟩
  obtain ⟨b, rfl, hlt⟩ := hb h0
  refine ⟨b, 0, rfl, hlt, fun j hj => ?_⟩
  obtain ⟨aj, cj, ej, hj2⟩ := h.rq j hj
  have hr := h.row
  rw [e] at hr
  have hg := stC_get ps q ps.length j hj
  refine ⟨aj, cj, ?_, ?_, fun hp => ?_⟩
  · rw [Nat.zero_add, hr.cellAt (j * 2) (by omega)]
    exact hg.1
  · rw [Nat.zero_add, hr.cellAt (j * 2 + 1) (by omega), ← ej]
    exact hg.2
  · obtain ⟨b2, c2, e2, _, h5, h6⟩ := hj2 hp
    exact ⟨b2, 0, e2, (Array.getElem?_eq_some_iff.1 h5).1, h6⟩
end Go.Proofs.YtklkeajakmhkgaaDoor
