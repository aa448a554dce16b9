import Derived.Test.YtnknbijbhidpnaaGreatDoorPsK
import Derived.Laws.AppendOwn
import Derived.Deep.AppendLies
namespace Go.Proofs.YtnknbijbhidpnaaGreatDoor
open Go.ChangeShapes Go.WideShapes Go.ChangeAt Go.RowKit Go.Lib Go.Cn

theorem ps_ne {w : World} {B e size n G : Nat} {v : Value} {L : List Value} {cs : Array Value} {t : TypeId} {fr : Nat × Nat} (h : w.ownsRow B e size v n L) (hb : w.heap[G]? = some (.cells cs t fr)) (hne : e ≠ t) : v.ownBlock ≠ some G := by
  intro e1
  rcases h.2 with ⟨h0, _⟩ | ⟨g, cap, cur, h0, _, hg, _⟩
  · rw [h0] at e1; cases e1
  · rw [h0] at e1
    have e2 : g = G := by simpa [Value.ownBlock] using e1
    rw [← e2, hg] at hb
    cases hb
    exact hne rfl
theorem ps_same {w w' : World} {base e size n : Nat} {v : Value} {L : List Value} (h : w.ownsRow base e size v n L) (hk : ∀ k, v.ownBlock = some k → w'.heap[k]? = w.heap[k]?) : w'.ownsRow base e size v n L := by
  refine ⟨h.1, ?_⟩
  rcases h.2 with h3 | ⟨b, cap, cur, e, h4, h5, h6⟩
  · exact Or.inl h3
  · exact Or.inr ⟨b, cap, cur, e, h4, (hk b (by rw [e]; rfl)).trans h5, h6⟩
theorem ps_up {w : World} {B B' e n : Nat} {v : Value} {L : List Value} (h : w.ownsRow B e 1 v n L) (hB : B' ≤ B) : w.ownsRow B' e 1 v n L := by
  refine ⟨h.1, ?_⟩
  rcases h.2 with h0 | ⟨g, cap, cur, h1, h2, h3⟩
  · exact Or.inl h0
  · exact Or.inr ⟨g, cap, cur, h1, Nat.le_trans hB h2, h3⟩
theorem ps_form {w : World} {base e size n : Nat} {v : Value} {L : List Value} (h : w.ownsRow base e size v n L) : ∃ ad c, v = .slice ad n c ∧ (ad = none ∨ ∃ b, ad = some ⟨b, 0, none⟩) := by
  rcases h.2 with ⟨e, h0⟩ | ⟨b, cap, cur, e, _⟩
  · exact ⟨none, 0, by rw [e, h0], Or.inl rfl⟩
  · exact ⟨_, cap, e, Or.inr ⟨b, rfl⟩⟩
/-- a row cut to none -/
theorem ps_zero {w : World} {B e n c : Nat} {ad : Option Addr} {L : List Value} (h : w.ownsRow B e 1 (.slice ad n c) n L) : w.ownsRow B e 1 (.slice ad 0 c) 0 [] := by
  refine ⟨rfl, ?_⟩
  rcases h.2 with ⟨e1, h0⟩ | ⟨b, cap, cur, e1, h1, h2, h3, h4, h5, h6⟩
  · cases e1
    exact Or.inl ⟨rfl, rfl⟩
  · cases e1
    exact Or.inr ⟨b, _, cur, rfl, h1, h2, Nat.zero_le _, h4, h5, by simp⟩
theorem ps_next {w w1 w2 : World} (h : Below w.heap.size w w1) (h2 : Below w1.heap.size w1 w2) : Below w.heap.size w w2 := h.trans (h2.mono h.size)
/-- clauses that were read, and one on its way: each in memory of its own -/
structure RC (w wr : World) (cls : List (List Int)) (op : List Int) (vc vo : Value) (L : List Value) : Prop where
  len : L.length = cls.length
  row : wr.ownsRow w.heap.size 37 1 vc cls.length L
  each : ∀ j, j < cls.length → wr.ownsRow w.heap.size 3 1 (L.getD j (.slice none 0 0)) (cls.getD j []).length ((cls.getD j []).map (Value.int .i64))
  op : wr.ownsRow w.heap.size 3 1 vo op.length (op.map (Value.int .i64))
  ap : ∀ j, j < cls.length → ∀ b, vo.ownBlock = some b → (L.getD j (.slice none 0 0)).ownBlock ≠ some b
  bel : Below w.heap.size w wr
theorem RC.nil {w wr : World} (h : Below w.heap.size w wr) : RC w wr [] [] (.slice none 0 0) (.slice none 0 0) [] := ⟨rfl, World.ownsRow_nil _ _ _ _, fun j hj => absurd hj (Nat.not_lt_zero j), World.ownsRow_nil _ _ _ _, fun j hj => absurd hj (Nat.not_lt_zero j), h⟩
theorem RC.over {w wr w' : World} {cls : List (List Int)} {op : List Int} {vc vo : Value} {L : List Value} (h : RC w wr cls op vc vo L) (hb : Below wr.heap.size wr w') : RC w w' cls op vc vo L :=
  ⟨h.len, ps_same h.row (fun j hj => hb.block j (h.row.lt j hj).2), fun j hj => ps_same (h.each j hj) (fun k hk => hb.block k ((h.each j hj).lt k hk).2), ps_same h.op (fun j hj => hb.block j (h.op.lt j hj).2), h.ap, ps_next h.bel hb⟩
theorem RC.drewN {w wr : World} {cls : List (List Int)} {op : List Int} {vc vo : Value} {L : List Value} (h : RC w wr cls op vc vo L) (m : Nat) : RC w (wr.drewN m) cls op vc vo L := h.over ⟨rfl, rfl, rfl, Nat.le_refl _, fun _ _ => rfl⟩
/-- a cell of another block is set -/
theorem RC.set {w wr : World} {cls : List (List Int)} {op : List Int} {vc vo : Value} {L : List Value} (h : RC w wr cls op vc vo L) {G : Nat} (k : Nat) (u : Value) {cells : Array Value} {t : TypeId} {fr : Nat × Nat} (hb : wr.heap[G]? = some (.cells cells t fr)) (h1 : 37 ≠ t) (h2 : 3 ≠ t) (hG : w.heap.size ≤ G) : RC w (wr.setCell ⟨G, k, none⟩ u) cls op vc vo L := by
  have ho : ∀ j, j ≠ G → (wr.setCell ⟨G, k, none⟩ u).heap[j]? = wr.heap[j]? := fun j hj => heap_setCell_other _ _ _ _ hj
  exact ⟨h.len, ps_same h.row (fun j hj => ho j (fun e => ps_ne h.row hb h1 (by rw [hj, e]))), fun i hi => ps_same (h.each i hi) (fun j hj => ho j (fun e => ps_ne (h.each i hi) hb h2 (by rw [hj, e]))), ps_same h.op (fun j hj => ho j (fun e => ps_ne h.op hb h2 (by rw [hj, e]))), h.ap,
    ⟨h.bel.os, h.bel.tape, h.bel.output, by simp; exact h.bel.size, fun j hj => (ho j (by omega)).trans (h.bel.block j hj)⟩⟩
/-- a block of another type stands through an append -/
theorem ps_keep {W w3 : World} {o : Obj} {B e n G : Nat} {v : Value} {M : List Value} {cells : Array Value} {t : TypeId} {fr : Nat × Nat} (hv : W.ownsRow B e 1 v n M) (hg : (W.alloc o).grownBy w3 v.ownBlock) (hb : W.heap[G]? = some (.cells cells t fr)) (hne : e ≠ t) : w3.heap[G]? = some (.cells cells t fr) := by
  have hl := (Array.getElem?_eq_some_iff.1 hb).1
  rw [hg.block G (by simp; omega) (fun e => ps_ne hv hb hne e.symm), Below.heap_alloc _ _ G hl]
  exact hb
/-- one literal more -/
theorem RC.lit {w W w3 : World} {cls : List (List Int)} {op : List Int} {vc vo vo' : Value} {L : List Value} (h : RC w W cls op vc vo L) {x : Int} {o : Obj} {g : Nat}
    (ho : w3.ownsRow w.heap.size 3 1 vo' (op.length + 1) (op.map (Value.int .i64) ++ [.int .i64 x])) (hg : (W.alloc o).grownBy w3 vo.ownBlock) (hv : vo'.ownBlock = some g) (hat : vo.ownBlock = some g ∨ g = W.heap.size + 1) : RC w w3 cls (op ++ [x]) vc vo' L := by
  have hk : ∀ j, j < W.heap.size → vo.ownBlock ≠ some j → w3.heap[j]? = W.heap[j]? := fun j hj hn => by
    rw [hg.block j (by simp; omega) (fun e => hn e.symm)]
    exact Below.heap_alloc _ _ j hj
  refine ⟨h.len, ps_same h.row (fun j hj => hk j (h.row.lt j hj).2 (fun e => ?_)), fun i hi => ps_same (h.each i hi) (fun j hj => hk j ((h.each i hi).lt j hj).2 (fun e => h.ap i hi j e hj)), ?_, fun i hi b hb => ?_, ?_⟩
  · rcases h.row.2 with ⟨e1, _⟩ | ⟨b, cap, cur, e1, _, h2, _⟩
    · rw [e1] at hj; cases hj
    · rw [e1] at hj
      have e2 : b = j := by simpa [Value.ownBlock] using hj
      subst e2
      exact ps_ne h.op h2 (by decide) e
  · rw [List.length_append, List.map_append]
    exact ho
  · rw [hv] at hb
    cases hb
    rcases hat with e | e
    · exact h.ap i hi _ e
    · intro e2
      have := ((h.each i hi).lt _ e2).2
      omega
  · have hb := h.bel
    have hs := hg.size
    refine ⟨hg.os.trans hb.os, hg.tape.trans hb.tape, hg.output.trans hb.output, ?_, fun j hj => ?_⟩
    · have := hb.size; simp at hs; omega
    · rw [hk j (by have := hb.size; omega) (fun e => by have := (h.op.lt j e).1; omega)]
      exact hb.block j hj
/-- one clause more: x, apart from what is on its way from now on -/
theorem RC.clause {w W w3 : World} {cls : List (List Int)} {op op' : List Int} {vc vc' vo vo' x : Value} {L : List Value} (h : RC w W cls op vc vo L) {o : Obj}
    (hx : W.ownsRow w.heap.size 3 1 x op.length (op.map (Value.int .i64))) (ho : W.ownsRow w.heap.size 3 1 vo' op'.length (op'.map (Value.int .i64))) (hap : ∀ b, vo'.ownBlock = some b → vo.ownBlock = some b ∧ x.ownBlock ≠ some b)
    (hown : w3.ownsRow w.heap.size 37 1 vc' (cls.length + 1) (L ++ [x])) (hg : (W.alloc o).grownBy w3 vc.ownBlock) : RC w w3 (cls ++ [op]) op' vc' vo' (L ++ [x]) := by
  have hk : ∀ {y : Value} {n : Nat} {M : List Value}, W.ownsRow w.heap.size 3 1 y n M → w3.ownsRow w.heap.size 3 1 y n M := fun {y n M} hy => ps_same hy (fun j hj => by
    rw [hg.block j (by have := (hy.lt j hj).2; simp; omega) (fun e => ?_)]
    · exact Below.heap_alloc _ _ j (hy.lt j hj).2
    · rcases hy.2 with ⟨e1, _⟩ | ⟨b, cap, cur, e1, _, h2, _⟩
      · rw [e1] at hj; cases hj
      · rw [e1] at hj
        have e2 : b = j := by simpa [Value.ownBlock] using hj
        subst e2
        exact ps_ne h.row h2 (by decide) e.symm)
  refine ⟨by simp [h.len], by rw [List.length_append]; exact hown, fun j hj => ?_, hk ho, fun j hj b hb => ?_, ?_⟩
  · by_cases hlt : j < cls.length
    · rw [ps_lt _ _ _ j (by rw [h.len]; exact hlt), ps_lt _ _ _ j hlt]
      exact hk (h.each j hlt)
    · have e : j = cls.length := by simp at hj; omega
      subst e
      rw [ps_last cls, ← h.len, ps_last L]
      exact hk hx
  · by_cases hlt : j < cls.length
    · rw [ps_lt _ _ _ j (by rw [h.len]; exact hlt)]
      exact h.ap j hlt b (hap b hb).1
    · have e : j = L.length := by rw [h.len]; simp at hj; omega
      subst e
      rw [ps_last L]
      exact (hap b hb).2
  · have hb := h.bel
    have hs := hg.size
    refine ⟨hg.os.trans hb.os, hg.tape.trans hb.tape, hg.output.trans hb.output, ?_, fun j hj => ?_⟩
    · have := hb.size; simp at hs; omega
    · have hj2 := hb.size
      rw [hg.block j (by simp; omega) (fun e => by have := (h.row.lt j e.symm).1; omega), Below.heap_alloc _ _ j (by omega)]
      exact hb.block j hj
end Go.Proofs.YtnknbijbhidpnaaGreatDoor
