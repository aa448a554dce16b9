import Derived.Test.YtdoeggompochoaaAgF
namespace Go.Proofs.Ytdoeggompochoaa
open Go.ChangeShapes Go.WideShapes Go.ChangeAt Go.RowKit Go.Lib Go.Ag Go.WideMaps Go.Maps Go.ChangeMaps

theorem GX.mapped {w0 : World} {O : Nat → Prop} {w w' : World} {B R m nb : Nat} {bc : List Value} {gs : List (Nat × Nat)} {vb vg : Value} {b : Nat} {mn mn' : Nat} {D D' : DataW Unit} (h : GX w0 O w B R m nb bc gs vb vg (some b) mn D) (ho : w'.ownsMap Try.prog 103 (plainElem Try.prog 42) b mn' D') (hg : w.grownBy w' (some b)) : GX w0 O w' B R m nb bc gs vb vg (some b) mn' D' := by
  obtain ⟨es, cl, hb⟩ := h.mo.block rfl
  have hk : ∀ j, j < w.heap.size → j ≠ b → w'.heap[j]? = w.heap[j]? := fun j hj hn => hg.block j hj (fun e => hn (by cases e; rfl))
  have row : ∀ {e n : Nat} {v : Value} {L : List Value}, w.ownsRow B e 2 v n L → w'.ownsRow B e 2 v n L := fun {e n v L} hv => ag_same hv (fun j hj => hk j (hv.lt j hj).2 (fun e2 => by
    rcases hv.2 with ⟨e1, _⟩ | ⟨g, cap, cur, e1, _, hb2, _⟩
    · rw [e1] at hj; cases hj
    · rw [e1] at hj
      have e3 : g = j := by simpa [Value.ownBlock] using hj
      subst e3
      rw [e2, hb] at hb2
      cases hb2))
  refine ⟨?_, row h.rb, row h.rg, ho, hg.os.trans h.os, hg.tape.trans h.tape, hg.output.trans h.output, Nat.le_trans h.size hg.size, fun j hj hO => ?_, h.fr, h.low⟩
  · rw [hk R h.lt (fun e => by have h1 := h.blk; rw [e, hb] at h1; cases h1)]
    exact h.blk
  · have hz := h.size
    rw [hk j (by omega) (fun e => by
      rcases h.fr j (Or.inr (Or.inr (Or.inr (by rw [e])))) with h6 | h6
      · exact hO h6
      · omega)]
    exact h.kp j hj hO
theorem made0 {W : World} {m : Nat} (h : W.heap[m]? = some (Obj.map #[] 0)) : MapO 103 W (some m) 0 (.map []) :=
  ⟨#[], 0, h, ⟨by simp, MapKept.stamped_empty 0, by simp⟩, Nat.le_refl _, rfl⟩
theorem bitsB_succ (ns : Nds) (j k : Nat) : bitsB ns j (k + 1) = bitsB ns j k + (if (ns.getD (64 * j + k) none).isSome then 2 ^ k else 0) := rfl
/-! ### the blocks, as addGate makes them -/
theorem blksC_succ (ns : Nds) (nb : Nat) : blksC ns (nb + 1) = blksC ns nb ++ blkC ns nb := by
  unfold blksC
  rw [List.range_succ, List.flatMap_append]
  simp
theorem bitsB_zero (ns : Nds) (j : Nat) (h : ∀ p, 64 * j ≤ p → ns.getD p none = none) : ∀ k, bitsB ns j k = 0
  | 0 => rfl
  | k + 1 => by
    unfold bitsB
    rw [bitsB_zero ns j h k, h (64 * j + k) (by omega)]
    rfl
theorem cntG_cov (ns : Nds) (k : Nat) (h : ∀ p, k ≤ p → ns.getD p none = none) : cntG ns k = (gatesL ns).length := by
  unfold cntG gatesL
  have e : ns.filterMap id = (ns.take k).filterMap id ++ (ns.drop k).filterMap id := by rw [← List.filterMap_append, List.take_append_drop]
  have h2 : (ns.drop k).filterMap id = [] := by
    rw [List.filterMap_eq_nil_iff]
    intro a ha
    obtain ⟨i, hi, e⟩ := List.getElem_of_mem ha
    rw [List.getElem_drop] at e
    have h3 := h (k + i) (by omega)
    rw [List.getD_eq_getElem?_getD, List.getElem?_eq_getElem (by simp at hi; omega)] at h3
    rw [← e]
    exact h3
  rw [e, h2, List.append_nil]
theorem blkC_new (ns : Nds) (nb : Nat) (h : ∀ p, 64 * nb ≤ p → ns.getD p none = none) : blkC ns nb = [.int .u64 0, .int .i64 ((gatesL ns).length : Int)] := by
  unfold blkC
  rw [bitsB_zero ns nb h, cntG_cov ns _ h]
  rfl
/-- the bit of the new gate is set -/
theorem blksC_gate (ns : Nds) (g : Nat × Nat) (q : Nat) (hq : q = ns.length / 64) : (blksC ns (q + 1)).set (2 * q) (.int .u64 ((bitsB ns q 64 + 2 ^ (ns.length % 64) : Nat) : Int)) = blksC (ns ++ [some g]) (q + 1) := by
  have hl := blksC_len ns q
  have e0 : blksC (ns ++ [some g]) q = blksC ns q := by
    unfold blksC
    refine flat_congr _ _ _ (fun j hj => ?_)
    have hj2 := List.mem_range.1 hj
    unfold blkC
    rw [bitsB_app, cntG_app ns _ (64 * j) (by omega), if_neg (by omega), Nat.add_zero]
  rw [blksC_succ, blksC_succ, e0, List.set_append_right _ _ (by omega)]
  congr 1
  rw [hl, show 2 * q - q * 2 = 0 by omega]
  unfold blkC
  rw [bitsB_app, cntG_app ns _ (64 * q) (by omega)]
  rw [if_pos ⟨by omega, by omega, rfl⟩, show ns.length - 64 * q = ns.length % 64 by omega]
  rfl
theorem bits_or (ns : Nds) (q : Nat) (hq : q = ns.length / 64) : bitsB ns q 64 ||| 2 ^ (ns.length % 64) = bitsB ns q 64 + 2 ^ (ns.length % 64) := by
  have hp : ns.length % 64 < 64 := Nat.mod_lt _ (by decide)
  have hz : bitsB ns q 64 < 2 ^ (ns.length % 64) := by
    have key : ∀ k, ns.length % 64 ≤ k → bitsB ns q k = bitsB ns q (ns.length % 64) := by
      intro k hk
      induction k with
      | zero => rw [show ns.length % 64 = 0 by omega]
      | succ k ih =>
        by_cases e : ns.length % 64 = k + 1
        · rw [e]
        · have h1 := ih (by omega)
          have h2 : ns.getD (64 * q + k) none = none := by
            rw [List.getD_eq_getElem?_getD, List.getElem?_eq_none (by omega)]
            rfl
          rw [bitsB_succ, h1, h2]
          rfl
    rw [key 64 (by omega)]
    exact bitsB_lt _ _ _
  have h9 := Nat.two_pow_add_eq_or_of_lt hz 1
  rw [Nat.mul_one] at h9
  rw [Nat.or_comm, ← h9, Nat.add_comm]
end Go.Proofs.Ytdoeggompochoaa
