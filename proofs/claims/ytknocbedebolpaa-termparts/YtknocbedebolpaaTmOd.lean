import Derived.Test.YtknocbedebolpaaTmOb
namespace Go.Proofs.Ytknocbedebolpaa
open Go.ChangeShapes Go.WideShapes Go.ChangeAt Go.RowKit Go.Lib Go.Tm Go.Bw Go.Bn Go.WideMaps Go.Maps Go.ChangeMaps

theorem pos_app {m : Nd} {C : List Nd} : ∀ {A : List Nd} {i : Nat}, pos m A = some i → pos m (A ++ C) = some i
  | [], i, h => by cases h
  | x :: r, i, h => by
    rw [List.cons_append]
    unfold Tm.pos at h ⊢
    by_cases e : x = m
    · rw [if_pos e] at h ⊢; exact h
    · rw [if_neg e] at h ⊢
      cases hr : pos m r with
      | none => rw [hr] at h; cases h
      | some j =>
        rw [hr] at h
        rw [pos_app hr]
        exact h
theorem take_next {L : List Nd} {j : Nat} (h : j < L.length) : L.take (j + 1) = L.take j ++ [L.getD j z0] := by
  rw [List.take_add_one, List.getD_eq_getElem?_getD, List.getElem?_eq_getElem h]
  rfl
theorem pos_take {L : List Nd} {j : Nat} {lim : Int} (h : ON lim L) (hj : j < L.length) : pos (L.getD j z0) (L.take j) = none := by
  cases hp : pos (L.getD j z0) (L.take j) with
  | none => rfl
  | some i =>
    exfalso
    have h1 := pos_app (C := L.drop j) hp
    rw [List.take_append_drop, h.un j hj] at h1
    injection h1 with h1
    have h2 := (pos_lt hp).1
    simp at h2
    omega
/-- the map of what was seen, behind j nodes -/
def SEEN (W : World) (M : Nat) (L : List Nd) (j : Nat) : Prop := ∃ D : DataW Unit, W.ownsMap Try.prog 40 (plainElem Try.prog 3) M j D ∧ FM 40 nodeV Nd.ok D (numF (L.take j))
theorem SEEN.made {W : World} {M : Nat} {L : List Nd} (h : W.heap[M]? = some (Obj.map #[] 0)) : SEEN W M L 0 := by
  refine ⟨_, made0 h, ?_⟩
  exact FM.nil (fun x hx => key_node x hx)
theorem SEEN.keep {W W' : World} {M : Nat} {L : List Nd} {j : Nat} (h : SEEN W M L j) (hb : W'.heap[M]? = W.heap[M]?) : SEEN W' M L j := by
  obtain ⟨D, ⟨es, clock, h1, h2⟩, hF⟩ := h
  exact ⟨D, ⟨es, clock, hb.trans h1, h2⟩, hF⟩
theorem SEEN.lt {W : World} {M : Nat} {L : List Nd} {j : Nat} (h : SEEN W M L j) : M < W.heap.size := by
  obtain ⟨D, hm, hF⟩ := h
  exact hm.lt
theorem SEEN.look {W : World} {M : Nat} {L : List Nd} {j : Nat} {lim : Int} (h : SEEN W M L j) (hN : ON lim L) (hj : j < L.length) (hok : (L.getD j z0).ok) :
    (Instr.lookup 60 (.map (some M)) (nodeV (L.getD j z0)) false).run Try.prog W = .ok (.int .i64 0) W := by
  obtain ⟨D, hm, hF⟩ := h
  obtain ⟨kl, h1, h2, h3⟩ := hF.2 _ hok
  have hf : numF (L.take j) (L.getD j z0) = none := by unfold numF; rw [pos_take hN hj]; rfl
  rw [hf] at h2
  obtain ⟨vv, pss, hrun, hR⟩ := hm.lookup lawN Try.underlying60 (zeroI W) (plainElem_int Try.underlying3 (by decide)) h1
  have hz : D.atKey kl (.lit (.int .i64 0)) = .lit (.int .i64 0) := atKey_of_not_has h2 _
  rw [hz] at hR
  obtain ⟨cc, rfl, ecc, -⟩ := plainElem_int_inv Try.underlying3 hR
  have hcc : cc = 0 := by have := ecc.symm; simp at this; exact this.1
  rw [hrun, hcc]
theorem SEEN.put {W : World} {M : Nat} {L : List Nd} {j : Nat} {lim : Int} (h : SEEN W M L j) (hN : ON lim L) (hj : j < L.length) (hl : L.length ≤ 1000000000000) (hok : (L.getD j z0).ok) :
    ∃ w', (Instr.mapUpdate 60 (.map (some M)) (nodeV (L.getD j z0)) (.int .i64 ((j : Int) + 1))).run Try.prog W = .ok () w' ∧ SEEN w' M L (j + 1) ∧ W.grownBy w' (some M) := by
  obtain ⟨D, hm, hF⟩ := h
  obtain ⟨kl, h1, h2, h3⟩ := hF.2 _ hok
  obtain ⟨w', hrun, hm', hg⟩ := hm.update lawN Try.underlying60 (by unfold maxLen; omega) h1 (plainElem_int Try.underlying3 (wf_i (x := (j : Int) + 1) (by unfold I64; omega)))
  refine ⟨w', hrun, ⟨_, hm', ?_⟩, hg⟩
  refine (hF.put (dec := ndDec) lawN node_inj h1 ((j : Int) + 1)).congr (fun y => ?_)
  have hlen : ((L.take j).length : Int) = j := by simp; omega
  have h7 := numF_snoc (pos_take hN hj) y
  rw [hlen, ← take_next hj] at h7
  exact h7
theorem OS.mem {w0 W : World} {B : Nat} {lim : Int} {L : List Nd} (h : OS w0 W B lim L) {j : Nat} (hj : j < L.length) : (L.getD j z0).ok := h.ok _ (getD_mem' hj)
end Go.Proofs.Ytknocbedebolpaa
