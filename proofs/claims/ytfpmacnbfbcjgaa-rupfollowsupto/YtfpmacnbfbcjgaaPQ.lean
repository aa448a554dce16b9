import Derived.Test.YtfpmacnbfbcjgaaPP
namespace Go.Pr

theorem nat_nodup_len : ∀ (A B : List Nat), A.Nodup → (∀ x ∈ A, x ∈ B) → A.length ≤ B.length
  | [], B, _, _ => by simp
  | a :: A, B, hn, h => by
    obtain ⟨s, t, rfl⟩ := List.append_of_mem (h a (List.mem_cons_self ..))
    have hn' := List.nodup_cons.1 hn
    have := nat_nodup_len A (s ++ t) hn'.2 (fun x hx => by
      rcases List.mem_append.1 (h x (List.mem_cons_of_mem _ hx)) with h1 | h1
      · exact List.mem_append.2 (Or.inl h1)
      · rcases List.mem_cons.1 h1 with e | e
        · subst e; exact absurd hx hn'.1
        · exact List.mem_append.2 (Or.inr e))
    simp at this ⊢
    omega
theorem WF.trail_len {S : ES} (h : WF S) : S.trail.length ≤ S.n := by
  have := nat_nodup_len (S.trail.map fun c => c / 2) ((List.range S.n).map fun i => i + 1) h.trd (fun x hx => by
    obtain ⟨c, hc, rfl⟩ := List.mem_map.1 hx
    have h1 := h.tr c hc
    exact List.mem_map.2 ⟨c / 2 - 1, List.mem_range.2 (by omega), by omega⟩)
  simpa using this
/-- tasks, and what was told, stand -/
structure Rest (S S' : ES) : Prop where
  head : S'.head = S.head
  left : S'.tasks.length + S.done = S.tasks.length + S'.done
theorem Rest.refl (S : ES) : Rest S S := ⟨rfl, rfl⟩
theorem Rest.trans {S T U : ES} (h : Rest S T) (h2 : Rest T U) : Rest S U := ⟨h2.head.trans h.head, by have := h.left; have := h2.left; omega⟩
theorem settle_rest (S : ES) (k l : Nat) : Rest S (S.settle k l) := by
  unfold ES.settle
  split
  · exact ⟨rfl, rfl⟩
  · split
    · exact ⟨rfl, rfl⟩
    · exact Rest.refl S
theorem remember_rest (S : ES) (k : Option Nat) (l since : Nat) : Rest S (S.remember k l since) := by
  unfold ES.remember
  split
  · exact ⟨rfl, by simp; omega⟩
  · exact Rest.refl S
theorem setC_rest (S : ES) (k : Nat) (c : CL) : Rest S (S.setC k c) := ⟨rfl, rfl⟩
theorem addW_rest (S : ES) (c k o : Nat) : Rest S (S.addW c k o) := ⟨rfl, rfl⟩
theorem sift_rest (l : Nat) : ∀ (ls : List (Nat × Nat)) (S : ES) (kept : List (Nat × Nat)), Rest S (ES.sift l S ls kept).1
  | [], S, kept => Rest.refl S
  | (k, o) :: r, S, kept => by
    unfold ES.sift
    split
    · exact sift_rest l r S _
    · simp only
      generalize ES.turned (S.clause k) l = c
      have e1 := setC_rest S k c
      generalize S.setC k c = S1 at *
      split
      · next i x hs => exact e1.trans ((setC_rest S1 k _).trans ((addW_rest _ x k c.a).trans (sift_rest l r _ _)))
      · have e2 := settle_rest S1 k c.a
        split
        · exact e1.trans e2
        · exact e1.trans (e2.trans (sift_rest l r _ _))
theorem visit_rest (S : ES) (l : Nat) : Rest S (S.visit l) := by
  have := sift_rest l (S.watch l) S []
  unfold ES.visit
  exact ⟨this.head, this.left⟩
theorem tell_rest (S : ES) (l : Nat) : Rest S (S.tell l) := by
  unfold ES.tell
  simp only
  split
  · exact visit_rest S l
  · exact (visit_rest S l).trans (remember_rest _ _ _ _)
theorem meet_rest (S : ES) (k : Nat) : Rest S (S.meet k) := by
  unfold ES.meet
  generalize S.last2 (S.inside k) 0 0 = p
  have h1 : Rest S (S.meet1 k p.1 p.2) := by
    unfold ES.meet1
    split
    · exact ⟨rfl, rfl⟩
    · exact Rest.refl S
  refine h1.trans ?_
  unfold ES.meet2
  simp only
  split
  · exact Rest.refl _
  · exact (settle_rest _ _ _).trans (remember_rest _ _ _ _)
/-- how much is left to be done -/
def ES.left (S : ES) : Nat := (S.tasks.length - S.done) + (S.cls.length - S.met) + (S.trail.length - S.head) + 2 * (S.n - S.trail.length)
theorem left_le {S T : ES} (hS : WF S) (hT : WF T) (e : Same S T) (r : Rest S T) : T.left ≤ S.left := by
  have h1 := hS.trail_len
  have h2 := hT.trail_len
  have h3 := e.tr.length_le
  have h4 := r.left
  have h5 := hS.dn
  have h6 := hT.dn
  have h7 := hS.head
  rw [e.n] at h2
  unfold ES.left
  rw [e.n, e.len, e.met, r.head]
  omega
theorem step_less {S T : ES} (h : WF S) (hs : S.step = some T) : T.left < S.left := by
  unfold ES.step at hs
  split at hs
  · next hd =>
    cases hs
    have w := h.again hd
    have ht := h.tks (S.tasks.getD S.done tk0) (by rw [getD_of _ _ _ hd]; exact List.getElem_mem _)
    obtain ⟨S1, hS1, hw1, hl1, hag⟩ : ∃ S1 : ES, S1 = { S with tasks := S.tasks.set S.done { S.tasks.getD S.done tk0 with lv := S.level }, done := S.done + 1 } ∧ WF S1 ∧ S1.left < S.left ∧ Rest S1 S.again := by
      refine ⟨_, rfl, ?_, ?_, ?_⟩
      · refine { h with tks := fun u hu => ?_, dn := by simp; omega }
        rcases mem_setL hu with hu | hu
        · exact h.tks u hu
        · rw [hu]; exact ht
      · unfold ES.left
        simp only [List.length_set]
        omega
      · unfold ES.again
        simp only
        split
        · exact visit_rest _ _
        · exact settle_rest _ _ _
    have e1 : Same S1 S.again := by
      have e := w.2
      subst hS1
      exact ⟨e.n, e.lits, e.len, e.ins, e.marks, e.met, e.tr⟩
    exact Nat.lt_of_le_of_lt (left_le hw1 w.1 e1 hag) hl1
  · split at hs
    · next hm =>
      cases hs
      obtain ⟨w1, e1⟩ := h.meet hm
      have hl := left_le h w1 e1 (meet_rest S S.met)
      have h8 := e1.met
      have h9 := e1.len
      unfold ES.left at *
      simp only at *
      omega
    · split at hs
      · next hh =>
        cases hs
        have ht := h.tr (S.trail.getD S.head 0) (by rw [getD_of _ _ _ hh]; exact List.getElem_mem _)
        have ho := opp_lt ht.1 ht.2.1
        obtain ⟨w1, e1⟩ := h.tell (l := opp (S.trail.getD S.head 0)) ho.2.1 (by omega)
        have r1 := tell_rest S (opp (S.trail.getD S.head 0))
        have hl := left_le h w1 e1 r1
        have h8 := r1.head
        have h9 := e1.tr.length_le
        unfold ES.left at *
        simp only at *
        omega
      · cases hs
end Go.Pr
