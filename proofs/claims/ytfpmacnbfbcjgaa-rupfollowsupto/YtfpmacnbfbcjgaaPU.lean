import Derived.Test.YtfpmacnbfbcjgaaPT
namespace Go.Pr

theorem sift_fresh (l m : Nat) : ∀ (ls : List (Nat × Nat)) (S : ES) (kept : List (Nat × Nat)), (∀ e ∈ ls, e.1 < m) → ∀ j, m ≤ j → (ES.sift l S ls kept).1.clause j = S.clause j
  | [], S, kept, _, j, _ => rfl
  | (k, o) :: r, S, kept, h, j, hj => by
    have hk : k < m := h (k, o) List.mem_cons_self
    have hr : ∀ e ∈ r, e.1 < m := fun e he => h e (List.mem_cons_of_mem _ he)
    have hjk : j ≠ k := by omega
    unfold ES.sift
    split
    · exact sift_fresh l m r S _ hr j hj
    · simp only
      generalize ES.turned (S.clause k) l = c
      have e1 : (S.setC k c).clause j = S.clause j := clause_setC_ne hjk
      generalize S.setC k c = S1 at *
      split
      · next i x hs =>
        rw [sift_fresh l m r _ kept hr j hj]
        show (S1.setC k _).clause j = _
        rw [clause_setC_ne hjk, e1]
      · have e2 := (settle_met S1 k c.a).2 j
        split
        · rw [← e1]; exact e2
        · rw [sift_fresh l m r _ _ hr j hj, e2, e1]
theorem visit_fresh {S : ES} {l : Nat} (h : ∀ e ∈ S.watch l, e.1 < S.met) {j : Nat} (hj : S.met ≤ j) : (S.visit l).clause j = S.clause j := by
  have := sift_fresh l S.met (S.watch l) S [] h j hj
  unfold ES.visit
  exact this
/-- all that holds between two steps -/
structure FULL (S : ES) : Prop where
  inv : INV Nix S
  tks : TKS S
  snd : SND S
  new : ∀ k, S.met ≤ k → (S.clause k).a = 0
theorem settle_mark (S : ES) (k l : Nat) : S.mark.settle k l = (S.settle k l).mark := by
  have e : S.mark.val l = S.val l := rfl
  unfold ES.settle
  rw [e]
  split
  · rfl
  · split <;> rfl
theorem settle_true {S : ES} (h : WF S) {k l : Nat} (hl : l = 0 ∨ l ∈ S.inside k) (hc : (S.settle k l).clash = none) : l ∈ S.inside k ∧ (S.settle k l).val l = 1 := by
  have hl' : l ∈ S.inside k := hl.resolve_left (fun e => by
    subst e
    unfold ES.settle at hc
    rw [h.val0, if_neg (by decide), if_pos rfl] at hc
    cases hc)
  refine ⟨hl', ?_⟩
  have hl2 := h.inside_mem hl'
  have hv := h.val_of l
  unfold ES.settle at hc ⊢
  split
  · next h0 => rw [set_val h hl2.1 hl2.2, if_neg (fun e => (opp_lt hl2.1 hl2.2).2.2.1 e.symm), if_pos rfl]
  · next h0 =>
    rw [if_neg h0] at hc
    split
    · next h1 =>
      rw [if_pos h1] at hc
      cases hc
    · next h1 => exact (hv.resolve_left h1).resolve_left h0
theorem told_code {S : ES} (h : WF S) {x : Nat} (hx : x < 2 * S.n + 2) (h1 : x ≠ 1) (ht : Told S x) : 2 ≤ x ∧ S.val x = -1 := by
  have hm : opp x ∈ S.trail := List.mem_of_mem_take ht
  have hx2 := h.tr _ hm
  have h0 : x ≠ 0 := fun e0 => by
    have : opp x = 1 := by rw [e0]; rfl
    omega
  have ho := opp_lt (n := S.n) (c := x) (by omega) hx
  have := h.valx (opp x) ho.1 ho.2.1
  rw [ho.2.2.2.1, hx2.2.2] at this
  exact ⟨by omega, this⟩
theorem FULL.again {S : ES} (h : FULL S) (hd : S.done < S.tasks.length) (hc : S.clash = none) : FULL S.again := by
  have htm := tk_mem hd
  have hwt := h.inv.wf.tks _ htm
  have hag : S.again = match (S.tk S.done).cl with | none => S.mark.visit (S.tk S.done).lit | some k => S.mark.settle k (S.tk S.done).lit := rfl
  have hmd : S.mark.tk S.done = { S.tk S.done with lv := S.level } := by rw [mark_tk hd, if_pos rfl]
  cases hcl : (S.tk S.done).cl with
  | none =>
    rw [hcl] at hag
    simp only at hag
    rw [hag]
    have hno := h.tks.non _ htm hcl
    obtain ⟨l, hl⟩ : ∃ l, (S.tk S.done).lit = l := ⟨_, rfl⟩
    rw [hl] at hno hwt ⊢
    have i1 : INV (fun x => x = l) S.mark := (h.inv.weak (fun x (e : Nix x) => e.elim)).mark hd (fun k x _ hE hcv _ => by
      rcases hcv with ⟨_, e⟩ | e
      · exact absurd (by rw [← e, hl]) hE
      · rw [hcl] at e; cases e) (fun k f e => by rw [hcl] at e; cases e)
    have hlvb : ∀ c, 2 ≤ c → (S.mark.visit l).val c ≠ 0 → (S.mark.visit l).lvl c ≤ S.level := by
      have r1 := (sift_inv l (S.mark.watch l) S.mark [] i1 (by rw [List.nil_append]; exact h.inv.ent l (fun e => e)) (by rw [List.nil_append]; exact h.inv.nd l (fun e => e)) (by
        intro k hk ha hx
        rw [List.nil_append]
        exact h.inv.lst k hk ha l (by rcases hx with t | t; exact Or.inl t.symm; exact Or.inr t.symm) (fun e => e)) (fun e he => absurd he (by simp)) hno.2.2 hc)
      intro c hc2 hv
      have := r1.1.lvb c hc2 hv
      rw [r1.2.1.level] at this
      exact this
    obtain ⟨e, hmet, hsat, hinv, hsnd⟩ := visit_inv i1 (h.inv.ent l (fun e => e)) (h.inv.nd l (fun e => e)) (fun k hk ha hx => h.inv.lst k hk ha l (by rcases hx with t | t; exact Or.inl t.symm; exact Or.inr t.symm) (fun e => e)) hwt.1 hwt.2.1 hno.2.2 hc
    have hfr : ∀ j, S.met ≤ j → (S.mark.visit l).clause j = S.clause j := fun j hj => visit_fresh (S := S.mark) (fun e he => (h.inv.ent l (fun e => e) e he).1) hj
    have hllv : (S.mark.visit l).lvl l = S.lvl l := e.lvl l (by show S.val l ≠ 0; rw [hno.2.2]; decide)
    have hlev : (S.mark.visit l).level = S.level := e.level
    have htk : (S.mark.visit l).tk S.done = { S.tk S.done with lv := S.level } := by rw [e.tk, hmd]
    have hdn : S.done < (S.mark.visit l).done := by rw [e.done]; exact Nat.lt_succ_self _
    refine ⟨hinv fun k hk ha hx ht => ?_, (h.tks.mark hd).ext e hmet, hsnd (h.snd.congr rfl rfl rfl rfl rfl rfl (fun _ => rfl)), fun k hk => ?_⟩
    · have hs := (hsat k hk ha hx).2
      have hcv : Cov ((S.mark.visit l).tk S.done) k l ∧ ((S.mark.visit l).tk S.done).since ≤ (S.mark.visit l).lvl l ∧ ((S.mark.visit l).tk S.done).lv = S.level := by
        rw [htk, hllv]
        exact ⟨Or.inl ⟨hcl, hl⟩, Nat.le_of_eq hno.1, rfl⟩
      cases hcc : (S.mark.visit l).clash with
      | none =>
        obtain ⟨z, hz, hzv⟩ := hs hcc
        have hz2 : 2 ≤ z := by rw [e.ins] at hz; exact (h.inv.wf.inside_mem (S := S) (k := k) hz).1
        exact Or.inl ⟨z, hz, hzv, Or.inr ⟨S.done, hdn, hcv.1, hcv.2.1, by rw [hcv.2.2]; exact hlvb z hz2 (by rw [hzv]; decide)⟩⟩
      | some y => exact Or.inr (Or.inr ⟨by rw [hcc]; simp, Or.inr ⟨S.done, hdn, hcv.1, hcv.2.1, by rw [hcv.2.2, hlev]⟩⟩)
    · rw [hmet] at hk
      rw [hfr k hk]
      exact h.new k hk
  | some k =>
    rw [hcl] at hag
    simp only at hag
    rw [hag, settle_mark]
    have hso := h.tks.som _ htm k hcl
    have hst := (h.inv.tst _ htm).2 k hcl
    obtain ⟨l, hl⟩ : ∃ l, (S.tk S.done).lit = l := ⟨_, rfl⟩
    rw [hl] at hso hwt hst ⊢
    have hk := hwt.2.2 k hcl
    have i1 := h.inv.settle (k := k) hk hwt.1 hwt.2.1
    have e := settle_ext h.inv.wf (k := k) hwt.1 hwt.2.1
    have hm := settle_met S k l
    have htr := settle_true h.inv.wf (k := k) hso.2
    have hsn := h.snd.settle h.inv.wf hk hso.2 (fun z hz hne => (hst z hz hne).1)
    have hT := h.tks.ext e hm.1
    have hd2 : (S.settle k l).done < (S.settle k l).tasks.length := by rw [e.done, e.tasks]; exact hd
    have htk : (S.settle k l).tk (S.settle k l).done = S.tk S.done := by rw [e.tk, e.done]
    have hmk2 : (S.settle k l).mark.tk (S.settle k l).done = { S.tk S.done with lv := (S.settle k l).level } := by rw [mark_tk hd2, if_pos rfl, htk]
    have hins := e.ins
    have hnew : ∀ j, (S.settle k l).clause j = S.clause j := hm.2
    have hmm := hm.1
    have hlv := e.level
    generalize S.settle k l = T at *
    refine ⟨i1.mark hd2 (fun k' x hk' _ hcv hsi => ?_) (fun k' f hc1 hf hm1 => ?_), hT.mark hd2, hsn.congr rfl rfl rfl rfl rfl rfl (fun _ => rfl), fun j hj => ?_⟩
    · rw [htk] at hcv hsi
      have ek : k = k' := by
        rcases hcv with ⟨e1, _⟩ | e1
        · rw [hcl] at e1; cases e1
        · rw [hcl] at e1; injection e1
      subst ek
      have hq : Cov (T.mark.tk T.done) k x ∧ (T.mark.tk T.done).since ≤ T.lvl x ∧ (T.mark.tk T.done).lv = T.level := by
        rw [hmk2]
        exact ⟨Or.inr hcl, hsi, rfl⟩
      cases hcc : T.clash with
      | none =>
        obtain ⟨q1, q2⟩ := htr hcc
        refine Or.inl ⟨l, by show l ∈ T.inside k; rw [hins]; exact q1, q2, Or.inr ⟨T.done, Nat.lt_succ_self _, hq.1, hq.2.1, ?_⟩⟩
        rw [hq.2.2]
        exact i1.lvb l (h.inv.wf.inside_mem q1).1 (by rw [q2]; decide)
      | some y => exact Or.inr (Or.inr ⟨by show T.clash ≠ none; rw [hcc]; simp, Or.inr ⟨T.done, Nat.lt_succ_self _, hq.1, hq.2.1, hq.2.2⟩⟩)
    · rw [htk] at hc1 hf
      have ek : k = k' := by rw [hcl] at hc1; injection hc1
      subst ek
      have ef : l = f := by rw [← hl, hf]
      subst ef
      cases hcc : T.clash with
      | none =>
        obtain ⟨q1, q2⟩ := htr hcc
        exact Or.inl ⟨by rw [hins]; exact q1, q2, i1.lvb l (h.inv.wf.inside_mem q1).1 (by rw [q2]; decide)⟩
      | some y => exact Or.inr (by simp)
    · have hj' : S.met ≤ j := by rw [← hmm]; exact hj
      have := h.new j hj'
      rw [← hnew j] at this
      exact this
end Go.Pr
