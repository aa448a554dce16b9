import Derived.Test.YtfpmacnbfbcjgaaQA
namespace Go.Pr

theorem FULL.visit_ok {S : ES} (h : FULL S) (hh : S.head < S.trail.length) (hc : S.clash = none) : ∃ l, opp (S.trail.getD S.head 0) = l ∧ 2 ≤ l ∧ l < 2 * S.n + 2 ∧ S.val l = -1 ∧ (S.visit l).tasks = S.tasks ∧ INV Nix (S.visit l) := by
  have hw := h.inv.wf
  have htm : S.trail.getD S.head 0 ∈ S.trail := by rw [getD_of _ _ _ hh]; exact List.getElem_mem _
  have htr := hw.tr _ htm
  obtain ⟨c, hcd⟩ : ∃ c, S.trail.getD S.head 0 = c := ⟨_, rfl⟩
  rw [hcd] at htr htm ⊢
  have ho := opp_lt htr.1 htr.2.1
  have hvl : S.val (opp c) = -1 := by rw [hw.valx c htr.1 htr.2.1, htr.2.2]
  have hnt : c ∉ S.trail.take S.head := fun hm => by
    have hdrop : c ∈ S.trail.drop S.head := by
      rw [List.drop_eq_getElem_cons hh, ← hcd, getD_of _ _ _ hh]
      exact List.mem_cons_self
    exact nodup_parts hw.trd hm hdrop rfl
  obtain ⟨l, hl⟩ : ∃ l, opp c = l := ⟨_, rfl⟩
  rw [hl] at hvl ho ⊢
  have hoc : opp l = c := ho.2.2.2.1
  obtain ⟨e, hmet, hsat, hinv, hsnd⟩ := visit_inv (h.inv.weak (fun x (e : Nix x) => e.elim)) (h.inv.ent l (fun e => e)) (h.inv.nd l (fun e => e)) (fun k hk ha hx => h.inv.lst k hk ha l (by rcases hx with t | t; exact Or.inl t.symm; exact Or.inr t.symm) (fun e => e)) ho.2.1 (by omega) hvl hc
  have hntl : ¬ Told (S.visit l) l := fun ht => hnt (by have := (e.told l).1 ht; unfold Told at this; rw [hoc] at this; exact this)
  exact ⟨l, rfl, ho.1, ho.2.1, hvl, e.tasks, hinv (fun k _ _ _ ht => absurd ht hntl)⟩
theorem FULL.again_ok {S : ES} (h : FULL S) (hd : S.done < S.tasks.length) (hcl : (S.tk S.done).cl = none) : 2 ≤ (S.tk S.done).lit ∧ S.val (S.tk S.done).lit = -1 := by
  have h1 := h.tks.non _ (tk_mem hd) hcl
  have h2 := h.inv.wf.tks _ (tk_mem hd)
  exact ⟨(told_code h.inv.wf h2.1 h2.2.1 h1.2.1).1, h1.2.2⟩
end Go.Pr
