import Derived.Test.YtfpmacnbfbcjgaaPS
namespace Go.Pr

def Nix : Nat → Prop := fun _ => False
theorem INV.weak {E E' : Nat → Prop} {S : ES} (h : INV E S) (he : ∀ x, E x → E' x) : INV E' S :=
  ⟨h.wf, h.g0, h.lvb, h.tst, h.un, h.wm, fun k hk ha x hx hE => h.ok k hk ha x hx (fun e => hE (he x e)), fun x hE => h.ent x (fun e => hE (he x e)), fun x hE => h.nd x (fun e => hE (he x e)), fun k hk ha x hx hE => h.lst k hk ha x hx (fun e => hE (he x e))⟩
theorem watch_set {S : ES} {c : Nat} {X : List (Nat × Nat)} (hc : c < S.wat.length) (x : Nat) : ({ S with wat := S.wat.set c X } : ES).watch x = if x = c then X else S.watch x := by
  unfold ES.watch
  simp only
  rw [List.getD_eq_getElem?_getD, List.getElem?_set]
  by_cases e : c = x
  · subst e
    rw [if_pos rfl, if_pos hc, if_pos rfl]
    rfl
  · rw [if_neg e, if_neg (fun e2 => e e2.symm), ← List.getD_eq_getElem?_getD]
/-- the watchers of a false literal are looked at -/
theorem visit_inv {S : ES} {l : Nat} (h : INV (fun x => x = l) S) (hent : ∀ e ∈ S.watch l, Ent S l e) (hnd : ((S.watch l).map Prod.fst).Nodup) (hls : ∀ k, k < S.met → (S.clause k).a ≠ 0 → (S.clause k).a = l ∨ (S.clause k).b = l → ∃ o, (k, o) ∈ S.watch l) (hl : l < 2 * S.n + 2) (hl1 : l ≠ 1) (hv : S.val l = -1) (hc : S.clash = none) :
    Ext S (S.visit l) ∧ (S.visit l).met = S.met ∧ (∀ k, k < S.met → ((S.visit l).clause k).a ≠ 0 → l = ((S.visit l).clause k).a ∨ l = ((S.visit l).clause k).b → (∃ o, (k, o) ∈ (S.visit l).watch l) ∧ ((S.visit l).clash = none → Sat (S.visit l) k)) ∧
    ((∀ k, k < S.met → ((S.visit l).clause k).a ≠ 0 → l = ((S.visit l).clause k).a ∨ l = ((S.visit l).clause k).b → Told (S.visit l) l → Okx (S.visit l) k l) → INV Nix (S.visit l)) ∧ (SND S → SND (S.visit l)) := by
  obtain ⟨r1, r2, r3, r4, r5, r6, r7, r8⟩ := sift_inv l (S.watch l) S [] h (by simpa using hent) (by simpa using hnd) (by simpa using hls) (fun e he => absurd he (by simp)) hv hc
  have hn : (ES.sift l S (S.watch l) []).1.n = S.n := (sift_wf l hl1 (S.watch l) S [] h.wf hl (fun e he => h.wf.watch_ok he) (fun e he => absurd he (by simp))).2.1.n
  have hw := (h.wf.visit hl hl1).1
  unfold ES.visit at *
  simp only at *
  generalize ES.sift l S (S.watch l) [] = p at *
  have hlw : l < p.1.wat.length := by rw [r1.wf.wtl, hn]; exact hl
  have hwt := fun x => watch_set (S := p.1) (X := p.2) hlw x
  have e : Ext p.1 { p.1 with wat := p.1.wat.set l p.2 } := ⟨fun _ _ => rfl, fun _ _ => rfl, fun _ => rfl, rfl, rfl, rfl, fun h => h, fun _ => Iff.rfl⟩
  have hmem : ∀ k, k < S.met → (p.1.clause k).a ≠ 0 → l = (p.1.clause k).a ∨ l = (p.1.clause k).b → ∃ o, (k, o) ∈ p.2 := fun k hk ha hx => r6 k hk ha (by rcases hx with t | t; exact Or.inl t.symm; exact Or.inr t.symm)
  refine ⟨r2.trans e, r3, fun k hk ha hx => ?_, fun hok => ?_, fun hs => (r8 hs).congr rfl rfl rfl rfl rfl rfl (fun _ => rfl)⟩
  · obtain ⟨o, ho⟩ := hmem k hk ha hx
    exact ⟨⟨o, by rw [hwt, if_pos rfl]; exact ho⟩, fun hcl => r7 hcl (k, o) ho⟩
  · refine ⟨hw, r1.g0, r1.lvb, r1.tst, r1.un, r1.wm, fun k hk ha x hx _ hv2 ht => ?_, fun x _ en he => ?_, fun x _ => ?_, fun k hk ha x hx _ => ?_⟩
    · have hk' : k < S.met := by rw [← r3]; exact hk
      by_cases ex : x = l
      · subst ex
        exact hok k hk' ha hx ht
      · exact r1.ok k hk ha x hx ex hv2 ht
    · rw [hwt] at he
      split at he
      · next ex => subst ex; exact r4 en he
      · next ex => exact r1.ent x ex en he
    · rw [hwt]
      split
      · exact r5
      · next ex => exact r1.nd x ex
    · rw [hwt]
      split
      · next ex =>
        subst ex
        exact hmem k (by rw [← r3]; exact hk) ha hx
      · next ex => exact r1.lst k hk ha x hx ex
def TK.key (t : TK) : Nat := match t.cl with | some k => 2 * k + 1 | none => 2 * t.lit
/-- the tasks -/
structure TKS (S : ES) : Prop where
  srt : ∀ i j, i < j → j < S.done → (S.tk i).lv ≤ (S.tk j).lv
  lvs : ∀ j, j < S.done → (S.tk j).lv ≤ S.level ∧ (S.tk j).since ≤ (S.tk j).lv
  pnd : ∀ j, j < S.tasks.length → (S.tk j).since ≤ S.level
  non : ∀ t ∈ S.tasks, t.cl = none → t.since = S.lvl t.lit ∧ Told S t.lit ∧ S.val t.lit = -1
  som : ∀ t ∈ S.tasks, ∀ k, t.cl = some k → k < S.met ∧ (t.lit = 0 ∨ t.lit ∈ S.inside k)
  key : (S.tasks.map TK.key).Nodup
theorem TKS.ext {S T : ES} (h : TKS S) (e : Ext S T) (hm : T.met = S.met) : TKS T := by
  refine ⟨fun i j hij hj => ?_, fun j hj => ?_, fun j hj => ?_, fun t ht hc => ?_, fun t ht k hk => ?_, ?_⟩
  · rw [e.tk, e.tk]; rw [e.done] at hj; exact h.srt i j hij hj
  · rw [e.tk, e.level]; rw [e.done] at hj; exact h.lvs j hj
  · rw [e.tk, e.level]; rw [e.tasks] at hj; exact h.pnd j hj
  · rw [e.tasks] at ht
    have h1 := h.non t ht hc
    have h2 : S.val t.lit ≠ 0 := by rw [h1.2.2]; decide
    rw [e.lvl _ h2, e.val _ h2]
    exact ⟨h1.1, (e.told _).2 h1.2.1, h1.2.2⟩
  · rw [e.tasks] at ht
    rw [hm, e.ins]
    exact h.som t ht k hk
  · rw [e.tasks]; exact h.key
theorem TKS.len {S : ES} (h : TKS S) (hw : WF S) : S.tasks.length ≤ 8388608 := by
  have h1 := nat_nodup_len (S.tasks.map TK.key) (List.range (2 * S.cls.length + 1 + 2 * (2 * S.n + 2))) h.key (fun x hx => by
    obtain ⟨t, ht, rfl⟩ := List.mem_map.1 hx
    rw [List.mem_range]
    have h2 := hw.tks t ht
    unfold TK.key
    split
    · next k hk => have := h2.2.2 k hk; omega
    · omega)
  rw [List.length_map, List.length_range] at h1
  have := hw.cll
  have := hw.n
  omega
theorem INV.watch_len {S : ES} (h : INV Nix S) (x : Nat) : (S.watch x).length ≤ 1048576 := by
  have h1 := nat_nodup_len ((S.watch x).map Prod.fst) (List.range S.cls.length) (h.nd x (fun h => h)) (fun y hy => by
    obtain ⟨e, he, rfl⟩ := List.mem_map.1 hy
    exact List.mem_range.2 (h.wf.watch_ok he).1)
  rw [List.length_map, List.length_range] at h1
  have := h.wf.cll
  omega
/-- the first task that must be done again is marked as done -/
def ES.mark (S : ES) : ES := { S with tasks := S.tasks.set S.done { S.tk S.done with lv := S.level }, done := S.done + 1 }
theorem mark_tk {S : ES} (hd : S.done < S.tasks.length) (j : Nat) : S.mark.tk j = if j = S.done then { S.tk S.done with lv := S.level } else S.tk j := by
  unfold ES.mark ES.tk
  simp only
  rw [List.getD_eq_getElem?_getD, List.getElem?_set]
  by_cases e : S.done = j
  · subst e
    rw [if_pos rfl, if_pos hd, if_pos rfl]
    rfl
  · rw [if_neg e, if_neg (fun e2 => e e2.symm), ← List.getD_eq_getElem?_getD]
theorem tk_mem {S : ES} {j : Nat} (hj : j < S.tasks.length) : S.tk j ∈ S.tasks := by
  unfold ES.tk
  rw [getD_of _ _ _ hj]
  exact List.getElem_mem _
theorem mem_tk {S : ES} {t : TK} (h : t ∈ S.tasks) : ∃ j, j < S.tasks.length ∧ S.tk j = t := by
  obtain ⟨j, hj, rfl⟩ := List.getElem_of_mem h
  exact ⟨j, hj, by unfold ES.tk; rw [getD_of _ _ _ hj]⟩
theorem Okx.mark {S : ES} (hd : S.done < S.tasks.length) {k x : Nat} (h : Okx S k x) (hre : Cov (S.tk S.done) k x → (S.tk S.done).since ≤ S.lvl x → Okx S.mark k x) : Okx S.mark k x := by
  have hl : S.mark.tasks.length = S.tasks.length := by unfold ES.mark; simp
  have ht : ∀ j, j ≠ S.done → S.mark.tk j = S.tk j := fun j hj => by rw [mark_tk hd, if_neg hj]
  rcases h with ⟨z, hz, hv, h⟩ | ⟨j, h1, h2, h3⟩ | ⟨hc, h⟩
  · left
    refine ⟨z, hz, hv, ?_⟩
    rcases h with h | ⟨j, hj, h⟩
    · exact Or.inl h
    · exact Or.inr ⟨j, Nat.lt_succ_of_lt hj, by rw [ht j (by omega)]; exact h⟩
  · by_cases e : j = S.done
    · subst e
      exact hre h3.1 h3.2
    · right; left
      refine ⟨j, ?_, by rw [hl]; exact h2, by rw [ht j e]; exact h3⟩
      show S.done + 1 ≤ j
      omega
  · right; right
    refine ⟨hc, ?_⟩
    rcases h with h | ⟨j, hj, h⟩
    · exact Or.inl h
    · exact Or.inr ⟨j, Nat.lt_succ_of_lt hj, by rw [ht j (by omega)]; exact h⟩
theorem Un.mark {S : ES} (hd : S.done < S.tasks.length) {k : Nat} (h : Un S k) (hre : ∀ f, (S.tk S.done).cl = some k → (S.tk S.done).lit = f → (f = 0 ∨ f ∈ S.inside k) → (f ∈ S.inside k ∧ S.val f = 1 ∧ S.lvl f ≤ S.level) ∨ S.clash ≠ none) : Un S.mark k := by
  have hl : S.mark.tasks.length = S.tasks.length := by unfold ES.mark; simp
  have ht : ∀ j, j ≠ S.done → S.mark.tk j = S.tk j := fun j hj => by rw [mark_tk hd, if_neg hj]
  have hm : S.mark.tk S.done = { S.tk S.done with lv := S.level } := by rw [mark_tk hd, if_pos rfl]
  obtain ⟨f, hf, ho, h⟩ := h
  refine ⟨f, hf, ho, ?_⟩
  rcases h with ⟨h1, hv, h⟩ | ⟨j, h1, h2, h3⟩ | ⟨hc, h⟩
  · left
    refine ⟨h1, hv, ?_⟩
    rcases h with h | ⟨j, hj, h⟩
    · exact Or.inl h
    · exact Or.inr ⟨j, Nat.lt_succ_of_lt hj, by rw [ht j (by omega)]; exact h⟩
  · by_cases e : j = S.done
    · subst e
      rcases hre f h3.1 h3.2.1 hf with ⟨q1, q2, q3⟩ | q
      · exact Or.inl ⟨q1, q2, Or.inr ⟨S.done, Nat.lt_succ_self _, by rw [hm]; exact ⟨h3.1, h3.2.1, h3.2.2, q3⟩⟩⟩
      · exact Or.inr (Or.inr ⟨q, Or.inr ⟨S.done, Nat.lt_succ_self _, by rw [hm]; exact ⟨h3.1, h3.2.1, h3.2.2, rfl⟩⟩⟩)
    · right; left
      refine ⟨j, ?_, by rw [hl]; exact h2, by rw [ht j e]; exact h3⟩
      show S.done + 1 ≤ j
      omega
  · right; right
    refine ⟨hc, ?_⟩
    rcases h with h | ⟨j, hj, h⟩
    · exact Or.inl h
    · exact Or.inr ⟨j, Nat.lt_succ_of_lt hj, by rw [ht j (by omega)]; exact h⟩
theorem WF.mark {S : ES} (h : WF S) (hd : S.done < S.tasks.length) : WF S.mark := by
  have ht := h.tks (S.tk S.done) (tk_mem hd)
  refine { h with tks := fun u hu => ?_, dn := ?_ }
  · rcases mem_setL hu with hu | hu
    · exact h.tks u hu
    · rw [hu]; exact ht
  · show S.done + 1 ≤ (S.tasks.set _ _).length
    rw [List.length_set]
    exact hd
theorem INV.mark {E : Nat → Prop} {S : ES} (h : INV E S) (hd : S.done < S.tasks.length)
    (hre : ∀ k x, k < S.met → ¬ E x → Cov (S.tk S.done) k x → (S.tk S.done).since ≤ S.lvl x → Okx S.mark k x)
    (hun : ∀ k f, (S.tk S.done).cl = some k → (S.tk S.done).lit = f → (f = 0 ∨ f ∈ S.inside k) → (f ∈ S.inside k ∧ S.val f = 1 ∧ S.lvl f ≤ S.level) ∨ S.clash ≠ none) : INV E S.mark := by
  refine ⟨h.wf.mark hd, h.g0, h.lvb, fun t ht => ?_, fun k hk ha => (h.un k hk ha).mark hd (fun f => hun k f), h.wm, fun k hk ha x hx hE hv ht => (h.ok k hk ha x hx hE hv ht).mark hd (hre k x hk hE), h.ent, h.nd, h.lst⟩
  rcases mem_setL ht with hu | hu
  · exact h.tst t hu
  · have h1 := h.tst _ (tk_mem hd)
    rw [hu]
    exact h1
theorem TKS.mark {S : ES} (h : TKS S) (hd : S.done < S.tasks.length) : TKS S.mark := by
  have hl : S.mark.tasks.length = S.tasks.length := by unfold ES.mark; simp
  have hm : S.mark.tk S.done = { S.tk S.done with lv := S.level } := by rw [mark_tk hd, if_pos rfl]
  have ht : ∀ j, j ≠ S.done → S.mark.tk j = S.tk j := fun j hj => by rw [mark_tk hd, if_neg hj]
  refine ⟨fun i j hij hj => ?_, fun j hj => ?_, fun j hj => ?_, fun t ht2 hc => ?_, fun t ht2 k hk => ?_, ?_⟩
  · have hj' : j < S.done + 1 := hj
    rw [ht i (by omega)]
    by_cases e : j = S.done
    · rw [e, hm]; exact (h.lvs i (by omega)).1
    · rw [ht j e]; exact h.srt i j hij (by omega)
  · have hj' : j < S.done + 1 := hj
    by_cases e : j = S.done
    · rw [e, hm]; exact ⟨Nat.le_refl _, h.pnd _ hd⟩
    · rw [ht j e]; exact h.lvs j (by omega)
  · rw [hl] at hj
    by_cases e : j = S.done
    · rw [e, hm]; exact h.pnd _ hd
    · rw [ht j e]; exact h.pnd j hj
  · rcases mem_setL ht2 with hu | hu
    · exact h.non t hu hc
    · rw [hu] at hc ⊢
      exact h.non (S.tk S.done) (tk_mem hd) hc
  · rcases mem_setL ht2 with hu | hu
    · exact h.som t hu k hk
    · rw [hu] at hk ⊢
      exact h.som (S.tk S.done) (tk_mem hd) k hk
  · have e : S.mark.tasks.map TK.key = S.tasks.map TK.key := by
      unfold ES.mark
      simp only
      rw [List.map_set]
      have e2 : TK.key { S.tk S.done with lv := S.level } = (S.tasks.map TK.key)[S.done]'(by simpa using hd) := by
        rw [List.getElem_map]
        unfold ES.tk
        rw [getD_of _ _ _ hd]
        rfl
      rw [e2, List.set_getElem_self]
    rw [e]
    exact h.key
end Go.Pr
