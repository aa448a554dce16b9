import Derived.Test.YtfpmacnbfbcjgaaPX
namespace Go.Pr

theorem add_clause {S : ES} {c : List Nat} {j : Nat} (hj : j < S.cls.length) : (S.add c).clause j = S.clause j := by
  unfold ES.add ES.clause
  simp only
  rw [List.getD_eq_getElem?_getD, List.getElem?_append_left hj, ← List.getD_eq_getElem?_getD]
theorem add_inside {S : ES} (hw : WF S) {c : List Nat} {j : Nat} (hj : j < S.cls.length) : (S.add c).inside j = S.inside j := by
  have hc := hw.clause_ok hj
  unfold ES.inside
  rw [add_clause hj]
  show List.take _ (List.drop _ (S.lits ++ c)) = _
  rw [List.drop_append_of_le_length (by omega), List.take_append_of_le_length (by rw [List.length_drop]; omega)]
theorem add_inside_new {S : ES} {c : List Nat} : (S.add c).inside S.cls.length = c := by
  have e : (S.add c).clause S.cls.length = ⟨S.lits.length, S.lits.length + c.length, 0, 0, 0⟩ := by
    unfold ES.add ES.clause
    simp only
    exact getD_last _ _ _
  unfold ES.inside
  rw [e]
  show List.take _ (List.drop _ (S.lits ++ c)) = _
  simp
theorem FULL.add {S : ES} (h : FULL S) {c : List Nat} (hc : ∀ x ∈ c, 2 ≤ x ∧ x < 2 * S.n + 2) (h1 : S.lits.length + c.length ≤ 4194304) (h2 : S.cls.length < 1048576) (h3 : c.length ≤ 65536) : FULL (S.add c) := by
  have hw := h.inv.wf
  have hme := hw.met
  have hi : ∀ {j}, j < S.cls.length → (S.add c).inside j = S.inside j := fun hj => add_inside hw hj
  have hcl : ∀ {j}, j < S.cls.length → (S.add c).clause j = S.clause j := fun hj => add_clause hj
  have hlt : ∀ {j}, j < (S.add c).met → j < S.cls.length := fun {j} hj => by have : j < S.met := hj; omega
  refine ⟨⟨hw.add hc h1 h2 h3, h.inv.g0, h.inv.lvb, fun t ht => ?_, fun k hk ha => ?_, fun k hk ha => ?_, fun k hk ha x hx hE hv htd => ?_, fun x hE e he => ?_, h.inv.nd, fun k hk ha x hx hE => ?_⟩, ⟨h.tks.srt, h.tks.lvs, h.tks.pnd, h.tks.non, fun t ht k hk => ?_, h.tks.key⟩, ⟨h.snd.lvp, fun i hi2 k hk => ?_, h.snd.dec, fun k hk z hz => ?_⟩, fun k hk => ?_⟩
  · have h4 := h.inv.tst t ht
    refine ⟨h4.1, fun k hk z hz => ?_⟩
    rw [hi ((hw.tks t ht).2.2 k hk)] at hz
    exact h4.2 k hk z hz
  · rw [hcl (hlt hk)] at ha
    have h4 := h.inv.un k hk ha
    unfold Un at h4 ⊢
    rw [hi (hlt hk)]
    exact h4
  · rw [hcl (hlt hk)] at ha ⊢
    rw [hi (hlt hk)]
    exact h.inv.wm k hk ha
  · rw [hcl (hlt hk)] at ha hx
    have h4 := h.inv.ok k hk ha x hx hE hv htd
    unfold Okx at h4 ⊢
    rw [hi (hlt hk)]
    exact h4
  · have h4 := h.inv.ent x hE e he
    have h5 : e.1 < S.cls.length := Nat.lt_of_lt_of_le h4.1 hme
    unfold Ent at h4 ⊢
    rw [hi h5, hcl h5]
    exact h4
  · rw [hcl (hlt hk)] at ha hx
    exact h.inv.lst k hk ha x hx hE
  · have h4 := h.tks.som t ht k hk
    rw [hi ((hw.tks t ht).2.2 k hk)]
    exact h4
  · have h4 := h.snd.rsn i hi2 k hk
    rw [hi h4.1]
    refine ⟨?_, h4.2⟩
    show k < (S.cls ++ _).length
    rw [List.length_append]
    exact Nat.lt_add_right _ h4.1
  · rw [hi (hw.clash k hk)] at hz
    exact h.snd.cla k hk z hz
  · have hk' : S.met ≤ k := hk
    by_cases e : k < S.cls.length
    · rw [hcl e]; exact h.new k hk'
    · unfold ES.add ES.clause
      simp only
      rw [List.getD_eq_getElem?_getD]
      by_cases e2 : k = S.cls.length
      · subst e2; simp
      · rw [List.getElem?_eq_none (by simp; omega)]; rfl
/-- more values, a level more, no conflict -/
structure Dex (S T : ES) : Prop where
  val : ∀ c, S.val c ≠ 0 → T.val c = S.val c
  lvl : ∀ c, S.val c ≠ 0 → T.lvl c = S.lvl c
  ins : ∀ k, T.inside k = S.inside k
  tasks : T.tasks = S.tasks
  done : T.done = S.done
  clash : S.clash = none
theorem Dex.tk {S T : ES} (h : Dex S T) (j : Nat) : T.tk j = S.tk j := by unfold ES.tk; rw [h.tasks]
theorem Okx.dex {S T : ES} (e : Dex S T) {k x : Nat} (hx : S.val x = -1) (h : Okx S k x) : Okx T k x := by
  have hlx : T.lvl x = S.lvl x := e.lvl x (by rw [hx]; decide)
  unfold Okx
  rw [hlx, e.done, e.tasks, e.ins k]
  rcases h with ⟨z, hz, hv, h⟩ | ⟨j, h⟩ | ⟨hc, h⟩
  · left
    have hlz : T.lvl z = S.lvl z := e.lvl z (by rw [hv]; decide)
    refine ⟨z, hz, by rw [e.val z (by rw [hv]; decide)]; exact hv, ?_⟩
    rw [hlz]
    rcases h with h | ⟨j, h⟩
    · exact Or.inl h
    · exact Or.inr ⟨j, by rw [e.tk j]; exact h⟩
  · exact Or.inr (Or.inl ⟨j, by rw [e.tk j]; exact h⟩)
  · exact absurd e.clash hc
theorem Un.dex {S T : ES} (e : Dex S T) {k : Nat} (h : Un S k) : Un T k := by
  obtain ⟨f, hf, ho, h⟩ := h
  refine ⟨f, by rw [e.ins k]; exact hf, fun z hz hne => ?_, ?_⟩
  · rw [e.ins k] at hz
    have h1 := ho z hz hne
    have h2 : S.val z ≠ 0 := by rw [h1.1]; decide
    rw [e.val z h2, e.lvl z h2]
    exact h1
  · rw [e.ins k, e.done, e.tasks]
    rcases h with ⟨h1, hv, h⟩ | ⟨j, h⟩ | ⟨hc, h⟩
    · left
      have h2 : S.val f ≠ 0 := by rw [hv]; decide
      rw [e.val f h2, e.lvl f h2]
      refine ⟨h1, hv, ?_⟩
      rcases h with h | ⟨j, h⟩
      · exact Or.inl h
      · exact Or.inr ⟨j, by rw [e.tk j]; exact h⟩
    · exact Or.inr (Or.inl ⟨j, by rw [e.tk j]; exact h⟩)
    · exact absurd e.clash hc
theorem Tst.dex {S T : ES} (e : Dex S T) {t : TK} (h : Tst S t) : Tst T t := by
  refine ⟨fun h1 => ?_, fun k hk z hz hne => ?_⟩
  · have h2 := h.1 h1
    have h3 : S.val t.lit ≠ 0 := by rw [h2.1]; decide
    rw [e.val _ h3, e.lvl _ h3]
    exact h2
  · rw [e.ins k] at hz
    have h2 := h.2 k hk z hz hne
    have h3 : S.val z ≠ 0 := by rw [h2.1]; decide
    rw [e.val _ h3, e.lvl _ h3]
    exact h2
theorem decide_val {S : ES} (h : WF S) {l : Nat} (h1 : 2 ≤ l) (h2 : l < 2 * S.n + 2) (k : Nat) : (S.decide l).val k = if k = opp l then -1 else if k = l then 1 else S.val k :=
  getD_set2 S.vals l (opp l) k 1 (-1) (by rw [h.vall]; exact h2) (by rw [h.vall]; exact (opp_lt h1 h2).2.1)
theorem decide_giv {S : ES} (h : WF S) {l : Nat} (h2 : l < 2 * S.n + 2) (c : Nat) : (S.decide l).giv.getD (c / 2) (0, none) = if c / 2 = l / 2 then (S.level + 1, none) else S.giv.getD (c / 2) (0, none) := by
  have e0 : (S.decide l).giv = S.giv.set (l / 2) (S.level + 1, none) := by
    unfold ES.decide ES.set
    simp [ES.level]
  rw [e0, List.getD_eq_getElem?_getD, List.getElem?_set]
  by_cases e : l / 2 = c / 2
  · rw [if_pos e, if_pos (by rw [h.givl]; omega), if_pos e.symm]
    rfl
  · rw [if_neg e, if_neg (fun e2 => e e2.symm), ← List.getD_eq_getElem?_getD]
theorem FULL.decide {S : ES} (h : FULL S) {l : Nat} (h1 : 2 ≤ l) (h2 : l < 2 * S.n + 2) (h0 : S.val l = 0) (hc : S.clash = none) : FULL (S.decide l) := by
  have hw := h.inv.wf
  have hvo : S.val (opp l) = 0 := by rw [hw.valx l h1 h2, h0]; rfl
  have ho := opp_lt h1 h2
  have hval := fun k => decide_val hw h1 h2 k
  have hgiv := fun c => decide_giv hw h2 c
  have hlvl : ∀ c, (S.decide l).lvl c = if c / 2 = l / 2 then S.level + 1 else S.lvl c := fun c => by
    unfold ES.lvl
    rw [hgiv]
    split <;> rfl
  have hlev : (S.decide l).level = S.level + 1 := by unfold ES.decide ES.level ES.set; simp
  have hhalf : ∀ c, S.val c ≠ 0 → c / 2 ≠ l / 2 := fun c hc2 e => by
    rcases half_eq (c := l) (d := c) e.symm with e2 | e2
    · exact hc2 (by rw [e2]; exact h0)
    · exact hc2 (by rw [e2]; exact hvo)
  have htr : (S.decide l).trail = S.trail ++ [l] := rfl
  have hmk : (S.decide l).marks = S.marks ++ [S.trail.length] := rfl
  have hmt : ∀ m ∈ S.marks, m < S.trail.length := hw.mks
  have e : Dex S (S.decide l) := ⟨fun c hc2 => by rw [hval, if_neg (fun e => hc2 (by rw [e]; exact hvo)), if_neg (fun e => hc2 (by rw [e]; exact h0))], fun c hc2 => by rw [hlvl, if_neg (hhalf c hc2)], fun _ => rfl, rfl, rfl, hc⟩
  have htold : ∀ x, Told (S.decide l) x ↔ Told S x := fun x => by
    show opp x ∈ (S.trail ++ [l]).take S.head ↔ _
    rw [List.take_append_of_le_length hw.head]
    exact Iff.rfl
  refine ⟨⟨hw.decide h1 h2 h0, ?_, fun c hc2 hv => ?_, fun t ht => (h.inv.tst t ht).dex e, fun k hk ha => (h.inv.un k hk ha).dex e, h.inv.wm, fun k hk ha x hx hE hv ht => ?_, h.inv.ent, h.inv.nd, h.inv.lst⟩, ⟨?_, fun j hj => ?_, fun j hj => ?_, fun t ht hcn => ?_, h.tks.som, h.tks.key⟩, ⟨fun i hi j hj => ?_, fun i hi k hk => ?_, fun i hi => ?_, fun k hk => ?_⟩, h.new⟩
  · have e0 := hgiv 0
    rw [Nat.zero_div, if_neg (by omega)] at e0
    rw [e0]
    exact h.inv.g0
  · rw [hlvl, hlev]
    split
    · exact Nat.le_refl _
    · next hne =>
      refine Nat.le_succ_of_le (h.inv.lvb c hc2 fun e0 => hv ?_)
      rw [hval, if_neg (fun e1 => hne (by rw [e1]; exact ho.2.2.2.2)), if_neg (fun e1 => hne (by rw [e1]))]
      exact e0
  · have htS := (htold x).1 ht
    have hmm := h.inv.wm k hk ha
    have hxm : x ∈ S.inside k := by rcases hx with t | t; rw [t]; exact hmm.1; rw [t]; exact hmm.2.1
    have hxc := hw.inside_mem hxm
    have hvx := (told_code hw hxc.2 (by omega) htS).2
    exact (h.inv.ok k hk ha x hx hE hvx htS).dex e hvx
  · exact h.tks.srt
  · have := h.tks.lvs j hj
    rw [hlev]
    exact ⟨Nat.le_succ_of_le this.1, this.2⟩
  · rw [hlev]
    exact Nat.le_succ_of_le (h.tks.pnd j hj)
  · have h4 := h.tks.non t ht hcn
    have h5 : S.val t.lit ≠ 0 := by rw [h4.2.2]; decide
    rw [e.lvl _ h5, e.val _ h5]
    exact ⟨h4.1, (htold _).2 h4.2.1, h4.2.2⟩
  · rw [htr, List.length_append, List.length_singleton] at hi
    rw [hmk, List.length_append, List.length_singleton] at hj
    rw [hmk, htr]
    have hlm : S.level = S.marks.length := rfl
    by_cases hi2 : i < S.trail.length
    · rw [getD_snoc _ _ _ _ hi2, hlvl, if_neg (trail_half hw h1 h2 h0 hi2)]
      by_cases hj2 : j < S.marks.length
      · rw [getD_snoc _ _ _ _ hj2]
        exact h.snd.lvp i hi2 j hj2
      · obtain rfl : j = S.marks.length := by omega
        rw [getD_last]
        have hm : S.trail.getD i 0 ∈ S.trail := by rw [getD_of _ _ _ hi2]; exact List.getElem_mem _
        have h4 := hw.tr _ hm
        have := h.inv.lvb _ h4.1 (by rw [h4.2.2]; decide)
        constructor
        · intro; omega
        · intro; omega
    · obtain rfl : i = S.trail.length := by omega
      rw [getD_last, hlvl, if_pos rfl]
      by_cases hj2 : j < S.marks.length
      · rw [getD_snoc _ _ _ _ hj2]
        have := hmt (S.marks.getD j 0) (by rw [getD_of _ _ _ hj2]; exact List.getElem_mem _)
        constructor
        · intro; omega
        · intro; omega
      · obtain rfl : j = S.marks.length := by omega
        rw [getD_last]
        constructor
        · intro; omega
        · intro; omega
  · rw [htr, List.length_append, List.length_singleton] at hi
    rw [htr] at hk ⊢
    by_cases hi2 : i < S.trail.length
    · rw [getD_snoc _ _ _ _ hi2] at hk ⊢
      rw [hgiv, if_neg (trail_half hw h1 h2 h0 hi2)] at hk
      rw [List.take_append_of_le_length (by omega)]
      exact h.snd.rsn i hi2 k hk
    · obtain rfl : i = S.trail.length := by omega
      rw [getD_last, hgiv, if_pos rfl] at hk
      cases hk
  · rw [htr, List.length_append, List.length_singleton] at hi
    rw [htr, hmk]
    by_cases hi2 : i < S.trail.length
    · rw [getD_snoc _ _ _ _ hi2, hgiv, if_neg (trail_half hw h1 h2 h0 hi2)]
      rw [h.snd.dec i hi2, List.mem_append]
      constructor
      · exact Or.inl
      · rintro (h5 | h5)
        · exact h5
        · have : i = S.trail.length := by simpa using h5
          omega
    · obtain rfl : i = S.trail.length := by omega
      rw [getD_last, hgiv, if_pos rfl]
      simp
  · have e0 : (S.decide l).clash = S.clash := rfl
    rw [e0, hc] at hk
    cases hk
end Go.Pr
