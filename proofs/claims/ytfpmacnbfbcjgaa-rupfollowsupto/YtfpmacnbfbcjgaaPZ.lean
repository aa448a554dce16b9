import Derived.Test.YtfpmacnbfbcjgaaPY
namespace Go.Pr

theorem undone_spec (S : ES) (m : Nat) : ∀ d, (∀ j, ES.undone S.tasks m d ≤ j → j < d → m < (S.tk j).lv) ∧ (ES.undone S.tasks m d = 0 ∨ (S.tk (ES.undone S.tasks m d - 1)).lv ≤ m)
  | 0 => ⟨fun j h1 h2 => absurd h2 (Nat.not_lt_zero _), Or.inl rfl⟩
  | d + 1 => by
    have ih := undone_spec S m d
    unfold ES.undone
    split
    · next h =>
      refine ⟨fun j h1 h2 => ?_, ih.2⟩
      by_cases e : j = d
      · rw [e]; exact h
      · exact ih.1 j h1 (by omega)
    · next h =>
      refine ⟨fun j h1 h2 => by omega, Or.inr ?_⟩
      show (S.tasks.getD (d + 1 - 1) tk0).lv ≤ m
      rw [Nat.add_sub_cancel]
      omega
/-- where a literal of the trail stands tells its level -/
theorem SND.at_lvl {S : ES} (h : SND S) {m i : Nat} (hm : m < S.marks.length) (hi : i < S.trail.length) : i < S.marks.getD m 0 ↔ S.lvl (S.trail.getD i 0) ≤ m := by
  have := h.lvp i hi m hm
  constructor
  · intro h1
    have h2 : ¬ S.marks.getD m 0 ≤ i := by omega
    rw [this] at h2
    omega
  · intro h1
    have h2 : ¬ m < S.lvl (S.trail.getD i 0) := by omega
    rw [← this] at h2
    omega
theorem lvl_half {S : ES} {c d : Nat} (h : c / 2 = d / 2) : S.lvl c = S.lvl d := by unfold ES.lvl; rw [h]
theorem back_val {S : ES} (hw : WF S) (hs : SND S) {m c : Nat} (hm : m < S.marks.length) (h1 : 2 ≤ c) (h2 : c < 2 * S.n + 2) : (S.val c ≠ 0 → S.lvl c ≤ m → (S.back m).val c = S.val c) ∧ ((S.back m).val c ≠ 0 → S.val c ≠ 0 ∧ S.lvl c ≤ m ∧ (S.back m).val c = S.val c) := by
  have hdr : ∀ l ∈ S.trail.drop (S.marks.getD m 0), 2 ≤ l ∧ l < 2 * S.n + 2 := fun l hl => by have := hw.tr l (List.mem_of_mem_drop hl); exact ⟨this.1, this.2.1⟩
  have hg := unset_get (S.trail.drop (S.marks.getD m 0)) S.vals S.n c hw.vall hdr
  have hv : (S.back m).val c = (ES.unset S.vals (S.trail.drop (S.marks.getD m 0))).getD c 0 := rfl
  rw [hv]
  by_cases hin : ∃ l ∈ S.trail.drop (S.marks.getD m 0), c = l ∨ c = opp l
  · rw [hg.2.1 hin]
    refine ⟨fun _ h4 => ?_, fun h3 => absurd rfl h3⟩
    obtain ⟨l, hl, hcl⟩ := hin
    have hl2 := hdr l hl
    have ho := opp_lt hl2.1 hl2.2
    obtain ⟨i, hi, rfl⟩ := List.getElem_of_mem hl
    have hi2 : S.marks.getD m 0 + i < S.trail.length := by rw [List.length_drop] at hi; omega
    have e : (S.trail.drop (S.marks.getD m 0))[i] = S.trail.getD (S.marks.getD m 0 + i) 0 := by rw [List.getElem_drop, getD_of _ _ _ hi2]
    have h5 := (hs.at_lvl hm hi2).2
    rw [← e] at h5
    have h6 : S.lvl c = S.lvl (S.trail.drop (S.marks.getD m 0))[i] := by
      rcases hcl with h | h
      · rw [h]
      · rw [h]; exact lvl_half ho.2.2.2.2
    have := h5 (by rw [← h6]; exact h4)
    omega
  · have hn : ∀ l ∈ S.trail.drop (S.marks.getD m 0), c ≠ l ∧ c ≠ opp l := fun l hl => ⟨fun e => hin ⟨l, hl, Or.inl e⟩, fun e => hin ⟨l, hl, Or.inr e⟩⟩
    rw [hg.2.2 hn]
    refine ⟨fun _ _ => rfl, fun h3 => ⟨h3, ?_, rfl⟩⟩
    -- its variable stands on the trail
    have h3' : S.val c ≠ 0 := h3
    obtain ⟨d, hd, hdc⟩ : ∃ d ∈ S.trail, d / 2 = c / 2 ∧ (d = c ∨ d = opp c) := by
      have ho := opp_lt h1 h2
      rcases hw.val_of c with h4 | h4 | h4
      · exact ⟨opp c, opp_true hw h1 h2 h4, ho.2.2.2.2, Or.inr rfl⟩
      · exact absurd h4 h3'
      · exact ⟨c, hw.trv c h1 h2 h4, rfl, Or.inl rfl⟩
    obtain ⟨i, hi, rfl⟩ := List.getElem_of_mem hd
    have hil : i < S.marks.getD m 0 := by
      by_cases hlt : i < S.marks.getD m 0
      · exact hlt
      · exfalso
        have hmem : S.trail[i] ∈ S.trail.drop (S.marks.getD m 0) := by
          rw [List.mem_iff_getElem]
          exact ⟨i - S.marks.getD m 0, by rw [List.length_drop]; omega, by rw [List.getElem_drop]; congr 1; omega⟩
        have h5 := hn _ hmem
        have ho := opp_lt h1 h2
        rcases hdc.2 with e | e
        · exact h5.1 e.symm
        · exact h5.2 (by rw [e, ho.2.2.2.1])
    have h6 := (hs.at_lvl hm hi).1 hil
    rw [getD_of _ _ _ hi] at h6
    rw [lvl_half hdc.1.symm]
    exact h6
theorem filter_tk {ts : List TK} {p : TK → Bool} {d : Nat} {t : TK} (hd : d ≤ ts.length) (ht : t ∈ ts.drop d) (hp : p t = true) : ∃ j, d ≤ j ∧ j < (ts.take d ++ (ts.drop d).filter p).length ∧ (ts.take d ++ (ts.drop d).filter p).getD j tk0 = t := by
  have h1 : t ∈ (ts.drop d).filter p := List.mem_filter.2 ⟨ht, hp⟩
  obtain ⟨i, hi, e⟩ := List.getElem_of_mem h1
  have hl : (ts.take d).length = d := by rw [List.length_take]; omega
  refine ⟨d + i, by omega, by rw [List.length_append, hl]; omega, ?_⟩
  rw [List.getD_eq_getElem?_getD, List.getElem?_append_right (by omega), hl, Nat.add_sub_cancel_left, List.getElem?_eq_getElem hi, e]
  rfl
theorem FULL.back {S : ES} (h : FULL S) {m : Nat} (hm : m < S.marks.length) : FULL (S.back m) := by
  have hw := h.inv.wf
  have hbv := fun {c} => back_val (c := c) hw h.snd hm
  have hus := undone_spec S m S.done
  have hule := undone_le S.tasks m S.done
  have hdn := hw.dn
  have hmk : S.marks.getD m 0 < S.trail.length := by rw [getD_of _ _ _ hm]; exact hw.mks _ (List.getElem_mem _)
  obtain ⟨d, hd⟩ : ∃ d, ES.undone S.tasks m S.done = d := ⟨_, rfl⟩
  obtain ⟨left, hleft⟩ : ∃ left, S.marks.getD m 0 = left := ⟨_, rfl⟩
  have htk : (S.back m).tasks = S.tasks.take d ++ (S.tasks.drop d).filter fun t => Decidable.decide (t.since ≤ m) := by rw [← hd]; rfl
  have hdo : (S.back m).done = d := hd
  have htr : (S.back m).trail = S.trail.take left := by rw [← hleft]; rfl
  have hhd : (S.back m).head = min S.head left := by rw [← hleft]; rfl
  have hlev : (S.back m).level = m := by show (S.marks.take m).length = m; rw [List.length_take]; omega
  have hcls : (S.back m).clash = none := rfl
  have hlvl : ∀ c, (S.back m).lvl c = S.lvl c := fun _ => rfl
  have hins : ∀ k, (S.back m).inside k = S.inside k := fun _ => rfl
  rw [hd] at hus hule
  rw [hleft] at hmk
  have hlo : ∀ j, j < d → (S.tk j).lv ≤ m := fun j hj => by
    rcases hus.2 with e | e
    · omega
    · by_cases e2 : j = d - 1
      · rw [e2]; exact e
      · exact Nat.le_trans (h.tks.srt j (d - 1) (by omega) (by omega)) e
  have htj : ∀ j, j < d → (S.back m).tk j = S.tk j := fun j hj => by
    unfold ES.tk
    rw [htk, List.getD_eq_getElem?_getD, List.getElem?_append_left (by rw [List.length_take]; omega), List.getElem?_take, if_pos hj, ← List.getD_eq_getElem?_getD]
  have hpend : ∀ j, d ≤ j → j < S.tasks.length → (S.tk j).since ≤ m → ∃ j', (S.back m).done ≤ j' ∧ j' < (S.back m).tasks.length ∧ (S.back m).tk j' = S.tk j := fun j hj1 hj2 hsi => by
    have hmem : S.tk j ∈ S.tasks.drop d := by
      unfold ES.tk
      rw [getD_of _ _ _ hj2, List.mem_iff_getElem]
      exact ⟨j - d, by rw [List.length_drop]; omega, by rw [List.getElem_drop]; congr 1; omega⟩
    obtain ⟨j', q1, q2, q3⟩ := filter_tk (p := fun t => Decidable.decide (t.since ≤ m)) (by omega) hmem (by simpa using hsi)
    exact ⟨j', by rw [hdo]; exact q1, by rw [htk]; exact q2, by unfold ES.tk; rw [htk]; exact q3⟩
  have hmemt : ∀ t ∈ (S.back m).tasks, t ∈ S.tasks ∧ t.since ≤ m := fun t ht => by
    rw [htk] at ht
    rcases List.mem_append.1 ht with h1 | h1
    · obtain ⟨j, hj, e⟩ := List.getElem_of_mem h1
      rw [List.length_take] at hj
      have hj2 : j < d := by omega
      have e2 : S.tk j = t := by unfold ES.tk; rw [getD_of _ _ _ (by omega), ← e, List.getElem_take]
      refine ⟨by rw [← e2]; exact tk_mem (by omega), ?_⟩
      rw [← e2]
      exact Nat.le_trans (h.tks.lvs j (by omega)).2 (hlo j hj2)
    · have h2 := List.mem_filter.1 h1
      exact ⟨List.mem_of_mem_drop h2.1, by simpa using h2.2⟩
  have htold : ∀ x, Told (S.back m) x → Told S x := fun x hx => by
    unfold Told at hx
    rw [htr, hhd, List.take_take] at hx
    exact List.take_subset_take_left _ (by omega) hx
  -- a clause that stood well does so
  have hokx : ∀ k x, 2 ≤ x → x < 2 * S.n + 2 → S.lvl x ≤ m → Okx S k x → Okx (S.back m) k x := fun k x hx1 hx2 hlx ho => by
    rcases ho with ⟨z, hz, hv, ho⟩ | ⟨j, q1, q2, q3, q4⟩ | ⟨hc, ho⟩
    · have hz2 := hw.inside_mem hz
      have hz0 : S.val z ≠ 0 := by rw [hv]; decide
      rcases ho with ho | ⟨j, q1, q2, q3, q4⟩
      · exact Or.inl ⟨z, hz, by rw [(hbv hz2.1 hz2.2).1 hz0 (by omega)]; exact hv, Or.inl ho⟩
      · by_cases hj : j < d
        · have := hlo j hj
          exact Or.inl ⟨z, hz, by rw [(hbv hz2.1 hz2.2).1 hz0 (by omega)]; exact hv, Or.inr ⟨j, by rw [hdo]; exact hj, by rw [htj j hj]; exact ⟨q2, q3, q4⟩⟩⟩
        · obtain ⟨j', r1, r2, r3⟩ := hpend j (by omega) (by omega) (by omega)
          exact Or.inr (Or.inl ⟨j', r1, r2, by rw [r3]; exact ⟨q2, q3⟩⟩)
    · obtain ⟨j', r1, r2, r3⟩ := hpend j (by omega) q2 (by omega)
      exact Or.inr (Or.inl ⟨j', r1, r2, by rw [r3]; exact ⟨q3, q4⟩⟩)
    · have hml : m < S.level := hm
      rcases ho with ho | ⟨j, q1, q2, q3, q4⟩
      · omega
      · have hj : d ≤ j := by
          by_cases hj : j < d
          · have := hlo j hj; omega
          · omega
        obtain ⟨j', r1, r2, r3⟩ := hpend j hj (by omega) (by omega)
        exact Or.inr (Or.inl ⟨j', r1, r2, by rw [r3]; exact ⟨q2, q3⟩⟩)
  have hfalse : ∀ z, 2 ≤ z → z < 2 * S.n + 2 → S.val z = -1 → S.lvl z ≤ m → (S.back m).val z = -1 := fun z h1 h2 hv hl => by rw [(hbv h1 h2).1 (by rw [hv]; decide) hl]; exact hv
  refine ⟨⟨hw.back hm, h.inv.g0, fun c hc hv => ?_, fun t ht => ?_, fun k hk ha => ?_, h.inv.wm, fun k hk ha x hx hE hv ht => ?_, h.inv.ent, h.inv.nd, h.inv.lst⟩, ⟨fun i j hij hj => ?_, fun j hj => ?_, fun j hj => ?_, fun t ht hcn => ?_, fun t ht k hk => ?_, ?_⟩, ⟨fun i hi j hj => ?_, fun i hi k hk => ?_, fun i hi => ?_, fun k hk => ?_⟩, h.new⟩
  · rw [hlev, hlvl]
    by_cases hc2 : c < 2 * S.n + 2
    · exact ((hbv hc hc2).2 hv).2.1
    · exfalso
      refine hv ?_
      unfold ES.val
      rw [List.getD_eq_getElem?_getD, List.getElem?_eq_none]
      · rfl
      · have e := (hw.back hm).vall
        rw [e]
        show 2 * S.n + 2 ≤ c
        omega
  · obtain ⟨h1, h2⟩ := hmemt t ht
    have h3 := h.inv.tst t h1
    have h4 := hw.tks t h1
    refine ⟨fun hc => ?_, fun k hk z hz hne => ?_⟩
    · have h5 := h3.1 hc
      have h6 : 2 ≤ t.lit := (told_code hw h4.1 h4.2.1 (h.tks.non t h1 hc).2.1).1
      exact ⟨hfalse _ h6 h4.1 h5.1 (by omega), h5.2⟩
    · have h5 := h3.2 k hk z hz hne
      have h6 := hw.inside_mem (S := S) (k := k) hz
      exact ⟨hfalse _ h6.1 h6.2 h5.1 (by omega), h5.2⟩
  · obtain ⟨f, hf, ho, hu⟩ := h.inv.un k hk ha
    refine ⟨f, hf, fun z hz hne => ?_, ?_⟩
    · have h5 := ho z hz hne
      have h6 := hw.inside_mem (S := S) (k := k) hz
      exact ⟨hfalse _ h6.1 h6.2 h5.1 (by omega), h5.2⟩
    · rcases hu with ⟨h1, hv, hu⟩ | ⟨j, q1, q2, q3, q4, q5⟩ | ⟨hc, hu⟩
      · have hz2 := hw.inside_mem h1
        have hz0 : S.val f ≠ 0 := by rw [hv]; decide
        rcases hu with hu | ⟨j, q1, q2, q3, q4, q5⟩
        · exact Or.inl ⟨h1, by rw [(hbv hz2.1 hz2.2).1 hz0 (by omega)]; exact hv, Or.inl hu⟩
        · by_cases hj : j < d
          · have := hlo j hj
            exact Or.inl ⟨h1, by rw [(hbv hz2.1 hz2.2).1 hz0 (by omega)]; exact hv, Or.inr ⟨j, by rw [hdo]; exact hj, by rw [htj j hj]; exact ⟨q2, q3, q4, q5⟩⟩⟩
          · obtain ⟨j', r1, r2, r3⟩ := hpend j (by omega) (by omega) (by omega)
            exact Or.inr (Or.inl ⟨j', r1, r2, by rw [r3]; exact ⟨q2, q3, q4⟩⟩)
      · obtain ⟨j', r1, r2, r3⟩ := hpend j (by omega) q2 (by omega)
        exact Or.inr (Or.inl ⟨j', r1, r2, by rw [r3]; exact ⟨q3, q4, q5⟩⟩)
      · have hml : m < S.level := hm
        rcases hu with hu | ⟨j, q1, q2, q3, q4, q5⟩
        · omega
        · have hj : d ≤ j := by
            by_cases hj : j < d
            · have := hlo j hj; omega
            · omega
          obtain ⟨j', r1, r2, r3⟩ := hpend j hj (by omega) (by omega)
          exact Or.inr (Or.inl ⟨j', r1, r2, by rw [r3]; exact ⟨q2, q3, q4⟩⟩)
  · have hmm := h.inv.wm k hk ha
    have hxm : x ∈ S.inside k := by rcases hx with t | t; rw [t]; exact hmm.1; rw [t]; exact hmm.2.1
    have hxc := hw.inside_mem hxm
    have h3 := (hbv hxc.1 hxc.2).2 (by rw [hv]; decide)
    exact hokx k x hxc.1 hxc.2 h3.2.1 (h.inv.ok k hk ha x hx hE (by rw [← h3.2.2]; exact hv) (htold x ht))
  · rw [hdo] at hj
    rw [htj i (by omega), htj j hj]
    exact h.tks.srt i j hij (by omega)
  · rw [hdo] at hj
    rw [htj j hj, hlev]
    exact ⟨hlo j hj, (h.tks.lvs j (by omega)).2⟩
  · rw [hlev]
    exact (hmemt _ (tk_mem hj)).2
  · obtain ⟨h1, h2⟩ := hmemt t ht
    have h3 := h.tks.non t h1 hcn
    have h4 := hw.tks t h1
    have h5 := told_code hw h4.1 h4.2.1 h3.2.1
    have ho := opp_lt h5.1 h4.1
    refine ⟨h3.1, ?_, hfalse _ h5.1 h4.1 h5.2 (by omega)⟩
    unfold Told
    rw [htr, hhd, List.take_take]
    have h6 : opp t.lit ∈ S.trail.take S.head := h3.2.1
    obtain ⟨i, hi, e⟩ := List.getElem_of_mem h6
    rw [List.length_take] at hi
    rw [List.getElem_take] at e
    have hi2 : i < S.trail.length := by omega
    have h7 := (h.snd.at_lvl hm hi2).2
    rw [hleft, getD_of _ _ _ hi2, e, lvl_half ho.2.2.2.2] at h7
    have h8 := h7 (by omega)
    rw [← e, List.mem_iff_getElem]
    exact ⟨i, by rw [List.length_take]; omega, by rw [List.getElem_take]⟩
  · exact h.tks.som t (hmemt t ht).1 k hk
  · rw [htk]
    refine h.tks.key.sublist (List.Sublist.map _ ?_)
    have e : S.tasks = S.tasks.take d ++ S.tasks.drop d := (List.take_append_drop d S.tasks).symm
    conv => rhs; rw [e]
    exact (List.Sublist.refl _).append List.filter_sublist
  · rw [htr, List.length_take] at hi
    have hj' : j < m := by have e : (S.back m).marks = S.marks.take m := rfl; rw [e, List.length_take] at hj; omega
    have e1 : (S.back m).marks.getD j 0 = S.marks.getD j 0 := by show (S.marks.take m).getD j 0 = _; rw [List.getD_eq_getElem?_getD, List.getElem?_take, if_pos hj', ← List.getD_eq_getElem?_getD]
    have e2 : (S.back m).trail.getD i 0 = S.trail.getD i 0 := by rw [htr, List.getD_eq_getElem?_getD, List.getElem?_take, if_pos (by omega), ← List.getD_eq_getElem?_getD]
    rw [e1, e2]
    exact h.snd.lvp i (by omega) j (by omega)
  · rw [htr, List.length_take] at hi
    have e2 : (S.back m).trail.getD i 0 = S.trail.getD i 0 := by rw [htr, List.getD_eq_getElem?_getD, List.getElem?_take, if_pos (by omega), ← List.getD_eq_getElem?_getD]
    rw [e2] at hk ⊢
    have h1 := h.snd.rsn i (by omega) k hk
    refine ⟨h1.1, h1.2.1, fun z hz hne => ?_⟩
    rw [htr, List.take_take, Nat.min_eq_left (by omega)]
    exact h1.2.2 z hz hne
  · rw [htr, List.length_take] at hi
    have e2 : (S.back m).trail.getD i 0 = S.trail.getD i 0 := by rw [htr, List.getD_eq_getElem?_getD, List.getElem?_take, if_pos (by omega), ← List.getD_eq_getElem?_getD]
    rw [e2]
    have h1 := h.snd.dec i (by omega)
    show (S.giv.getD (S.trail.getD i 0 / 2) (0, none)).2 = none ↔ i ∈ S.marks.take m
    rw [h1]
    constructor
    · intro h2
      obtain ⟨j, hj, e⟩ := List.getElem_of_mem h2
      have hjm : j < m := by
        by_cases hjm : j < m
        · exact hjm
        · exfalso
          have : S.marks.getD m 0 ≤ S.marks[j] := by
            rw [getD_of _ _ _ hm]
            by_cases e3 : m = j
            · subst e3; exact Nat.le_refl _
            · exact Nat.le_of_lt ((List.pairwise_iff_getElem.1 hw.mkd) m j hm hj (by omega))
          omega
      rw [← e, List.mem_iff_getElem]
      exact ⟨j, by rw [List.length_take]; omega, by rw [List.getElem_take]⟩
    · exact fun h2 => List.mem_of_mem_take h2
  · cases hk
end Go.Pr
