import Derived.Test.YtfpmacnbfbcjgaaPW
namespace Go.Pr

theorem settle_lvb {S : ES} (h : WF S) (hlvb : ∀ c, 2 ≤ c → S.val c ≠ 0 → S.lvl c ≤ S.level) {k l : Nat} (hl : l < 2 * S.n + 2) (h1 : l ≠ 1) : ∀ c, 2 ≤ c → (S.settle k l).val c ≠ 0 → (S.settle k l).lvl c ≤ (S.settle k l).level := by
  intro c hc hv
  have e := settle_ext h (k := k) hl h1
  rw [e.level]
  unfold ES.settle at hv ⊢
  split
  · next h0 =>
    rw [if_pos h0] at hv
    have hl0 : l ≠ 0 := fun e => by rw [e, h.val0] at h0; exact absurd h0 (by decide)
    rw [set_lvl h hl]
    split
    · exact Nat.le_refl _
    · next hne =>
      refine hlvb c hc fun e0 => hv ?_
      have ho := opp_lt (n := S.n) (c := l) (by omega) hl
      rw [set_val h (by omega) hl, if_neg (fun e1 => hne (by rw [e1]; exact ho.2.2.2.2)), if_neg (fun e1 => hne (by rw [e1]))]
      exact e0
  · next h0 =>
    rw [if_neg h0] at hv
    split
    · next h3 => rw [if_pos h3] at hv; exact hlvb c hc hv
    · next h3 => rw [if_neg h3] at hv; exact hlvb c hc hv
theorem WF.meet1x {S : ES} (h : WF S) {k f s : Nat} (hk : k < S.cls.length) (f1 : f < 2 * S.n + 2) (s1 : s < 2 * S.n + 2) (f2 : f ≠ 1) (s2 : s ≠ 1) : WF (S.meet1 k f s) ∧ Same S (S.meet1 k f s) := by
  have hc := h.clause_ok hk
  unfold ES.meet1
  split
  · obtain ⟨a1, a2⟩ := h.setC (c := { S.clause k with a := f, b := s }) rfl rfl hk hc.2.2.2.1 f1 s1 f2 s2
    obtain ⟨b1, b2⟩ := a1.addW (c := f) (k := k) (o := s) (by rw [a2.len]; exact hk) (by rw [a2.n]; exact s1) s2
    obtain ⟨c1, c2⟩ := b1.addW (c := s) (k := k) (o := f) (by rw [b2.len, a2.len]; exact hk) (by rw [b2.n, a2.n]; exact f1) f2
    exact ⟨c1, a2.trans (b2.trans c2)⟩
  · exact ⟨h, Same.refl S⟩
theorem FULL.meet {S : ES} (h : FULL S) (hd : S.done = S.tasks.length) (hm : S.met < S.cls.length) : FULL { S.meet S.met with met := S.met + 1 } := by
  have hw := h.inv.wf
  have hwm := hw.meet hm
  have hJ := h.inv.last2 S.met
  have hdef : S.meet S.met = (S.meet1 S.met (S.last2 (S.inside S.met) 0 0).1 (S.last2 (S.inside S.met) 0 0).2).meet2 S.met (S.last2 (S.inside S.met) 0 0).1 (S.last2 (S.inside S.met) 0 0).2 := rfl
  rw [hdef] at hwm ⊢
  generalize (S.last2 (S.inside S.met) 0 0).1 = f at *
  generalize (S.last2 (S.inside S.met) 0 0).2 = s at *
  obtain ⟨k, hk⟩ : ∃ k, S.met = k := ⟨_, rfl⟩
  have hkl : k < S.cls.length := by rw [← hk]; exact hm
  rw [hk] at hJ hwm ⊢
  have hin : ∀ {x}, (x = 0 ∨ x ∈ S.inside k) → x < 2 * S.n + 2 ∧ x ≠ 1 := fun hx => by
    rcases hx with e | e
    · rw [e]; exact ⟨by omega, by omega⟩
    · have := hw.inside_mem e; exact ⟨this.2, by omega⟩
  have hf := hin hJ.mf
  have hs := hin hJ.ms
  obtain ⟨xA, aMet, aLen, aTr, aGv, aVl, aMk, aCl, aHd, aJ, aK, a0, aW⟩ := meet1_facts (S := S) (k := k) (f := f) (s := s) hw hkl hf.1 hs.1 (fun e => (hJ.ne e).1)
  have wA := hw.meet1x hkl hf.1 hs.1 hf.2 hs.2
  have hfsA : ∀ z, (S.meet1 k f s).fs z = S.fs z := fun z => by unfold ES.fs ES.val ES.lvl; rw [aVl, aGv]
  have hsle : S.fs s ≤ never := by
    rcases hJ.ms with e | e
    · rw [e, h.inv.fs0]; exact Nat.zero_le _
    · exact h.inv.fs_le (hw.inside_mem e).1
  have hprop : S.fs s ≠ never → ∀ z ∈ S.inside k, z ≠ f → S.val z = -1 ∧ S.lvl z ≤ S.fs s := fun hne z hz hzf => by
    refine h.inv.fs_false (by omega) ?_
    rcases hJ.all z hz hzf with e | e
    · rw [e]; exact Nat.le_refl _
    · exact e
  have hlvbA : ∀ c, 2 ≤ c → (S.meet1 k f s).val c ≠ 0 → (S.meet1 k f s).lvl c ≤ (S.meet1 k f s).level := fun c hc2 hv => by
    have e1 : (S.meet1 k f s).val c = S.val c := by unfold ES.val; rw [aVl]
    have e2 : (S.meet1 k f s).lvl c = S.lvl c := by unfold ES.lvl; rw [aGv]
    rw [e2, xA.level]
    exact h.inv.lvb c hc2 (by rw [← e1]; exact hv)
  have sA : SND (S.meet1 k f s) := h.snd.congr aTr aMk aGv aVl aCl aLen xA.ins
  -- the clause is settled, where it must be
  obtain ⟨B, ts, R, hB, hts, xB, hlvbB, sB, q1, q2, q3, q4, q5, q6, q7, q8⟩ : ∃ B ts, Rem B ((S.meet1 k f s).meet2 k f s) ts ∧ ((S.fs s = never ∧ ts = [] ∧ B = S.meet1 k f s) ∨ (S.fs s ≠ never ∧ B = (S.meet1 k f s).settle k f)) ∧ (S.fs s ≠ never → (ts = [] ∧ ¬ S.fs s < S.level ∨ ts = [⟨some k, f, S.fs s, S.level⟩] ∧ S.fs s < S.level)) ∧ Ext (S.meet1 k f s) B ∧ (∀ c, 2 ≤ c → B.val c ≠ 0 → B.lvl c ≤ B.level) ∧ SND B ∧
      ((S.meet1 k f s).meet2 k f s).cls = (S.meet1 k f s).cls ∧ ((S.meet1 k f s).meet2 k f s).wat = (S.meet1 k f s).wat ∧ ((S.meet1 k f s).meet2 k f s).trail = B.trail ∧ ((S.meet1 k f s).meet2 k f s).head = S.head ∧ ((S.meet1 k f s).meet2 k f s).marks = B.marks ∧ ((S.meet1 k f s).meet2 k f s).giv = B.giv ∧ ((S.meet1 k f s).meet2 k f s).vals = B.vals ∧ B.met = S.met ∧ B.head = S.head ∧ ((S.meet1 k f s).meet2 k f s).clash = B.clash ∧ B.cls = (S.meet1 k f s).cls := by
    have hdA : (S.meet1 k f s).done = (S.meet1 k f s).tasks.length := by rw [xA.done, xA.tasks]; exact hd
    unfold ES.meet2
    rw [hfsA]
    split
    · next hn => exact ⟨_, [], ⟨fun _ => rfl, fun _ => rfl, fun _ => rfl, rfl, rfl, by simp, by simp, hdA⟩, Or.inl ⟨hn, rfl, rfl⟩, fun h => absurd hn h, Ext.refl _, hlvbA, sA, rfl, rfl, rfl, aHd, rfl, rfl, rfl, aMet, aHd, rfl, rfl⟩
    · next hn =>
      have xs := settle_ext wA.1 (k := k) (l := f) (by rw [wA.2.n]; exact hf.1) hf.2
      have hst := settle_met (S.meet1 k f s) k f
      have hds : ((S.meet1 k f s).settle k f).done = ((S.meet1 k f s).settle k f).tasks.length := by rw [xs.done, xs.tasks]; exact hdA
      obtain ⟨ts, R, hts, r1, r2, r3, r4, r5, r6, r7, r8, r9, r10, r11⟩ := remember_rem (S := (S.meet1 k f s).settle k f) (some k) f (S.fs s) hds
      have hsw : ((S.meet1 k f s).settle k f).cls = (S.meet1 k f s).cls ∧ ((S.meet1 k f s).settle k f).wat = (S.meet1 k f s).wat ∧ ((S.meet1 k f s).settle k f).head = (S.meet1 k f s).head := by
        unfold ES.settle
        split
        · exact ⟨rfl, rfl, rfl⟩
        · split <;> exact ⟨rfl, rfl, rfl⟩
      have hlev : ((S.meet1 k f s).settle k f).level = S.level := by rw [xs.level, xA.level]
      refine ⟨_, ts, R, Or.inr ⟨hn, rfl⟩, fun _ => ?_, xs, settle_lvb wA.1 hlvbA (by rw [wA.2.n]; exact hf.1) hf.2, ?_, by rw [r1, hsw.1], by rw [r2, hsw.2.1], r3, by rw [r4, hsw.2.2, aHd], r5, r6, r7, by rw [hst.1, aMet], by rw [hsw.2.2, aHd], r10, hsw.1⟩
      · rcases hts with ⟨e1, e2, _⟩ | ⟨e1, e2⟩
        · exact Or.inl ⟨e1, by rw [← hlev]; exact e2⟩
        · exact Or.inr ⟨by rw [e1, hlev], by rw [← hlev]; exact e2⟩
      · refine sA.settle wA.1 (by rw [aLen]; exact hkl) (hJ.mf.imp id (fun e => by rw [xA.ins]; exact e)) (fun z hz hzf => ?_)
        rw [xA.ins] at hz
        have := (hprop hn z hz hzf).1
        rw [xA.val z (by rw [this]; decide)]
        exact this
  obtain ⟨q8a, q8b, q8c, q8d⟩ := q8
  -- all in one
  have xSB : Ext S B := xA.trans xB
  have hBt : B.clash = none → S.fs s ≠ never → f ∈ S.inside k ∧ B.val f = 1 ∧ B.lvl f ≤ S.level := fun hcc hn => by
    rcases hB with ⟨e, _⟩ | ⟨_, e⟩
    · exact absurd e hn
    · have := settle_true wA.1 (k := k) (l := f) (hJ.mf.imp id (fun e => by rw [xA.ins]; exact e)) (by rw [← e]; exact hcc)
      rw [xA.ins] at this
      rw [← e] at this
      refine ⟨this.1, this.2, ?_⟩
      rw [← xSB.level]
      exact hlvbB f (hw.inside_mem this.1).1 (by rw [this.2]; decide)
  generalize hCd : (S.meet1 k f s).meet2 k f s = C at *
  have R' : Rem B { C with met := k + 1 } ts := ⟨R.val, R.lvl, R.ins, R.level, R.clash, R.tasks, R.done, R.full⟩
  have hcl : ∀ j, ({ C with met := k + 1 } : ES).clause j = (S.meet1 k f s).clause j := fun j => by unfold ES.clause; show C.cls.getD j cl0 = _; rw [q1]
  have hclo : ∀ j, j ≠ k → ({ C with met := k + 1 } : ES).clause j = S.clause j := fun j hj => by rw [hcl, aJ j hj]
  have hwt : ∀ x, ({ C with met := k + 1 } : ES).watch x = (S.meet1 k f s).watch x := fun x => by unfold ES.watch; show C.wat.getD x [] = _; rw [q2]
  have hins : ∀ j, ({ C with met := k + 1 } : ES).inside j = S.inside j := fun j => by rw [R'.ins, xSB.ins]
  have hlev : ({ C with met := k + 1 } : ES).level = S.level := by rw [R'.level, xSB.level]
  have htold : ∀ x, Told { C with met := k + 1 } x ↔ Told S x := fun x => by
    have e : Told { C with met := k + 1 } x ↔ Told B x := by
      unfold Told
      show opp x ∈ C.trail.take C.head ↔ _
      rw [q3, q4, q8b]
    rw [e]
    exact xSB.told x
  have hckn : s = 0 → ({ C with met := k + 1 } : ES).clause k = S.clause k := fun e => by rw [hcl, a0 e]
  have hckw : s ≠ 0 → (({ C with met := k + 1 } : ES).clause k).a = f ∧ (({ C with met := k + 1 } : ES).clause k).b = s := fun e => by rw [hcl]; exact aK e
  have hak0 : s = 0 ↔ (({ C with met := k + 1 } : ES).clause k).a = 0 := by
    constructor
    · intro e; rw [hckn e]; exact h.new k (Nat.le_of_eq hk)
    · intro e
      by_cases e0 : s = 0
      · exact e0
      · rw [(hckw e0).1] at e
        exact absurd e (hJ.ne e0).2
  have hmf : s ≠ 0 → f ∈ S.inside k ∧ s ∈ S.inside k := fun e => ⟨hJ.mf.resolve_left (hJ.ne e).2, hJ.ms.resolve_left e⟩
  have hwS : ∀ x, ∃ add, ({ C with met := k + 1 } : ES).watch x = S.watch x ++ add ∧ (add = [] ∨ ∃ o, add = [(k, o)] ∧ s ≠ 0 ∧ (x = f ∧ o = s ∨ x = s ∧ o = f)) := fun x => by
    rw [hwt]
    by_cases e : s = 0
    · rw [a0 e]; exact ⟨[], by simp, Or.inl rfl⟩
    · rw [aW e]
      refine ⟨_, rfl, ?_⟩
      by_cases e1 : x = f
      · rw [if_pos e1]; exact Or.inr ⟨s, rfl, e, Or.inl ⟨e1, rfl⟩⟩
      · rw [if_neg e1]
        by_cases e2 : x = s
        · rw [if_pos e2]; exact Or.inr ⟨f, rfl, e, Or.inr ⟨e2, rfl⟩⟩
        · rw [if_neg e2]; exact Or.inl rfl
  have hltk : ∀ {j}, j < k + 1 → j ≠ k → j < S.met := fun {j} h1 h2 => by omega
  have hentold : ∀ x, ∀ e ∈ S.watch x, Ent { C with met := k + 1 } x e := fun x e he => by
    have h1 := h.inv.ent x (fun e => e) e he
    have h2 : e.1 ≠ k := by have := h1.1; omega
    exact ⟨by show e.1 < k + 1; have := h1.1; omega, by rw [hclo _ h2]; exact h1.2.1, by rw [hins]; exact h1.2.2.1, h1.2.2.2.1, by rw [hclo _ h2]; exact h1.2.2.2.2⟩
  refine ⟨⟨{ hwm.1 with met := ?_ }, ?_, fun d hd2 hv => ?_, fun t ht => ?_, fun j hj ha => ?_, fun j hj ha => ?_, fun j hj ha x hx _ hv ht => ?_, fun x _ en he => ?_, fun x _ => ?_, fun j hj ha x hx _ => ?_⟩, ?_, ?_, fun j hj => ?_⟩
  · show k + 1 ≤ C.cls.length
    rw [q1, aLen]
    exact hkl
  · have e1 := xSB.lvl 0 (by rw [hw.val0]; decide)
    unfold ES.lvl at e1
    simp only [Nat.zero_div] at e1
    show (C.giv.getD 0 (0, none)).1 = 0
    rw [q6, e1]
    exact h.inv.g0
  · rw [R'.lvl, R'.level]
    exact hlvbB d hd2 (by rw [← R'.val]; exact hv)
  · rw [R'.tasks] at ht
    rcases List.mem_append.1 ht with ht | ht
    · rw [xSB.tasks] at ht
      exact ((h.inv.tst t ht).ext xSB).rem R'
    · by_cases hn : S.fs s = never
      · rcases hB with ⟨_, e, _⟩ | ⟨e, _⟩
        · rw [e] at ht; cases ht
        · exact absurd hn e
      · rcases hts hn with ⟨e1, _⟩ | ⟨e1, _⟩
        · rw [e1] at ht; cases ht
        · rw [e1] at ht
          have e2 : t = ⟨some k, f, S.fs s, S.level⟩ := by simpa using ht
          rw [e2]
          refine ⟨fun e3 => absurd e3 (by simp), fun j hj z hz hne => ?_⟩
          have ej : k = j := by injection hj
          subst ej
          rw [hins] at hz
          have h1 := hprop hn z hz hne
          have h2 : S.val z ≠ 0 := by rw [h1.1]; decide
          rw [R'.val, R'.lvl, xSB.val z h2, xSB.lvl z h2]
          exact h1
  · by_cases ej : j = k
    · subst ej
      have e0 : s = 0 := hak0.2 ha
      have hfs0 : S.fs s = 0 := by rw [e0]; exact h.inv.fs0
      have hn : S.fs s ≠ never := by rw [hfs0]; unfold never; omega
      refine ⟨f, by rw [hins]; exact hJ.mf, fun z hz hzf => ?_, ?_⟩
      · rw [hins] at hz
        have h1 := hprop hn z hz hzf
        have h2 : S.val z ≠ 0 := by rw [h1.1]; decide
        rw [R'.val, R'.lvl, xSB.val z h2, xSB.lvl z h2]
        rw [hfs0] at h1
        exact ⟨h1.1, by omega⟩
      · rw [hins, R'.val, R'.lvl, R'.clash, hlev]
        rcases hts hn with ⟨e1, e2⟩ | ⟨e1, e2⟩
        · have hl0 : S.level = 0 := by omega
          cases hcc : B.clash with
          | none =>
            obtain ⟨b1, b2, b3⟩ := hBt hcc hn
            exact Or.inl ⟨b1, b2, Or.inl (by omega)⟩
          | some y => exact Or.inr (Or.inr ⟨by simp, Or.inl hl0⟩)
        · subst e1
          have hdn : B.done < ({ C with met := j + 1 } : ES).done := by rw [R'.done]; simp
          have htk := R'.tkn
          cases hcc : B.clash with
          | none =>
            obtain ⟨b1, b2, b3⟩ := hBt hcc hn
            exact Or.inl ⟨b1, b2, Or.inr ⟨B.done, hdn, by rw [htk], by rw [htk], by rw [htk]; exact hfs0, by rw [htk]; exact b3⟩⟩
          | some y => exact Or.inr (Or.inr ⟨by simp, Or.inr ⟨B.done, hdn, by rw [htk], by rw [htk], by rw [htk]; exact hfs0, by rw [htk]⟩⟩)
    · rw [hclo j ej] at ha
      exact ((h.inv.un j (hltk hj ej) ha).ext xSB).rem R'
  · by_cases ej : j = k
    · subst ej
      have e0 : s ≠ 0 := fun e => ha (hak0.1 e)
      rw [(hckw e0).1, (hckw e0).2, hins]
      exact ⟨(hmf e0).1, (hmf e0).2, (hJ.ne e0).1⟩
    · rw [hclo j ej] at ha ⊢
      rw [hins]
      exact h.inv.wm j (hltk hj ej) ha
  · have htS := (htold x).1 ht
    by_cases ej : j = k
    · subst ej
      have e0 : s ≠ 0 := fun e => ha (hak0.1 e)
      rw [(hckw e0).1, (hckw e0).2] at hx
      have hxm : x ∈ S.inside j := by rcases hx with t | t; rw [t]; exact (hmf e0).1; rw [t]; exact (hmf e0).2
      have hxc := hw.inside_mem hxm
      have hvx := (told_code hw hxc.2 (by omega) htS).2
      have hfx := h.inv.fs_lt hxc.1 hvx
      have hsx : S.fs s ≤ S.fs x := by rcases hx with t | t; rw [t]; exact hJ.le; rw [t]; exact Nat.le_refl _
      have hn : S.fs s ≠ never := by omega
      have hlx : ({ C with met := j + 1 } : ES).lvl x = S.lvl x := by rw [R'.lvl, xSB.lvl x (by rw [hvx]; decide)]
      have hlb := h.inv.lvb x hxc.1 (by rw [hvx]; decide)
      unfold Okx
      rw [hins, hlx, hlev]
      rcases hts hn with ⟨e1, e2⟩ | ⟨e1, e2⟩
      · have hl0 : S.lvl x = S.level := by omega
        cases hcc : B.clash with
        | none =>
          obtain ⟨b1, b2, b3⟩ := hBt hcc hn
          exact Or.inl ⟨f, b1, by rw [R'.val]; exact b2, Or.inl (by rw [R'.lvl]; omega)⟩
        | some y => exact Or.inr (Or.inr ⟨by rw [R'.clash, hcc]; simp, Or.inl hl0⟩)
      · subst e1
        have hdn : B.done < ({ C with met := j + 1 } : ES).done := by rw [R'.done]; simp
        have htk := R'.tkn
        have hcv : Cov (({ C with met := j + 1 } : ES).tk B.done) j x ∧ (({ C with met := j + 1 } : ES).tk B.done).since ≤ S.lvl x ∧ (({ C with met := j + 1 } : ES).tk B.done).lv = S.level := by
          rw [htk]
          exact ⟨Or.inr rfl, by show S.fs s ≤ _; omega, rfl⟩
        cases hcc : B.clash with
        | none =>
          obtain ⟨b1, b2, b3⟩ := hBt hcc hn
          exact Or.inl ⟨f, b1, by rw [R'.val]; exact b2, Or.inr ⟨B.done, hdn, hcv.1, hcv.2.1, by rw [R'.lvl, hcv.2.2]; exact b3⟩⟩
        | some y => exact Or.inr (Or.inr ⟨by rw [R'.clash, hcc]; simp, Or.inr ⟨B.done, hdn, hcv.1, hcv.2.1, hcv.2.2⟩⟩)
    · rw [hclo j ej] at ha hx
      have hmm := h.inv.wm j (hltk hj ej) ha
      have hxm : x ∈ S.inside j := by rcases hx with t | t; rw [t]; exact hmm.1; rw [t]; exact hmm.2.1
      have hxc := hw.inside_mem hxm
      have hvx := (told_code hw hxc.2 (by omega) htS).2
      exact ((h.inv.ok j (hltk hj ej) ha x hx (fun e => e) hvx htS).ext xSB hvx).rem R'
  · obtain ⟨add, e1, e2⟩ := hwS x
    rw [e1] at he
    rcases List.mem_append.1 he with he | he
    · exact hentold x en he
    · rcases e2 with e2 | ⟨o, e2, e0, e3⟩
      · rw [e2] at he; cases he
      · rw [e2] at he
        have e4 : en = (k, o) := by simpa using he
        rw [e4]
        have hne := (hJ.ne e0).1
        refine ⟨Nat.lt_succ_self _, ?_, ?_, ?_, ?_⟩
        · rw [(hckw e0).1]; exact (hJ.ne e0).2
        · rw [hins]; rcases e3 with ⟨_, t⟩ | ⟨_, t⟩
          · rw [t]; exact (hmf e0).2
          · rw [t]; exact (hmf e0).1
        · rcases e3 with ⟨t1, t2⟩ | ⟨t1, t2⟩
          · rw [t1, t2]; exact fun e => hne e.symm
          · rw [t1, t2]; exact hne
        · rw [(hckw e0).1, (hckw e0).2]
          rcases e3 with ⟨t1, _⟩ | ⟨t1, _⟩
          · exact Or.inl t1.symm
          · exact Or.inr t1.symm
  · obtain ⟨add, e1, e2⟩ := hwS x
    rw [e1]
    rcases e2 with e2 | ⟨o, e2, _, _⟩
    · rw [e2, List.append_nil]; exact h.inv.nd x (fun e => e)
    · rw [e2, List.map_append, List.nodup_append]
      refine ⟨h.inv.nd x (fun e => e), by simp, fun a ha b hb e3 => ?_⟩
      obtain ⟨en, hen, e4⟩ := List.mem_map.1 ha
      have h5 := (h.inv.ent x (fun e => e) en hen).1
      have e6 : b = k := by simpa using hb
      omega
  · obtain ⟨add, e1, e2⟩ := hwS x
    by_cases ej : j = k
    · subst ej
      have e0 : s ≠ 0 := fun e => ha (hak0.1 e)
      rw [(hckw e0).1, (hckw e0).2] at hx
      rw [hwt, aW e0]
      rcases hx with t | t
      · rw [if_pos t]; exact ⟨s, List.mem_append.2 (Or.inr (List.mem_singleton.2 rfl))⟩
      · rw [if_neg (fun e => (hJ.ne e0).1 (by rw [← e, t])), if_pos t]; exact ⟨f, List.mem_append.2 (Or.inr (List.mem_singleton.2 rfl))⟩
    · rw [hclo j ej] at ha hx
      obtain ⟨o, ho⟩ := h.inv.lst j (hltk hj ej) ha x hx (fun e => e)
      rw [e1]
      exact ⟨o, List.mem_append.2 (Or.inl ho)⟩
  · have tB : TKS B := h.tks.ext xSB q8a
    refine tB.rem R' ?_ (fun x hx => (htold x).2 ((xSB.told x).1 hx)) (by rw [q8a]; show S.met ≤ k + 1; omega)
    by_cases hn : S.fs s = never
    · rcases hB with ⟨_, e, _⟩ | ⟨e, _⟩
      · exact Or.inl e
      · exact absurd hn e
    · rcases hts hn with ⟨e1, _⟩ | ⟨e1, e2⟩
      · exact Or.inl e1
      · refine Or.inr ⟨_, e1, xSB.level.symm, by rw [xSB.level]; exact Nat.le_of_lt e2, fun e => absurd e (by simp), fun j hj => ?_, fun hmem => ?_⟩
        · have ej : k = j := by injection hj
          subst ej
          exact ⟨Nat.lt_succ_self _, by rw [xSB.ins]; exact hJ.mf⟩
        · obtain ⟨t, ht, hkey⟩ := List.mem_map.1 hmem
          rw [xSB.tasks] at ht
          unfold TK.key at hkey
          simp only at hkey
          split at hkey
          · next k' hk' =>
            have := (h.tks.som t ht k' hk').1
            omega
          · omega
  · exact sB.congr q3 q5 q6 q7 q8c (by show C.cls.length = _; rw [q1, q8d]) R'.ins
  · have hj' : k + 1 ≤ j := hj
    rw [hclo j (by omega)]
    exact h.new j (by omega)
end Go.Pr
