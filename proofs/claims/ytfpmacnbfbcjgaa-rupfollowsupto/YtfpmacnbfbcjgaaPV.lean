import Derived.Test.YtfpmacnbfbcjgaaPU
namespace Go.Pr

/-- tasks are put behind, all done -/
structure Rem (S T : ES) (ts : List TK) : Prop where
  val : ∀ c, T.val c = S.val c
  lvl : ∀ c, T.lvl c = S.lvl c
  ins : ∀ k, T.inside k = S.inside k
  level : T.level = S.level
  clash : T.clash = S.clash
  tasks : T.tasks = S.tasks ++ ts
  done : T.done = S.done + ts.length
  full : S.done = S.tasks.length
theorem Rem.tk {S T : ES} {ts : List TK} (h : Rem S T ts) {j : Nat} (hj : j < S.tasks.length) : T.tk j = S.tk j := by
  unfold ES.tk
  rw [h.tasks, List.getD_eq_getElem?_getD, List.getElem?_append_left hj, ← List.getD_eq_getElem?_getD]
theorem Rem.tkn {S T : ES} {t : TK} (h : Rem S T [t]) : T.tk S.done = t := by
  unfold ES.tk
  rw [h.tasks, h.full]
  exact getD_last _ _ _
theorem Rem.lt {S T : ES} {ts : List TK} (h : Rem S T ts) {j : Nat} (hj : j < S.done) : j < T.done := by rw [h.done]; omega
theorem Okx.rem {S T : ES} {ts : List TK} (e : Rem S T ts) {k x : Nat} (h : Okx S k x) : Okx T k x := by
  have hf := e.full
  unfold Okx
  rw [e.lvl, e.ins, e.level, e.clash]
  rcases h with ⟨z, hz, hv, h⟩ | ⟨j, h1, h2, h3⟩ | ⟨hc, h⟩
  · left
    refine ⟨z, hz, by rw [e.val]; exact hv, ?_⟩
    rw [e.lvl]
    rcases h with h | ⟨j, hj, h⟩
    · exact Or.inl h
    · exact Or.inr ⟨j, e.lt hj, by rw [e.tk (by omega)]; exact h⟩
  · omega
  · refine Or.inr (Or.inr ⟨hc, ?_⟩)
    rcases h with h | ⟨j, hj, h⟩
    · exact Or.inl h
    · exact Or.inr ⟨j, e.lt hj, by rw [e.tk (by omega)]; exact h⟩
theorem Un.rem {S T : ES} {ts : List TK} (e : Rem S T ts) {k : Nat} (h : Un S k) : Un T k := by
  have hf := e.full
  obtain ⟨f, hf2, ho, h⟩ := h
  refine ⟨f, by rw [e.ins]; exact hf2, fun z hz hne => ?_, ?_⟩
  · rw [e.ins] at hz
    rw [e.val, e.lvl]
    exact ho z hz hne
  · rw [e.ins, e.val, e.lvl, e.level, e.clash]
    rcases h with ⟨h1, hv, h⟩ | ⟨j, h1, h2, h3⟩ | ⟨hc, h⟩
    · refine Or.inl ⟨h1, hv, ?_⟩
      rcases h with h | ⟨j, hj, h⟩
      · exact Or.inl h
      · exact Or.inr ⟨j, e.lt hj, by rw [e.tk (by omega)]; exact h⟩
    · omega
    · refine Or.inr (Or.inr ⟨hc, ?_⟩)
      rcases h with h | ⟨j, hj, h⟩
      · exact Or.inl h
      · exact Or.inr ⟨j, e.lt hj, by rw [e.tk (by omega)]; exact h⟩
theorem Tst.rem {S T : ES} {ts : List TK} (e : Rem S T ts) {t : TK} (h : Tst S t) : Tst T t := by
  refine ⟨fun h1 => ?_, fun k hk z hz hne => ?_⟩
  · rw [e.val, e.lvl]; exact h.1 h1
  · rw [e.ins] at hz
    rw [e.val, e.lvl]
    exact h.2 k hk z hz hne
theorem remember_rem {S : ES} (k : Option Nat) (l since : Nat) (hf : S.done = S.tasks.length) : ∃ ts, Rem S (S.remember k l since) ts ∧ (ts = [] ∧ ¬ since < S.level ∧ S.remember k l since = S ∨ ts = [⟨k, l, since, S.level⟩] ∧ since < S.level) ∧ (S.remember k l since).cls = S.cls ∧ (S.remember k l since).wat = S.wat ∧ (S.remember k l since).trail = S.trail ∧ (S.remember k l since).head = S.head ∧ (S.remember k l since).marks = S.marks ∧ (S.remember k l since).giv = S.giv ∧ (S.remember k l since).vals = S.vals ∧ (S.remember k l since).met = S.met ∧ (S.remember k l since).lits = S.lits ∧ (S.remember k l since).clash = S.clash ∧ (S.remember k l since).n = S.n := by
  unfold ES.remember
  split
  · next h => exact ⟨[⟨k, l, since, S.level⟩], ⟨fun _ => rfl, fun _ => rfl, fun _ => rfl, rfl, rfl, rfl, rfl, hf⟩, Or.inr ⟨rfl, h⟩, rfl, rfl, rfl, rfl, rfl, rfl, rfl, rfl, rfl, rfl, rfl⟩
  · next h => exact ⟨[], ⟨fun _ => rfl, fun _ => rfl, fun _ => rfl, rfl, rfl, by simp, by simp, hf⟩, Or.inl ⟨rfl, h, rfl⟩, rfl, rfl, rfl, rfl, rfl, rfl, rfl, rfl, rfl, rfl, rfl⟩
/-- the tasks, one more -/
theorem TKS.rem {S T : ES} {ts : List TK} (h : TKS S) (e : Rem S T ts) (hts : ts = [] ∨ ∃ t, ts = [t] ∧ t.lv = S.level ∧ t.since ≤ S.level ∧ (t.cl = none → t.since = S.lvl t.lit ∧ Told T t.lit ∧ S.val t.lit = -1) ∧ (∀ k, t.cl = some k → k < T.met ∧ (t.lit = 0 ∨ t.lit ∈ S.inside k)) ∧ t.key ∉ S.tasks.map TK.key) (htd : ∀ x, Told S x → Told T x) (hm : S.met ≤ T.met) : TKS T := by
  have hf := e.full
  have hold : ∀ t ∈ S.tasks, (t.cl = none → t.since = T.lvl t.lit ∧ Told T t.lit ∧ T.val t.lit = -1) ∧ ∀ k, t.cl = some k → k < T.met ∧ (t.lit = 0 ∨ t.lit ∈ T.inside k) := fun t ht => by
    refine ⟨fun hc => ?_, fun k hk => ?_⟩
    · have := h.non t ht hc
      rw [e.lvl, e.val]
      exact ⟨this.1, htd _ this.2.1, this.2.2⟩
    · have := h.som t ht k hk
      rw [e.ins]
      exact ⟨Nat.lt_of_lt_of_le this.1 hm, this.2⟩
  rcases hts with rfl | ⟨t, rfl, h1, h2, h3, h4, h5⟩
  · have ht : T.tasks = S.tasks := by rw [e.tasks, List.append_nil]
    have hd : T.done = S.done := e.done
    refine ⟨fun i j hij hj => ?_, fun j hj => ?_, fun j hj => ?_, fun t ht2 => ?_, fun t ht2 => ?_, by rw [ht]; exact h.key⟩
    · rw [hd] at hj
      rw [e.tk (by omega), e.tk (by omega)]
      exact h.srt i j hij hj
    · rw [hd] at hj
      rw [e.tk (by omega), e.level]
      exact h.lvs j hj
    · rw [ht] at hj
      rw [e.tk hj, e.level]
      exact h.pnd j hj
    · rw [ht] at ht2; exact (hold t ht2).1
    · rw [ht] at ht2; exact (hold t ht2).2
  · have hd : T.done = S.done + 1 := e.done
    have hl : T.tasks.length = S.tasks.length + 1 := by rw [e.tasks]; simp
    have hn := e.tkn
    refine ⟨fun i j hij hj => ?_, fun j hj => ?_, fun j hj => ?_, fun t' ht2 => ?_, fun t' ht2 => ?_, ?_⟩
    · rw [hd] at hj
      rw [e.tk (j := i) (by omega)]
      by_cases ej : j = S.done
      · rw [ej, hn, h1]; exact (h.lvs i (by omega)).1
      · rw [e.tk (by omega)]; exact h.srt i j hij (by omega)
    · rw [hd] at hj
      rw [e.level]
      by_cases ej : j = S.done
      · rw [ej, hn, h1]; exact ⟨Nat.le_refl _, h2⟩
      · rw [e.tk (by omega)]; exact h.lvs j (by omega)
    · rw [hl] at hj
      rw [e.level]
      by_cases ej : j = S.done
      · rw [ej, hn]; exact h2
      · rw [e.tk (by omega)]; exact h.pnd j (by omega)
    · rw [e.tasks] at ht2
      rcases List.mem_append.1 ht2 with h6 | h6
      · exact (hold t' h6).1
      · have e6 : t' = t := by simpa using h6
        rw [e6, e.lvl, e.val]
        exact h3
    · rw [e.tasks] at ht2
      rcases List.mem_append.1 ht2 with h6 | h6
      · exact (hold t' h6).2
      · have e6 : t' = t := by simpa using h6
        rw [e6]
        intro k hk
        rw [e.ins]
        exact h4 k hk
    · rw [e.tasks, List.map_append, List.nodup_append]
      refine ⟨h.key, by simp, fun a ha b hb e6 => ?_⟩
      have e7 : b = t.key := by simpa using hb
      exact h5 (by rw [← e7, ← e6]; exact ha)
theorem told_next {S : ES} (hh : S.head < S.trail.length) {x : Nat} (hx : opp x ∈ S.trail.take (S.head + 1)) : Told S x ∨ opp x = S.trail.getD S.head 0 := by
  rw [List.take_succ_eq_append_getElem hh] at hx
  rcases List.mem_append.1 hx with h | h
  · exact Or.inl h
  · exact Or.inr (by rw [getD_of _ _ _ hh]; simpa using h)
theorem FULL.tell {S : ES} (h : FULL S) (hd : S.done = S.tasks.length) (hh : S.head < S.trail.length) (hc : S.clash = none) : FULL { S.tell (opp (S.trail.getD S.head 0)) with head := S.head + 1 } := by
  have hw := h.inv.wf
  have htm : S.trail.getD S.head 0 ∈ S.trail := by rw [getD_of _ _ _ hh]; exact List.getElem_mem _
  have htr := hw.tr _ htm
  obtain ⟨c, hcd⟩ : ∃ c, S.trail.getD S.head 0 = c := ⟨_, rfl⟩
  rw [hcd] at htr htm ⊢
  have ho := opp_lt htr.1 htr.2.1
  have hvl : S.val (opp c) = -1 := by rw [hw.valx c htr.1 htr.2.1, htr.2.2]
  have hwT := (hw.tell (l := opp c) ho.2.1 (by omega))
  have hnt : c ∉ S.trail.take S.head := fun hm => by
    have hdrop : c ∈ S.trail.drop S.head := by
      rw [List.drop_eq_getElem_cons hh, ← hcd, getD_of _ _ _ hh]
      exact List.mem_cons_self
    exact nodup_parts hw.trd hm hdrop rfl
  obtain ⟨l, hl⟩ : ∃ l, opp c = l := ⟨_, rfl⟩
  rw [hl] at hvl hwT ho ⊢
  have hoc : opp l = c := ho.2.2.2.1
  obtain ⟨e, hmet, hsat, hinv, hsnd⟩ := visit_inv (h.inv.weak (fun x (e : Nix x) => e.elim)) (h.inv.ent l (fun e => e)) (h.inv.nd l (fun e => e)) (fun k hk ha hx => h.inv.lst k hk ha l (by rcases hx with t | t; exact Or.inl t.symm; exact Or.inr t.symm) (fun e => e)) ho.2.1 (by omega) hvl hc
  have hfr : ∀ j, S.met ≤ j → (S.visit l).clause j = S.clause j := fun j hj => visit_fresh (fun e he => (h.inv.ent l (fun e => e) e he).1) hj
  have hntl : ¬ Told (S.visit l) l := fun ht => hnt (by have := (e.told l).1 ht; unfold Told at this; rw [hoc] at this; exact this)
  have i1 := hinv (fun k _ _ _ ht => absurd ht hntl)
  have s1 := hsnd h.snd
  have t1 := h.tks.ext e hmet
  have hsm := (hw.visit (l := l) ho.2.1 (by omega)).2
  have hh1 := (visit_rest S l).head
  have hpre := hsm.tr
  have hn1 := hsm.n
  have hhd1 : (S.visit l).head < (S.visit l).trail.length := by rw [hh1]; exact Nat.lt_of_lt_of_le hh hpre.length_le
  have hcd1 : (S.visit l).trail.getD (S.visit l).head 0 = c := by
    obtain ⟨u, hu⟩ := hpre
    rw [hh1, ← hu, List.getD_eq_getElem?_getD, List.getElem?_append_left hh, ← List.getD_eq_getElem?_getD]
    exact hcd
  have hvl1 : (S.visit l).val l = -1 := by rw [e.val l (by rw [hvl]; decide)]; exact hvl
  have hd1 : (S.visit l).done = (S.visit l).tasks.length := by rw [e.done, e.tasks]; exact hd
  have hdef : S.tell l = if (S.visit l).watch l = [] then S.visit l else (S.visit l).remember none l ((S.visit l).lvl l) := rfl
  have hfr1 : ∀ j, (S.visit l).met ≤ j → ((S.visit l).clause j).a = 0 := fun j hj => by rw [hmet] at hj; rw [hfr j hj]; exact h.new j hj
  rw [hdef] at hwT ⊢
  rw [← hh1]
  have hsat' : ∀ k, k < (S.visit l).met → ((S.visit l).clause k).a ≠ 0 → l = ((S.visit l).clause k).a ∨ l = ((S.visit l).clause k).b → (∃ o, (k, o) ∈ (S.visit l).watch l) ∧ ((S.visit l).clash = none → Sat (S.visit l) k) := fun k hk => hsat k (by rw [← hmet]; exact hk)
  clear hsat hdef hinv hsnd
  generalize S.visit l = V at *
  obtain ⟨ts, R, hts, q1, q2, q3, q4, q5, q6, q7, q8, q9, q10, q11⟩ : ∃ ts, Rem V (if V.watch l = [] then V else V.remember none l (V.lvl l)) ts ∧ ((ts = [] ∧ (V.watch l = [] ∨ V.lvl l = V.level)) ∨ ts = [⟨none, l, V.lvl l, V.level⟩] ∧ V.lvl l < V.level) ∧ (if V.watch l = [] then V else V.remember none l (V.lvl l)).cls = V.cls ∧ (if V.watch l = [] then V else V.remember none l (V.lvl l)).wat = V.wat ∧ (if V.watch l = [] then V else V.remember none l (V.lvl l)).trail = V.trail ∧ (if V.watch l = [] then V else V.remember none l (V.lvl l)).head = V.head ∧ (if V.watch l = [] then V else V.remember none l (V.lvl l)).marks = V.marks ∧ (if V.watch l = [] then V else V.remember none l (V.lvl l)).giv = V.giv ∧ (if V.watch l = [] then V else V.remember none l (V.lvl l)).vals = V.vals ∧ (if V.watch l = [] then V else V.remember none l (V.lvl l)).met = V.met ∧ (if V.watch l = [] then V else V.remember none l (V.lvl l)).lits = V.lits ∧ (if V.watch l = [] then V else V.remember none l (V.lvl l)).clash = V.clash ∧ (if V.watch l = [] then V else V.remember none l (V.lvl l)).n = V.n := by
    split
    · next hn => exact ⟨[], ⟨fun _ => rfl, fun _ => rfl, fun _ => rfl, rfl, rfl, by simp, by simp, hd1⟩, Or.inl ⟨rfl, Or.inl hn⟩, rfl, rfl, rfl, rfl, rfl, rfl, rfl, rfl, rfl, rfl, rfl⟩
    · obtain ⟨ts, R, hts, q⟩ := remember_rem (S := V) none l (V.lvl l) hd1
      refine ⟨ts, R, ?_, q⟩
      rcases hts with ⟨e1, e2, _⟩ | ⟨e1, e2⟩
      · have := i1.lvb l ho.1 (by rw [hvl1]; decide)
        exact Or.inl ⟨e1, Or.inr (by omega)⟩
      · exact Or.inr ⟨e1, e2⟩
  generalize (if V.watch l = [] then V else V.remember none l (V.lvl l)) = U at *
  -- the literal is told now
  have R' : Rem V { U with head := V.head + 1 } ts := ⟨R.val, R.lvl, R.ins, R.level, R.clash, R.tasks, R.done, R.full⟩
  have hcl : ∀ j, ({ U with head := V.head + 1 } : ES).clause j = V.clause j := fun j => by unfold ES.clause; show U.cls.getD j cl0 = _; rw [q1]
  have hwt : ∀ x, ({ U with head := V.head + 1 } : ES).watch x = V.watch x := fun x => by unfold ES.watch; show U.wat.getD x [] = _; rw [q2]
  have hmt : ({ U with head := V.head + 1 } : ES).met = V.met := q8
  have htold : ∀ x, Told { U with head := V.head + 1 } x → Told V x ∨ opp x = c := fun x hx => by
    have hx2 : opp x ∈ V.trail.take (V.head + 1) := by unfold Told at hx; simp only at hx; rw [q3] at hx; exact hx
    rw [← hcd1]
    exact told_next hhd1 hx2
  have htold2 : ∀ x, Told V x → Told { U with head := V.head + 1 } x := fun x hx => by
    show opp x ∈ U.trail.take (V.head + 1)
    rw [q3]
    exact (List.take_subset_take_left _ (Nat.le_succ _)) hx
  have htl : Told { U with head := V.head + 1 } l := by
    show opp l ∈ U.trail.take (V.head + 1)
    rw [q3, hoc, List.take_succ_eq_append_getElem hhd1]
    refine List.mem_append.2 (Or.inr ?_)
    rw [← hcd1, getD_of _ _ _ hhd1]
    simp
  refine ⟨⟨{ hwT.1 with head := ?_ }, ?_, fun d hd2 hv => ?_, fun t ht => ?_, fun k hk ha => ?_, fun k hk ha => ?_, fun k hk ha x hx _ hv ht => ?_, fun x _ en he => ?_, fun x _ => ?_, fun k hk ha x hx _ => ?_⟩, ?_, ?_, fun k hk => ?_⟩
  · show V.head + 1 ≤ U.trail.length
    rw [q3]
    exact hhd1
  · show (U.giv.getD 0 (0, none)).1 = 0
    rw [q6]; exact i1.g0
  · rw [R'.lvl, R'.level]
    exact i1.lvb d hd2 (by rw [← R'.val]; exact hv)
  · rw [R'.tasks] at ht
    rcases List.mem_append.1 ht with ht | ht
    · exact (i1.tst t ht).rem R'
    · rcases hts with ⟨e1, _⟩ | ⟨e1, _⟩
      · rw [e1] at ht; cases ht
      · rw [e1] at ht
        have e2 : t = ⟨none, l, V.lvl l, V.level⟩ := by simpa using ht
        rw [e2]
        refine ⟨fun _ => ?_, fun k hk => by cases hk⟩
        rw [R'.val, R'.lvl]
        exact ⟨hvl1, Nat.le_refl _⟩
  · rw [hmt] at hk
    rw [hcl] at ha
    exact (i1.un k hk ha).rem R'
  · rw [hmt] at hk
    rw [hcl] at ha ⊢
    rw [R'.ins]
    exact i1.wm k hk ha
  · rw [hmt] at hk
    rw [hcl] at ha hx
    rw [R'.val] at hv
    rcases htold x ht with ht | ht
    · exact (i1.ok k hk ha x hx (fun e => e) hv ht).rem R'
    · have hxm : x ∈ V.inside k := by rcases hx with t | t; rw [t]; exact (i1.wm k hk ha).1; rw [t]; exact (i1.wm k hk ha).2.1
      have hxc := i1.wf.inside_mem hxm
      have hox := opp_lt hxc.1 hxc.2
      have ex : x = l := by rw [← hox.2.2.2.1, ht, hl]
      subst ex
      obtain ⟨⟨o, hko⟩, hs⟩ := hsat' k hk ha hx
      have hne : V.watch x ≠ [] := fun e => by rw [e] at hko; cases hko
      rcases hts with ⟨e1, e2⟩ | ⟨e1, e2⟩
      · have e3 := e2.resolve_left hne
        refine Okx.rem R' ?_
        cases hcc : V.clash with
        | none =>
          obtain ⟨z, hz, hzv⟩ := hs hcc
          exact Or.inl ⟨z, hz, hzv, Or.inl (by rw [e3]; exact i1.lvb z (i1.wf.inside_mem hz).1 (by rw [hzv]; decide))⟩
        | some y => exact Or.inr (Or.inr ⟨by rw [hcc]; simp, Or.inl e3⟩)
      · subst e1
        have hdn : V.done < ({ U with head := V.head + 1 } : ES).done := by rw [R'.done]; simp
        have htk := R'.tkn
        cases hcc : V.clash with
        | none =>
          obtain ⟨z, hz, hzv⟩ := hs hcc
          exact Or.inl ⟨z, by rw [R'.ins]; exact hz, by rw [R'.val]; exact hzv, Or.inr ⟨V.done, hdn, by rw [htk]; exact Or.inl ⟨rfl, rfl⟩, by rw [htk, R'.lvl]; exact Nat.le_refl _, by rw [htk, R'.lvl]; exact i1.lvb z (i1.wf.inside_mem hz).1 (by rw [hzv]; decide)⟩⟩
        | some y => exact Or.inr (Or.inr ⟨by rw [R'.clash, hcc]; simp, Or.inr ⟨V.done, hdn, by rw [htk]; exact Or.inl ⟨rfl, rfl⟩, by rw [htk, R'.lvl]; exact Nat.le_refl _, by rw [htk, R'.level]⟩⟩)
  · rw [hwt] at he
    have := i1.ent x (fun e => e) en he
    exact ⟨by rw [hmt]; exact this.1, by rw [hcl]; exact this.2.1, by rw [R'.ins]; exact this.2.2.1, this.2.2.2.1, by rw [hcl]; exact this.2.2.2.2⟩
  · rw [hwt]; exact i1.nd x (fun e => e)
  · rw [hmt] at hk
    rw [hcl] at ha hx
    rw [hwt]
    exact i1.lst k hk ha x hx (fun e => e)
  · refine t1.rem R' ?_ htold2 (Nat.le_of_eq hmt.symm)
    rcases hts with ⟨e1, _⟩ | ⟨e1, e2⟩
    · exact Or.inl e1
    · refine Or.inr ⟨_, e1, rfl, Nat.le_of_lt e2, fun _ => ⟨rfl, htl, hvl1⟩, fun k hk => absurd hk (by simp), fun hm => ?_⟩
      obtain ⟨t, ht, hk⟩ := List.mem_map.1 hm
      unfold TK.key at hk
      simp only at hk
      split at hk
      · omega
      · next hcn =>
        have := (t1.non t ht hcn).2.1
        rw [show t.lit = l by omega] at this
        exact hntl this
  · exact s1.congr q3 q5 q6 q7 q10 (by show U.cls.length = _; rw [q1]) R'.ins
  · rw [hmt] at hk
    rw [hcl]
    exact hfr1 k hk
end Go.Pr
