import Derived.Test.YtfpmacnbfbcjgaaPR
namespace Go.Pr

theorem clause_setC_ne {S : ES} {k j : Nat} {c : CL} (h : j ≠ k) : (S.setC k c).clause j = S.clause j := by
  unfold ES.setC ES.clause
  rw [List.getD_eq_getElem?_getD, List.getElem?_set, if_neg (fun e => h e.symm), ← List.getD_eq_getElem?_getD]
theorem setC_ext {S : ES} {k : Nat} {c : CL} (hk : k < S.cls.length) (hs : c.s = (S.clause k).s) (he : c.e = (S.clause k).e) : Ext S (S.setC k c) := by
  refine ⟨fun _ _ => rfl, fun _ _ => rfl, fun j => ?_, rfl, rfl, rfl, fun h => h, fun _ => Iff.rfl⟩
  unfold ES.inside
  by_cases e : j = k
  · subst e
    rw [clause_setC hk, hs, he]
    rfl
  · rw [clause_setC_ne e]
    rfl
theorem addW_ext (S : ES) (c k o : Nat) : Ext S (S.addW c k o) := ⟨fun _ _ => rfl, fun _ _ => rfl, fun _ => rfl, rfl, rfl, rfl, fun h => h, fun _ => Iff.rfl⟩
theorem watch_addW {S : ES} {c k o : Nat} (hc : c < S.wat.length) (x : Nat) : (S.addW c k o).watch x = if x = c then S.watch c ++ [(k, o)] else S.watch x := by
  unfold ES.addW ES.watch
  simp only
  rw [List.getD_eq_getElem?_getD, List.getElem?_set]
  by_cases e : c = x
  · subst e
    rw [if_pos rfl, if_pos hc, if_pos rfl]
    rfl
  · rw [if_neg e, if_neg (fun e2 => e e2.symm), ← List.getD_eq_getElem?_getD]
def Sat (S : ES) (k : Nat) : Prop := ∃ z ∈ S.inside k, S.val z = 1
theorem Sat.ext {S T : ES} (e : Ext S T) {k : Nat} (h : Sat S k) : Sat T k := by
  obtain ⟨z, hz, hv⟩ := h
  exact ⟨z, by rw [e.ins k]; exact hz, by rw [e.val z (by rw [hv]; decide)]; exact hv⟩
/-- a clause's watches are named the other way round -/
theorem INV.swap {E : Nat → Prop} {S : ES} (h : INV E S) {k l : Nat} (hk : k < S.met) (ha : (S.clause k).a ≠ 0) (hl : (S.clause k).a = l ∨ (S.clause k).b = l) :
    INV E (S.setC k (ES.turned (S.clause k) l)) ∧ Ext S (S.setC k (ES.turned (S.clause k) l)) ∧ (ES.turned (S.clause k) l).b = l ∧ (ES.turned (S.clause k) l).a ≠ l ∧ (ES.turned (S.clause k) l).a ∈ S.inside k ∧ (ES.turned (S.clause k) l).a ≠ 0 ∧
    (∀ x e, Ent S x e → Ent (S.setC k (ES.turned (S.clause k) l)) x e) := by
  have hkl : k < S.cls.length := Nat.lt_of_lt_of_le hk h.wf.met
  have hm := h.wm k hk ha
  have hia := h.wf.inside_mem hm.1
  have hib := h.wf.inside_mem hm.2.1
  have hc := h.wf.clause_ok hkl
  have hlm : l ∈ S.inside k := by rcases hl with e | e; rw [← e]; exact hm.1; rw [← e]; exact hm.2.1
  have hlc := h.wf.inside_mem hlm
  have ht := turned_ok (c := S.clause k) (l := l) hc.2.2.2.2.1 hc.2.2.2.2.2.1 hlc.2 hc.2.2.2.2.2.2.1 hc.2.2.2.2.2.2.2 (by omega)
  have hset : ∀ x, (x = (ES.turned (S.clause k) l).a ∨ x = (ES.turned (S.clause k) l).b) ↔ (x = (S.clause k).a ∨ x = (S.clause k).b) := by
    intro x
    unfold ES.turned
    split
    · next e =>
      show (x = (S.clause k).b ∨ x = l) ↔ _
      rw [← e]
      exact or_comm
    · exact Iff.rfl
  have hb : (ES.turned (S.clause k) l).b = l := by
    unfold ES.turned
    split
    · rfl
    · next e => exact hl.resolve_left e
  have hna : (ES.turned (S.clause k) l).a ≠ l := by
    unfold ES.turned
    split
    · next e => show (S.clause k).b ≠ l; exact fun e2 => hm.2.2 (by rw [e, e2])
    · next e => exact e
  have hin : (ES.turned (S.clause k) l).a ∈ S.inside k := by
    rcases (hset _).1 (Or.inl rfl) with e | e
    · rw [e]; exact hm.1
    · rw [e]; exact hm.2.1
  have ha0 : (ES.turned (S.clause k) l).a ≠ 0 := by have := h.wf.inside_mem hin; omega
  generalize ES.turned (S.clause k) l = c at *
  have w := h.wf.setC (k := k) (c := c) ht.1 ht.2.1 hkl (by rw [ht.2.2.1]; exact hc.2.2.2.1) ht.2.2.2.1 ht.2.2.2.2.1 ht.2.2.2.2.2.1 ht.2.2.2.2.2.2
  have e := setC_ext (S := S) (c := c) hkl ht.1 ht.2.1
  have hck : (S.setC k c).clause k = c := clause_setC hkl
  have hent : ∀ x en, Ent S x en → Ent (S.setC k c) x en := fun x en hen => by
    by_cases ek : en.1 = k
    · refine ⟨hen.1, by rw [ek, hck]; exact ha0, by rw [e.ins]; exact hen.2.2.1, hen.2.2.2.1, ?_⟩
      rw [ek, hck]
      have := hen.2.2.2.2
      rw [ek] at this
      have h3 := (hset x).2 (by rcases this with t | t; exact Or.inl t.symm; exact Or.inr t.symm)
      rcases h3 with t | t
      · exact Or.inl t.symm
      · exact Or.inr t.symm
    · refine ⟨hen.1, by rw [clause_setC_ne ek]; exact hen.2.1, by rw [e.ins]; exact hen.2.2.1, hen.2.2.2.1, by rw [clause_setC_ne ek]; exact hen.2.2.2.2⟩
  refine ⟨⟨w.1, h.g0, h.lvb, fun t ht => (h.tst t ht).ext e, fun j hj hja => ?_, fun j hj hja => ?_, fun j hj hja x hx hE hv htd => ?_, fun x hE en he => hent x en (h.ent x hE en he), h.nd, fun j hj hja x hx hE => ?_⟩, e, hb, hna, hin, ha0, hent⟩
  · by_cases ek : j = k
    · subst ek
      rw [hck] at hja
      exact absurd hja ha0
    · rw [clause_setC_ne ek] at hja
      exact (h.un j hj hja).ext e
  · by_cases ek : j = k
    · subst ek
      rw [hck, e.ins, hb]
      exact ⟨hin, hlm, hna⟩
    · rw [clause_setC_ne ek] at hja ⊢
      rw [e.ins]
      exact h.wm j hj hja
  · by_cases ek : j = k
    · subst ek
      rw [hck] at hx
      exact (h.ok j hj ha x ((hset x).1 hx) hE hv htd).ext e hv
    · rw [clause_setC_ne ek] at hja hx
      exact (h.ok j hj hja x hx hE hv htd).ext e hv
  · by_cases ek : j = k
    · subst ek
      rw [hck] at hx
      exact h.lst j hj ha x ((hset x).1 hx) hE
    · rw [clause_setC_ne ek] at hja hx
      exact h.lst j hj hja x hx hE
/-- another literal is watched in the place of one -/
theorem INV.move {S : ES} {l : Nat} (h : INV (fun x => x = l) S) {k i x : Nat} (hk : k < S.met) (ha : (S.clause k).a ≠ 0) (hb : (S.clause k).b = l) (hx : x ∈ S.inside k) (hxo : x ≠ (S.clause k).a) (hxl : x ≠ l) (hxv : 0 ≤ S.val x) (hi : i ≤ 65536) :
    INV (fun x => x = l) ((S.setC k { S.clause k with f := i, b := x }).addW x k (S.clause k).a) ∧ Ext S ((S.setC k { S.clause k with f := i, b := x }).addW x k (S.clause k).a) ∧
    (∀ e, e.1 ≠ k → Ent S l e → Ent ((S.setC k { S.clause k with f := i, b := x }).addW x k (S.clause k).a) l e) ∧ (∀ j, j ≠ k → ((S.setC k { S.clause k with f := i, b := x }).addW x k (S.clause k).a).clause j = S.clause j) ∧ ((S.setC k { S.clause k with f := i, b := x }).addW x k (S.clause k).a).clause k = { S.clause k with f := i, b := x } := by
  have hkl : k < S.cls.length := Nat.lt_of_lt_of_le hk h.wf.met
  have hm := h.wm k hk ha
  have hc := h.wf.clause_ok hkl
  have hxc := h.wf.inside_mem hx
  have w1 := h.wf.setC (k := k) (c := { S.clause k with f := i, b := x }) rfl rfl hkl hi hc.2.2.2.2.1 hxc.2 hc.2.2.2.2.2.2.1 (by show x ≠ 1; omega)
  have w2 := w1.1.addW (c := x) (k := k) (o := (S.clause k).a) (by rw [w1.2.len]; exact hkl) (by rw [w1.2.n]; exact hc.2.2.2.2.1) hc.2.2.2.2.2.2.1
  have e1 := setC_ext (S := S) (k := k) (c := { S.clause k with f := i, b := x }) hkl rfl rfl
  have e2 := addW_ext (S.setC k { S.clause k with f := i, b := x }) x k (S.clause k).a
  have e := e1.trans e2
  have hclk : ((S.setC k { S.clause k with f := i, b := x }).addW x k (S.clause k).a).clause k = { S.clause k with f := i, b := x } := clause_setC (c := { S.clause k with f := i, b := x }) hkl
  have hclj : ∀ j, j ≠ k → ((S.setC k { S.clause k with f := i, b := x }).addW x k (S.clause k).a).clause j = S.clause j := fun j hj => clause_setC_ne (c := { S.clause k with f := i, b := x }) hj
  have hwt : ∀ y, ((S.setC k { S.clause k with f := i, b := x }).addW x k (S.clause k).a).watch y = if y = x then S.watch x ++ [(k, (S.clause k).a)] else S.watch y := fun y => watch_addW (S := S.setC k { S.clause k with f := i, b := x }) (by show x < S.wat.length; rw [h.wf.wtl]; exact hxc.2) y
  have hmet : ((S.setC k { S.clause k with f := i, b := x }).addW x k (S.clause k).a).met = S.met := rfl
  have hval : ∀ c, ((S.setC k { S.clause k with f := i, b := x }).addW x k (S.clause k).a).val c = S.val c := fun _ => rfl
  have hlvl : ∀ c, ((S.setC k { S.clause k with f := i, b := x }).addW x k (S.clause k).a).lvl c = S.lvl c := fun _ => rfl
  have hgiv : ((S.setC k { S.clause k with f := i, b := x }).addW x k (S.clause k).a).giv = S.giv := rfl
  generalize (S.setC k { S.clause k with f := i, b := x }).addW x k (S.clause k).a = T at *
  have hTa : (T.clause k).a = (S.clause k).a := by rw [hclk]
  have hTb : (T.clause k).b = x := by rw [hclk]
  have hold : ∀ y en, y ≠ l → Ent S y en → Ent T y en := fun y en hy hen => by
    by_cases ek : en.1 = k
    · refine ⟨by rw [hmet]; exact hen.1, by rw [ek, hTa]; exact ha, by rw [e.ins]; exact hen.2.2.1, hen.2.2.2.1, ?_⟩
      have := hen.2.2.2.2
      rw [ek] at this ⊢
      rcases this with t | t
      · exact Or.inl (by rw [hTa]; exact t)
      · exact absurd (by rw [← t, hb] : y = l) hy
    · exact ⟨by rw [hmet]; exact hen.1, by rw [hclj _ ek]; exact hen.2.1, by rw [e.ins]; exact hen.2.2.1, hen.2.2.2.1, by rw [hclj _ ek]; exact hen.2.2.2.2⟩
  refine ⟨⟨w2.1, ?_, fun c hc2 hv => ?_, fun t ht => ?_, fun j hj hja => ?_, fun j hj hja => ?_, fun j hj hja y hy hE hv htd => ?_, fun y hE en he => ?_, fun y hE => ?_, fun j hj hja y hy hE => ?_⟩, e, fun en hne hen => ?_, hclj, hclk⟩
  · rw [hgiv]; exact h.g0
  · rw [hlvl, e.level]; exact h.lvb c hc2 (by rw [← hval]; exact hv)
  · rw [e.tasks] at ht; exact (h.tst t ht).ext e
  · rw [hmet] at hj
    by_cases ek : j = k
    · subst ek; rw [hTa] at hja; exact absurd hja ha
    · rw [hclj j ek] at hja; exact (h.un j hj hja).ext e
  · rw [hmet] at hj
    by_cases ek : j = k
    · subst ek
      rw [hTa, hTb, e.ins]
      exact ⟨hm.1, hx, fun e3 => hxo e3.symm⟩
    · rw [hclj j ek] at hja ⊢
      rw [e.ins]
      exact h.wm j hj hja
  · rw [hmet] at hj
    rw [hval] at hv
    by_cases ek : j = k
    · subst ek
      rw [hTa, hTb] at hy
      rcases hy with t | t
      · exact (h.ok j hj ha y (Or.inl t) hE hv ((e.told y).1 htd)).ext e hv
      · rw [t] at hv; omega
    · rw [hclj j ek] at hja hy
      exact (h.ok j hj hja y hy hE hv ((e.told y).1 htd)).ext e hv
  · rw [hwt] at he
    split at he
    · next ey =>
      subst ey
      rcases List.mem_append.1 he with he | he
      · exact hold y en hE (h.ent y hE en he)
      · have e3 : en = (k, (S.clause k).a) := by simpa using he
        subst e3
        exact ⟨by rw [hmet]; exact hk, by rw [hTa]; exact ha, by rw [e.ins]; exact hm.1, fun e4 => hxo e4.symm, Or.inr hTb⟩
    · exact hold y en hE (h.ent y hE en he)
  · rw [hwt]
    split
    · next ey =>
      subst ey
      rw [List.map_append, List.nodup_append]
      refine ⟨h.nd y hE, by simp, fun a1 ha1 b1 hb1 e3 => ?_⟩
      have e4 : b1 = k := by simpa using hb1
      obtain ⟨en, hen, e5⟩ := List.mem_map.1 ha1
      have h6 := h.ent y hE en hen
      have e7 : en.1 = k := by rw [e5, e3, e4]
      have h8 := h6.2.2.2.2
      rw [e7] at h8
      rcases h8 with t | t
      · exact hxo t.symm
      · exact hxl (by rw [← t, hb])
    · exact h.nd y hE
  · rw [hmet] at hj
    rw [hwt]
    by_cases ek : j = k
    · subst ek
      rw [hTa, hTb] at hy
      rcases hy with t | t
      · obtain ⟨o, ho⟩ := h.lst j hj ha y (Or.inl t) hE
        rw [if_neg (fun e3 => hxo (by rw [← e3, t]))]
        exact ⟨o, ho⟩
      · rw [if_pos t]
        exact ⟨_, List.mem_append.2 (Or.inr (List.mem_singleton.2 rfl))⟩
    · rw [hclj j ek] at hja hy
      obtain ⟨o, ho⟩ := h.lst j hj hja y hy hE
      split
      · next ey => exact ⟨o, List.mem_append.2 (Or.inl (by rw [← ey]; exact ho))⟩
      · exact ⟨o, ho⟩
  · exact ⟨by rw [hmet]; exact hen.1, by rw [hclj _ hne]; exact hen.2.1, by rw [e.ins]; exact hen.2.2.1, hen.2.2.2.1, by rw [hclj _ hne]; exact hen.2.2.2.2⟩
theorem mod_small {i n : Nat} (h : i ≤ n) : (if n ≤ i then 0 else i) = i % n := by
  split
  · have e : i = n := by omega
    rw [e, Nat.mod_self]
  · rw [Nat.mod_eq_of_lt (by omega)]
/-- where the search finds nothing all others are false -/
theorem seek_none (S : ES) (all : List Nat) (o : Nat) : ∀ (m i : Nat), 0 < all.length → i ≤ all.length → S.seek all o m i = none → ∀ d, d < m → all.getD ((i + d) % all.length) 0 = o ∨ S.val (all.getD ((i + d) % all.length) 0) < 0
  | 0, i, _, _, _, d, hd => absurd hd (Nat.not_lt_zero _)
  | m + 1, i, hl, hi, h, d, hd => by
    unfold ES.seek at h
    simp only at h
    rw [mod_small hi] at h
    split at h
    · cases h
    · next hc =>
      have hlt := Nat.mod_lt i hl
      cases d with
      | zero =>
        rw [Nat.add_zero]
        by_cases h1 : all.getD (i % all.length) 0 = o
        · exact Or.inl h1
        · right
          have : ¬ 0 ≤ S.val (all.getD (i % all.length) 0) := fun h2 => hc ⟨h1, h2⟩
          omega
      | succ d =>
        have := seek_none S all o m (i % all.length + 1) hl (by omega) h d (by omega)
        have e : (i % all.length + 1 + d) % all.length = (i + (d + 1)) % all.length := by
          rw [Nat.add_assoc, Nat.mod_add_mod, Nat.add_comm 1 d]
        rw [e] at this
        exact this
theorem seek_far (S : ES) (all : List Nat) (o m i : Nat) (h : all.length ≤ i) : S.seek all o m i = S.seek all o m 0 ∨ all.length = 0 := by
  rcases Nat.eq_zero_or_pos all.length with h0 | h0
  · exact Or.inr h0
  · left
    cases m with
    | zero => rfl
    | succ m =>
      unfold ES.seek
      simp only
      have e0 : (if all.length ≤ 0 then 0 else 0) = 0 := by split <;> rfl
      rw [if_pos h, e0]
theorem seek_all (S : ES) (all : List Nat) (o i : Nat) (h : S.seek all o all.length i = none) : ∀ x ∈ all, x = o ∨ S.val x < 0 := by
  intro x hx
  obtain ⟨p, hp, rfl⟩ := List.getElem_of_mem hx
  have hl : 0 < all.length := by omega
  obtain ⟨i0, hi0, h1⟩ : ∃ i0, i0 ≤ all.length ∧ S.seek all o all.length i0 = none := by
    by_cases hf : all.length ≤ i
    · rcases seek_far S all o all.length i hf with e | e
      · exact ⟨0, by omega, by rw [← e]; exact h⟩
      · omega
    · exact ⟨i, by omega, h⟩
  have h2 := seek_none S all o all.length i0 hl hi0 h1 ((p + (all.length - i0)) % all.length) (Nat.mod_lt _ hl)
  have e : (i0 + (p + (all.length - i0)) % all.length) % all.length = p := by
    rw [Nat.add_mod_mod, show i0 + (p + (all.length - i0)) = p + all.length by omega, Nat.add_mod_right, Nat.mod_eq_of_lt hp]
  rw [e, getD_of _ _ _ hp] at h2
  exact h2
theorem settle_sat {S : ES} (h : WF S) {k l : Nat} (hl : l ∈ S.inside k) (hc : (S.settle k l).clash = none) : Sat (S.settle k l) k := by
  have hl2 := h.inside_mem hl
  have hv := h.val_of l
  unfold ES.settle at hc ⊢
  split
  · next h0 => exact ⟨l, hl, by rw [set_val h hl2.1 hl2.2, if_neg (fun e => (opp_lt hl2.1 hl2.2).2.2.1 e.symm), if_pos rfl]⟩
  · next h0 =>
    rw [if_neg h0] at hc
    split
    · next h1 =>
      rw [if_pos h1] at hc
      cases hc
    · next h1 => exact ⟨l, hl, (hv.resolve_left h1).resolve_left h0⟩
theorem settle_met (S : ES) (k l : Nat) : (S.settle k l).met = S.met ∧ ∀ j, (S.settle k l).clause j = S.clause j := by
  unfold ES.settle
  split
  · exact ⟨rfl, fun _ => rfl⟩
  · split
    · exact ⟨rfl, fun _ => rfl⟩
    · exact ⟨rfl, fun _ => rfl⟩
/-- what the engine has found, it has found rightly -/
structure SND (S : ES) : Prop where
  lvp : ∀ i, i < S.trail.length → ∀ j, j < S.marks.length → (S.marks.getD j 0 ≤ i ↔ j < S.lvl (S.trail.getD i 0))
  rsn : ∀ i, i < S.trail.length → ∀ k, (S.giv.getD (S.trail.getD i 0 / 2) (0, none)).2 = some k → k < S.cls.length ∧ S.trail.getD i 0 ∈ S.inside k ∧ ∀ z ∈ S.inside k, z ≠ S.trail.getD i 0 → opp z ∈ S.trail.take i
  dec : ∀ i, i < S.trail.length → ((S.giv.getD (S.trail.getD i 0 / 2) (0, none)).2 = none ↔ i ∈ S.marks)
  cla : ∀ k, S.clash = some k → ∀ z ∈ S.inside k, S.val z = -1
theorem SND.congr {S T : ES} (h : SND S) (ht : T.trail = S.trail) (hm : T.marks = S.marks) (hg : T.giv = S.giv) (hv : T.vals = S.vals) (hc : T.clash = S.clash) (hl : T.cls.length = S.cls.length) (hi : ∀ k, T.inside k = S.inside k) : SND T := by
  have hlv : ∀ c, T.lvl c = S.lvl c := fun c => by unfold ES.lvl; rw [hg]
  have hvl : ∀ c, T.val c = S.val c := fun c => by unfold ES.val; rw [hv]
  refine ⟨fun i hi2 j hj => ?_, fun i hi2 k hk => ?_, fun i hi2 => ?_, fun k hk z hz => ?_⟩
  · rw [ht] at hi2 ⊢; rw [hm] at hj ⊢; rw [hlv]; exact h.lvp i hi2 j hj
  · rw [ht] at hi2 hk ⊢; rw [hg] at hk; rw [hl, hi]; exact h.rsn i hi2 k hk
  · rw [ht] at hi2 ⊢; rw [hg, hm]; exact h.dec i hi2
  · rw [hc] at hk; rw [hi] at hz; rw [hvl]; exact h.cla k hk z hz
theorem set_giv {S : ES} (h : WF S) {l : Nat} {r : Option Nat} (h2 : l < 2 * S.n + 2) (c : Nat) : (S.set l r).giv.getD (c / 2) (0, none) = if c / 2 = l / 2 then (S.marks.length, r) else S.giv.getD (c / 2) (0, none) := by
  unfold ES.set
  simp only
  rw [List.getD_eq_getElem?_getD, List.getElem?_set]
  by_cases e : l / 2 = c / 2
  · rw [if_pos e, if_pos (by rw [h.givl]; omega), if_pos e.symm]
    rfl
  · rw [if_neg e, if_neg (fun e2 => e e2.symm), ← List.getD_eq_getElem?_getD]
theorem trail_half {S : ES} (h : WF S) {l i : Nat} (h1 : 2 ≤ l) (h2 : l < 2 * S.n + 2) (h0 : S.val l = 0) (hi : i < S.trail.length) : S.trail.getD i 0 / 2 ≠ l / 2 := fun e => by
  have hm : S.trail.getD i 0 ∈ S.trail := by rw [getD_of _ _ _ hi]; exact List.getElem_mem _
  have h3 := h.tr _ hm
  have hvo : S.val (opp l) = 0 := by rw [h.valx l h1 h2, h0]; rfl
  rcases half_eq (c := l) (d := S.trail.getD i 0) e.symm with e2 | e2
  · rw [e2, h0] at h3; exact absurd h3.2.2 (by decide)
  · rw [e2, hvo] at h3; exact absurd h3.2.2 (by decide)
theorem getD_snoc {α : Type} (l : List α) (x d : α) (i : Nat) (hi : i < l.length) : (l ++ [x]).getD i d = l.getD i d := by
  rw [List.getD_eq_getElem?_getD, List.getElem?_append_left hi, ← List.getD_eq_getElem?_getD]
theorem getD_last {α : Type} (l : List α) (x d : α) : (l ++ [x]).getD l.length d = x := by
  rw [List.getD_eq_getElem?_getD]; simp
theorem opp_true {S : ES} (h : WF S) {z : Nat} (h1 : 2 ≤ z) (h2 : z < 2 * S.n + 2) (hv : S.val z = -1) : opp z ∈ S.trail := by
  have ho := opp_lt h1 h2
  have e := h.valx z h1 h2
  rw [hv] at e
  exact h.trv _ ho.1 ho.2.1 e
theorem SND.setR {S : ES} (h : SND S) (hw : WF S) {k l : Nat} (hk : k < S.cls.length) (hl : l ∈ S.inside k) (h0 : S.val l = 0) (ho : ∀ z ∈ S.inside k, z ≠ l → S.val z = -1) : SND (S.set l (some k)) := by
  have hl2 := hw.inside_mem hl
  have e := set_ext hw (r := some k) hl2.1 hl2.2 h0
  have hg := fun c => set_giv hw (r := some k) hl2.2 c
  have htr : (S.set l (some k)).trail = S.trail ++ [l] := rfl
  have hmk : (S.set l (some k)).marks = S.marks := rfl
  have hlv : ∀ c, (S.set l (some k)).lvl c = if c / 2 = l / 2 then S.level else S.lvl c := fun c => set_lvl hw hl2.2 c
  have hmt : ∀ m ∈ S.marks, m < S.trail.length := hw.mks
  refine ⟨fun i hi j hj => ?_, fun i hi j hj => ?_, fun i hi => ?_, fun j hj z hz => ?_⟩
  · rw [htr, List.length_append, List.length_singleton] at hi
    rw [hmk] at hj ⊢
    rw [htr]
    by_cases hi2 : i < S.trail.length
    · rw [getD_snoc _ _ _ _ hi2, hlv, if_neg (trail_half hw hl2.1 hl2.2 h0 hi2)]
      exact h.lvp i hi2 j hj
    · obtain rfl : i = S.trail.length := by omega
      rw [getD_last, hlv, if_pos rfl]
      have h3 := hmt (S.marks.getD j 0) (by rw [getD_of _ _ _ hj]; exact List.getElem_mem _)
      exact ⟨fun _ => hj, fun _ => by omega⟩
  · rw [htr, List.length_append, List.length_singleton] at hi
    rw [htr] at hj ⊢
    rw [e.ins]
    by_cases hi2 : i < S.trail.length
    · rw [getD_snoc _ _ _ _ hi2] at hj ⊢
      rw [hg, if_neg (trail_half hw hl2.1 hl2.2 h0 hi2)] at hj
      rw [List.take_append_of_le_length (by omega)]
      exact h.rsn i hi2 j hj
    · obtain rfl : i = S.trail.length := by omega
      rw [getD_last] at hj ⊢
      rw [hg, if_pos rfl] at hj
      have ej : k = j := by injection hj
      subst ej
      refine ⟨hk, hl, fun z hz hne => ?_⟩
      rw [List.take_left']
      · have hz2 := hw.inside_mem hz
        exact opp_true hw hz2.1 hz2.2 (ho z hz hne)
      · rfl
  · rw [htr, List.length_append, List.length_singleton] at hi
    rw [htr, hmk]
    by_cases hi2 : i < S.trail.length
    · rw [getD_snoc _ _ _ _ hi2, hg, if_neg (trail_half hw hl2.1 hl2.2 h0 hi2)]
      exact h.dec i hi2
    · obtain rfl : i = S.trail.length := by omega
      rw [getD_last, hg, if_pos rfl]
      refine ⟨fun e2 => absurd e2 (by simp), fun hm => ?_⟩
      have := hmt _ hm
      omega
  · rw [e.ins] at hz
    have h3 := h.cla j hj z hz
    rw [e.val z (by rw [h3]; decide)]
    exact h3
theorem SND.settle {S : ES} (h : SND S) (hw : WF S) {k l : Nat} (hk : k < S.cls.length) (hl : l = 0 ∨ l ∈ S.inside k) (ho : ∀ z ∈ S.inside k, z ≠ l → S.val z = -1) : SND (S.settle k l) := by
  unfold ES.settle
  split
  · next h0 =>
    have hl2 : l ∈ S.inside k := hl.resolve_left (fun e => by rw [e, hw.val0] at h0; exact absurd h0 (by decide))
    exact h.setR hw hk hl2 h0 ho
  · split
    · next h1 =>
      refine ⟨h.lvp, h.rsn, h.dec, fun j hj z hz => ?_⟩
      have ej : k = j := by injection hj
      subst ej
      by_cases e : z = l
      · rw [e]; exact h1
      · exact ho z hz e
    · exact h
theorem setC_inside {S : ES} {k : Nat} {c : CL} (hk : k < S.cls.length) (hs : c.s = (S.clause k).s) (he : c.e = (S.clause k).e) (j : Nat) : (S.setC k c).inside j = S.inside j := (setC_ext hk hs he).ins j
/-- the watchers of a false literal -/
theorem sift_inv (l : Nat) : ∀ (ls : List (Nat × Nat)) (S : ES) (kept : List (Nat × Nat)), INV (fun x => x = l) S → (∀ e ∈ kept ++ ls, Ent S l e) → ((kept ++ ls).map Prod.fst).Nodup →
    (∀ k, k < S.met → (S.clause k).a ≠ 0 → (S.clause k).a = l ∨ (S.clause k).b = l → ∃ o, (k, o) ∈ kept ++ ls) → (∀ e ∈ kept, Sat S e.1) → S.val l = -1 → S.clash = none →
    INV (fun x => x = l) (ES.sift l S ls kept).1 ∧ Ext S (ES.sift l S ls kept).1 ∧ (ES.sift l S ls kept).1.met = S.met ∧ (∀ e ∈ (ES.sift l S ls kept).2, Ent (ES.sift l S ls kept).1 l e) ∧ ((ES.sift l S ls kept).2.map Prod.fst).Nodup ∧
    (∀ k, k < S.met → ((ES.sift l S ls kept).1.clause k).a ≠ 0 → ((ES.sift l S ls kept).1.clause k).a = l ∨ ((ES.sift l S ls kept).1.clause k).b = l → ∃ o, (k, o) ∈ (ES.sift l S ls kept).2) ∧ ((ES.sift l S ls kept).1.clash = none → ∀ e ∈ (ES.sift l S ls kept).2, Sat (ES.sift l S ls kept).1 e.1) ∧ (SND S → SND (ES.sift l S ls kept).1)
  | [], S, kept, h, hen, hnd, hls, hsat, _, _ => by
    rw [List.append_nil] at hen hnd hls
    exact ⟨h, Ext.refl S, rfl, hen, hnd, hls, fun _ => hsat, fun hs => hs⟩
  | (k, o) :: r, S, kept, h, hen, hnd, hls, hsat, hvl, hcl => by
    have hko := hen (k, o) (List.mem_append.2 (Or.inr List.mem_cons_self))
    have hassoc : kept ++ (k, o) :: r = (kept ++ [(k, o)]) ++ r := by simp
    unfold ES.sift
    split
    · next hvo =>
      rw [hassoc] at hen hnd hls
      refine sift_inv l r S (kept ++ [(k, o)]) h hen hnd hls (fun e he => ?_) hvl hcl
      rcases List.mem_append.1 he with he | he
      · exact hsat e he
      · have e1 : e = (k, o) := by simpa using he
        subst e1
        have hv := h.wf.val_of o
        exact ⟨o, hko.2.2.1, by omega⟩
    · obtain ⟨i1, e1, hb, hna, hin, ha0, hent⟩ := h.swap hko.1 hko.2.1 hko.2.2.2.2
      have hkl : k < S.cls.length := Nat.lt_of_lt_of_le hko.1 h.wf.met
      have hck : (S.setC k (ES.turned (S.clause k) l)).clause k = ES.turned (S.clause k) l := clause_setC hkl
      have hcj : ∀ j, j ≠ k → (S.setC k (ES.turned (S.clause k) l)).clause j = S.clause j := fun j hj => clause_setC_ne hj
      have htk := turned_ok (c := S.clause k) (l := l) (n := 2 * S.n + 2) (h.wf.clause_ok hkl).2.2.2.2.1 (h.wf.clause_ok hkl).2.2.2.2.2.1 (by
        have h1 := (h.wm k hko.1 hko.2.1)
        rcases hko.2.2.2.2 with t | t
        · rw [← t]; exact (h.wf.inside_mem h1.1).2
        · rw [← t]; exact (h.wf.inside_mem h1.2.1).2) (h.wf.clause_ok hkl).2.2.2.2.2.2.1 (h.wf.clause_ok hkl).2.2.2.2.2.2.2 (by
        have h1 := (h.wm k hko.1 hko.2.1)
        rcases hko.2.2.2.2 with t | t
        · have := (h.wf.inside_mem h1.1).1; have t : (S.clause k).a = l := t; omega
        · have := (h.wf.inside_mem h1.2.1).1; have t : (S.clause k).b = l := t; omega)
      simp only
      generalize ES.turned (S.clause k) l = c at *
      have hsn1 : SND S → SND (S.setC k c) := fun hs => hs.congr rfl rfl rfl rfl rfl (by simp [ES.setC]) (setC_inside hkl htk.1 htk.2.1)
      have hm1 : (S.setC k c).met = S.met := rfl
      have hv1 : (S.setC k c).val l = -1 := hvl
      have hc1 : (S.setC k c).clash = none := hcl
      generalize S.setC k c = S1 at *
      -- what the others of the list are like
      have hne : ∀ e ∈ kept ++ r, e.1 ≠ k := fun e he e2 => by
        rw [List.map_append, List.map_cons, List.nodup_append] at hnd
        have h5 := List.nodup_cons.1 hnd.2.1
        rcases List.mem_append.1 he with he | he
        · exact hnd.2.2 e.1 (List.mem_map.2 ⟨e, he, rfl⟩) k List.mem_cons_self e2
        · exact h5.1 (List.mem_map.2 ⟨e, he, e2⟩)
      have hnd2 : ((kept ++ r).map Prod.fst).Nodup := by
        rw [List.map_append, List.map_cons, List.nodup_append] at hnd
        have h5 := List.nodup_cons.1 hnd.2.1
        rw [List.map_append, List.nodup_append]
        exact ⟨hnd.1, h5.2, fun a ha b hb => hnd.2.2 a ha b (List.mem_cons_of_mem _ hb)⟩
      have hen2 : ∀ e ∈ kept ++ r, Ent S1 l e := fun e he => hent l e (hen e (by
        rcases List.mem_append.1 he with he | he
        · exact List.mem_append.2 (Or.inl he)
        · exact List.mem_append.2 (Or.inr (List.mem_cons_of_mem _ he))))
      have hls2 : ∀ j, j < S.met → j ≠ k → (S.clause j).a ≠ 0 → (S.clause j).a = l ∨ (S.clause j).b = l → ∃ o, (j, o) ∈ kept ++ r := fun j hj hjk hja hjl => by
        obtain ⟨o2, ho2⟩ := hls j hj hja hjl
        refine ⟨o2, ?_⟩
        rcases List.mem_append.1 ho2 with h5 | h5
        · exact List.mem_append.2 (Or.inl h5)
        · rcases List.mem_cons.1 h5 with h6 | h6
          · cases h6; exact absurd rfl hjk
          · exact List.mem_append.2 (Or.inr h6)
      have hkm : k < S1.met := by rw [hm1]; exact hko.1
      have hS1k : k < S1.cls.length := Nat.lt_of_lt_of_le hkm i1.wf.met
      split
      · next i x hs =>
        have hlen := i1.wf.inside_len hS1k
        have hcok := i1.wf.clause_ok hS1k
        have h0 : 0 < (S1.inside k).length := by
          rcases Nat.eq_zero_or_pos (S1.inside k).length with e | e
          · rw [e] at hs
            simp [ES.seek] at hs
          · exact e
        obtain ⟨q1, q2, q3, q4⟩ := seek_ok _ _ _ _ _ _ _ h0 hs
        have hxl : x ≠ l := fun e => by rw [e, hv1] at q4; exact absurd q4 (by decide)
        have hmv := i1.move (k := k) (i := i) (x := x) hkm (by rw [hck]; exact ha0) (by rw [hck]; exact hb) q2 (by rw [hck]; exact q3) hxl q4 (by omega)
        rw [hck] at hmv
        have hm2 : ((S1.setC k { c with f := i, b := x }).addW x k c.a).met = S1.met := rfl
        have hv2 : ((S1.setC k { c with f := i, b := x }).addW x k c.a).val l = S1.val l := rfl
        have hc2 : ((S1.setC k { c with f := i, b := x }).addW x k c.a).clash = S1.clash := rfl
        have hsn2 : SND S1 → SND ((S1.setC k { c with f := i, b := x }).addW x k c.a) := fun hs => hs.congr rfl rfl rfl rfl rfl (by simp [ES.setC, ES.addW]) (fun j => setC_inside hS1k (by rw [hck]) (by rw [hck]) j)
        generalize (S1.setC k { c with f := i, b := x }).addW x k c.a = S2 at *
        obtain ⟨i2, e2, hent2, hcj2, hck2⟩ := hmv
        have hrec := sift_inv l r S2 kept i2 (fun e he => hent2 e (hne e he) (hen2 e he)) hnd2 (fun j hj hja hjl => by
          rw [hm2, hm1] at hj
          by_cases ek : j = k
          · subst ek
            rw [hck2] at hjl
            rcases hjl with t | t
            · exact absurd t hna
            · exact absurd t hxl
          · rw [hcj2 j ek, hcj j ek] at hja hjl
            exact hls2 j hj ek hja hjl) (fun e he => ((hsat e he).ext e1).ext e2) (by rw [hv2]; exact hv1) (by rw [hc2]; exact hc1)
        obtain ⟨r1, r2, r3, r4, r5, r6, r7, r8⟩ := hrec
        exact ⟨r1, e1.trans (e2.trans r2), by rw [r3, hm2, hm1], r4, r5, fun j hj => r6 j (by rw [hm2, hm1]; exact hj), r7, fun hs => r8 (hsn2 (hsn1 hs))⟩
      · next hs =>
        have hin1 : c.a ∈ S1.inside k := by rw [e1.ins]; exact hin
        have hcac := i1.wf.inside_mem hin1
        have i2 := i1.settle (k := k) (l := c.a) hS1k hcac.2 (by omega)
        have e2 := settle_ext i1.wf (k := k) (l := c.a) hcac.2 (by omega)
        have hsm := settle_met S1 k c.a
        have hst : (S1.settle k c.a).clash = none → Sat (S1.settle k c.a) k := fun hh => settle_sat i1.wf hin1 hh
        have hsn2 : SND S1 → SND (S1.settle k c.a) := fun hq => hq.settle i1.wf hS1k (Or.inr hin1) (fun z hz hne => by
          have h5 := (seek_all _ _ _ _ hs z hz).resolve_left hne
          have h6 := i1.wf.val_of z
          omega)
        generalize S1.settle k c.a = S2 at *
        have hm2 : S2.met = S.met := by rw [hsm.1, hm1]
        have hkept : ∀ e ∈ kept ++ [(k, c.a)] ++ r, Ent S2 l e := fun e he => by
          have hcase : e ∈ kept ++ r ∨ e = (k, c.a) := by
            rcases List.mem_append.1 he with he | he
            · rcases List.mem_append.1 he with he | he
              · exact Or.inl (List.mem_append.2 (Or.inl he))
              · exact Or.inr (by simpa using he)
            · exact Or.inl (List.mem_append.2 (Or.inr he))
          rcases hcase with he | he
          · have h5 := hen2 e he
            exact ⟨by rw [hsm.1]; exact h5.1, by rw [hsm.2]; exact h5.2.1, by rw [e2.ins]; exact h5.2.2.1, h5.2.2.2.1, by rw [hsm.2]; exact h5.2.2.2.2⟩
          · subst he
            exact ⟨by rw [hsm.1]; exact hkm, by rw [hsm.2, hck]; exact ha0, by rw [e2.ins]; exact hin1, hna, by rw [hsm.2, hck]; exact Or.inr hb⟩
        have hndk : ((kept ++ [(k, c.a)] ++ r).map Prod.fst).Nodup := by
          have e5 : (kept ++ [(k, c.a)] ++ r).map Prod.fst = (kept ++ (k, o) :: r).map Prod.fst := by simp
          rw [e5]
          exact hnd
        have hlsk : ∀ j, j < S2.met → (S2.clause j).a ≠ 0 → (S2.clause j).a = l ∨ (S2.clause j).b = l → ∃ o, (j, o) ∈ kept ++ [(k, c.a)] ++ r := fun j hj hja hjl => by
          rw [hm2] at hj
          by_cases ek : j = k
          · subst ek
            exact ⟨c.a, by simp⟩
          · rw [hsm.2, hcj j ek] at hja hjl
            obtain ⟨o2, ho2⟩ := hls2 j hj ek hja hjl
            refine ⟨o2, ?_⟩
            rcases List.mem_append.1 ho2 with h5 | h5
            · exact List.mem_append.2 (Or.inl (List.mem_append.2 (Or.inl h5)))
            · exact List.mem_append.2 (Or.inr h5)
        split
        · next hcs =>
          refine ⟨i2, e1.trans e2, hm2, hkept, hndk, fun j hj => hlsk j (by rw [hm2]; exact hj), fun hn => ?_, fun hs => hsn2 (hsn1 hs)⟩
          rw [hn] at hcs
          cases hcs
        · next hcs =>
          have hcn : S2.clash = none := by cases hh : S2.clash with | none => rfl | some y => rw [hh] at hcs; exact absurd rfl hcs
          have hrec := sift_inv l r S2 (kept ++ [(k, c.a)]) i2 hkept hndk hlsk (fun e he => by
            rcases List.mem_append.1 he with he | he
            · exact ((hsat e he).ext e1).ext e2
            · have e5 : e = (k, c.a) := by simpa using he
              subst e5
              exact hst hcn) (by rw [e2.val l (by rw [hv1]; decide)]; exact hv1) hcn
          obtain ⟨r1, r2, r3, r4, r5, r6, r7, r8⟩ := hrec
          exact ⟨r1, e1.trans (e2.trans r2), by rw [r3, hm2], r4, r5, fun j hj => r6 j (by rw [hm2]; exact hj), r7, fun hs => r8 (hsn2 (hsn1 hs))⟩
end Go.Pr
