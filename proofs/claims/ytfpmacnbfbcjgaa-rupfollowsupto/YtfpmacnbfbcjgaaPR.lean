import Derived.Test.YtfpmacnbfbcjgaaPQ
namespace Go.Pr

def ES.tk (S : ES) (j : Nat) : TK := S.tasks.getD j tk0
/-- a false literal whose watchers were told -/
def Told (S : ES) (x : Nat) : Prop := opp x ∈ S.trail.take S.head
def Cov (t : TK) (k x : Nat) : Prop := (t.cl = none ∧ t.lit = x) ∨ t.cl = some k
/-- a clause stands well with a watched literal that is false -/
def Okx (S : ES) (k x : Nat) : Prop :=
  (∃ z ∈ S.inside k, S.val z = 1 ∧ (S.lvl z ≤ S.lvl x ∨ ∃ j, j < S.done ∧ Cov (S.tk j) k x ∧ (S.tk j).since ≤ S.lvl x ∧ S.lvl z ≤ (S.tk j).lv))
  ∨ (∃ j, S.done ≤ j ∧ j < S.tasks.length ∧ Cov (S.tk j) k x ∧ (S.tk j).since ≤ S.lvl x)
  ∨ (S.clash ≠ none ∧ (S.lvl x = S.level ∨ ∃ j, j < S.done ∧ Cov (S.tk j) k x ∧ (S.tk j).since ≤ S.lvl x ∧ (S.tk j).lv = S.level))
/-- a clause that watches nothing: all but one literal are false since level 0 -/
def Un (S : ES) (k : Nat) : Prop :=
  ∃ f, (f = 0 ∨ f ∈ S.inside k) ∧ (∀ z ∈ S.inside k, z ≠ f → S.val z = -1 ∧ S.lvl z = 0) ∧
    ((f ∈ S.inside k ∧ S.val f = 1 ∧ (S.lvl f = 0 ∨ ∃ j, j < S.done ∧ (S.tk j).cl = some k ∧ (S.tk j).lit = f ∧ (S.tk j).since = 0 ∧ S.lvl f ≤ (S.tk j).lv))
    ∨ (∃ j, S.done ≤ j ∧ j < S.tasks.length ∧ (S.tk j).cl = some k ∧ (S.tk j).lit = f ∧ (S.tk j).since = 0)
    ∨ (S.clash ≠ none ∧ (S.level = 0 ∨ ∃ j, j < S.done ∧ (S.tk j).cl = some k ∧ (S.tk j).lit = f ∧ (S.tk j).since = 0 ∧ (S.tk j).lv = S.level)))
/-- what a task says stands -/
def Tst (S : ES) (t : TK) : Prop :=
  (t.cl = none → S.val t.lit = -1 ∧ S.lvl t.lit ≤ t.since) ∧ ∀ k, t.cl = some k → ∀ z ∈ S.inside k, z ≠ t.lit → S.val z = -1 ∧ S.lvl z ≤ t.since
/-- more values, and nothing else that counts -/
structure Ext (S S' : ES) : Prop where
  val : ∀ c, S.val c ≠ 0 → S'.val c = S.val c
  lvl : ∀ c, S.val c ≠ 0 → S'.lvl c = S.lvl c
  ins : ∀ k, S'.inside k = S.inside k
  tasks : S'.tasks = S.tasks
  done : S'.done = S.done
  marks : S'.marks = S.marks
  clash : S.clash ≠ none → S'.clash ≠ none
  told : ∀ x, Told S' x ↔ Told S x
theorem Ext.refl (S : ES) : Ext S S := ⟨fun _ _ => rfl, fun _ _ => rfl, fun _ => rfl, rfl, rfl, rfl, fun h => h, fun _ => Iff.rfl⟩
theorem Ext.trans {S T U : ES} (h : Ext S T) (h2 : Ext T U) : Ext S U :=
  ⟨fun c hc => (h2.val c (by rw [h.val c hc]; exact hc)).trans (h.val c hc), fun c hc => (h2.lvl c (by rw [h.val c hc]; exact hc)).trans (h.lvl c hc), fun k => (h2.ins k).trans (h.ins k), h2.tasks.trans h.tasks, h2.done.trans h.done, h2.marks.trans h.marks, fun hc => h2.clash (h.clash hc), fun x => (h2.told x).trans (h.told x)⟩
theorem Ext.tk {S T : ES} (h : Ext S T) (j : Nat) : T.tk j = S.tk j := by unfold ES.tk; rw [h.tasks]
theorem Ext.level {S T : ES} (h : Ext S T) : T.level = S.level := by unfold ES.level; rw [h.marks]
theorem Okx.ext {S T : ES} (e : Ext S T) {k x : Nat} (hx : S.val x = -1) (h : Okx S k x) : Okx T k x := by
  have hlx : T.lvl x = S.lvl x := e.lvl x (by rw [hx]; decide)
  unfold Okx
  rw [hlx, e.done, e.tasks, e.ins k, e.level]
  rcases h with ⟨z, hz, hv, h⟩ | ⟨j, h⟩ | ⟨hc, h⟩
  · left
    have hlz : T.lvl z = S.lvl z := e.lvl z (by rw [hv]; decide)
    refine ⟨z, hz, by rw [e.val z (by rw [hv]; decide)]; exact hv, ?_⟩
    rw [hlz]
    rcases h with h | ⟨j, h⟩
    · exact Or.inl h
    · exact Or.inr ⟨j, by rw [e.tk j]; exact h⟩
  · exact Or.inr (Or.inl ⟨j, by rw [e.tk j]; exact h⟩)
  · refine Or.inr (Or.inr ⟨e.clash hc, ?_⟩)
    rcases h with h | ⟨j, h⟩
    · exact Or.inl h
    · exact Or.inr ⟨j, by rw [e.tk j]; exact h⟩
theorem Un.ext {S T : ES} (e : Ext S T) {k : Nat} (h : Un S k) : Un T k := by
  obtain ⟨f, hf, ho, h⟩ := h
  refine ⟨f, by rw [e.ins k]; exact hf, fun z hz hne => ?_, ?_⟩
  · rw [e.ins k] at hz
    have h1 := ho z hz hne
    have h2 : S.val z ≠ 0 := by rw [h1.1]; decide
    rw [e.val z h2, e.lvl z h2]
    exact h1
  · rw [e.ins k, e.done, e.tasks, e.level]
    rcases h with ⟨h1, hv, h⟩ | ⟨j, h⟩ | ⟨hc, h⟩
    · left
      have h2 : S.val f ≠ 0 := by rw [hv]; decide
      rw [e.val f h2, e.lvl f h2]
      refine ⟨h1, hv, ?_⟩
      rcases h with h | ⟨j, h⟩
      · exact Or.inl h
      · exact Or.inr ⟨j, by rw [e.tk j]; exact h⟩
    · exact Or.inr (Or.inl ⟨j, by rw [e.tk j]; exact h⟩)
    · refine Or.inr (Or.inr ⟨e.clash hc, ?_⟩)
      rcases h with h | ⟨j, h⟩
      · exact Or.inl h
      · exact Or.inr ⟨j, by rw [e.tk j]; exact h⟩
theorem Tst.ext {S T : ES} (e : Ext S T) {t : TK} (h : Tst S t) : Tst T t := by
  refine ⟨fun h1 => ?_, fun k hk z hz hne => ?_⟩
  · have h2 := h.1 h1
    have h3 : S.val t.lit ≠ 0 := by rw [h2.1]; decide
    rw [e.val _ h3, e.lvl _ h3]
    exact h2
  · rw [e.ins k] at hz
    have h2 := h.2 k hk z hz hne
    have h3 : S.val z ≠ 0 := by rw [h2.1]; decide
    rw [e.val _ h3, e.lvl _ h3]
    exact h2
def Ent (S : ES) (x : Nat) (e : Nat × Nat) : Prop := e.1 < S.met ∧ (S.clause e.1).a ≠ 0 ∧ e.2 ∈ S.inside e.1 ∧ e.2 ≠ x ∧ ((S.clause e.1).a = x ∨ (S.clause e.1).b = x)
/-- all that holds between two calls, but for what a literal's watchers still have to do -/
structure INV (E : Nat → Prop) (S : ES) : Prop where
  wf : WF S
  g0 : (S.giv.getD 0 (0, none)).1 = 0
  lvb : ∀ c, 2 ≤ c → S.val c ≠ 0 → S.lvl c ≤ S.level
  tst : ∀ t ∈ S.tasks, Tst S t
  un : ∀ k, k < S.met → (S.clause k).a = 0 → Un S k
  wm : ∀ k, k < S.met → (S.clause k).a ≠ 0 → (S.clause k).a ∈ S.inside k ∧ (S.clause k).b ∈ S.inside k ∧ (S.clause k).a ≠ (S.clause k).b
  ok : ∀ k, k < S.met → (S.clause k).a ≠ 0 → ∀ x, x = (S.clause k).a ∨ x = (S.clause k).b → ¬ E x → S.val x = -1 → Told S x → Okx S k x
  ent : ∀ x, ¬ E x → ∀ e ∈ S.watch x, Ent S x e
  nd : ∀ x, ¬ E x → ((S.watch x).map Prod.fst).Nodup
  lst : ∀ k, k < S.met → (S.clause k).a ≠ 0 → ∀ x, x = (S.clause k).a ∨ x = (S.clause k).b → ¬ E x → ∃ o, (k, o) ∈ S.watch x
theorem set_lvl {S : ES} (h : WF S) {l : Nat} {r : Option Nat} (h2 : l < 2 * S.n + 2) (c : Nat) : (S.set l r).lvl c = if c / 2 = l / 2 then S.level else S.lvl c := by
  unfold ES.lvl ES.set ES.level
  simp only
  rw [List.getD_eq_getElem?_getD, List.getElem?_set]
  by_cases e : l / 2 = c / 2
  · rw [if_pos e, if_pos (by rw [h.givl]; omega), if_pos e.symm]
    rfl
  · rw [if_neg e, if_neg (fun e2 => e e2.symm), ← List.getD_eq_getElem?_getD]
theorem set_val {S : ES} (h : WF S) {l : Nat} {r : Option Nat} (h1 : 2 ≤ l) (h2 : l < 2 * S.n + 2) (k : Nat) : (S.set l r).val k = if k = opp l then -1 else if k = l then 1 else S.val k :=
  getD_set2 S.vals l (opp l) k 1 (-1) (by rw [h.vall]; exact h2) (by rw [h.vall]; exact (opp_lt h1 h2).2.1)
theorem set_ext {S : ES} (h : WF S) {l : Nat} {r : Option Nat} (h1 : 2 ≤ l) (h2 : l < 2 * S.n + 2) (h0 : S.val l = 0) : Ext S (S.set l r) := by
  have hvo : S.val (opp l) = 0 := by rw [h.valx l h1 h2, h0]; rfl
  have ho := opp_lt h1 h2
  refine ⟨fun c hc => ?_, fun c hc => ?_, fun _ => rfl, rfl, rfl, rfl, fun hc => hc, fun x => ?_⟩
  · rw [set_val h h1 h2, if_neg (fun e => hc (by rw [e]; exact hvo)), if_neg (fun e => hc (by rw [e]; exact h0))]
  · rw [set_lvl h h2, if_neg (fun e => ?_)]
    rcases half_eq (c := l) (d := c) e.symm with e2 | e2
    · exact hc (by rw [e2]; exact h0)
    · exact hc (by rw [e2]; exact hvo)
  · unfold Told ES.set
    simp only
    rw [List.take_append_of_le_length h.head]
theorem settle_ext {S : ES} (h : WF S) {k l : Nat} (hl : l < 2 * S.n + 2) (h1 : l ≠ 1) : Ext S (S.settle k l) := by
  unfold ES.settle
  split
  · next h0 =>
    have hl0 : l ≠ 0 := fun e => by rw [e, h.val0] at h0; exact absurd h0 (by decide)
    exact set_ext h (by omega) hl h0
  · split
    · exact ⟨fun _ _ => rfl, fun _ _ => rfl, fun _ => rfl, rfl, rfl, rfl, fun _ => by simp, fun _ => Iff.rfl⟩
    · exact Ext.refl S
theorem INV.settle {E : Nat → Prop} {S : ES} (h : INV E S) {k l : Nat} (hk : k < S.cls.length) (hl : l < 2 * S.n + 2) (h1 : l ≠ 1) : INV E (S.settle k l) := by
  have e := settle_ext h.wf (k := k) hl h1
  have w := h.wf.settle hk hl h1
  have hcls : (S.settle k l).cls = S.cls ∧ (S.settle k l).wat = S.wat ∧ (S.settle k l).met = S.met := by
    unfold ES.settle
    split
    · exact ⟨rfl, rfl, rfl⟩
    · split
      · exact ⟨rfl, rfl, rfl⟩
      · exact ⟨rfl, rfl, rfl⟩
  have hcl : ∀ j, (S.settle k l).clause j = S.clause j := fun j => by unfold ES.clause; rw [hcls.1]
  have hwt : ∀ c, (S.settle k l).watch c = S.watch c := fun c => by unfold ES.watch; rw [hcls.2.1]
  have hold : ∀ x, x ≠ 1 → x < 2 * S.n + 2 → (S.settle k l).val x = -1 → Told (S.settle k l) x → S.val x = -1 := fun x hx1 hx2 hv ht => by
    have ht2 := (e.told x).1 ht
    have hm : opp x ∈ S.trail := List.mem_of_mem_take ht2
    have hx := h.wf.tr _ hm
    have h0 : x ≠ 0 := fun e0 => by
      have : opp x = 1 := by rw [e0]; rfl
      omega
    have ho := opp_lt (n := S.n) (c := x) (by omega) hx2
    have := h.wf.valx (opp x) ho.1 ho.2.1
    rw [ho.2.2.2.1, hx.2.2] at this
    exact this
  refine ⟨w.1, ?_, fun c hc hv => ?_, fun t ht => ?_, fun j hj ha => ?_, fun j hj ha => ?_, fun j hj ha x hx hE hv ht => ?_, fun x hE en he => ?_, fun x hE => ?_, fun j hj ha x hx hE => ?_⟩
  · have := e.lvl 0 (by rw [h.wf.val0]; decide)
    unfold ES.lvl at this
    simp only [Nat.zero_div] at this
    rw [this]
    exact h.g0
  · rw [e.level]
    unfold ES.settle at hv ⊢
    split
    · next h0 =>
      rw [if_pos h0] at hv
      have hl0 : l ≠ 0 := fun e => by rw [e, h.wf.val0] at h0; exact absurd h0 (by decide)
      rw [set_lvl h.wf hl]
      split
      · exact Nat.le_refl _
      · next hne =>
        refine h.lvb c hc fun e0 => hv ?_
        have ho := opp_lt (n := S.n) (c := l) (by omega) hl
        rw [set_val h.wf (by omega) hl, if_neg (fun e1 => hne (by rw [e1]; exact ho.2.2.2.2)), if_neg (fun e1 => hne (by rw [e1]))]
        exact e0
    · next h0 =>
      rw [if_neg h0] at hv
      split
      · next h3 => rw [if_pos h3] at hv; exact h.lvb c hc hv
      · next h3 => rw [if_neg h3] at hv; exact h.lvb c hc hv
  · rw [e.tasks] at ht
    exact (h.tst t ht).ext e
  · rw [hcls.2.2] at hj
    rw [hcl] at ha
    exact (h.un j hj ha).ext e
  · rw [hcls.2.2] at hj
    rw [hcl] at ha ⊢
    rw [e.ins j]
    exact h.wm j hj ha
  · rw [hcls.2.2] at hj
    rw [hcl] at ha hx
    have hmm := h.wm j hj ha
    have hxm : x ∈ S.inside j := by rcases hx with rfl | rfl; exact hmm.1; exact hmm.2.1
    have hxc := h.wf.inside_mem hxm
    have hv0 := hold x (by omega) hxc.2 hv ht
    exact (h.ok j hj ha x hx hE hv0 ((e.told x).1 ht)).ext e hv0
  · rw [hwt] at he
    have := h.ent x hE en he
    unfold Ent at this ⊢
    rw [hcl, hcls.2.2, e.ins]
    exact this
  · rw [hwt]; exact h.nd x hE
  · rw [hcls.2.2] at hj
    rw [hcl] at ha hx
    rw [hwt]
    exact h.lst j hj ha x hx hE
end Go.Pr
