import Derived.Below
namespace Go.Pr
/-- what is true: a list of literals. A clause is false; a unit for a literal -/
def Fls (T : List Int) (c : List Int) : Prop := ∀ m ∈ c, -m ∈ T
def Unt (T : List Int) (c : List Int) (l : Int) : Prop := l ∉ T ∧ -l ∉ T ∧ l ∈ c ∧ ∀ m ∈ c, m = l ∨ -m ∈ T
structure Closed (all : List (List Int)) (T : List Int) : Prop where
  nofls : ∀ c ∈ all, ¬ Fls T c
  nounit : ∀ c ∈ all, ∀ l, ¬ Unt T c l
/-- what follows, one behind the other: the newest first -/
def Der (all : List (List Int)) (D : List Int) (T : List Int) : Prop :=
  ∀ P : List Int → Prop, P D → (∀ (U c : List Int) (l : Int), P U → c ∈ all → Unt U c l → P (l :: U)) → P T
theorem Der.base {all : List (List Int)} {D : List Int} : Der all D D := fun _ h _ => h
theorem Der.step {all : List (List Int)} {D T c : List Int} {l : Int} (h : Der all D T) (hc : c ∈ all) (hu : Unt T c l) : Der all D (l :: T) := fun P h0 h1 => h1 T c l (h P h0 h1) hc hu
theorem Der.ind {all : List (List Int)} {D : List Int} {motive : (T : List Int) → Der all D T → Prop} (base : motive D Der.base) (step : ∀ {T c : List Int} {l : Int} (h : Der all D T) (hc : c ∈ all) (hu : Unt T c l), motive T h → motive (l :: T) (Der.step h hc hu)) {T : List Int} (h : Der all D T) : motive T h := by
  obtain ⟨_, h2⟩ := h (fun U => ∃ k : Der all D U, motive U k) ⟨Der.base, base⟩ (fun U c l hU hc hu => by
    obtain ⟨k, m⟩ := hU
    exact ⟨Der.step k hc hu, step k hc hu m⟩)
  exact h2
theorem Fls.mono {T U c : List Int} (h : Fls T c) (hs : ∀ x ∈ T, x ∈ U) : Fls U c := fun m hm => hs _ (h m hm)
/-- what follows lies in everything that is closed -/
theorem Der.sub {all : List (List Int)} {D T U : List Int} (h : Der all D T) (hU : Closed all U) (hD : ∀ x ∈ D, x ∈ U) : ∀ x ∈ T, x ∈ U := by
  induction h using Der.ind with
  | base => exact hD
  | @step T c l h hc hu ih =>
    intro x hx
    rcases List.mem_cons.1 hx with e | e
    · subst e
      by_cases h1 : x ∈ U
      · exact h1
      · exfalso
        by_cases h2 : -x ∈ U
        · refine hU.nofls c hc fun m hm => ?_
          rcases hu.2.2.2 m hm with e | e
          · rw [e]; exact h2
          · exact ih _ e
        · refine hU.nounit c hc x ⟨h1, h2, hu.2.2.1, fun m hm => ?_⟩
          rcases hu.2.2.2 m hm with e | e
          · exact Or.inl e
          · exact Or.inr (ih _ e)
    · exact ih x e
theorem Der.base_sub {all : List (List Int)} {D T : List Int} (h : Der all D T) : ∀ x ∈ D, x ∈ T := by
  induction h using Der.ind with
  | base => exact fun x hx => hx
  | step _ _ _ ih => exact fun x hx => List.mem_cons_of_mem _ (ih x hx)
/-- two ways to the end come to the same -/
theorem Der.same {all : List (List Int)} {D D' T U : List Int} (hT : Der all D T) (hU : Der all D' U) (hD : ∀ x, x ∈ D ↔ x ∈ D') (cT : Closed all T) (cU : Closed all U) : ∀ x, x ∈ T ↔ x ∈ U := fun x =>
  ⟨hT.sub cU (fun y hy => hU.base_sub y ((hD y).1 hy)) x, hU.sub cT (fun y hy => hT.base_sub y ((hD y).2 hy)) x⟩
/-- no way from there meets a clause that is false, where one way ends closed -/
theorem Der.nofls {all : List (List Int)} {D T U : List Int} (hT : Der all D T) (cU : Closed all U) (hD : ∀ x ∈ D, x ∈ U) : ∀ c ∈ all, ¬ Fls T c :=
  fun c hc hf => cU.nofls c hc (hf.mono (hT.sub cU hD))
/-- variables once each -/
def Once (T : List Int) : Prop := T.Pairwise fun a b => a ≠ b ∧ a ≠ -b
theorem Der.once {all : List (List Int)} {D T : List Int} (h : Der all D T) (hD : Once D) : Once T := by
  induction h using Der.ind with
  | base => exact hD
  | step h hc hu ih =>
    refine List.pairwise_cons.2 ⟨fun b hb => ⟨fun e => hu.1 (e ▸ hb), fun e => hu.2.1 ?_⟩, ih⟩
    rw [e, Int.neg_neg]; exact hb
/-- values that make all clauses true keep true what follows -/
theorem Der.holds {all : List (List Int)} {D T : List Int} (h : Der all D T) {V : Int → Prop} (hn : ∀ x, V x → ¬ V (-x)) (hV : ∀ c ∈ all, ∃ m ∈ c, V m) (hD : ∀ x ∈ D, V x) : ∀ x ∈ T, V x := by
  induction h using Der.ind with
  | base => exact hD
  | @step T c l h hc hu ih =>
    intro x hx
    rcases List.mem_cons.1 hx with e | e
    · subst e
      obtain ⟨m, hm, hv⟩ := hV c hc
      rcases hu.2.2.2 m hm with e | e
      · rw [← e]; exact hv
      · exact absurd (ih _ e) (hn m hv)
    · exact ih x e
/-- and no clause is false under them -/
theorem Der.sat {all : List (List Int)} {D T : List Int} (h : Der all D T) {V : Int → Prop} (hn : ∀ x, V x → ¬ V (-x)) (hV : ∀ c ∈ all, ∃ m ∈ c, V m) (hD : ∀ x ∈ D, V x) : ∀ c ∈ all, ¬ Fls T c := fun c hc hf => by
  obtain ⟨m, hm, hv⟩ := hV c hc
  exact hn m hv (h.holds hn hV hD _ (hf m hm))
end Go.Pr
