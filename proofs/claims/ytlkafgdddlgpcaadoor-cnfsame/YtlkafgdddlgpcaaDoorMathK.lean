import Derived.Test.YtlkafgdddlgpcaaDoorMathJ
namespace Go.Cn
theorem setL_idem (xs : List Int) : setL (setL xs) = setL xs := setL_self (setC_setL xs)
/-- what a tidy list is like -/
def Tdy (T : List (List Int)) : Prop := T.Nodup ∧ ∀ S ∈ T, setL S = S ∧ two S = false
theorem tdy_step {o : List (List Int)} (h : Tdy o) (c : List Int) : Tdy (tdS o c) := by
  unfold tdS
  split
  · exact h
  · next hn =>
    have h1 : two (setL c) = false := by
      cases e : two (setL c)
      · rfl
      · exact absurd (Or.inl e) hn
    have h2 : setL c ∉ o := fun hm => hn (Or.inr hm)
    refine ⟨?_, fun S hS => ?_⟩
    · rw [List.nodup_append]
      refine ⟨h.1, by simp, fun a ha b hb => ?_⟩
      simp at hb
      subst hb
      exact fun e => h2 (e ▸ ha)
    · rcases List.mem_append.1 hS with hS | hS
      · exact h.2 S hS
      · simp at hS
        subst hS
        exact ⟨setL_idem c, h1⟩
theorem tdy_go : ∀ (cs : List (List Int)) (o : List (List Int)), Tdy o → Tdy (cs.foldl tdS o)
  | [], _, h => h
  | c :: cs, _, h => tdy_go cs _ (tdy_step h c)
theorem tdy_td (cs : List (List Int)) : Tdy (td cs) := tdy_go cs [] ⟨List.nodup_nil, fun S hS => absurd hS (by simp)⟩
theorem td_id_go : ∀ (T o : List (List Int)), (o ++ T).Nodup → (∀ S ∈ T, setL S = S ∧ two S = false) → T.foldl tdS o = o ++ T
  | [], o, _, _ => by simp
  | S :: T, o, hn, h => by
    have hS := h S List.mem_cons_self
    have hne : S ∉ o := by
      rw [List.nodup_append] at hn
      exact fun hm => hn.2.2 S hm S List.mem_cons_self rfl
    have e : tdS o S = o ++ [S] := by
      unfold tdS
      rw [hS.1, if_neg]
      rintro (h1 | h1)
      · rw [hS.2] at h1; cases h1
      · exact hne h1
    rw [List.foldl_cons, e, td_id_go T (o ++ [S]) (by rw [List.append_assoc]; exact hn) (fun X hX => h X (List.mem_cons_of_mem _ hX)), List.append_assoc]
    rfl
/-- Tidy of a Tidy is it -/
theorem td_td (cs : List (List Int)) : td (td cs) = td cs := by
  have h := tdy_td cs
  have := td_id_go (td cs) [] (by simpa using h.1) h.2
  simpa [td] using this
/-- every clause that is not twofold has its set clause there -/
theorem td_has_go : ∀ (cs : List (List Int)) (o : List (List Int)) (S : List Int), (S ∈ o ∨ ∃ c ∈ cs, S = setL c ∧ two S = false) → S ∈ cs.foldl tdS o
  | [], o, S, h => by
    rcases h with h | ⟨c, hc, _⟩
    · exact h
    · simp at hc
  | c :: cs, o, S, h => by
    refine td_has_go cs (tdS o c) S ?_
    rcases h with h | ⟨d, hd, e, h2⟩
    · left
      unfold tdS
      split
      · exact h
      · exact List.mem_append_left _ h
    · rcases List.mem_cons.1 hd with e2 | e2
      · subst e2
        left
        unfold tdS
        split
        · next h3 =>
          rcases h3 with h3 | h3
          · rw [← e, h2] at h3; cases h3
          · rw [e]; exact h3
        · rw [e]; simp
      · exact Or.inr ⟨d, e2, e, h2⟩
theorem td_has {cs : List (List Int)} {c : List Int} (hc : c ∈ cs) (h : two (setL c) = false) : setL c ∈ td cs := td_has_go cs [] _ (Or.inr ⟨c, hc, rfl, h⟩)
/-- the value of clauses -/
theorem uGo_val (ms : List Int) : ∀ (cs : List (List Int)) (i : Nat) (v : Int) (p : Nat), (uGo ms cs i v p).1 = cs.foldl (fun a c => if val ms c < a then val ms c else a) v
  | [], _, _, _ => rfl
  | c :: cs, i, v, p => by
    unfold uGo
    rw [List.foldl_cons]
    split
    · exact uGo_val ms cs _ _ _
    · exact uGo_val ms cs _ _ _
theorem fold_low (ms : List Int) : ∀ (cs : List (List Int)) (v : Int), (∀ k, k ≤ v → ((cs.foldl (fun a c => if val ms c < a then val ms c else a) v) ≥ k ↔ ∀ c ∈ cs, k ≤ val ms c))
  | [], v, k, hk => by simp; exact hk
  | c :: cs, v, k, hk => by
    rw [List.foldl_cons]
    by_cases h : val ms c < v
    · rw [if_pos h]
      by_cases h2 : k ≤ val ms c
      · rw [fold_low ms cs (val ms c) k h2]
        constructor
        · intro hh d hd
          rcases List.mem_cons.1 hd with e | e
          · subst e; exact h2
          · exact hh d e
        · intro hh d hd; exact hh d (List.mem_cons_of_mem _ hd)
      · constructor
        · intro hh
          exfalso
          have hle : ∀ (l : List (List Int)) (a : Int), l.foldl (fun a c => if val ms c < a then val ms c else a) a ≤ a := by
            intro l
            induction l with
            | nil => intro a; exact Int.le_refl _
            | cons d l ih =>
              intro a
              rw [List.foldl_cons]
              have := ih (if val ms d < a then val ms d else a)
              split at this <;> rename_i hh2
              · rw [if_pos hh2]; omega
              · rw [if_neg hh2]; omega
          have := hle cs (val ms c)
          omega
        · intro hh
          exact absurd (hh c List.mem_cons_self) h2
    · rw [if_neg h, fold_low ms cs v k hk]
      constructor
      · intro hh d hd
        rcases List.mem_cons.1 hd with e | e
        · subst e; omega
        · exact hh d e
      · intro hh d hd; exact hh d (List.mem_cons_of_mem _ hd)
end Go.Cn
