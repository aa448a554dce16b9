import Derived.Test.YtbfaoepglifmfaaGreatDoorMathE
namespace Go.Cn
/-- is it a literal over these variables? -/
def amB (vars l : Int) : Bool := litB l && decide (vr l ≤ vars)
/-- the first fault among clauses, from place i on, with so many literals ahead -/
def ckGo (vars : Int) : List (List Int) → Nat → Nat → Int × Int
  | [], _, _ => (0, 0)
  | c :: cs, i, n => if 65536 < c.length then ((i : Int), 22) else if c.all (amB vars) = false then ((i : Int), 20) else if 4194304 < n + c.length then ((i : Int), 23) else ckGo vars cs (i + 1) (n + c.length)
def ck (vars : Int) (cs : List (List Int)) : Int × Int :=
  if vars < 0 ∨ 1048576 < vars then (-1, 21) else if 1048576 < cs.length then (-1, 23) else ckGo vars cs 0 0
theorem drop_cons (cs : List (List Int)) (k : Nat) (h : k < cs.length) : cs.drop k = cs.getD k [] :: cs.drop (k + 1) := by
  rw [List.drop_eq_getElem_cons h]; simp [List.getD_eq_getElem?_getD, h]
theorem ckGo_end (vars : Int) (cs : List (List Int)) (k i n : Nat) (h : cs.length ≤ k) : ckGo vars (cs.drop k) i n = (0, 0) := by
  rw [List.drop_eq_nil_of_le h]; rfl
theorem ckGo_step (vars : Int) (cs : List (List Int)) (k n : Nat) (h : k < cs.length) : ckGo vars (cs.drop k) k n =
    if 65536 < (cs.getD k []).length then ((k : Int), 22) else if (cs.getD k []).all (amB vars) = false then ((k : Int), 20) else if 4194304 < n + (cs.getD k []).length then ((k : Int), 23) else ckGo vars (cs.drop (k + 1)) (k + 1) (n + (cs.getD k []).length) := by
  rw [drop_cons cs k h]; rfl
theorem all_false {p : Int → Bool} {l : List Int} {k : Nat} (h : k < l.length) (hp : p (l.getD k 0) = false) : l.all p = false := by
  rw [Bool.eq_false_iff]
  intro ha
  rw [List.all_eq_true] at ha
  rw [ha _ (getD_mem h)] at hp
  cases hp
theorem all_true {p : Int → Bool} {l : List Int} (h : ∀ k, k < l.length → p (l.getD k 0) = true) : l.all p = true := by
  rw [List.all_eq_true]
  intro x hx
  obtain ⟨i, hi, rfl⟩ := mem_getD hx
  exact h i hi
/-- what a formula that may be has -/
theorem ckGo_zero (vars : Int) : ∀ (cs : List (List Int)) (i n : Nat), (ckGo vars cs i n).2 = 0 → (∀ c ∈ cs, c.length ≤ 65536 ∧ ∀ x ∈ c, amB vars x = true) ∧ n + (cs.map List.length).sum ≤ 4194304 ∨ (cs = [] )
  | [], _, _, _ => Or.inr rfl
  | c :: cs, i, n, h => by
    left
    unfold ckGo at h
    split at h
    · simp at h
    · split at h
      · simp at h
      · split at h
        · simp at h
        · next h1 h2 h3 =>
          have ha : c.all (amB vars) = true := by simpa using h2
          rcases ckGo_zero vars cs (i + 1) (n + c.length) h with ⟨p, q⟩ | e
          · refine ⟨?_, ?_⟩
            · intro d hd
              rcases List.mem_cons.1 hd with e | e
              · subst e; exact ⟨by omega, List.all_eq_true.1 ha⟩
              · exact p d e
            · simp only [List.map_cons, List.sum_cons]; omega
          · subst e
            refine ⟨?_, ?_⟩
            · intro d hd
              simp at hd
              subst hd
              exact ⟨by omega, List.all_eq_true.1 ha⟩
            · simp; omega
theorem ck_zero {vars : Int} {cs : List (List Int)} (h : (ck vars cs).2 = 0) : 0 ≤ vars ∧ vars ≤ 1048576 ∧ cs.length ≤ 1048576 ∧ (∀ c ∈ cs, c.length ≤ 65536 ∧ ∀ x ∈ c, amB vars x = true) ∧ (cs.map List.length).sum ≤ 4194304 := by
  unfold ck at h
  split at h
  · simp at h
  · split at h
    · simp at h
    · next h1 h2 =>
      refine ⟨by omega, by omega, by omega, ?_⟩
      rcases ckGo_zero vars cs 0 0 h with ⟨p, q⟩ | e
      · exact ⟨p, by omega⟩
      · subst e; simp
end Go.Cn
