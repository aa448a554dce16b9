import Derived.Test.YtbfaoepglifmfaaGreatDoorMathB
namespace Go.Cn
/-- l with x put in at k -/
def put (l : List Int) (x : Int) (k : Nat) : List Int := l.take k ++ x :: l.drop k
theorem put_len (l : List Int) (x : Int) (k : Nat) (hk : k ≤ l.length) : (put l x k).length = l.length + 1 := by
  unfold put; simp; omega
theorem put_at (l : List Int) (x : Int) (k : Nat) (hk : k ≤ l.length) : (put l x k).getD k 0 = x := by
  unfold put
  rw [List.getD_eq_getElem?_getD, List.getElem?_append_right (by simp; omega)]
  simp [Nat.min_eq_left hk]
theorem put_low (l : List Int) (x : Int) (k j : Nat) (hk : k ≤ l.length) (hj : j < k) : (put l x k).getD j 0 = l.getD j 0 := by
  unfold put
  rw [List.getD_eq_getElem?_getD, List.getElem?_append_left (by simp; omega), List.getD_eq_getElem?_getD, List.getElem?_take]
  simp [hj]
theorem put_end (l : List Int) (x : Int) : put l x l.length = l ++ [x] := by unfold put; simp
/-- one step down -/
theorem put_step (l : List Int) (x : Int) (k : Nat) (hk : k < l.length) : ((put l x (k + 1)).set (k + 1) (l.getD k 0)).set k x = put l x k := by
  apply List.ext_getElem?
  intro j
  unfold put
  have e : l.getD k 0 = l[k] := by simp [List.getD_eq_getElem?_getD, hk]
  rw [e]
  rw [List.getElem?_set, List.getElem?_set]
  have hl : (l.take (k + 1) ++ x :: l.drop (k + 1)).length = l.length + 1 := by simp; omega
  by_cases h1 : k = j
  · subst h1
    simp only [List.length_set, hl, if_true]
    rw [if_pos (by omega), List.getElem?_append_right (by simp; omega)]
    simp [Nat.min_eq_left (Nat.le_of_lt hk)]
  · rw [if_neg h1]
    by_cases h2 : k + 1 = j
    · subst h2
      rw [if_pos rfl, if_pos (by omega), List.getElem?_append_right (by simp; omega)]
      have : k + 1 - (l.take k).length = 1 := by simp [Nat.min_eq_left (Nat.le_of_lt hk)]
      rw [this]
      simp [hk]
    · rw [if_neg h2]
      by_cases h3 : j < k
      · rw [List.getElem?_append_left (by simp; omega), List.getElem?_append_left (by simp; omega), List.getElem?_take, List.getElem?_take, if_pos (by omega), if_pos h3]
      · rw [List.getElem?_append_right (by simp; omega), List.getElem?_append_right (by simp; omega)]
        have a1 : j - (l.take (k + 1)).length = (j - k - 2) + 1 := by simp; omega
        have a2 : j - (l.take k).length = (j - k - 1) + 1 := by simp; omega
        rw [a1, a2, List.getElem?_cons_succ, List.getElem?_cons_succ, List.getElem?_drop, List.getElem?_drop]
        congr 1
        omega
theorem mem_put (l : List Int) (x : Int) (k : Nat) (y : Int) : y ∈ put l x k ↔ y = x ∨ y ∈ l := by
  unfold put
  rw [List.mem_append, List.mem_cons]
  have : y ∈ l ↔ y ∈ l.take k ∨ y ∈ l.drop k := by
    rw [← List.mem_append, List.take_append_drop]
  rw [this]
  constructor
  · rintro (h | h | h)
    · exact Or.inr (Or.inl h)
    · exact Or.inl h
    · exact Or.inr (Or.inr h)
  · rintro (h | h | h)
    · exact Or.inr (Or.inl h)
    · exact Or.inl h
    · exact Or.inr (Or.inr h)
theorem setC_put {l : List Int} (h : SetC l) {x : Int} {k : Nat} (hk : k ≤ l.length) (h1 : ∀ j, j < k → rk (l.getD j 0) < rk x) (h2 : ∀ j, k ≤ j → j < l.length → rk x < rk (l.getD j 0)) : SetC (put l x k) := by
  have hh := h
  unfold SetC at h ⊢
  unfold put
  rw [List.pairwise_append, List.pairwise_cons]
  refine ⟨h.sublist (List.take_sublist _ _), ⟨?_, h.sublist (List.drop_sublist _ _)⟩, ?_⟩
  · intro b hb
    obtain ⟨i, hi, rfl⟩ := List.getElem_of_mem hb
    have hi' : k + i < l.length := by simp at hi; omega
    have := h2 (k + i) (by omega) hi'
    rw [List.getElem_drop]
    simpa [List.getD_eq_getElem?_getD, hi'] using this
  · intro a ha b hb
    obtain ⟨i, hi, rfl⟩ := List.getElem_of_mem ha
    have hi' : i < k := by simp at hi; omega
    have hi2 : i < l.length := by omega
    have ea : (l.take k)[i] = l.getD i 0 := by simp [List.getD_eq_getElem?_getD, hi2]
    rw [ea]
    rcases List.mem_cons.1 hb with e | e
    · subst e; exact h1 i hi'
    · obtain ⟨j, hj, rfl⟩ := List.getElem_of_mem e
      have hj' : k + j < l.length := by simp at hj; omega
      have eb : (l.drop k)[j] = l.getD (k + j) 0 := by rw [List.getElem_drop]; simp [List.getD_eq_getElem?_getD, hj']
      rw [eb]
      exact setC_get hh (by omega) hj'
/-- the set clause as it comes from the left: one literal more -/
theorem setL_snoc_mem {l : List Int} {x : Int} (h : x ∈ l) : setL (l ++ [x]) = setL l :=
  (setL_eq (setC_setL l) (fun y => by rw [mem_setL, List.mem_append, List.mem_singleton]; constructor; exact Or.inl; rintro (h1 | h1); exact h1; subst h1; exact h)).symm
theorem setL_snoc_put {l : List Int} {x : Int} {k : Nat} (h : SetC (put (setL l) x k)) : setL (l ++ [x]) = put (setL l) x k :=
  (setL_eq h (fun y => by rw [mem_put, mem_setL, List.mem_append, List.mem_singleton]; exact or_comm)).symm
theorem take_succ_getD (l : List Int) (k : Nat) (h : k < l.length) : l.take (k + 1) = l.take k ++ [l.getD k 0] := by
  rw [List.take_add_one, List.getElem?_eq_getElem h]; simp [List.getD_eq_getElem?_getD, h]
end Go.Cn
