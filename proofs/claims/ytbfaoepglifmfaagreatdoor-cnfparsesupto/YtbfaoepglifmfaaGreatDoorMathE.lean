import Derived.Test.YtbfaoepglifmfaaGreatDoorMathC
namespace Go.Cn
theorem setC_cons {a : Int} {l : List Int} (h : SetC (a :: l)) : SetC l ∧ ∀ x ∈ l, rk a < rk x := by
  unfold SetC at h
  rw [List.pairwise_cons] at h
  exact ⟨h.2, h.1⟩
theorem setC_mk {a : Int} {l : List Int} (h : SetC l) (h2 : ∀ x ∈ l, rk a < rk x) : SetC (a :: l) := by
  unfold SetC
  rw [List.pairwise_cons]
  exact ⟨h2, h⟩
theorem uni_same {a : Int} {l m : List Int} : setL ((a :: l) ++ (a :: m)) = setL (l ++ (a :: m)) := by
  refine (setL_eq (setC_setL _) (fun x => ?_)).symm
  rw [mem_setL]
  simp only [List.mem_append, List.mem_cons]
  constructor
  · rintro (h | h | h)
    · exact Or.inl (Or.inr h)
    · exact Or.inl (Or.inl h)
    · exact Or.inr (Or.inr h)
  · rintro ((h | h) | (h | h))
    · exact Or.inr (Or.inl h)
    · exact Or.inl h
    · exact Or.inr (Or.inl h)
    · exact Or.inr (Or.inr h)
theorem uni_left {a b : Int} {l m : List Int} (hl : SetC (a :: l)) (hm : SetC (b :: m)) (h : rk a < rk b) : setL ((a :: l) ++ (b :: m)) = a :: setL (l ++ (b :: m)) := by
  refine (setL_eq (setC_mk (setC_setL _) ?_) (fun x => ?_)).symm
  · intro x hx
    rw [mem_setL, List.mem_append, List.mem_cons] at hx
    rcases hx with hx | hx | hx
    · exact (setC_cons hl).2 x hx
    · subst hx; exact h
    · have := (setC_cons hm).2 x hx; omega
  · rw [List.mem_cons, mem_setL]
    simp only [List.mem_append, List.mem_cons]
    constructor
    · rintro (h | h | h | h)
      · exact Or.inl (Or.inl h)
      · exact Or.inl (Or.inr h)
      · exact Or.inr (Or.inl h)
      · exact Or.inr (Or.inr h)
    · rintro ((h | h) | (h | h))
      · exact Or.inl h
      · exact Or.inr (Or.inl h)
      · exact Or.inr (Or.inr (Or.inl h))
      · exact Or.inr (Or.inr (Or.inr h))
theorem setL_comm (l m : List Int) : setL (l ++ m) = setL (m ++ l) :=
  setL_eq (setC_setL _) (fun x => by rw [mem_setL, List.mem_append, List.mem_append]; exact or_comm)
theorem uni_right {a b : Int} {l m : List Int} (hl : SetC (a :: l)) (hm : SetC (b :: m)) (h : rk b < rk a) : setL ((a :: l) ++ (b :: m)) = b :: setL ((a :: l) ++ m) := by
  rw [setL_comm, uni_left hm hl h, setL_comm m]
theorem uni_nil_left {m : List Int} (h : SetC m) : setL ([] ++ m) = m := setL_self h
theorem uni_nil_right {m : List Int} (h : SetC m) : setL (m ++ []) = m := by rw [List.append_nil]; exact setL_self h
end Go.Cn
