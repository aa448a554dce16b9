import Derived.Test.YtlkafgdddlgpcaaDoorMathH
import Derived.Test.YtlkafgdddlgpcaaDoorMathE
namespace Go.Cn
/-- set clauses that are not twofold, each once -/
def tdS (out : List (List Int)) (c : List Int) : List (List Int) := if two (setL c) = true ∨ setL c ∈ out then out else out ++ [setL c]
def td (cs : List (List Int)) : List (List Int) := cs.foldl tdS []
theorem td_snoc (cs : List (List Int)) (c : List Int) : td (cs ++ [c]) = tdS (td cs) c := by unfold td; rw [List.foldl_append]; rfl
theorem td_old {cs : List (List Int)} {c : List Int} (h : two (setL c) = true ∨ setL c ∈ td cs) : td (cs ++ [c]) = td cs := by rw [td_snoc]; unfold tdS; rw [if_pos h]
theorem td_new {cs : List (List Int)} {c : List Int} (h : ¬ (two (setL c) = true ∨ setL c ∈ td cs)) : td (cs ++ [c]) = td cs ++ [setL c] := by rw [td_snoc]; unfold tdS; rw [if_neg h]
theorem td_len_go : ∀ (cs : List (List Int)) (o : List (List Int)), (cs.foldl tdS o).length ≤ o.length + cs.length
  | [], o => by simp
  | c :: cs, o => by
    have h := td_len_go cs (tdS o c)
    have h2 : (tdS o c).length ≤ o.length + 1 := by unfold tdS; split <;> simp
    simp only [List.foldl_cons, List.length_cons]
    omega
theorem td_len (cs : List (List Int)) : (td cs).length ≤ cs.length := by have := td_len_go cs []; simpa [td] using this
theorem td_mem_go : ∀ (cs : List (List Int)) (o : List (List Int)) (S : List Int), S ∈ cs.foldl tdS o → S ∈ o ∨ ∃ c ∈ cs, S = setL c
  | [], o, S, h => Or.inl h
  | c :: cs, o, S, h => by
    rcases td_mem_go cs (tdS o c) S h with h1 | ⟨d, hd, e⟩
    · unfold tdS at h1
      split at h1
      · exact Or.inl h1
      · rcases List.mem_append.1 h1 with h2 | h2
        · exact Or.inl h2
        · exact Or.inr ⟨c, List.mem_cons_self, by simpa using h2⟩
    · exact Or.inr ⟨d, List.mem_cons_of_mem _ hd, e⟩
theorem td_mem {cs : List (List Int)} {S : List Int} (h : S ∈ td cs) : ∃ c ∈ cs, S = setL c := by
  rcases td_mem_go cs [] S h with h1 | h1
  · simp at h1
  · exact h1
theorem td_sum_go : ∀ (cs : List (List Int)) (o : List (List Int)), ((cs.foldl tdS o).map List.length).sum ≤ (o.map List.length).sum + (cs.map List.length).sum
  | [], o => by simp
  | c :: cs, o => by
    have h := td_sum_go cs (tdS o c)
    have h2 : ((tdS o c).map List.length).sum ≤ (o.map List.length).sum + c.length := by
      unfold tdS
      split
      · omega
      · have := setL_len c
        simp
        omega
    simp only [List.foldl_cons, List.map_cons, List.sum_cons]
    omega
theorem td_sum (cs : List (List Int)) : ((td cs).map List.length).sum ≤ (cs.map List.length).sum := by have := td_sum_go cs []; simpa [td] using this
theorem sum_take (cs : List (List Int)) (k : Nat) : ((cs.take k).map List.length).sum ≤ (cs.map List.length).sum := by
  have : (cs.map List.length).sum = ((cs.take k).map List.length).sum + ((cs.drop k).map List.length).sum := by
    rw [← List.sum_append, ← List.map_append, List.take_append_drop]
  omega
def tdC (vars : Int) (cs : List (List Int)) : List (List Int) := if (ck vars cs).2 = 0 then td cs else []
def tdV (vars : Int) (cs : List (List Int)) : Int := if (ck vars cs).2 = 0 then vars else 0
end Go.Cn
