import Derived.Lib.SlicesCompact
import Derived.Test.YtbfaoepglifmfaaGreatDoorMathB
namespace Go.Cn
open Go.Lib
section
variable {α : Type} [Inhabited α] [DecidableEq α]
theorem compact_set (f : α → Int) (hf : ∀ x y, f x = f y → x = y) (d : Array α) (hs : ∀ i j, i ≤ j → j < d.size → f d[i]! ≤ f d[j]!) : ∀ m, m ≤ d.size →
    (compactUpTo d m).Pairwise (fun a b => f a < f b) ∧ (∀ x, x ∈ compactUpTo d m ↔ ∃ j, j < m ∧ d[j]! = x)
  | 0, _ => by simp [compactUpTo]
  | m + 1, hm => by
    obtain ⟨hp, hx⟩ := compact_set f hf d hs m (by omega)
    rw [compactUpTo_succ]
    have hmem : ∀ x, x ∈ compactUpTo d m ++ (if keeps d m then [d[m]!] else []) ↔ ∃ j, j < m + 1 ∧ d[j]! = x := by
      intro x
      rw [List.mem_append, hx x]
      constructor
      · rintro (⟨j, h1, h2⟩ | h)
        · exact ⟨j, by omega, h2⟩
        · split at h
          · simp at h; exact ⟨m, by omega, h.symm⟩
          · simp at h
      · rintro ⟨j, h1, h2⟩
        by_cases hj : j < m
        · exact Or.inl ⟨j, hj, h2⟩
        · have : j = m := by omega
          subst this
          by_cases hk : keeps d j = true
          · rw [if_pos hk]; exact Or.inr (by simp [h2])
          · left
            have hk' : ¬ (j = 0 ∨ d[j]! ≠ d[j - 1]!) := by simpa [keeps] using hk
            have e : d[j]! = d[j - 1]! := by
              by_cases e : d[j]! = d[j - 1]!
              · exact e
              · exact absurd (Or.inr e) hk'
            exact ⟨j - 1, by omega, by rw [← e, h2]⟩
    refine ⟨?_, hmem⟩
    by_cases hk : keeps d m = true
    · rw [if_pos hk, List.pairwise_append]
      refine ⟨hp, by simp, ?_⟩
      intro a ha b hb
      simp at hb
      subst hb
      obtain ⟨j, hj, rfl⟩ := (hx a).1 ha
      have h1 := hs j (m - 1) (by omega) (by omega)
      have h2 := hs (m - 1) m (by omega) (by omega)
      have hk' : m = 0 ∨ d[m]! ≠ d[m - 1]! := by simpa [keeps] using hk
      have h3 : f d[m]! ≠ f d[m - 1]! := by
        intro e
        rcases hk' with h | h
        · omega
        · exact h (hf _ _ e)
      omega
    · rw [if_neg hk, List.append_nil]; exact hp
end
end Go.Cn
