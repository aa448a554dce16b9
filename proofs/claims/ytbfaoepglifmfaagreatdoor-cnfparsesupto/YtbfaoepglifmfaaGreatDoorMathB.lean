import Derived.Test.YtbfaoepglifmfaaGreatDoorMathA
namespace Go.Cn
theorem setC_get {l : List Int} (h : SetC l) {i j : Nat} (hij : i < j) (hj : j < l.length) : rk (l.getD i 0) < rk (l.getD j 0) := by
  unfold SetC at h
  rw [List.pairwise_iff_getElem] at h
  have := h i j (by omega) hj hij
  simpa [List.getD_eq_getElem?_getD, List.getElem?_eq_getElem, hj, show i < l.length by omega] using this
theorem getD_mem {l : List Int} {i : Nat} (h : i < l.length) : l.getD i 0 ∈ l := by
  rw [List.getD_eq_getElem?_getD, List.getElem?_eq_getElem h]; simp
theorem mem_getD {l : List Int} {x : Int} (h : x ∈ l) : ∃ i, i < l.length ∧ l.getD i 0 = x := by
  obtain ⟨i, hi, rfl⟩ := List.getElem_of_mem h
  exact ⟨i, hi, by simp [List.getD_eq_getElem?_getD, hi]⟩
/-- in a set clause the two literals of a variable stand side by side -/
theorem two_iff {l : List Int} (h : SetC l) (h0 : ∀ x ∈ l, x ≠ 0) : two l = true ↔ ∃ k, 1 ≤ k ∧ k < l.length ∧ l.getD k 0 = -l.getD (k - 1) 0 := by
  have key : ∀ x, 0 < x → x ∈ l → -x ∈ l → ∃ k, 1 ≤ k ∧ k < l.length ∧ l.getD k 0 = -l.getD (k - 1) 0 := by
    intro x hx hm hn
    obtain ⟨i, hi, ei⟩ := mem_getD hm
    obtain ⟨j, hj, ej⟩ := mem_getD hn
    have r1 : rk x = 2 * x := by unfold rk; rw [if_neg (by omega)]
    have r2 : rk (-x) = 2 * x + 1 := by unfold rk; rw [if_pos (by omega)]; omega
    have hij : i < j := by
      rcases Nat.lt_trichotomy i j with h1 | h1 | h1
      · exact h1
      · subst h1; rw [ei] at ej; omega
      · have := setC_get h h1 hi; rw [ei, ej] at this; omega
    have hj1 : j = i + 1 := by
      by_cases hc : j = i + 1
      · exact hc
      · have h1 := setC_get h (show i < i + 1 by omega) (show i + 1 < l.length by omega)
        have h2 := setC_get h (show i + 1 < j by omega) hj
        rw [ei] at h1; rw [ej] at h2
        omega
    subst hj1
    exact ⟨i + 1, by omega, hj, by rw [ej]; simp only [Nat.add_sub_cancel]; rw [ei]⟩
  unfold two
  rw [List.any_eq_true]
  constructor
  · rintro ⟨x, hm, hn⟩
    have hn := of_decide_eq_true hn
    rcases Int.lt_or_gt_of_ne (h0 x hm) with hx | hx
    · exact key (-x) (by omega) hn (by rw [Int.neg_neg]; exact hm)
    · exact key x hx hm hn
  · rintro ⟨k, h1, h2, he⟩
    refine ⟨l.getD (k - 1) 0, getD_mem (by omega), ?_⟩
    rw [← he]
    simpa using getD_mem h2
end Go.Cn
