import Derived.Test.YtfpmacnbfbcjgaaOA
namespace Go.Pr
/-- the opposites of a clause's literals as clauses of their own -/
def unitsOf (c : List Int) : List (List Int) := c.map fun l => [-l]
/-- what is closed under them holds them -/
theorem Closed.units {all : List (List Int)} {c U : List Int} (h : Closed (all ++ unitsOf c) U) : ∀ l ∈ c, -l ∈ U := fun l hl => by
  have hm : [-l] ∈ all ++ unitsOf c := List.mem_append.2 (Or.inr (List.mem_map.2 ⟨l, hl, rfl⟩))
  by_cases h1 : -l ∈ U
  · exact h1
  · exfalso
    by_cases h2 : l ∈ U
    · exact h.nofls _ hm (fun m hm2 => by
        rw [List.mem_singleton] at hm2
        rw [hm2, Int.neg_neg]
        exact h2)
    · exact h.nounit _ hm (-l) ⟨h1, by rw [Int.neg_neg]; exact h2, List.mem_singleton.2 rfl, fun m hm2 => Or.inl (List.mem_singleton.1 hm2)⟩
theorem Closed.left {all B : List (List Int)} {U : List Int} (h : Closed (all ++ B) U) : Closed all U := ⟨fun c hc => h.nofls c (List.mem_append.2 (Or.inl hc)), fun c hc => h.nounit c (List.mem_append.2 (Or.inl hc))⟩
/-- what holds the opposites, and no literal both ways, is closed under them -/
theorem Closed.right {all : List (List Int)} {c U : List Int} (h : Closed all U) (hc : ∀ l ∈ c, -l ∈ U) (ho : ∀ l ∈ c, l ∉ U) : Closed (all ++ unitsOf c) U := by
  refine ⟨fun d hd hf => ?_, fun d hd l hu => ?_⟩
  · rcases List.mem_append.1 hd with e | e
    · exact h.nofls d e hf
    · obtain ⟨l, hl, rfl⟩ := List.mem_map.1 e
      have := hf (-l) (List.mem_singleton.2 rfl)
      rw [Int.neg_neg] at this
      exact ho l hl this
  · rcases List.mem_append.1 hd with e | e
    · exact h.nounit d e l hu
    · obtain ⟨l', hl, rfl⟩ := List.mem_map.1 e
      have e2 := List.mem_singleton.1 hu.2.2.1
      exact hu.1 (by rw [e2]; exact hc l' hl)
/-- P501: deciding the opposites comes to a conflict just if taking them as clauses does -/
theorem follows_same {all : List (List Int)} {c D T U : List Int} (hD : ∀ l ∈ c, -l ∈ D) (hD2 : ∀ x ∈ D, ∃ l ∈ c, x = -l) (hT : Der all D T) (hOT : Once T) (h0 : ∀ x ∈ T, x ≠ 0) (hU : Der (all ++ unitsOf c) [] U) {bT bU : Bool} (t1 : bT = true → Closed all T) (t2 : bT = false → ∃ d ∈ all, Fls T d) (u1 : bU = true → Closed (all ++ unitsOf c) U) (u2 : bU = false → ∃ d ∈ all ++ unitsOf c, Fls U d) : bU = bT := by
  cases bT with
  | true =>
    cases bU with
    | true => rfl
    | false =>
      exfalso
      have hc := t1 rfl
      have hin : ∀ l ∈ c, -l ∈ T := fun l hl => hT.base_sub _ (hD l hl)
      have hno : ∀ l ∈ c, l ∉ T := fun l hl hlT => by
        have h1 := hin l hl
        obtain ⟨i, hi, ei⟩ := List.mem_iff_getElem.1 hlT
        obtain ⟨j, hj, ej⟩ := List.mem_iff_getElem.1 h1
        have hp := List.pairwise_iff_getElem.1 hOT
        rcases Nat.lt_trichotomy i j with h | h | h
        · have := (hp i j hi hj h).2
          rw [ei, ej, Int.neg_neg] at this
          exact this rfl
        · subst h
          have hz := h0 l hlT
          have : l = -l := ei.symm.trans ej
          omega
        · have := (hp j i hj hi h).2
          rw [ei, ej] at this
          exact this rfl
      obtain ⟨d, hd, hf⟩ := u2 rfl
      exact hU.nofls (hc.right hin hno) (fun x hx => absurd hx List.not_mem_nil) d hd hf
  | false =>
    cases bU with
    | false => rfl
    | true =>
      exfalso
      have hc := u1 rfl
      obtain ⟨d, hd, hf⟩ := t2 rfl
      refine hT.nofls hc.left (fun x hx => ?_) d hd hf
      obtain ⟨l, hl, e⟩ := hD2 x hx
      rw [e]
      exact hc.units l hl
/-- a literal both ways: always a conflict -/
theorem follows_both {all : List (List Int)} {c U : List Int} {l : Int} (h1 : l ∈ c) (h2 : -l ∈ c) {bU : Bool} (u1 : bU = true → Closed (all ++ unitsOf c) U) : bU = false := by
  cases bU with
  | false => rfl
  | true =>
    exfalso
    have hc := u1 rfl
    have e1 := hc.units l h1
    have e2 := hc.units (-l) h2
    rw [Int.neg_neg] at e2
    refine hc.nofls [-l] (List.mem_append.2 (Or.inr (List.mem_map.2 ⟨l, h1, rfl⟩))) (fun m hm => ?_)
    rw [List.mem_singleton.1 hm, Int.neg_neg]
    exact e2
end Go.Pr
