import Derived.Lib.ItoaNum
namespace Go.Cn
open Go.Lib
/-- the number of a numeral -/
def dval (l : List UInt8) : Nat := l.foldl (fun a d => a * 10 + (d.toNat - 48)) 0
theorem dig_nat {u : Nat} (h : u < 10) : (UInt8.ofNat (48 + u)).toNat = 48 + u := by
  rw [UInt8.toNat_ofNat']; omega
theorem dval_dec (u : Nat) : dval (decDigits u) = u := by
  induction u using Nat.strongRecOn with
  | ind u ih =>
    rw [decDigits]
    split
    · next h => simp [dval]; omega
    · next h =>
      have h1 := ih (u / 10) (by omega)
      unfold dval at h1 ⊢
      rw [List.foldl_append, h1]
      simp only [List.foldl_cons, List.foldl_nil]
      rw [dig_nat (by omega)]
      omega
theorem dec_mem (u : Nat) : ∀ x ∈ decDigits u, 48 ≤ x.toNat ∧ x.toNat ≤ 57 := by
  induction u using Nat.strongRecOn with
  | ind u ih =>
    rw [decDigits]
    split
    · next h =>
      intro x hx
      have e := List.mem_singleton.1 hx
      subst e
      rw [dig_nat h]; omega
    · next h =>
      intro x hx
      rcases List.mem_append.1 hx with hx | hx
      · exact ih (u / 10) (by omega) x hx
      · have e := List.mem_singleton.1 hx
        subst e
        rw [dig_nat (by omega)]; omega
theorem dec_inj {u v : Nat} (h : decDigits u = decDigits v) : u = v := by
  have := congrArg dval h
  rwa [dval_dec, dval_dec] at this
theorem dec_head (u : Nat) (r : List UInt8) : decDigits u ≠ 45 :: r := by
  intro h
  have := dec_mem u 45 (by rw [h]; exact List.mem_cons_self)
  simp at this
theorem itoa_inj {a b : Int} (h : itoa a = itoa b) : a = b := by
  unfold itoa at h
  split at h
  · split at h
    · have := dec_inj (List.cons.inj h).2; omega
    · exact absurd h.symm (dec_head _ _)
  · split at h
    · exact absurd h (dec_head _ _)
    · have := dec_inj h; omega
theorem itoa_no_blank (a : Int) : ∀ x ∈ itoa a, x ≠ 32 := by
  intro x hx e
  subst e
  unfold itoa at hx
  split at hx
  · rcases List.mem_cons.1 hx with h | h
    · cases h
    · have := dec_mem _ _ h; simp at this
  · have := dec_mem _ _ hx; simp at this
theorem first_blank : ∀ (a b r s : List UInt8), (∀ x ∈ a, x ≠ 32) → (∀ x ∈ b, x ≠ 32) → a ++ 32 :: r = b ++ 32 :: s → a = b ∧ r = s
  | [], [], r, s, _, _, h => ⟨rfl, (List.cons.inj h).2⟩
  | [], y :: b, r, s, _, hb, h => absurd (List.cons.inj h).1.symm (hb y List.mem_cons_self)
  | x :: a, [], r, s, ha, _, h => absurd (List.cons.inj h).1 (ha x List.mem_cons_self)
  | x :: a, y :: b, r, s, ha, hb, h => by
    obtain ⟨e1, e2⟩ := List.cons.inj h
    obtain ⟨e3, e4⟩ := first_blank a b r s (fun z hz => ha z (List.mem_cons_of_mem _ hz)) (fun z hz => hb z (List.mem_cons_of_mem _ hz)) e2
    exact ⟨by rw [e1, e3], e4⟩
/-- the text of a clause tells it -/
theorem text_inj : ∀ (xs ys : List Int), (xs.flatMap fun l => itoa l ++ [32]) = (ys.flatMap fun l => itoa l ++ [32]) → xs = ys
  | [], [], _ => rfl
  | [], y :: ys, h => by
    simp at h
  | x :: xs, [], h => by
    simp at h
  | x :: xs, y :: ys, h => by
    simp only [List.flatMap_cons, List.append_assoc, List.singleton_append] at h
    obtain ⟨e1, e2⟩ := first_blank _ _ _ _ (itoa_no_blank x) (itoa_no_blank y) h
    rw [itoa_inj e1, text_inj xs ys e2]
end Go.Cn
