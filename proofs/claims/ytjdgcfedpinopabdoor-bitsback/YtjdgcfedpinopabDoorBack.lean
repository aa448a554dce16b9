import Derived.Test.YtjdgcfedpinopabDoorNumber
import Derived.Test.YtjdgcfedpinopabDoorRefText
import Derived.Test.YtjdgcfedpinopabDoorNameMath
namespace Go.Bd
theorem dvdg16 : ∀ d : Fin 16, dv 16 (dg d.val) = some d.val := by decide
theorem dvdg10 : ∀ d : Fin 10, dv 10 (dg d.val) = some d.val := by decide
theorem dv_dg (b d : Nat) (hb : b = 10 ∨ b = 16) (h : d < b) : dv b (dg d) = some d := by
  rcases hb with rfl | rfl
  · exact dvdg10 ⟨d, h⟩
  · exact dvdg16 ⟨d, h⟩
theorem back (b : Nat) (hb : b = 10 ∨ b = 16) (n : Nat) : ∀ (x : Nat) (out : List UInt8), x < b ^ n → 1 ≤ n → x < 18446744073709551616 → pU b 0 (digs b n x out) = pU b x out := by
  have hb2 : 2 ≤ b := by omega
  induction n with
  | zero => intro x out _ h; omega
  | succ n ih =>
    intro x out hx _ h64
    by_cases hq : x / b = 0
    · have hlt : x < b := by
        rcases Nat.div_eq_zero_iff.mp hq with h | h
        · omega
        · exact h
      rw [digs_end b n x out hq, Nat.mod_eq_of_lt hlt, pU_more b 0 x (dg x) out (dv_dg b x hb hlt) (by omega), Nat.zero_mul, Nat.zero_add]
    · have hn : 1 ≤ n := by
        rcases Nat.eq_zero_or_pos n with h | h
        · subst h; exact absurd (Nat.div_eq_of_lt (by simpa using hx)) hq
        · exact h
      have hd : x / b < b ^ n := by rw [Nat.div_lt_iff_lt_mul (by omega), ← Nat.pow_succ]; exact hx
      have hm : x % b < b := Nat.mod_lt _ (by omega)
      have e : x / b * b + x % b = x := by rw [Nat.mul_comm]; exact Nat.div_add_mod x b
      rw [digs_more b n x out hq, ih (x / b) _ hd hn (Nat.lt_of_le_of_lt (Nat.div_le_self _ _) h64), pU_more b (x / b) (x % b) (dg (x % b)) out (dv_dg b _ hb hm) (by omega), e]
theorem digs_ne (b n x : Nat) (out : List UInt8) (h : 1 ≤ n) : digs b n x out ≠ [] := by
  induction n generalizing x out with
  | zero => omega
  | succ n ih =>
    unfold digs
    split
    · simp
    · rcases Nat.eq_zero_or_pos n with h0 | h0
      · subst h0; simp [digs]
      · exact ih _ _ h0
/-- decimal digits alone -/
theorem digs_dec (n : Nat) : ∀ (x : Nat) (out : List UInt8), (∀ c ∈ out, c.toNat ≤ 57) → ∀ c ∈ digs 10 n x out, c.toNat ≤ 57 := by
  induction n with
  | zero => intro x out h; simpa [digs] using h
  | succ n ih =>
    intro x out h
    have hd : (dg (x % 10)).toNat ≤ 57 := by
      have h10 : ∀ d : Fin 10, (dg d.val).toNat ≤ 57 := by decide
      exact h10 ⟨x % 10, Nat.mod_lt _ (by omega)⟩
    have h2 : ∀ c ∈ dg (x % 10) :: out, c.toNat ≤ 57 := by
      intro c hc
      rcases List.mem_cons.mp hc with rfl | hc
      · exact hd
      · exact h c hc
    unfold digs
    split
    · exact h2
    · exact ih _ _ h2
end Go.Bd
namespace Go.Proofs.YtjdgcfedpinopabDoor
open Go.Bd
def txt (X : Nat) : List UInt8 := if X < 1000 then digs 10 16 X [] else 48 :: 120 :: digs 16 16 X []
theorem num_txt (X : Nat) (hX : X < 18446744073709551616) : numO (txt X) = some X := by
  unfold txt
  by_cases h : X < 1000
  · rw [if_pos h]
    have hp : Lib.hasPrefix (digs 10 16 X []) [48, 120] = false := by
      rw [Bool.eq_false_iff]; intro hp
      unfold Lib.hasPrefix at hp
      have hm : (120 : UInt8) ∈ digs 10 16 X [] := (List.isPrefixOf_iff_prefix.mp hp).subset (by simp)
      have := digs_dec 16 X [] (by simp) 120 hm
      exact absurd this (by decide)
    unfold numO
    rw [hp]
    show pV 10 (digs 10 16 X []) = some X
    unfold pV
    rw [if_neg (digs_ne 10 16 X [] (by omega)), back 10 (Or.inl rfl) 16 X [] (by omega) (by omega) hX]
    rfl
  · rw [if_neg h]
    unfold numO Lib.trimPrefix Lib.hasPrefix
    show pV 16 (digs 16 16 X []) = some X
    unfold pV
    rw [if_neg (digs_ne 16 16 X [] (by omega)), back 16 (Or.inr rfl) 16 X [] (by omega) (by omega) hX]
    rfl
theorem txt_len (X : Nat) : (txt X).length ≤ 18 := by
  unfold txt
  split
  · have := digs_len 10 16 X []; simp at this; omega
  · have := digs_len 16 16 X []; simp at this; simp; omega
end Go.Proofs.YtjdgcfedpinopabDoor
namespace Go.Bn
/-- names grown by a letter -/
theorem good_app (a b : ByteArray) (i : Nat) (hi : i < a.size) : goodAt (a ++ b) i = goodAt a i := by
  have h1 : i < (a ++ b).size := by rw [ByteArray.size_append]; omega
  rw [good_at (a ++ b) i h1, good_at a i hi, ByteArray.getElem_append_left hi]
theorem nm_same (p s u : ByteArray) (hp : p.size = 1) (hu : u.size = 1) (hs : s.size ≤ 22) (hg : goodAt ((p ++ s) ++ u) (s.size + 1) = true) : nmB (p ++ s) = nmB ((p ++ s) ++ u) := by
  have e1 : (p ++ s).size = s.size + 1 := by rw [ByteArray.size_append]; omega
  have e2 : ((p ++ s) ++ u).size = s.size + 2 := by rw [ByteArray.size_append]; omega
  cases h : nmB (p ++ s) with
  | true =>
    have hall : ∀ i, i < (p ++ s).size → goodAt (p ++ s) i = true := by
      intro i hi
      cases hg2 : goodAt (p ++ s) i with
      | true => rfl
      | false => rw [nm_bad _ i hi hg2] at h; cases h
    refine (nm_good _ (by omega) ?_).symm
    intro i hi
    by_cases h' : i < (p ++ s).size
    · rw [good_app _ _ _ h']; exact hall i h'
    · rw [show i = s.size + 1 by omega]; exact hg
  | false =>
    cases h2 : nmB ((p ++ s) ++ u) with
    | false => rfl
    | true =>
      have : nmB (p ++ s) = true := by
        refine nm_good _ (by omega) ?_
        intro i hi
        cases hg2 : goodAt (p ++ s) i with
        | true => rfl
        | false =>
          have hb : goodAt ((p ++ s) ++ u) i = false := by rw [good_app _ _ _ hi]; exact hg2
          rw [nm_bad _ i (by omega) hb] at h2; cases h2
      rw [this] at h; cases h
theorem good_last (q : ByteArray) : goodAt (q ++ ⟨#[95]⟩) q.size = true := by
  have h1 : q.size < (q ++ (⟨#[95]⟩ : ByteArray)).size := by rw [ByteArray.size_append]; show q.size < q.size + 1; omega
  rw [good_at _ _ h1]
  have e : (q ++ (⟨#[95]⟩ : ByteArray))[q.size]'h1 = 95 := by
    rw [ByteArray.getElem_append_right (Nat.le_refl _)]
    simp
    rfl
  rw [e]
  rfl
end Go.Bn
