import Derived.WalkKit
import Derived.ProofKit
import Derived.Below
namespace Go.Ag

/-! ### a graph: of each node behind node 0: none, an input; or the operands of a gate -/
abbrev Nds := List (Option (Nat × Nat))
/-- the gates, in their order -/
def gatesL (ns : Nds) : List (Nat × Nat) := ns.filterMap id
/-- how many gates stand ahead of a place -/
def cntG (ns : Nds) (k : Nat) : Nat := (gatesL (ns.take k)).length
theorem gatesL_in (ns : Nds) : gatesL (ns ++ [none]) = gatesL ns := by simp [gatesL]
theorem gatesL_gate (ns : Nds) (g : Nat × Nat) : gatesL (ns ++ [some g]) = gatesL ns ++ [g] := by simp [gatesL]
theorem gatesL_le (ns : Nds) : (gatesL ns).length ≤ ns.length := List.length_filterMap_le _ _
theorem cntG_all (ns : Nds) : cntG ns ns.length = (gatesL ns).length := by unfold cntG; rw [List.take_length]
theorem cntG_le (ns : Nds) (k : Nat) : cntG ns k ≤ (gatesL ns).length := by
  unfold cntG gatesL
  have h : (ns.take k).filterMap id ++ (ns.drop k).filterMap id = ns.filterMap id := by rw [← List.filterMap_append, List.take_append_drop]
  rw [← h, List.length_append]
  omega
theorem cntG_succ (ns : Nds) (k : Nat) (h : k < ns.length) : cntG ns (k + 1) = cntG ns k + (if (ns[k]).isSome then 1 else 0) := by
  unfold cntG gatesL
  rw [List.take_succ_eq_append_getElem h, List.filterMap_append, List.length_append]
  cases ns[k] <;> simp
/-- a gate is the one whose number is that of the gates ahead of it -/
theorem gate_at (ns : Nds) (k : Nat) (g : Nat × Nat) (h : k < ns.length) (hg : ns[k] = some g) : (gatesL ns)[cntG ns k]? = some g := by
  have h1 : ns = ns.take k ++ some g :: ns.drop (k + 1) := by
    rw [← hg]
    simp
  have h2 : gatesL ns = gatesL (ns.take k) ++ g :: gatesL (ns.drop (k + 1)) := by
    conv => lhs; rw [h1]
    simp [gatesL]
  rw [h2]
  unfold cntG
  rw [List.getElem?_append_right (Nat.le_refl _)]
  simp
/-- the literal of a gate that is there -/
def fnd (ns : Nds) (g : Nat × Nat) : Option Nat := (ns.findIdx? (fun x => decide (x = some g))).map fun i => 2 * (i + 1)
theorem fnd_nil (g : Nat × Nat) : fnd [] g = none := rfl
theorem fnd_in (ns : Nds) (g : Nat × Nat) : fnd (ns ++ [none]) g = fnd ns g := by
  unfold fnd
  rw [List.findIdx?_append]
  cases ns.findIdx? (fun x => decide (x = some g)) with
  | none => simp
  | some i => simp
theorem fnd_gate (ns : Nds) (g x : Nat × Nat) (h : fnd ns g = none) : fnd (ns ++ [some g]) x = if x = g then some (2 * (ns.length + 1)) else fnd ns x := by
  unfold fnd at h ⊢
  rw [List.findIdx?_append]
  by_cases e : x = g
  · subst e
    rw [if_pos rfl]
    cases hf : ns.findIdx? (fun y => decide (y = some x)) with
    | some i => rw [hf] at h; cases h
    | none => simp
  · rw [if_neg e]
    have : ¬ g = x := fun e2 => e e2.symm
    cases ns.findIdx? (fun y => decide (y = some x)) with
    | none => simp [this]
    | some i => simp
theorem fnd_is {ns : Nds} {g : Nat × Nat} {l : Nat} (h : fnd ns g = some l) : ∃ i, i < ns.length ∧ l = 2 * (i + 1) ∧ ns[i]? = some (some g) := by
  unfold fnd at h
  cases hf : ns.findIdx? (fun x => decide (x = some g)) with
  | none => rw [hf] at h; cases h
  | some i =>
    rw [hf] at h
    simp at h
    obtain ⟨h1, h2, _⟩ := List.findIdx?_eq_some_iff_getElem.1 hf
    exact ⟨i, h1, by omega, by rw [List.getElem?_eq_getElem h1]; simpa using h2⟩
/-- a literal's node -/
def nodeN (l : Nat) : Nat := l / 2
def okL (ns : Nds) (l : Nat) : Prop := l / 2 ≤ ns.length
/-- the opposite literal -/
def notN (l : Nat) : Nat := l ^^^ 1
theorem not_not (l : Nat) : notN (notN l) = l := by unfold notN; rw [Nat.xor_assoc, Nat.xor_self, Nat.xor_zero]
theorem not_half (l : Nat) : notN l / 2 = l / 2 := by
  unfold notN
  have h : (l ^^^ 1) >>> 1 = l >>> 1 := by rw [Nat.shiftRight_xor_distrib]; simp
  rw [Nat.shiftRight_eq_div_pow, Nat.shiftRight_eq_div_pow] at h
  simpa using h
/-- what an and comes to: a literal, or none: it wants a gate -/
def andS (a b : Nat) : Option Nat := if a = 0 ∨ b = 0 ∨ a = notN b then some 0 else if a = 1 ∨ a = b then some b else if b = 1 then some a else none
/-- and: the literal and the nodes behind it; none: there is no room -/
def andN (ns : Nds) (a b : Nat) : Option (Nat × Nds) := match andS a b with
  | some l => some (l, ns)
  | none => match fnd ns (a, b) with
    | some l => some (l, ns)
    | none => if 1073741823 ≤ ns.length then none else some (2 * (ns.length + 1), ns ++ [some (a, b)])
/-- the bits of a block of 64 places: a bit each, set of a gate -/
def bitsB (ns : Nds) (j : Nat) : Nat → Nat
  | 0 => 0
  | k + 1 => bitsB ns j k + (if (ns.getD (64 * j + k) none).isSome then 2 ^ k else 0)
theorem bitsB_lt (ns : Nds) (j : Nat) : ∀ k, bitsB ns j k < 2 ^ k
  | 0 => by simp [bitsB]
  | k + 1 => by
    have := bitsB_lt ns j k
    unfold bitsB
    rw [Nat.pow_succ]
    split <;> omega
theorem bitsB_bit (ns : Nds) (j : Nat) : ∀ k i, i < k → (bitsB ns j k).testBit i = (ns.getD (64 * j + i) none).isSome
  | 0, i, h => by omega
  | k + 1, i, h => by
    have hl := bitsB_lt ns j k
    unfold bitsB
    by_cases e : i = k
    · subst e
      split
      · next hs => rw [hs, Nat.add_comm, Nat.testBit_two_pow_add_eq, Nat.testBit_lt_two_pow hl]; rfl
      · next hs => rw [Nat.add_zero, Nat.testBit_lt_two_pow hl]; simpa using hs
    · have hi : i < k := by omega
      split
      · rw [Nat.add_comm, Nat.testBit_two_pow_add_gt hi]; exact bitsB_bit ns j k i hi
      · rw [Nat.add_zero]; exact bitsB_bit ns j k i hi
/-- the same bits in a longer graph, but for one -/
theorem bitsB_app (ns : Nds) (x : Option (Nat × Nat)) (j : Nat) : ∀ k, bitsB (ns ++ [x]) j k = bitsB ns j k + (if 64 * j ≤ ns.length ∧ ns.length < 64 * j + k ∧ x.isSome = true then 2 ^ (ns.length - 64 * j) else 0)
  | 0 => by
    rw [if_neg (by omega)]
    rfl
  | k + 1 => by
    have ih := bitsB_app ns x j k
    unfold bitsB
    rw [ih]
    by_cases e : 64 * j + k = ns.length
    · have h1 : (ns ++ [x]).getD (64 * j + k) none = x := by rw [e, List.getD_eq_getElem?_getD, List.getElem?_append_right (Nat.le_refl _)]; simp
      have h2 : ns.getD (64 * j + k) none = none := by rw [List.getD_eq_getElem?_getD, List.getElem?_eq_none (by omega)]; rfl
      have hA : ¬ (64 * j ≤ ns.length ∧ ns.length < 64 * j + k ∧ x.isSome = true) := fun h => by have := h.2.1; omega
      have e0 : (if (none : Option (Nat × Nat)).isSome = true then 2 ^ k else 0) = 0 := rfl
      rw [h1, h2, if_neg hA, e0]
      by_cases hx : x.isSome = true
      · have e1 : (if x.isSome = true then 2 ^ k else 0) = 2 ^ k := if_pos hx
        have hB : 64 * j ≤ ns.length ∧ ns.length < 64 * j + (k + 1) ∧ x.isSome = true := ⟨by omega, by omega, hx⟩
        rw [e1, if_pos hB, show ns.length - 64 * j = k by omega]
      · have e1 : (if x.isSome = true then 2 ^ k else 0) = 0 := if_neg hx
        have hB : ¬ (64 * j ≤ ns.length ∧ ns.length < 64 * j + (k + 1) ∧ x.isSome = true) := fun h => hx h.2.2
        rw [e1, if_neg hB]
    · have h1 : (ns ++ [x]).getD (64 * j + k) none = ns.getD (64 * j + k) none := by
        rw [List.getD_eq_getElem?_getD, List.getD_eq_getElem?_getD]
        by_cases hl : 64 * j + k < ns.length
        · rw [List.getElem?_append_left hl]
        · rw [List.getElem?_eq_none (l := ns) (by omega), List.getElem?_eq_none (by simp; omega)]
      rw [h1]
      by_cases hq : 64 * j ≤ ns.length ∧ ns.length < 64 * j + k ∧ x.isSome = true
      · have hB : 64 * j ≤ ns.length ∧ ns.length < 64 * j + (k + 1) ∧ x.isSome = true := ⟨hq.1, by have := hq.2.1; omega, hq.2.2⟩
        rw [if_pos hq, if_pos hB]
        omega
      · have hB : ¬ (64 * j ≤ ns.length ∧ ns.length < 64 * j + (k + 1) ∧ x.isSome = true) := fun h => hq ⟨h.1, by have := h.2.1; omega, h.2.2⟩
        rw [if_neg hq, if_neg hB, Nat.add_zero, Nat.add_zero]
end Go.Ag
