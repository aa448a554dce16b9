import Derived.RowKit3
import Derived.Laws.RangeAny
import Derived.Laws.Strings
namespace Go.Bn
open Go.RowKit
def letB (c : Int) : Bool := decide ((97 <= c /\ c <= 122) ∨ (65 <= c /\ c <= 90) ∨ c = 95)
def digB (c : Int) : Bool := decide (48 <= c /\ c <= 57)
def goodAt (s : ByteArray) (i : Nat) : Bool := letB ((s.get! i).toNat : Int) || (decide (0 < i) && digB ((s.get! i).toNat : Int))
def nmB (s : ByteArray) : Bool := decide (1 <= s.size /\ s.size <= 24) && (List.range s.size).all (goodAt s)
theorem nm_size (s : ByteArray) (h : ¬ (1 <= s.size /\ s.size <= 24)) : nmB s = false := by unfold nmB; rw [decide_eq_false h,Bool.false_and]
theorem nm_bad (s : ByteArray) (i : Nat) (hi : i < s.size) (h : goodAt s i = false) : nmB s = false := by
  have : (List.range s.size).all (goodAt s) = false := by
    rw [List.all_eq_false]; exact ⟨i,by simpa using hi,by simp [h]⟩
  unfold nmB; rw [this,Bool.and_false]
theorem nm_good (s : ByteArray) (h : 1 <= s.size /\ s.size <= 24) (hg : ∀ i,i < s.size -> goodAt s i = true) : nmB s = true := by
  have : (List.range s.size).all (goodAt s) = true := by
    rw [List.all_eq_true]; intro i hi; exact hg i (by simpa using hi)
  unfold nmB; rw [this,decide_eq_true h]; rfl
theorem good_at (s : ByteArray) (i : Nat) (h : i < s.size) : goodAt s i = (letB ((s[i]'h).toNat : Int) || (decide (0 < i) && digB ((s[i]'h).toNat : Int))) := by
  have e : s.get! i = s[i]'h := get_at s i h; unfold goodAt; rw [e]
theorem good_high (s : ByteArray) (i : Nat) (h : i < s.size) (hc : ¬ (s[i]'h).toNat < 128) : goodAt s i = false := by
  rw [good_at s i h]; unfold letB digB; simp; omega
theorem good_more (s : ByteArray) (i : Nat) (h : ∀ k,k < i -> goodAt s k = true) (hi : goodAt s i = true) : ∀ k,k < i + 1 -> goodAt s k = true := by
  intro k hk
  rcases Nat.lt_succ_iff_lt_or_eq.mp hk with h' | h'
  · exact h k h'
  rw [h']; exact hi
theorem empty_yes (s : ByteArray) (h : s.size = 0) : s.toList.isEmpty = true := by
  rw [ByteArray.toList_eq,List.isEmpty_iff,<- List.length_eq_zero_iff,Array.length_toList]; exact h
theorem empty_no (s : ByteArray) (h : ¬ s.size = 0) : s.toList.isEmpty = false := by
  rw [ByteArray.toList_eq,Bool.eq_false_iff,Ne,List.isEmpty_iff,<- List.length_eq_zero_iff,Array.length_toList]; exact h
end Go.Bn
