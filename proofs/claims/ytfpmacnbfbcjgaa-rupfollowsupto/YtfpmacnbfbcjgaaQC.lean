import Derived.Test.YtfpmacnbfbcjgaaEO
import Derived.Test.YtfpmacnbfbcjgaaQB
namespace Go.Proofs.Ytfpmacnbfbcjgaa
open Go.Pr
theorem val_es0 (n c : Nat) (hc : 1 ≤ c) : (es0 n).val c = 0 := by
  obtain ⟨d, rfl⟩ : ∃ d, c = d + 1 := ⟨c - 1, by omega⟩
  show ((-1) :: List.replicate (2 * n + 1) 0).getD (d + 1) 0 = (0 : Int)
  rw [List.getD_eq_getElem?_getD, List.getElem?_cons_succ, List.getElem?_replicate]
  split <;> rfl
theorem watch_es0 (n c : Nat) : (es0 n).watch c = [] := by
  show (List.replicate (2 * n + 2) ([] : List (Nat × Nat))).getD c [] = []
  rw [List.getD_eq_getElem?_getD, List.getElem?_replicate]
  split <;> rfl
theorem wf0 {n : Nat} (hn : n ≤ 1048576) : WF (es0 n) where
  n := hn
  lits := fun _ h => absurd h List.not_mem_nil
  litl := Nat.zero_le _
  cls := fun _ h => absurd h List.not_mem_nil
  cll := Nat.zero_le _
  met := Nat.le_refl _
  vall := by show ((-1) :: List.replicate (2 * n + 1) (0 : Int)).length = 2 * n + 2; simp
  val3 := fun x hx => by
    have h5 : x ∈ (-1) :: List.replicate (2 * n + 1) (0 : Int) := hx
    rcases List.mem_cons.1 h5 with h | h
    · exact Or.inl h
    · exact Or.inr (Or.inl (List.eq_of_mem_replicate h))
  val0 := rfl
  valx := fun c h1 h2 => by
    have ho := opp_lt h1 h2
    rw [val_es0 n c (by omega), val_es0 n (opp c) (by omega)]
    rfl
  givl := by show (List.replicate (n + 1) ((0 : Nat), some 0)).length = n + 1; simp
  wtl := by show (List.replicate (2 * n + 2) ([] : List (Nat × Nat))).length = 2 * n + 2; simp
  wat := fun ws h e he => by
    have h5 : ws ∈ List.replicate (2 * n + 2) ([] : List (Nat × Nat)) := h
    rw [List.eq_of_mem_replicate h5] at he
    exact absurd he List.not_mem_nil
  tr := fun _ h => absurd h List.not_mem_nil
  trd := List.nodup_nil
  trv := fun c h1 _ h => by
    rw [val_es0 n c (by omega)] at h
    exact absurd h (by decide)
  head := Nat.le_refl _
  mks := fun _ h => absurd h List.not_mem_nil
  mkd := List.Pairwise.nil
  tks := fun _ h => absurd h List.not_mem_nil
  dn := Nat.le_refl _
  clash := fun _ h => absurd h (by show ¬ none = some _; simp)
theorem full0 {n : Nat} (hn : n ≤ 1048576) : FULL (es0 n) where
  inv := {
    wf := wf0 hn
    g0 := by
      show ((List.replicate (n + 1) ((0 : Nat), some 0)).getD 0 (0, none)).1 = 0
      rw [List.getD_eq_getElem?_getD, List.getElem?_replicate]
      split <;> rfl
    lvb := fun c h1 h2 => absurd (val_es0 n c (by omega)) h2
    tst := fun _ h => absurd h List.not_mem_nil
    un := fun k h => absurd h (Nat.not_lt_zero k)
    wm := fun k h => absurd h (Nat.not_lt_zero k)
    ok := fun k h => absurd h (Nat.not_lt_zero k)
    ent := fun x _ e he => by
      rw [watch_es0] at he
      exact absurd he List.not_mem_nil
    nd := fun x _ => by rw [watch_es0]; exact List.nodup_nil
    lst := fun k h => absurd h (Nat.not_lt_zero k) }
  tks := {
    srt := fun _ j _ h => absurd h (Nat.not_lt_zero j)
    lvs := fun j h => absurd h (Nat.not_lt_zero j)
    pnd := fun j h => absurd h (Nat.not_lt_zero j)
    non := fun _ h => absurd h List.not_mem_nil
    som := fun _ h => absurd h List.not_mem_nil
    key := List.nodup_nil }
  snd := {
    lvp := fun i h => absurd h (Nat.not_lt_zero i)
    rsn := fun i h => absurd h (Nat.not_lt_zero i)
    dec := fun i h => absurd h (Nat.not_lt_zero i)
    cla := fun _ h => absurd h (by show ¬ none = some _; simp) }
  new := fun k _ => by
    show (([] : List CL).getD k cl0).a = 0
    rfl
end Go.Proofs.Ytfpmacnbfbcjgaa
