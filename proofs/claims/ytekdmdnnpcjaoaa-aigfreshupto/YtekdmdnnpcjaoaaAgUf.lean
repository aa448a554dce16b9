import Derived.Test.YtekdmdnnpcjaoaaAgUg
import Derived.Test.YtekdmdnnpcjaoaaAgQc
namespace Go.Proofs.Ytekdmdnnpcjaoaa
open Go.ChangeShapes Go.WideShapes Go.ChangeAt Go.RowKit Go.Lib Go.Ag Go.WideMaps Go.Maps Go.ChangeMaps Go.Cn

theorem thr_small {f : Nat → Nat} (hf : ∀ i, f i ≤ 1) (l : Nat) : thrN f l ≤ 1 := by
  unfold thrN
  have h := hf (l / 2)
  split
  · have h2 := not_half (f (l / 2))
    omega
  · exact h
theorem and_small (ns : Nds) {a b : Nat} (ha : a ≤ 1) (hb : b ≤ 1) : ∃ l, andN ns a b = some (l, ns) ∧ l ≤ 1 := by
  have key : ∃ l, andS a b = some l ∧ l ≤ 1 := by
    match a, b, ha, hb with
    | 0, 0, _, _ => exact ⟨0, by decide, by decide⟩
    | 0, 1, _, _ => exact ⟨0, by decide, by decide⟩
    | 1, 0, _, _ => exact ⟨0, by decide, by decide⟩
    | 1, 1, _, _ => exact ⟨1, by decide, by decide⟩
  obtain ⟨l, h1, h2⟩ := key
  refine ⟨l, ?_, h2⟩
  unfold andN
  rw [h1]
/-- laid over zeros alone nothing is made -/
theorem lay_zero (hs : Nds) (ins : List Nat) (hz : ∀ i, ins.getD i 0 = 0) (ns : Nds) : ∀ (cn : List Nat) (f : Nat → Nat), (∀ i, f i ≤ 1) → ∃ f', layN hs ins (ns, f) cn = some (ns, f') ∧ ∀ i, f' i ≤ 1
  | [], f, hf => ⟨f, rfl, hf⟩
  | n :: cn, f, hf => by
    have key : ∃ f2, layF hs ins (ns, f) n = some (ns, f2) ∧ ∀ i, f2 i ≤ 1 := by
      unfold layF
      split
      · refine ⟨_, rfl, fun i => ?_⟩
        unfold updF
        split
        · rw [hz]; decide
        · exact hf i
      · obtain ⟨l, h1, h2⟩ := and_small ns (thr_small hf (nodK hs n).2.1) (thr_small hf (nodK hs n).2.2)
        refine ⟨updF f n l, by show (andN ns _ _).map _ = _; rw [h1]; rfl, fun i => ?_⟩
        unfold updF
        split
        · exact h2
        · exact hf i
    obtain ⟨f2, h1, h2⟩ := key
    obtain ⟨f', h3, h4⟩ := lay_zero hs ins hz ns cn f2 h2
    exact ⟨f', by show (layF hs ins (ns, f) n).bind _ = _; rw [h1]; exact h3, h4⟩
theorem nodK_ext {ns t : Nds} {n : Nat} (hn : n ≤ ns.length) : nodK (ns ++ t) n = nodK ns n := by
  unfold nodK
  by_cases e : n = 0
  · rw [if_pos e, if_pos e]
  · rw [if_neg e, if_neg e]
    have hlt : n - 1 < ns.length := by omega
    have h1 : (ns ++ t).getD (n - 1) none = ns.getD (n - 1) none := by rw [List.getD_eq_getElem?_getD, List.getElem?_append_left hlt, List.getD_eq_getElem?_getD]
    have h2 : cntG (ns ++ t) (n - 1) = cntG ns (n - 1) := by unfold cntG; rw [List.take_append_of_le_length (by omega)]
    rw [h1, h2]
end Go.Proofs.Ytekdmdnnpcjaoaa
