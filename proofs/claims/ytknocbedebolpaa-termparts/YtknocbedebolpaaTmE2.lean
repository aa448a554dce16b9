import Derived.Test.YtknocbedebolpaaTmD
namespace Go.Proofs.Ytknocbedebolpaa
open Go.ChangeShapes Go.WideShapes Go.ChangeAt Go.RowKit Go.Lib Go.Tm Go.Bw Go.Bn Go.WideMaps Go.Maps Go.ChangeMaps

set_option maxHeartbeats 4000000 in
theorem bare_any (n : Nd) (w : World) :
    Calls Try.prog 55 #[nodeV n] w fun e w' => e = .returned (.bool (br n)) ∧ Below w.heap.size w w' := by
  obtain ⟨op, v, a, b, c, num, nm⟩ := n
  have he : Hid (nm.toList.isEmpty = decide (nm.size = 0)) := by
    show _ = _
    by_cases h0 : nm.size = 0
    · rw [empty_yes nm h0, decide_eq_true h0]
    · rw [empty_no nm h0, decide_eq_false h0]
  have HP : Hid (∀ W, Calls Try.prog 40 #[.int .i64 op] W fun e w' => e = .returned (.int .i64 (pt op)) ∧ w' = W) := fun W => parts_any op W
  have HR : Hid (br ⟨op, v, a, b, c, num, nm⟩ = ((decide (1 ≤ pt op) || decide (a = 0)) && ((decide (2 ≤ pt op) || decide (b = 0)) && ((decide (3 ≤ pt op) || decide (c = 0)) && ((decide (op = 3) || (decide (op = 31) || decide (num = 0))) && (decide (op = 4) || decide (nm.size = 0))))))) := rfl
  obtain ⟨p, hpp⟩ : ∃ p, pt op = p := ⟨_, rfl⟩
  have hp3 := pt_lo op
  rw [hpp] at HP HR hp3
  generalize br ⟨op, v, a, b, c, num, nm⟩ = R at *
  clear hpp
  have hc : p = 0 ∨ p = 1 ∨ p = 2 ∨ p = 3 := by omega
  clear hp3
  have HE : Hid (nm.toList.isEmpty = true → nm.size = 0) := fun h => by
    by_cases h0 : nm.size = 0
    · exact h0
    · rw [empty_no nm h0] at h; cases h
  have HE2 : Hid (nm.toList.isEmpty = false → ¬ nm.size = 0) := fun h h0 => by
    rw [empty_yes nm h0] at h; cases h
  rcases hc with rfl | rfl | rfl | rfl
  all_goals go_enter Try.func55, Try.ntmps55
  all_goals go_wp2_with (go_at_call 40; refine (HP.out _).mono ?_; rintro e w' ⟨rfl, rfl⟩)
  all_goals go_ret
  all_goals refine ⟨ret_bool ?_, bel1 _ _⟩
  all_goals rw [HR.out]
  all_goals (try simp [he.out, *])
end Go.Proofs.Ytknocbedebolpaa
