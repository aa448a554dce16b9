import Derived.Test.YtknocbedebolpaaTmE1
import Derived.Deep.RegionWith
namespace Go.Proofs.Ytknocbedebolpaa
open Go.ChangeShapes Go.WideShapes Go.ChangeAt Go.RowKit Go.Lib Go.Tm Go.Bw Go.Bn Go.WideMaps Go.Maps Go.ChangeMaps

set_option maxHeartbeats 4000000 in
theorem hasp_any (ty : TypeId) (B0 B : Nat) (lim : Int) (L : List Nd) (v : Value) (M1 M2 : Option Nat) (n : Nd) (w : World) (h : SM ty w B0 B lim L v M1 M2) :
    Calls Try.prog 54 #[.pointer (some ⟨B, 0, none⟩), nodeV n] w fun e w' => e = .returned (.bool (hp L n)) ∧ Below w.heap.size w w' := by
  have HP : Hid (∀ W, Calls Try.prog 40 #[.int .i64 n.op] W fun e w' => e = .returned (.int .i64 (pt n.op)) ∧ w' = W) := fun W => parts_any n.op W
  have HH : Hid (∀ W t, Below w.heap.size w W → Calls Try.prog 15 #[.pointer (some ⟨B, 0, none⟩), .int .i64 t] W fun e w' => e = .returned (.bool (isT L t)) ∧ w' = W) := fun W t hb => has_any ty B0 B lim L v M1 M2 t W (h.below hb)
  obtain ⟨op, u, a, b, c, num, nm⟩ := n
  clear h
  have HW : Hid (∀ o, Below w.heap.size w (w.alloc o)) := fun o => bel1 w o
  have HA : Hid (∀ o t, Calls Try.prog 15 #[.pointer (some ⟨B, 0, none⟩), .int .i64 t] (w.alloc o) fun e w' => e = .returned (.bool (isT L t)) ∧ w' = w.alloc o) := fun o t => HH.out _ t (HW.out o)
  have HR : Hid (hp L ⟨op, u, a, b, c, num, nm⟩ = ((decide (pt op < 1) || isT L a) && ((decide (pt op < 2) || isT L b) && (decide (pt op < 3) || isT L c)))) := rfl
  dsimp only at HP
  obtain ⟨p, hpp⟩ : ∃ p, pt op = p := ⟨_, rfl⟩
  have hp3 := pt_lo op
  rw [hpp] at HP HR hp3
  generalize hp L ⟨op, u, a, b, c, num, nm⟩ = R at *
  clear HH HW hpp
  go_enter Try.func54, Try.ntmps54
  go_wp2_with (first | (go_at_call 40; refine (HP.out _).mono ?_; rintro e w' ⟨rfl, rfl⟩) | (go_at_call 15; refine (HA.out _ _).mono ?_; rintro e w' ⟨rfl, rfl⟩))
  all_goals go_ret
  all_goals refine ⟨ret_bool ?_, bel1 _ _⟩
  all_goals rw [HR.out]
  all_goals (try simp [*])
  all_goals (try omega)
  all_goals (try rw [Bool.and_assoc])
end Go.Proofs.Ytknocbedebolpaa
