import Derived.Test.YtjdgcfedpinopabTwo
import Derived.Test.YtjdgcfedpinopabMath8
namespace Go.Proofs.Ytjdgcfedpinopab
open Go.ChangeShapes Go.WideShapes Go.ChangeAt Go.RowKit Go.Bw
abbrev Cm (op a x y : Int) (r : Bool) : Prop := ∀ w, Calls Try.prog 20 #[.int .i64 op, .int .i64 a, .int .u64 x, .int .u64 y] w fun e w' => e = .returned (.tuple #[.bool r, .int .i64 0]) ∧ w' = w
theorem cm_of {op a x y : Int} {r r' : Bool} (hr : r = r') (h : Cm op a x y r) : Cm op a x y r' := hr ▸ h
/-- below, above or like -/
def Tri (E A B C : Bool) : Prop := (E = false ∧ A = true ∧ B = false ∧ C = true) ∨ (E = false ∧ A = false ∧ B = true ∧ C = false) ∨ (E = true ∧ A = false ∧ B = false ∧ C = true)
theorem three (s t : Int) (h : ¬ s = t) : Tri false (decide (s < t)) (decide (t < s)) (decide (s ≤ t)) := by
  unfold Tri
  by_cases hl : s < t
  · left; simp; omega
  · right; left; simp; omega
set_option maxHeartbeats 1000000 in
set_option maxRecDepth 10000 in
theorem order_walk (E A B C A' B' C' : Bool) (a0 a1 a2 : Int) (S : Bool) (w : World) (h1 : 1 ≤ a0) (h2 : a0 ≤ 64) (p : Int) (hw : IntKind.u64.wrap (2 ^ (a0.toNat - 1)) = p)
    (e9 : Hid (Cm 9 a0 a1 a2 E)) (r10a : Hid (Cm 10 a0 a1 a2 A)) (r10b : Hid (Cm 10 a0 a2 a1 B)) (r11 : Hid (Cm 11 a0 a1 a2 C)) (r12a : Hid (Cm 12 a0 a1 a2 A')) (r12b : Hid (Cm 12 a0 a2 a1 B')) (r13 : Hid (Cm 13 a0 a1 a2 C'))
    (k1 : Hid (Cm 12 a0 a1 a2 S)) (k2 : Hid (Cm 10 a0 (bits .xor .u64 a1 p) (bits .xor .u64 a2 p) S)) (t1 : Tri E A B C) (t2 : Tri E A' B' C') :
    Calls Try.prog 7 #[.int .i64 a0, .int .u64 a1, .int .u64 a2] w fun e w' => e = .returned (.bool true) ∧ Grown w w' := by
  have T1 : Hid (Tri E A B C) := t1
  have T2 : Hid (Tri E A' B' C') := t2
  clear t1 t2
  go_enter Try.func7, Try.ntmps7
  go_wp2_with fail
  refine (alive_any _).mono ?_
  rintro e w' ⟨rfl, rfl⟩
  go_wp2_with fail
  refine (right_yes _ _ h1 h2).mono ?_
  rintro e w' ⟨rfl, rfl⟩
  go_wp2_with fail
  refine (e9.out _).mono ?_
  rintro e w' ⟨rfl, rfl⟩
  go_wp2_with fail
  go_loop [10] (fun o => o = .int .i64 10 ∨ o = .int .i64 12 ∨ o = .int .i64 14) (fun o => (14 - intOf o).toNat)
  case atStart => exact Or.inl rfl
  case round =>
    rcases hrel with rfl | rfl | rfl
    · go_wp2_with fail
      refine (r10a.out _).mono ?_
      rintro e w' ⟨rfl, rfl⟩
      go_wp2_with fail
      refine (r10b.out _).mono ?_
      rintro e w' ⟨rfl, rfl⟩
      go_wp2_with fail
      refine (r11.out _).mono ?_
      rintro e w' ⟨rfl, rfl⟩
      rcases T1.out with ⟨rfl, rfl, rfl, rfl⟩ | ⟨rfl, rfl, rfl, rfl⟩ | ⟨rfl, rfl, rfl, rfl⟩
      all_goals
        go_wp2
        go_round
        case rel => exact Or.inr (Or.inl rfl)
        case measure => simp [intOf]
    · go_wp2_with fail
      refine (r12a.out _).mono ?_
      rintro e w' ⟨rfl, rfl⟩
      go_wp2_with fail
      refine (r12b.out _).mono ?_
      rintro e w' ⟨rfl, rfl⟩
      go_wp2_with fail
      refine (r13.out _).mono ?_
      rintro e w' ⟨rfl, rfl⟩
      rcases T2.out with ⟨rfl, rfl, rfl, rfl⟩ | ⟨rfl, rfl, rfl, rfl⟩ | ⟨rfl, rfl, rfl, rfl⟩
      all_goals
        go_wp2
        go_round
        case rel => exact Or.inr (Or.inr rfl)
        case measure => simp [intOf]
    · go_wp2_with fail
      refine (k1.out _).mono ?_
      rintro e w' ⟨rfl, rfl⟩
      go_wp2_with fail
      refine (k2.out _).mono ?_
      rintro e w' ⟨rfl, rfl⟩
      go_wp2
      go_ret
      exact ⟨rfl, Grown.refl _⟩
end Go.Proofs.Ytjdgcfedpinopab
