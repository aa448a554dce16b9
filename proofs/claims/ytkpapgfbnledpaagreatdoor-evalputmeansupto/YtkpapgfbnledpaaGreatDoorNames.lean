import Derived.Test.YtkpapgfbnledpaaGreatDoorRows
import Derived.WalkKit
import Derived.ProofKit
import Derived.OpenShut
import Derived.WalkSpells
import Derived.Test.YtkpapgfbnledpaaGreatDoorMath
import Derived.LoopTactic
import Derived.Test.YtkpapgfbnledpaaGreatDoorNameMath
namespace Go.Proofs.YtkpapgfbnledpaaGreatDoor
open Go.ChangeShapes Go.WideShapes Go.ChangeAt Go.RowKit Go.Bw

theorem right_yes (a : Int) (w : World) (h1 : 1 <= a) (h2 : a <= 64) :
    Calls Tryz.prog 99 #[.int .i64 a] w fun e w' => e = .returned (.bool true) /\ w' = w := by
  go_enter Tryz.func99,Tryz.ntmps99
  go_wp2
  go_ret
  exact ⟨rfl,rfl⟩
theorem right_no (a : Int) (w : World) (h : a < 1 ∨ 64 < a) :
    Calls Tryz.prog 99 #[.int .i64 a] w fun e w' => e = .returned (.bool false) /\ w' = w := by
  rcases h with h | h
  · go_enter Tryz.func99,Tryz.ntmps99
    go_wp2
    go_ret
    exact ⟨rfl,rfl⟩
  have h' : 1 <= a := by omega
  have hd : decide (a <= 64) = false := by simp; omega
  go_enter Tryz.func99,Tryz.ntmps99
  go_wp2
  go_ret
  exact ⟨rfl,rfl⟩
theorem ret_int {k : IntKind} {a b : Int} (h : a = b) : Ending.returned (.int k a) = .returned (.int k b) := by rw [h]

theorem trim_any (a x : Int) (w : World) (hx : U x) :
    Calls Tryz.prog 100 #[.int .i64 a,.int .u64 x] w fun e w' => e = .returned (.int .u64 (trimI a x)) /\ w' = w := by
  by_cases h1 : a < 1
  · have e : trimI a x = 0 := trim_none a x h1
    rw [e]
    go_enter Tryz.func100,Tryz.ntmps100
    go_wp2
    go_ret
    exact ⟨rfl,rfl⟩
  by_cases h2 : 64 <= a
  · have e : trimI a x = x := trim_all a x h2
    rw [e]; clear e
    go_enter Tryz.func100,Tryz.ntmps100
    go_wp2
    go_ret
    exact ⟨rfl,rfl⟩
  have hw := wrap_pow a.toNat (by omega); have hm : Hid (bits .and .u64 x (IntKind.u64.wrap (2 ^ a.toNat - 1)) = trimI a x) := trim_mask a x (by omega) (by omega) hx
  go_enter Tryz.func100,Tryz.ntmps100
  go_wp2
  go_ret
  exact ⟨ret_int hm.out,rfl⟩

theorem signed_any (a x : Int) (w : World) (h1 : 1 <= a) (h2 : a <= 64) (hx : U x) :
    Calls Tryz.prog 101 #[.int .i64 a,.int .u64 x] w fun e w' => e = .returned (.int .i64 (sgnI a x)) /\ w' = w := by
  have hm : Hid (wrap64 (IntKind.u64.wrap (x * 2 ^ (64 - a).toNat)) / 2 ^ (64 - a).toNat = sgnI a x) := signed_shift a x h1 h2 hx.1 hx.2
  go_enter Tryz.func101,Tryz.ntmps101
  go_wp2
  go_ret
  exact ⟨ret_int hm.out,rfl⟩
end Go.Proofs.YtkpapgfbnledpaaGreatDoor
namespace Go.Proofs.YtkpapgfbnledpaaGreatDoor
open Go.ChangeShapes Go.WideShapes Go.ChangeAt Go.RowKit Go.Bn

theorem ret_bool {a b : Bool} (h : a = b) : Ending.returned (.bool a) = .returned (.bool b) := by rw [h]

theorem starts_any (c : Int) (w : World) :
    Calls Tryz.prog 80 #[.int .i32 c] w fun e w' => e = .returned (.bool (letB c)) /\ w' = w := by
  go_enter Tryz.func80,Tryz.ntmps80
  go_wp2
  all_goals go_ret
  all_goals exact ⟨ret_bool (by unfold letB; rw [Bool.eq_iff_iff]; simp; try omega),rfl⟩
theorem starts_yes (c : Int) (w : World) (h : letB c = true) :
    Calls Tryz.prog 80 #[.int .i32 c] w fun e w' => e = .returned (.bool true) /\ w' = w := by rw [<- h]; exact starts_any c w
theorem starts_no (c : Int) (w : World) (h : letB c = false) :
    Calls Tryz.prog 80 #[.int .i32 c] w fun e w' => e = .returned (.bool false) /\ w' = w := by rw [<- h]; exact starts_any c w

theorem isdig_any (c : Int) (w : World) :
    Calls Tryz.prog 81 #[.int .i32 c] w fun e w' => e = .returned (.bool (digB c)) /\ w' = w := by
  go_enter Tryz.func81,Tryz.ntmps81
  go_wp2
  all_goals go_ret
  all_goals exact ⟨ret_bool (by unfold digB; rw [Bool.eq_iff_iff]; simp; try omega),rfl⟩
theorem isdig_yes (c : Int) (w : World) (h : digB c = true) :
    Calls Tryz.prog 81 #[.int .i32 c] w fun e w' => e = .returned (.bool true) /\ w' = w := by rw [<- h]; exact isdig_any c w
theorem isdig_no (c : Int) (w : World) (h : digB c = false) :
    Calls Tryz.prog 81 #[.int .i32 c] w fun e w' => e = .returned (.bool false) /\ w' = w := by rw [<- h]; exact isdig_any c w

end Go.Proofs.YtkpapgfbnledpaaGreatDoor
