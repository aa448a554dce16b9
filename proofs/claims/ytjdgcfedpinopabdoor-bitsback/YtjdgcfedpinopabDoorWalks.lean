import Derived.Test.YtjdgcfedpinopabDoorRows
import Derived.WalkKit
import Derived.ProofKit
import Derived.OpenShut
import Derived.WalkSpells
import Derived.Test.YtjdgcfedpinopabDoorMath
namespace Go.Proofs.YtjdgcfedpinopabDoor
open Go.ChangeShapes Go.WideShapes Go.ChangeAt Go.RowKit Go.Bw

theorem right_yes (a : Int) (w : World) (h1 : 1 ≤ a) (h2 : a ≤ 64) :
    Calls Tryd.prog 10 #[.int .i64 a] w fun e w' => e = .returned (.bool true) ∧ w' = w := by
  go_enter Tryd.func10, Tryd.ntmps10
  go_wp2
  go_ret
  exact ⟨rfl, rfl⟩
theorem right_no (a : Int) (w : World) (h : a < 1 ∨ 64 < a) :
    Calls Tryd.prog 10 #[.int .i64 a] w fun e w' => e = .returned (.bool false) ∧ w' = w := by
  rcases h with h | h
  · go_enter Tryd.func10, Tryd.ntmps10
    go_wp2
    go_ret
    exact ⟨rfl, rfl⟩
  · have h' : 1 ≤ a := by omega
    have hd : decide (a ≤ 64) = false := by simp; omega
    go_enter Tryd.func10, Tryd.ntmps10
    go_wp2
    go_ret
    exact ⟨rfl, rfl⟩
theorem ret_int {k : IntKind} {a b : Int} (h : a = b) : Ending.returned (.int k a) = .returned (.int k b) := by rw [h]

theorem trim_any (a x : Int) (w : World) (hx : U x) :
    Calls Tryd.prog 18 #[.int .i64 a, .int .u64 x] w fun e w' => e = .returned (.int .u64 (trimI a x)) ∧ w' = w := by
  by_cases h1 : a < 1
  · have e : trimI a x = 0 := trim_none a x h1
    rw [e]
    go_enter Tryd.func18, Tryd.ntmps18
    go_wp2
    go_ret
    exact ⟨rfl, rfl⟩
  · by_cases h2 : 64 ≤ a
    · have e : trimI a x = x := trim_all a x h2
      rw [e]
      clear e
      go_enter Tryd.func18, Tryd.ntmps18
      go_wp2
      go_ret
      exact ⟨rfl, rfl⟩
    · have hw := wrap_pow a.toNat (by omega)
      have hm : Hid (bits .and .u64 x (IntKind.u64.wrap (2 ^ a.toNat - 1)) = trimI a x) := trim_mask a x (by omega) (by omega) hx
      go_enter Tryd.func18, Tryd.ntmps18
      go_wp2
      go_ret
      exact ⟨ret_int hm.out, rfl⟩

theorem signed_any (a x : Int) (w : World) (h1 : 1 ≤ a) (h2 : a ≤ 64) (hx : U x) :
    Calls Tryd.prog 25 #[.int .i64 a, .int .u64 x] w fun e w' => e = .returned (.int .i64 (sgnI a x)) ∧ w' = w := by
  have hm : Hid (wrap64 (IntKind.u64.wrap (x * 2 ^ (64 - a).toNat)) / 2 ^ (64 - a).toNat = sgnI a x) := signed_shift a x h1 h2 hx.1 hx.2
  go_enter Tryd.func25, Tryd.ntmps25
  go_wp2
  go_ret
  exact ⟨ret_int hm.out, rfl⟩
theorem signed_no (a x : Int) (w : World) (h : a < 1 ∨ 64 < a) :
    Calls Tryd.prog 25 #[.int .i64 a, .int .u64 x] w fun e w' => e = .returned (.int .i64 0) ∧ w' = w := by
  go_enter Tryd.func25, Tryd.ntmps25
  go_wp2_with (go_at_call 10; refine (right_no _ _ h).mono ?_; rintro e w' ⟨rfl, rfl⟩)
  go_ret
  exact ⟨rfl, rfl⟩
end Go.Proofs.YtjdgcfedpinopabDoor
