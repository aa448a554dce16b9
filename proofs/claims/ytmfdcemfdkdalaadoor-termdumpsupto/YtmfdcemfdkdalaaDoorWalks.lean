import Derived.Test.YtmfdcemfdkdalaaDoorRows
import Derived.WalkKit
import Derived.ProofKit
import Derived.OpenShut
import Derived.WalkSpells
import Derived.Test.YtmfdcemfdkdalaaDoorMath
namespace Go.Proofs.YtmfdcemfdkdalaaDoor
open Go.ChangeShapes Go.WideShapes Go.ChangeAt Go.RowKit Go.Bw

theorem ret_int {k : IntKind} {a b : Int} (h : a = b) : Ending.returned (.int k a) = .returned (.int k b) := by rw [h]

theorem trim_any (a x : Int) (w : World) (hx : U x) :
    Calls Tryd.prog 49 #[.int .i64 a, .int .u64 x] w fun e w' => e = .returned (.int .u64 (trimI a x)) ∧ w' = w := by
  by_cases h1 : a < 1
  · have e : trimI a x = 0 := trim_none a x h1
    rw [e]
    go_enter Tryd.func49, Tryd.ntmps49
    go_wp2
    go_ret
    exact ⟨rfl, rfl⟩
  · by_cases h2 : 64 ≤ a
    · have e : trimI a x = x := trim_all a x h2
      rw [e]
      clear e
      go_enter Tryd.func49, Tryd.ntmps49
      go_wp2
      go_ret
      exact ⟨rfl, rfl⟩
    · have hw := wrap_pow a.toNat (by omega)
      have hm : Hid (bits .and .u64 x (IntKind.u64.wrap (2 ^ a.toNat - 1)) = trimI a x) := trim_mask a x (by omega) (by omega) hx
      go_enter Tryd.func49, Tryd.ntmps49
      go_wp2
      go_ret
      exact ⟨ret_int hm.out, rfl⟩

theorem rtrim_any (a x : Int) (w : World) (hx : U x) :
    Calls Tryd.prog 56 #[.int .i64 a, .int .u64 x] w fun e w' => e = .returned (.int .u64 (trimI a x)) ∧ w' = w := by
  by_cases h1 : a < 1
  · have e : trimI a x = 0 := trim_none a x h1
    rw [e]
    go_enter Tryd.func56, Tryd.ntmps56
    go_wp2
    go_ret
    exact ⟨rfl, rfl⟩
  · by_cases h2 : 64 ≤ a
    · have e : trimI a x = x := trim_all a x h2
      rw [e]
      clear e
      go_enter Tryd.func56, Tryd.ntmps56
      go_wp2
      go_ret
      exact ⟨rfl, rfl⟩
    · have hw := wrap_pow a.toNat (by omega)
      have hp := pos a.toNat
      have h0 : 0 ≤ x := hx.1
      have hm : Hid (x % 2 ^ a.toNat = trimI a x) := trim_rem a x (by omega) (by omega)
      go_enter Tryd.func56, Tryd.ntmps56
      go_wp2
      go_ret
      exact ⟨ret_int hm.out, rfl⟩

end Go.Proofs.YtmfdcemfdkdalaaDoor
