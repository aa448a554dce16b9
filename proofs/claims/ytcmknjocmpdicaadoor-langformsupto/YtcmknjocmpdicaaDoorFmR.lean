import Derived.Test.YtcmknjocmpdicaaDoorRows
import Derived.WalkKit
import Derived.ProofKit
import Derived.OpenShut
import Derived.WalkSpells
import Derived.LoopTactic
import Derived.Below
import Derived.Deep.LoopGhost
import Derived.Lib.Hide
import Derived.Lib.Walk
namespace Go.Proofs.YtcmknjocmpdicaaDoor
open Go.ChangeShapes Go.WideShapes Go.ChangeAt Go.RowKit

/-- the reserved words -/
def rws : List (List UInt8) := [[112, 114, 111, 103, 114, 97, 109], [119, 105, 100, 116, 104], [108, 105, 110, 101], [112, 117, 98, 108, 105, 99], [115, 101, 99, 114, 101, 116], [99, 111, 110, 115, 116], [118, 97, 114], [111, 117, 116], [98, 101, 103, 105, 110], [101, 110, 100], [105, 102], [101, 108, 115, 101], [102, 111, 114], [114, 101, 108, 101, 97, 115, 101], [115, 97, 114], [115, 108, 116], [115, 101, 108]]
/-- is it one of them? -/
def resB (L : List UInt8) : Bool := rws.contains L
theorem res_cases (L : List UInt8) (P : Prop) (hn : ((∀ x ∈ rws, (L == x) = false) → P)) (h0 : (L == [112, 114, 111, 103, 114, 97, 109]) = true → P) (h1 : (L == [112, 114, 111, 103, 114, 97, 109]) = false → (L == [119, 105, 100, 116, 104]) = true → P) (h2 : (L == [112, 114, 111, 103, 114, 97, 109]) = false → (L == [119, 105, 100, 116, 104]) = false → (L == [108, 105, 110, 101]) = true → P) (h3 : (L == [112, 114, 111, 103, 114, 97, 109]) = false → (L == [119, 105, 100, 116, 104]) = false → (L == [108, 105, 110, 101]) = false → (L == [112, 117, 98, 108, 105, 99]) = true → P) (h4 : (L == [112, 114, 111, 103, 114, 97, 109]) = false → (L == [119, 105, 100, 116, 104]) = false → (L == [108, 105, 110, 101]) = false → (L == [112, 117, 98, 108, 105, 99]) = false → (L == [115, 101, 99, 114, 101, 116]) = true → P) (h5 : (L == [112, 114, 111, 103, 114, 97, 109]) = false → (L == [119, 105, 100, 116, 104]) = false → (L == [108, 105, 110, 101]) = false → (L == [112, 117, 98, 108, 105, 99]) = false → (L == [115, 101, 99, 114, 101, 116]) = false → (L == [99, 111, 110, 115, 116]) = true → P) (h6 : (L == [112, 114, 111, 103, 114, 97, 109]) = false → (L == [119, 105, 100, 116, 104]) = false → (L == [108, 105, 110, 101]) = false → (L == [112, 117, 98, 108, 105, 99]) = false → (L == [115, 101, 99, 114, 101, 116]) = false → (L == [99, 111, 110, 115, 116]) = false → (L == [118, 97, 114]) = true → P) (h7 : (L == [112, 114, 111, 103, 114, 97, 109]) = false → (L == [119, 105, 100, 116, 104]) = false → (L == [108, 105, 110, 101]) = false → (L == [112, 117, 98, 108, 105, 99]) = false → (L == [115, 101, 99, 114, 101, 116]) = false → (L == [99, 111, 110, 115, 116]) = false → (L == [118, 97, 114]) = false → (L == [111, 117, 116]) = true → P) (h8 : (L == [112, 114, 111, 103, 114, 97, 109]) = false → (L == [119, 105, 100, 116, 104]) = false → (L == [108, 105, 110, 101]) = false → (L == [112, 117, 98, 108, 105, 99]) = false → (L == [115, 101, 99, 114, 101, 116]) = false → (L == [99, 111, 110, 115, 116]) = false → (L == [118, 97, 114]) = false → (L == [111, 117, 116]) = false → (L == [98, 101, 103, 105, 110]) = true → P) (h9 : (L == [112, 114, 111, 103, 114, 97, 109]) = false → (L == [119, 105, 100, 116, 104]) = false → (L == [108, 105, 110, 101]) = false → (L == [112, 117, 98, 108, 105, 99]) = false → (L == [115, 101, 99, 114, 101, 116]) = false → (L == [99, 111, 110, 115, 116]) = false → (L == [118, 97, 114]) = false → (L == [111, 117, 116]) = false → (L == [98, 101, 103, 105, 110]) = false → (L == [101, 110, 100]) = true → P) (h10 : (L == [112, 114, 111, 103, 114, 97, 109]) = false → (L == [119, 105, 100, 116, 104]) = false → (L == [108, 105, 110, 101]) = false → (L == [112, 117, 98, 108, 105, 99]) = false → (L == [115, 101, 99, 114, 101, 116]) = false → (L == [99, 111, 110, 115, 116]) = false → (L == [118, 97, 114]) = false → (L == [111, 117, 116]) = false → (L == [98, 101, 103, 105, 110]) = false → (L == [101, 110, 100]) = false → (L == [105, 102]) = true → P) (h11 : (L == [112, 114, 111, 103, 114, 97, 109]) = false → (L == [119, 105, 100, 116, 104]) = false → (L == [108, 105, 110, 101]) = false → (L == [112, 117, 98, 108, 105, 99]) = false → (L == [115, 101, 99, 114, 101, 116]) = false → (L == [99, 111, 110, 115, 116]) = false → (L == [118, 97, 114]) = false → (L == [111, 117, 116]) = false → (L == [98, 101, 103, 105, 110]) = false → (L == [101, 110, 100]) = false → (L == [105, 102]) = false → (L == [101, 108, 115, 101]) = true → P) (h12 : (L == [112, 114, 111, 103, 114, 97, 109]) = false → (L == [119, 105, 100, 116, 104]) = false → (L == [108, 105, 110, 101]) = false → (L == [112, 117, 98, 108, 105, 99]) = false → (L == [115, 101, 99, 114, 101, 116]) = false → (L == [99, 111, 110, 115, 116]) = false → (L == [118, 97, 114]) = false → (L == [111, 117, 116]) = false → (L == [98, 101, 103, 105, 110]) = false → (L == [101, 110, 100]) = false → (L == [105, 102]) = false → (L == [101, 108, 115, 101]) = false → (L == [102, 111, 114]) = true → P) (h13 : (L == [112, 114, 111, 103, 114, 97, 109]) = false → (L == [119, 105, 100, 116, 104]) = false → (L == [108, 105, 110, 101]) = false → (L == [112, 117, 98, 108, 105, 99]) = false → (L == [115, 101, 99, 114, 101, 116]) = false → (L == [99, 111, 110, 115, 116]) = false → (L == [118, 97, 114]) = false → (L == [111, 117, 116]) = false → (L == [98, 101, 103, 105, 110]) = false → (L == [101, 110, 100]) = false → (L == [105, 102]) = false → (L == [101, 108, 115, 101]) = false → (L == [102, 111, 114]) = false → (L == [114, 101, 108, 101, 97, 115, 101]) = true → P) (h14 : (L == [112, 114, 111, 103, 114, 97, 109]) = false → (L == [119, 105, 100, 116, 104]) = false → (L == [108, 105, 110, 101]) = false → (L == [112, 117, 98, 108, 105, 99]) = false → (L == [115, 101, 99, 114, 101, 116]) = false → (L == [99, 111, 110, 115, 116]) = false → (L == [118, 97, 114]) = false → (L == [111, 117, 116]) = false → (L == [98, 101, 103, 105, 110]) = false → (L == [101, 110, 100]) = false → (L == [105, 102]) = false → (L == [101, 108, 115, 101]) = false → (L == [102, 111, 114]) = false → (L == [114, 101, 108, 101, 97, 115, 101]) = false → (L == [115, 97, 114]) = true → P) (h15 : (L == [112, 114, 111, 103, 114, 97, 109]) = false → (L == [119, 105, 100, 116, 104]) = false → (L == [108, 105, 110, 101]) = false → (L == [112, 117, 98, 108, 105, 99]) = false → (L == [115, 101, 99, 114, 101, 116]) = false → (L == [99, 111, 110, 115, 116]) = false → (L == [118, 97, 114]) = false → (L == [111, 117, 116]) = false → (L == [98, 101, 103, 105, 110]) = false → (L == [101, 110, 100]) = false → (L == [105, 102]) = false → (L == [101, 108, 115, 101]) = false → (L == [102, 111, 114]) = false → (L == [114, 101, 108, 101, 97, 115, 101]) = false → (L == [115, 97, 114]) = false → (L == [115, 108, 116]) = true → P) (h16 : (L == [112, 114, 111, 103, 114, 97, 109]) = false → (L == [119, 105, 100, 116, 104]) = false → (L == [108, 105, 110, 101]) = false → (L == [112, 117, 98, 108, 105, 99]) = false → (L == [115, 101, 99, 114, 101, 116]) = false → (L == [99, 111, 110, 115, 116]) = false → (L == [118, 97, 114]) = false → (L == [111, 117, 116]) = false → (L == [98, 101, 103, 105, 110]) = false → (L == [101, 110, 100]) = false → (L == [105, 102]) = false → (L == [101, 108, 115, 101]) = false → (L == [102, 111, 114]) = false → (L == [114, 101, 108, 101, 97, 115, 101]) = false → (L == [115, 97, 114]) = false → (L == [115, 108, 116]) = false → (L == [115, 101, 108]) = true → P) : P := by
  by_cases c0 : (L == [112, 114, 111, 103, 114, 97, 109]) = true
  · exact h0  c0
  replace c0 : (L == [112, 114, 111, 103, 114, 97, 109]) = false := by simpa using c0
  by_cases c1 : (L == [119, 105, 100, 116, 104]) = true
  · exact h1 c0 c1
  replace c1 : (L == [119, 105, 100, 116, 104]) = false := by simpa using c1
  by_cases c2 : (L == [108, 105, 110, 101]) = true
  · exact h2 c0 c1 c2
  replace c2 : (L == [108, 105, 110, 101]) = false := by simpa using c2
  by_cases c3 : (L == [112, 117, 98, 108, 105, 99]) = true
  · exact h3 c0 c1 c2 c3
  replace c3 : (L == [112, 117, 98, 108, 105, 99]) = false := by simpa using c3
  by_cases c4 : (L == [115, 101, 99, 114, 101, 116]) = true
  · exact h4 c0 c1 c2 c3 c4
  replace c4 : (L == [115, 101, 99, 114, 101, 116]) = false := by simpa using c4
  by_cases c5 : (L == [99, 111, 110, 115, 116]) = true
  · exact h5 c0 c1 c2 c3 c4 c5
  replace c5 : (L == [99, 111, 110, 115, 116]) = false := by simpa using c5
  by_cases c6 : (L == [118, 97, 114]) = true
  · exact h6 c0 c1 c2 c3 c4 c5 c6
  replace c6 : (L == [118, 97, 114]) = false := by simpa using c6
  by_cases c7 : (L == [111, 117, 116]) = true
  · exact h7 c0 c1 c2 c3 c4 c5 c6 c7
  replace c7 : (L == [111, 117, 116]) = false := by simpa using c7
  by_cases c8 : (L == [98, 101, 103, 105, 110]) = true
  · exact h8 c0 c1 c2 c3 c4 c5 c6 c7 c8
  replace c8 : (L == [98, 101, 103, 105, 110]) = false := by simpa using c8
  by_cases c9 : (L == [101, 110, 100]) = true
  · exact h9 c0 c1 c2 c3 c4 c5 c6 c7 c8 c9
  replace c9 : (L == [101, 110, 100]) = false := by simpa using c9
  by_cases c10 : (L == [105, 102]) = true
  · exact h10 c0 c1 c2 c3 c4 c5 c6 c7 c8 c9 c10
  replace c10 : (L == [105, 102]) = false := by simpa using c10
  by_cases c11 : (L == [101, 108, 115, 101]) = true
  · exact h11 c0 c1 c2 c3 c4 c5 c6 c7 c8 c9 c10 c11
  replace c11 : (L == [101, 108, 115, 101]) = false := by simpa using c11
  by_cases c12 : (L == [102, 111, 114]) = true
  · exact h12 c0 c1 c2 c3 c4 c5 c6 c7 c8 c9 c10 c11 c12
  replace c12 : (L == [102, 111, 114]) = false := by simpa using c12
  by_cases c13 : (L == [114, 101, 108, 101, 97, 115, 101]) = true
  · exact h13 c0 c1 c2 c3 c4 c5 c6 c7 c8 c9 c10 c11 c12 c13
  replace c13 : (L == [114, 101, 108, 101, 97, 115, 101]) = false := by simpa using c13
  by_cases c14 : (L == [115, 97, 114]) = true
  · exact h14 c0 c1 c2 c3 c4 c5 c6 c7 c8 c9 c10 c11 c12 c13 c14
  replace c14 : (L == [115, 97, 114]) = false := by simpa using c14
  by_cases c15 : (L == [115, 108, 116]) = true
  · exact h15 c0 c1 c2 c3 c4 c5 c6 c7 c8 c9 c10 c11 c12 c13 c14 c15
  replace c15 : (L == [115, 108, 116]) = false := by simpa using c15
  by_cases c16 : (L == [115, 101, 108]) = true
  · exact h16 c0 c1 c2 c3 c4 c5 c6 c7 c8 c9 c10 c11 c12 c13 c14 c15 c16
  replace c16 : (L == [115, 101, 108]) = false := by simpa using c16
  refine hn fun x hx => ?_
  simp only [rws, List.mem_cons, List.not_mem_nil, or_false] at hx
  rcases hx with rfl | rfl | rfl | rfl | rfl | rfl | rfl | rfl | rfl | rfl | rfl | rfl | rfl | rfl | rfl | rfl | rfl <;> assumption
theorem res_yes {L : List UInt8} {x : List UInt8} (hx : x ∈ rws) (h : (L == x) = true) : resB L = true := by
  have e : L = x := by simpa using h
  subst e
  simpa [resB] using hx
theorem res_no {L : List UInt8} (h : ∀ x ∈ rws, (L == x) = false) : resB L = false := by
  unfold resB
  rw [Bool.eq_false_iff]
  intro hc
  have hm : L ∈ rws := by simpa using hc
  have := h L hm
  simp at this
set_option maxHeartbeats 8000000 in
theorem lres_any (s : ByteArray) (w : World) : Calls Tryd.prog 13 #[.string s] w fun e w' => e = .returned (.bool (resB s.toList)) ∧ w' = w := by
  refine res_cases s.toList _ ?_ ?_ ?_ ?_ ?_ ?_ ?_ ?_ ?_ ?_ ?_ ?_ ?_ ?_ ?_ ?_ ?_ ?_
  · intro hall
    rw [res_no hall]
    have t0 : (s.toList == [112, 114, 111, 103, 114, 97, 109]) = false := hall _ (by decide)
    have t1 : (s.toList == [119, 105, 100, 116, 104]) = false := hall _ (by decide)
    have t2 : (s.toList == [108, 105, 110, 101]) = false := hall _ (by decide)
    have t3 : (s.toList == [112, 117, 98, 108, 105, 99]) = false := hall _ (by decide)
    have t4 : (s.toList == [115, 101, 99, 114, 101, 116]) = false := hall _ (by decide)
    have t5 : (s.toList == [99, 111, 110, 115, 116]) = false := hall _ (by decide)
    have t6 : (s.toList == [118, 97, 114]) = false := hall _ (by decide)
    have t7 : (s.toList == [111, 117, 116]) = false := hall _ (by decide)
    have t8 : (s.toList == [98, 101, 103, 105, 110]) = false := hall _ (by decide)
    have t9 : (s.toList == [101, 110, 100]) = false := hall _ (by decide)
    have t10 : (s.toList == [105, 102]) = false := hall _ (by decide)
    have t11 : (s.toList == [101, 108, 115, 101]) = false := hall _ (by decide)
    have t12 : (s.toList == [102, 111, 114]) = false := hall _ (by decide)
    have t13 : (s.toList == [114, 101, 108, 101, 97, 115, 101]) = false := hall _ (by decide)
    have t14 : (s.toList == [115, 97, 114]) = false := hall _ (by decide)
    have t15 : (s.toList == [115, 108, 116]) = false := hall _ (by decide)
    have t16 : (s.toList == [115, 101, 108]) = false := hall _ (by decide)
    clear hall
    go_enter Tryd.func13, Tryd.ntmps13
    go_wp2
    all_goals go_ret
    all_goals exact ⟨rfl, rfl⟩
  · intro  t0
    rw [res_yes (by decide) t0]
    go_enter Tryd.func13, Tryd.ntmps13
    go_wp2
    all_goals go_ret
    all_goals exact ⟨rfl, rfl⟩
  · intro t0 t1
    rw [res_yes (by decide) t1]
    go_enter Tryd.func13, Tryd.ntmps13
    go_wp2
    all_goals go_ret
    all_goals exact ⟨rfl, rfl⟩
  · intro t0 t1 t2
    rw [res_yes (by decide) t2]
    go_enter Tryd.func13, Tryd.ntmps13
    go_wp2
    all_goals go_ret
    all_goals exact ⟨rfl, rfl⟩
  · intro t0 t1 t2 t3
    rw [res_yes (by decide) t3]
    go_enter Tryd.func13, Tryd.ntmps13
    go_wp2
    all_goals go_ret
    all_goals exact ⟨rfl, rfl⟩
  · intro t0 t1 t2 t3 t4
    rw [res_yes (by decide) t4]
    go_enter Tryd.func13, Tryd.ntmps13
    go_wp2
    all_goals go_ret
    all_goals exact ⟨rfl, rfl⟩
  · intro t0 t1 t2 t3 t4 t5
    rw [res_yes (by decide) t5]
    go_enter Tryd.func13, Tryd.ntmps13
    go_wp2
    all_goals go_ret
    all_goals exact ⟨rfl, rfl⟩
  · intro t0 t1 t2 t3 t4 t5 t6
    rw [res_yes (by decide) t6]
    go_enter Tryd.func13, Tryd.ntmps13
    go_wp2
    all_goals go_ret
    all_goals exact ⟨rfl, rfl⟩
  · intro t0 t1 t2 t3 t4 t5 t6 t7
    rw [res_yes (by decide) t7]
    go_enter Tryd.func13, Tryd.ntmps13
    go_wp2
    all_goals go_ret
    all_goals exact ⟨rfl, rfl⟩
  · intro t0 t1 t2 t3 t4 t5 t6 t7 t8
    rw [res_yes (by decide) t8]
    go_enter Tryd.func13, Tryd.ntmps13
    go_wp2
    all_goals go_ret
    all_goals exact ⟨rfl, rfl⟩
  · intro t0 t1 t2 t3 t4 t5 t6 t7 t8 t9
    rw [res_yes (by decide) t9]
    go_enter Tryd.func13, Tryd.ntmps13
    go_wp2
    all_goals go_ret
    all_goals exact ⟨rfl, rfl⟩
  · intro t0 t1 t2 t3 t4 t5 t6 t7 t8 t9 t10
    rw [res_yes (by decide) t10]
    go_enter Tryd.func13, Tryd.ntmps13
    go_wp2
    all_goals go_ret
    all_goals exact ⟨rfl, rfl⟩
  · intro t0 t1 t2 t3 t4 t5 t6 t7 t8 t9 t10 t11
    rw [res_yes (by decide) t11]
    go_enter Tryd.func13, Tryd.ntmps13
    go_wp2
    all_goals go_ret
    all_goals exact ⟨rfl, rfl⟩
  · intro t0 t1 t2 t3 t4 t5 t6 t7 t8 t9 t10 t11 t12
    rw [res_yes (by decide) t12]
    go_enter Tryd.func13, Tryd.ntmps13
    go_wp2
    all_goals go_ret
    all_goals exact ⟨rfl, rfl⟩
  · intro t0 t1 t2 t3 t4 t5 t6 t7 t8 t9 t10 t11 t12 t13
    rw [res_yes (by decide) t13]
    go_enter Tryd.func13, Tryd.ntmps13
    go_wp2
    all_goals go_ret
    all_goals exact ⟨rfl, rfl⟩
  · intro t0 t1 t2 t3 t4 t5 t6 t7 t8 t9 t10 t11 t12 t13 t14
    rw [res_yes (by decide) t14]
    go_enter Tryd.func13, Tryd.ntmps13
    go_wp2
    all_goals go_ret
    all_goals exact ⟨rfl, rfl⟩
  · intro t0 t1 t2 t3 t4 t5 t6 t7 t8 t9 t10 t11 t12 t13 t14 t15
    rw [res_yes (by decide) t15]
    go_enter Tryd.func13, Tryd.ntmps13
    go_wp2
    all_goals go_ret
    all_goals exact ⟨rfl, rfl⟩
  · intro t0 t1 t2 t3 t4 t5 t6 t7 t8 t9 t10 t11 t12 t13 t14 t15 t16
    rw [res_yes (by decide) t16]
    go_enter Tryd.func13, Tryd.ntmps13
    go_wp2
    all_goals go_ret
    all_goals exact ⟨rfl, rfl⟩
end Go.Proofs.YtcmknjocmpdicaaDoor
