import Derived.Test.YtbfaoepglifmfaaGreatDoorMathG
namespace Go.Cn
theorem take_succ1 (cs : List (List Int)) (k : Nat) (h : k < cs.length) : cs.take (k + 1) = cs.take k ++ [cs.getD k []] := by
  rw [List.take_add_one]; simp [List.getD_eq_getElem?_getD, h]
/-- without a literal -/
def woC (l : List Int) (x : Int) : List Int := l.filter fun y => !decide (y = x)
/-- the clauses in which a literal is true -/
def asg (l : Int) (cs : List (List Int)) : List (List Int) := (cs.filter fun c => !decide (l ∈ c)).map fun c => woC c (-l)
theorem asg_in (l : Int) (cs : List (List Int)) (c : List Int) (h : l ∈ c) : asg l (cs ++ [c]) = asg l cs := by simp [asg, h]
theorem asg_out (l : Int) (cs : List (List Int)) (c : List Int) (h : l ∉ c) : asg l (cs ++ [c]) = asg l cs ++ [woC c (-l)] := by simp [asg, h]
theorem asg_len (l : Int) (cs : List (List Int)) : (asg l cs).length ≤ cs.length := by
  unfold asg; rw [List.length_map]; exact List.length_filter_le _ _
def asE (vars : Int) (cs : List (List Int)) (l : Int) : Int := if (ck vars cs).2 = 0 then (if amB vars l = true then 0 else 20) else (ck vars cs).2
def asV (vars : Int) (cs : List (List Int)) (l : Int) : Int := if asE vars cs l = 0 then vars else 0
def asC (vars : Int) (cs : List (List Int)) (l : Int) : List (List Int) := if asE vars cs l = 0 then asg l cs else []
end Go.Cn
