import Derived.Test.YtnknbijbhidpnaaGreatDoorMathF
namespace Go.Cn
/-- what an assignment says of a literal -/
def ofB (ms : List Int) (l : Int) : Int :=
  if litB l = false then 0 else if (ms.length : Int) < vr l then 0 else if ms.getD (vr l - 1).toNat 0 = 1 then (if l < 0 then -1 else 1) else if ms.getD (vr l - 1).toNat 0 = -1 then (if l < 0 then 1 else -1) else 0
theorem ofB_three (ms : List Int) (l : Int) : ofB ms l = -1 ∨ ofB ms l = 0 ∨ ofB ms l = 1 := by
  unfold ofB
  repeat' split
  all_goals simp
/-- what it says of a clause, with so much from ahead -/
def vGo (ms : List Int) : List Int → Int → Int
  | [], a => a
  | l :: r, a => vGo ms r (if a < ofB ms l then ofB ms l else a)
def val (ms : List Int) (c : List Int) : Int := vGo ms c (-1)
theorem vGo_one (ms : List Int) : ∀ c, vGo ms c 1 = 1
  | [] => rfl
  | l :: r => by
    unfold vGo
    rw [if_neg (by rcases ofB_three ms l with h | h | h <;> rw [h] <;> decide)]
    exact vGo_one ms r
theorem vGo_three (ms : List Int) : ∀ c a, (a = -1 ∨ a = 0 ∨ a = 1) → vGo ms c a = -1 ∨ vGo ms c a = 0 ∨ vGo ms c a = 1
  | [], a, h => h
  | l :: r, a, h => by
    unfold vGo
    refine vGo_three ms r _ ?_
    split
    · exact ofB_three ms l
    · exact h
theorem val_three (ms c : List Int) : val ms c = -1 ∨ val ms c = 0 ∨ val ms c = 1 := vGo_three ms c _ (Or.inl rfl)
theorem drop_cons1 (c : List Int) (k : Nat) (h : k < c.length) : c.drop k = c.getD k 0 :: c.drop (k + 1) := by
  rw [List.drop_eq_getElem_cons h]; simp [List.getD_eq_getElem?_getD, h]
theorem vGo_end (ms c : List Int) (k : Nat) (a : Int) (h : c.length ≤ k) : vGo ms (c.drop k) a = a := by
  rw [List.drop_eq_nil_of_le h]; rfl
theorem vGo_step (ms c : List Int) (k : Nat) (a : Int) (h : k < c.length) : vGo ms (c.drop k) a = vGo ms (c.drop (k + 1)) (if a < ofB ms (c.getD k 0) then ofB ms (c.getD k 0) else a) := by
  rw [drop_cons1 c k h]; rfl
/-- what it says of clauses from place i on, with so much from ahead -/
def uGo (ms : List Int) : List (List Int) → Nat → Int → Nat → Int × Nat
  | [], _, v, p => (v, p)
  | c :: r, i, v, p => if val ms c < v then uGo ms r (i + 1) (val ms c) i else uGo ms r (i + 1) v p
theorem uGo_end (ms : List Int) (cs : List (List Int)) (k i : Nat) (v : Int) (p : Nat) (h : cs.length ≤ k) : uGo ms (cs.drop k) i v p = (v, p) := by
  rw [List.drop_eq_nil_of_le h]; rfl
theorem uGo_step (ms : List Int) (cs : List (List Int)) (k : Nat) (v : Int) (p : Nat) (h : k < cs.length) : uGo ms (cs.drop k) k v p = if val ms (cs.getD k []) < v then uGo ms (cs.drop (k + 1)) (k + 1) (val ms (cs.getD k [])) k else uGo ms (cs.drop (k + 1)) (k + 1) v p := by
  rw [drop_cons cs k h]; rfl
theorem uGo_least (ms : List Int) : ∀ cs i p, uGo ms cs i (-1) p = (-1, p)
  | [], _, _ => rfl
  | c :: r, i, p => by
    unfold uGo
    rw [if_neg (by rcases val_three ms c with h | h | h <;> rw [h] <;> decide)]
    exact uGo_least ms r _ p
/-- the whole answer -/
def un (vars : Int) (cs : List (List Int)) (ms : List Int) : Int × Int × Int :=
  if (ck vars cs).2 = 0 then ((uGo ms cs 0 1 cs.length).1, ((uGo ms cs 0 1 cs.length).2 : Int), 0) else (0, 0, (ck vars cs).2)
end Go.Cn
namespace Go.Cn
theorem take_succ1 (cs : List (List Int)) (k : Nat) (h : k < cs.length) : cs.take (k + 1) = cs.take k ++ [cs.getD k []] := by
  rw [List.take_add_one]; simp [List.getD_eq_getElem?_getD, h]
/-- without a literal -/
def woC (l : List Int) (x : Int) : List Int := l.filter fun y => !decide (y = x)
/-- the clauses in which a literal is true -/
def asg (l : Int) (cs : List (List Int)) : List (List Int) := (cs.filter fun c => !decide (l ∈ c)).map fun c => woC c (-l)
theorem asg_in (l : Int) (cs : List (List Int)) (c : List Int) (h : l ∈ c) : asg l (cs ++ [c]) = asg l cs := by simp [asg, h]
theorem asg_out (l : Int) (cs : List (List Int)) (c : List Int) (h : l ∉ c) : asg l (cs ++ [c]) = asg l cs ++ [woC c (-l)] := by simp [asg, h]
theorem asg_len (l : Int) (cs : List (List Int)) : (asg l cs).length ≤ cs.length := by
  unfold asg; rw [List.length_map]; exact List.length_filter_le _ _
def asE (vars : Int) (cs : List (List Int)) (l : Int) : Int := if (ck vars cs).2 = 0 then (if amB vars l = true then 0 else 20) else (ck vars cs).2
def asV (vars : Int) (cs : List (List Int)) (l : Int) : Int := if asE vars cs l = 0 then vars else 0
def asC (vars : Int) (cs : List (List Int)) (l : Int) : List (List Int) := if asE vars cs l = 0 then asg l cs else []
end Go.Cn
