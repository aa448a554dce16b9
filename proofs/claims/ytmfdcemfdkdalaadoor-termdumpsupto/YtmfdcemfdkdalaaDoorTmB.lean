import Derived.Test.YtmfdcemfdkdalaaDoorMath
import Derived.Test.YtmfdcemfdkdalaaDoorNameMath
import Derived.Test.YtmfdcemfdkdalaaDoorWalks
import Derived.Test.YtmfdcemfdkdalaaDoorNames
import Derived.WalkKit
import Derived.ProofKit
import Derived.OpenShut
import Derived.WalkSpells
import Derived.LoopTactic
import Derived.Below
import Derived.Deep.Draws
import Derived.Deep.QuietTactic
import Derived.Lib.Hide
namespace Go.Tm
open Go.Bw (trimI)
open Go.Bn (nmB)

/-- a node: its operation, width, parts, number and name -/
structure Nd where
  op : Int
  w : Int
  a : Int
  b : Int
  c : Int
  num : Int
  name : ByteArray
def ndDec : DecidableEq Nd := fun x y => decidable_of_iff (x.op = y.op ∧ x.w = y.w ∧ x.a = y.a ∧ x.b = y.b ∧ x.c = y.c ∧ x.num = y.num ∧ x.name = y.name) (by cases x; cases y; simp)
def z0 : Nd := ⟨0, 0, 0, 0, 0, 0, ByteArray.empty⟩
def I64 (x : Int) : Prop := -9223372036854775808 ≤ x ∧ x ≤ 9223372036854775807
def U64 (x : Int) : Prop := 0 ≤ x ∧ x ≤ 18446744073709551615
structure Nd.ok (n : Nd) : Prop where
  op : I64 n.op
  w : I64 n.w
  a : I64 n.a
  b : I64 n.b
  c : I64 n.c
  num : U64 n.num
  name : n.name.size ≤ 140737488355328
/-- how many parts an operation has -/
def pt (op : Int) : Int := if op = 1 ∨ op = 2 ∨ op = 3 ∨ op = 4 then 0 else if op = 5 ∨ op = 15 ∨ op = 16 ∨ op = 31 ∨ op = 32 ∨ op = 33 then 1 else if op = 14 then 3 else 2
theorem pt_lo (op : Int) : 0 ≤ pt op ∧ pt op ≤ 3 := by
  unfold pt
  split
  · omega
  · split
    · omega
    · split <;> omega
/-- is it a term? -/
def isT (L : List Nd) (t : Int) : Bool := decide (1 ≤ t ∧ t ≤ (L.length : Int))
/-- the width of a term; 0 of a number that is none -/
def wd (L : List Nd) (t : Int) : Int := if isT L t = true then (L.getD (t.toNat - 1) z0).w else 0
def hp (L : List Nd) (n : Nd) : Bool := (decide (pt n.op < 1) || isT L n.a) && ((decide (pt n.op < 2) || isT L n.b) && (decide (pt n.op < 3) || isT L n.c))
def br (n : Nd) : Bool := (decide (1 ≤ pt n.op) || decide (n.a = 0)) && ((decide (2 ≤ pt n.op) || decide (n.b = 0)) && ((decide (3 ≤ pt n.op) || decide (n.c = 0)) && ((decide (n.op = 3) || (decide (n.op = 31) || decide (n.num = 0))) && (decide (n.op = 4) || decide (n.name.size = 0)))))
/-- do the sorts of the parts fit? -/
def sf (op x y z : Int) : Bool :=
  if op ≤ 4 then true else if op ≤ 8 then decide (x = 0 ∧ y = 0) else if op = 9 then decide (x = y) else if op = 14 then decide (x = 0 ∧ y = z)
  else if op = 15 ∨ op = 16 ∨ 31 ≤ op then decide (0 < x) else if op = 30 then decide (0 < x ∧ 0 < y) else decide (0 < x ∧ x = y)
/-- the width that is meant -/
def mw (op x y : Int) : Int := if op = 14 then y else if 15 ≤ op ∧ op ≤ 29 then x else if op = 30 ∧ x + y ≤ 64 then x + y else 0
def shB (w : Int) : Bool := decide (w = 1 ∨ w = 2 ∨ w = 4 ∨ w = 8 ∨ w = 16 ∨ w = 32 ∨ w = 64)
/-- does the width fit? -/
def wf (op w num x y : Int) : Bool :=
  if op = 3 then decide (0 < w ∧ trimI w num = num) else if op = 4 then true else if 25 ≤ op ∧ op ≤ 29 then decide (w = x) && shB w
  else if op = 30 then decide (w = x + y) else if op = 31 then decide (0 < w ∧ w ≤ x ∧ num ≤ x - w) else if 32 ≤ op then decide (x ≤ w) else decide (w = mw op x y)
/-- the width of the variable of a name -/
def vw (nm : ByteArray) : List Nd → Option Int
  | [] => none
  | x :: r => if x.op = 4 ∧ x.name = nm then some x.w else vw nm r
def nf (L : List Nd) (n : Nd) : Bool := nmB n.name && (match vw n.name L with | none => true | some u => decide (u = n.w))
/-- why a node may be none of the store's -/
def rfE (L : List Nd) (n : Nd) : Int :=
  if n.op < 1 ∨ 33 < n.op then 73 else if n.w < 0 ∨ 64 < n.w then 5 else if hp L n = false then 70 else if br n = false then 1
  else if sf n.op (wd L n.a) (wd L n.b) (wd L n.c) = false then 71 else if wf n.op n.w n.num (wd L n.a) (wd L n.b) = false then 5 else if n.op = 4 ∧ nf L n = false then 72 else 0
/-- where a node stands -/
def pos (n : Nd) : List Nd → Option Nat
  | [] => none
  | x :: r => @ite _ (x = n) (ndDec x n) (some 0) ((pos n r).map (· + 1))
/-- what Make does: the terms behind it, its two answers -/
def mk (lim : Int) (L : List Nd) (n : Nd) : List Nd × Int × Int :=
  if rfE L n ≠ 0 then (L, 0, rfE L n) else match pos n L with
    | some i => (L, (i : Int) + 1, 0)
    | none => if 0 < lim ∧ lim ≤ (L.length : Int) then (L, 0, 4) else (L ++ [n], (L.length : Int) + 1, 0)
theorem vw_snoc (nm : ByteArray) (L : List Nd) (n : Nd) : vw nm (L ++ [n]) = match vw nm L with | some u => some u | none => if n.op = 4 ∧ n.name = nm then some n.w else none := by
  induction L with
  | nil => rfl
  | cons x r ih =>
    rw [List.cons_append, vw, vw]
    by_cases h : x.op = 4 ∧ x.name = nm
    · rw [if_pos h, if_pos h]
    · rw [if_neg h, if_neg h, ih]
theorem pos_snoc (m n : Nd) (L : List Nd) : pos m (L ++ [n]) = match pos m L with | some i => some i | none => @ite _ (n = m) (ndDec n m) (some L.length) none := by
  induction L with
  | nil =>
    show pos m [n] = _
    unfold pos
    by_cases h : n = m
    · rw [if_pos h]; simp [h]
    · rw [if_neg h]; simp [pos, h]
  | cons x r ih =>
    rw [List.cons_append, pos, pos]
    by_cases h : x = m
    · rw [if_pos h, if_pos h]
    · rw [if_neg h, if_neg h, ih]
      cases pos m r with
      | some i => rfl
      | none =>
        by_cases h2 : n = m
        · simp [h2]
        · simp [h2]
theorem pos_lt {n : Nd} : ∀ {L : List Nd} {i : Nat}, pos n L = some i → i < L.length ∧ L.getD i z0 = n
  | [], i, h => by cases h
  | x :: r, i, h => by
    unfold pos at h
    by_cases e : x = n
    · rw [if_pos e] at h
      cases h
      exact ⟨by simp, by simpa using e⟩
    · rw [if_neg e] at h
      cases hr : pos n r with
      | none => rw [hr] at h; cases h
      | some j =>
        rw [hr] at h
        cases h
        obtain ⟨h1, h2⟩ := pos_lt hr
        exact ⟨by simp; omega, by simpa using h2⟩
theorem wd_none {L : List Nd} {t : Int} (h : isT L t = false) : wd L t = 0 := by unfold wd; rw [h]; rfl
theorem isT_zero (L : List Nd) : isT L 0 = false := by unfold isT; exact decide_eq_false (by omega)
/-- the widths of all are words' -/
def Wds (L : List Nd) : Prop := ∀ n ∈ L, 0 ≤ n.w ∧ n.w ≤ 64
theorem getD_mem' {L : List Nd} {i : Nat} (h : i < L.length) : L.getD i z0 ∈ L := by
  rw [List.getD_eq_getElem?_getD, List.getElem?_eq_getElem h]
  exact List.getElem_mem _
theorem wd_lo {L : List Nd} (h : Wds L) (t : Int) : 0 ≤ wd L t ∧ wd L t ≤ 64 := by
  unfold wd
  split
  · rename_i ht
    have h1 : 1 ≤ t ∧ t ≤ (L.length : Int) := of_decide_eq_true ht
    exact h _ (getD_mem' (by omega))
  · omega
theorem mk_lo {lim : Int} {L : List Nd} {n : Nd} (h : Wds L) : Wds (mk lim L n).1 := by
  unfold mk
  split
  · exact h
  · rename_i h0
    split
    · exact h
    · split
      · exact h
      · intro m hm
        rcases List.mem_append.1 hm with e | e
        · exact h m e
        · simp at e
          subst e
          have h1 : rfE L m = 0 := by simpa using h0
          unfold rfE at h1
          split at h1
          · omega
          · split at h1
            · omega
            · omega
theorem mk_ok {lim : Int} {L : List Nd} {n : Nd} (h : ∀ m ∈ L, m.ok) (hn : n.ok) : ∀ m ∈ (mk lim L n).1, m.ok := by
  unfold mk
  split
  · exact h
  · split
    · exact h
    · split
      · exact h
      · intro m hm
        rcases List.mem_append.1 hm with e | e
        · exact h m e
        · simp at e
          subst e
          exact hn
theorem mk_len (lim : Int) (L : List Nd) (n : Nd) : (mk lim L n).1.length ≤ L.length + 1 := by
  unfold mk
  split
  · simp
  · split
    · simp
    · split <;> simp
theorem op_cases {op : Int} (h1 : 1 ≤ op) (h2 : op ≤ 33) : op = 1 ∨ op = 2 ∨ op = 3 ∨ op = 4 ∨ op = 5 ∨ op = 6 ∨ op = 7 ∨ op = 8 ∨ op = 9 ∨ op = 10 ∨ op = 11 ∨ op = 12 ∨ op = 13 ∨ op = 14 ∨ op = 15 ∨ op = 16 ∨ op = 17 ∨ op = 18 ∨ op = 19 ∨ op = 20 ∨ op = 21 ∨ op = 22 ∨ op = 23 ∨ op = 24 ∨ op = 25 ∨ op = 26 ∨ op = 27 ∨ op = 28 ∨ op = 29 ∨ op = 30 ∨ op = 31 ∨ op = 32 ∨ op = 33 := by omega
end Go.Tm
namespace Go.Proofs.YtmfdcemfdkdalaaDoor
open Go.ChangeShapes Go.WideShapes Go.ChangeAt Go.RowKit Go.Lib Go.Tm Go.Bw Go.Bn

theorem parts_any (op : Int) (w : World) :
    Calls Tryd.prog 51 #[.int .i64 op] w fun e w' => e = .returned (.int .i64 (pt op)) ∧ w' = w := by
  by_cases h : 1 ≤ op ∧ op ≤ 33
  · rcases op_cases h.1 h.2 with rfl | rfl | rfl | rfl | rfl | rfl | rfl | rfl | rfl | rfl | rfl | rfl | rfl | rfl | rfl | rfl | rfl | rfl | rfl | rfl | rfl | rfl | rfl | rfl | rfl | rfl | rfl | rfl | rfl | rfl | rfl | rfl | rfl <;>
    (clear h
     go_enter Tryd.func51, Tryd.ntmps51
     go_wp2
     go_ret
     exact ⟨rfl, rfl⟩)
  · have e : Hid (pt op = 2) := by
      show _ = _
      unfold pt
      rw [if_neg (by omega), if_neg (by omega), if_neg (by omega)]
    have q1 : (op == 1) = false := beq_eq_false_iff_ne.2 (by omega)
    have q2 : (op == 2) = false := beq_eq_false_iff_ne.2 (by omega)
    have q3 : (op == 3) = false := beq_eq_false_iff_ne.2 (by omega)
    have q4 : (op == 4) = false := beq_eq_false_iff_ne.2 (by omega)
    have q5 : (op == 5) = false := beq_eq_false_iff_ne.2 (by omega)
    have q6 : (op == 15) = false := beq_eq_false_iff_ne.2 (by omega)
    have q7 : (op == 16) = false := beq_eq_false_iff_ne.2 (by omega)
    have q8 : (op == 31) = false := beq_eq_false_iff_ne.2 (by omega)
    have q9 : (op == 32) = false := beq_eq_false_iff_ne.2 (by omega)
    have q10 : (op == 33) = false := beq_eq_false_iff_ne.2 (by omega)
    have q11 : (op == 14) = false := beq_eq_false_iff_ne.2 (by omega)
    clear h
    go_enter Tryd.func51, Tryd.ntmps51
    go_wp2
    go_ret
    exact ⟨by rw [e.out]; rfl, rfl⟩
theorem bel1 (w : World) (o : Obj) : Below w.heap.size w (w.alloc o) := (Below.refl _ _).alloc (Nat.le_refl _) o
theorem bel2 (w : World) (o o2 : Obj) : Below w.heap.size w ((w.alloc o).alloc o2) := (bel1 w o).alloc (bel1 w o).size o2
set_option maxHeartbeats 4000000 in
theorem sorts_any (op x y z : Int) (w : World) (h1 : 1 ≤ op) (h2 : op ≤ 33) :
    Calls Tryd.prog 66 #[.int .i64 op, .agg #[.int .i64 x, .int .i64 y, .int .i64 z]] w fun e w' => e = .returned (.bool (sf op x y z)) ∧ Below w.heap.size w w' := by
  rcases op_cases h1 h2 with rfl | rfl | rfl | rfl | rfl | rfl | rfl | rfl | rfl | rfl | rfl | rfl | rfl | rfl | rfl | rfl | rfl | rfl | rfl | rfl | rfl | rfl | rfl | rfl | rfl | rfl | rfl | rfl | rfl | rfl | rfl | rfl | rfl <;>
    (clear h1 h2
     go_enter Tryd.func66, Tryd.ntmps66
     go_wp2
     all_goals go_ret
     all_goals exact ⟨ret_bool (by rw [Bool.eq_iff_iff]; simp [sf] <;> omega), bel1 _ _⟩)
set_option maxHeartbeats 4000000 in
theorem meantw_eq (op x y z : Int) (w : World) (hx : 0 ≤ x ∧ x ≤ 64) (hy : 0 ≤ y ∧ y ≤ 64) :
    Calls Tryd.prog 70 #[.int .i64 op, .agg #[.int .i64 x, .int .i64 y, .int .i64 z]] w fun e w' => e = .returned (.int .i64 (mw op x y)) ∧ w' = w.alloc (Obj.cells #[.int .i64 x, .int .i64 y, .int .i64 z] 93) := by
  go_enter Tryd.func70, Tryd.ntmps70
  go_wp2
  all_goals go_ret
  all_goals refine ⟨ret_int ?_, rfl⟩
  all_goals simp only [beq_iff_eq, beq_eq_false_iff_ne] at *
  all_goals unfold mw
  all_goals repeat' split
  all_goals omega
theorem meantw_any (op x y z : Int) (w : World) (hx : 0 ≤ x ∧ x ≤ 64) (hy : 0 ≤ y ∧ y ≤ 64) :
    Calls Tryd.prog 70 #[.int .i64 op, .agg #[.int .i64 x, .int .i64 y, .int .i64 z]] w fun e w' => e = .returned (.int .i64 (mw op x y)) ∧ Below w.heap.size w w' :=
  (meantw_eq op x y z w hx hy).mono fun e w' h => ⟨h.1, by rw [h.2]; exact bel1 _ _⟩
end Go.Proofs.YtmfdcemfdkdalaaDoor
