import Derived.Test.YtkpapgfbnledpaaGreatDoorMath
import Derived.Test.YtkpapgfbnledpaaGreatDoorNameMath
import Derived.Lib.Strings
import Derived.Laws.BitsAllLaws
import Derived.Lib.TrimByte
import Derived.Lib.CutLaws
namespace Go.Tm
open Go.Bw (trimI)
open Go.Bn (nmB)

structure Nd where
  op : Int
  w : Int
  a : Int
  b : Int
  c : Int
  num : Int
  name : ByteArray
def ndDec : DecidableEq Nd := fun x y => decidable_of_iff (x.op = y.op /\ x.w = y.w /\ x.a = y.a /\ x.b = y.b /\ x.c = y.c /\ x.num = y.num /\ x.name = y.name) (by cases x; cases y; simp)
def z0 : Nd := ⟨0,0,0,0,0,0,ByteArray.empty⟩
def I64 (x : Int) : Prop := -9223372036854775808 <= x /\ x <= 9223372036854775807
def U64 (x : Int) : Prop := 0 <= x /\ x <= 18446744073709551615
structure Nd.ok (n : Nd) : Prop where
  op : I64 n.op
  w : I64 n.w
  a : I64 n.a
  b : I64 n.b
  c : I64 n.c
  num : U64 n.num
  name : n.name.size <= 140737488355328
def pt (op : Int) : Int := if op = 1 ∨ op = 2 ∨ op = 3 ∨ op = 4 then 0 else if op = 5 ∨ op = 15 ∨ op = 16 ∨ op = 31 ∨ op = 32 ∨ op = 33 then 1 else if op = 14 then 3 else 2
theorem pt_lo (op : Int) : 0 <= pt op /\ pt op <= 3 := by
  unfold pt
  split
  · omega
  split
  · omega
  split <;> omega
def isT (L : List Nd) (t : Int) : Bool := decide (1 <= t /\ t <= (L.length : Int))
def wd (L : List Nd) (t : Int) : Int := if isT L t = true then (L.getD (t.toNat - 1) z0).w else 0
def hp (L : List Nd) (n : Nd) : Bool := (decide (pt n.op < 1) || isT L n.a) && ((decide (pt n.op < 2) || isT L n.b) && (decide (pt n.op < 3) || isT L n.c))
def br (n : Nd) : Bool := (decide (1 <= pt n.op) || decide (n.a = 0)) && ((decide (2 <= pt n.op) || decide (n.b = 0)) && ((decide (3 <= pt n.op) || decide (n.c = 0)) && ((decide (n.op = 3) || (decide (n.op = 31) || decide (n.num = 0))) && (decide (n.op = 4) || decide (n.name.size = 0)))))
def sf (op x y z : Int) : Bool :=
  if op <= 4 then true else if op <= 8 then decide (x = 0 /\ y = 0) else if op = 9 then decide (x = y) else if op = 14 then decide (x = 0 /\ y = z)
  else if op = 15 ∨ op = 16 ∨ 31 <= op then decide (0 < x) else if op = 30 then decide (0 < x /\ 0 < y) else decide (0 < x /\ x = y)
def mw (op x y : Int) : Int := if op = 14 then y else if 15 <= op /\ op <= 29 then x else if op = 30 /\ x + y <= 64 then x + y else 0
def shB (w : Int) : Bool := decide (w = 1 ∨ w = 2 ∨ w = 4 ∨ w = 8 ∨ w = 16 ∨ w = 32 ∨ w = 64)
def wf (op w num x y : Int) : Bool :=
  if op = 3 then decide (0 < w /\ trimI w num = num) else if op = 4 then true else if 25 <= op /\ op <= 29 then decide (w = x) && shB w
  else if op = 30 then decide (w = x + y) else if op = 31 then decide (0 < w /\ w <= x /\ num <= x - w) else if 32 <= op then decide (x <= w) else decide (w = mw op x y)
def vw (nm : ByteArray) : List Nd -> Option Int
  | [] => none
  | x :: r => if x.op = 4 /\ x.name = nm then some x.w else vw nm r
def nf (L : List Nd) (n : Nd) : Bool := nmB n.name && (match vw n.name L with | none => true | some u => decide (u = n.w))
def rfE (L : List Nd) (n : Nd) : Int :=
  if n.op < 1 ∨ 33 < n.op then 73 else if n.w < 0 ∨ 64 < n.w then 5 else if hp L n = false then 70 else if br n = false then 1
  else if sf n.op (wd L n.a) (wd L n.b) (wd L n.c) = false then 71 else if wf n.op n.w n.num (wd L n.a) (wd L n.b) = false then 5 else if n.op = 4 /\ nf L n = false then 72 else 0
def pos (n : Nd) : List Nd -> Option Nat
  | [] => none
  | x :: r => @ite _ (x = n) (ndDec x n) (some 0) ((pos n r).map (· + 1))
def mk (lim : Int) (L : List Nd) (n : Nd) : List Nd × Int × Int :=
  if rfE L n ≠ 0 then (L,0,rfE L n) else match pos n L with
    | some i => (L,(i : Int) + 1,0)
    | none => if 0 < lim /\ lim <= (L.length : Int) then (L,0,4) else (L ++ [n],(L.length : Int) + 1,0)
theorem vw_snoc (nm : ByteArray) (L : List Nd) (n : Nd) : vw nm (L ++ [n]) = match vw nm L with | some u => some u | none => if n.op = 4 /\ n.name = nm then some n.w else none := by
  induction L with
  | nil => rfl
  | cons x r ih =>
    rw [List.cons_append,vw,vw]
    by_cases h : x.op = 4 /\ x.name = nm
    · rw [if_pos h,if_pos h]
    rw [if_neg h,if_neg h,ih]
theorem pos_snoc (m n : Nd) (L : List Nd) : pos m (L ++ [n]) = match pos m L with | some i => some i | none => @ite _ (n = m) (ndDec n m) (some L.length) none := by
  induction L with
  | nil =>
    show pos m [n] = _
    unfold pos
    by_cases h : n = m
    · rw [if_pos h]; simp [h]
    rw [if_neg h]; simp [pos,h]
  | cons x r ih =>
    rw [List.cons_append,pos,pos]
    by_cases h : x = m
    · rw [if_pos h,if_pos h]
    rw [if_neg h,if_neg h,ih]; cases pos m r with
    | some i => rfl
    | none =>
      by_cases h2 : n = m
      · simp [h2]
      simp [h2]
theorem pos_lt {n : Nd} : ∀ {L : List Nd} {i : Nat},pos n L = some i -> i < L.length /\ L.getD i z0 = n
  | [],i,h => by cases h
  | x :: r,i,h => by
    unfold pos at h
    by_cases e : x = n
    · rw [if_pos e] at h
      cases h; exact ⟨by simp,by simpa using e⟩
    rw [if_neg e] at h; cases hr : pos n r with
    | none => rw [hr] at h; cases h
    | some j =>
      rw [hr] at h; cases h; obtain ⟨h1,h2⟩ := pos_lt hr; exact ⟨by simp; omega,by simpa using h2⟩
theorem wd_none {L : List Nd} {t : Int} (h : isT L t = false) : wd L t = 0 := by unfold wd; rw [h]; rfl
theorem isT_zero (L : List Nd) : isT L 0 = false := by unfold isT; exact decide_eq_false (by omega)
def Wds (L : List Nd) : Prop := ∀ n ∈ L,0 <= n.w /\ n.w <= 64
theorem getD_mem' {L : List Nd} {i : Nat} (h : i < L.length) : L.getD i z0 ∈ L := by
  rw [List.getD_eq_getElem?_getD,List.getElem?_eq_getElem h]; exact List.getElem_mem _
theorem wd_lo {L : List Nd} (h : Wds L) (t : Int) : 0 <= wd L t /\ wd L t <= 64 := by
  unfold wd
  split
  · rename_i ht
    have h1 : 1 <= t /\ t <= (L.length : Int) := of_decide_eq_true ht; exact h _ (getD_mem' (by omega))
  omega
theorem mk_len (lim : Int) (L : List Nd) (n : Nd) : (mk lim L n).1.length <= L.length + 1 := by
  unfold mk
  split
  · simp
  split
  · simp
  split <;> simp
theorem op_cases {op : Int} (h1 : 1 <= op) (h2 : op <= 33) : op = 1 ∨ op = 2 ∨ op = 3 ∨ op = 4 ∨ op = 5 ∨ op = 6 ∨ op = 7 ∨ op = 8 ∨ op = 9 ∨ op = 10 ∨ op = 11 ∨ op = 12 ∨ op = 13 ∨ op = 14 ∨ op = 15 ∨ op = 16 ∨ op = 17 ∨ op = 18 ∨ op = 19 ∨ op = 20 ∨ op = 21 ∨ op = 22 ∨ op = 23 ∨ op = 24 ∨ op = 25 ∨ op = 26 ∨ op = 27 ∨ op = 28 ∨ op = 29 ∨ op = 30 ∨ op = 31 ∨ op = 32 ∨ op = 33 := by omega
end Go.Tm
namespace Go.Bd
def dv (b : Nat) (c : UInt8) : Option Nat :=
  if 48 <= c.toNat /\ c.toNat <= 57 then (if c.toNat - 48 < b then some (c.toNat - 48) else none)
  else if 97 <= c.toNat /\ c.toNat <= 102 then (if c.toNat - 87 < b then some (c.toNat - 87) else none)
  else if 65 <= c.toNat /\ c.toNat <= 70 then (if c.toNat - 55 < b then some (c.toNat - 55) else none)
  else none
def pU (b : Nat) : Nat -> List UInt8 -> Option Nat
  | acc,[] => some acc
  | acc,c :: cs => match dv b c with
    | none => none
    | some d => if 18446744073709551616 <= acc * b + d then none else pU b (acc * b + d) cs
theorem pU_none (b acc : Nat) (c : UInt8) (cs : List UInt8) (h : dv b c = none) : pU b acc (c :: cs) = none := by simp [pU,h]
theorem pU_big (b acc d : Nat) (c : UInt8) (cs : List UInt8) (h : dv b c = some d) (ho : 18446744073709551616 <= acc * b + d) : pU b acc (c :: cs) = none := by simp [pU,h,ho]
theorem pU_more (b acc d : Nat) (c : UInt8) (cs : List UInt8) (h : dv b c = some d) (ho : ¬ 18446744073709551616 <= acc * b + d) : pU b acc (c :: cs) = pU b (acc * b + d) cs := by simp [pU,h,ho]
theorem low_fin : ∀ c : Fin 256,bits .or .u8 (c.val : Int) 32 = (if c.val / 32 % 2 = 0 then (c.val : Int) + 32 else c.val) := by decide +kernel
theorem low_val (c : UInt8) : bits .or .u8 (c.toNat : Int) 32 = (if c.toNat / 32 % 2 = 0 then (c.toNat : Int) + 32 else c.toNat) := low_fin ⟨c.toNat,c.toNat_lt⟩
end Go.Bd
namespace Go.Tm
open Go.Bd

def wgo (cur : List UInt8) : List UInt8 -> List (List UInt8)
  | [] => if cur = [] then [] else [cur]
  | c :: r => if c = 32 then (if cur = [] then wgo [] r else cur :: wgo [] r) else wgo (cur ++ [c]) r
def wds (l : List UInt8) : List (List UInt8) := wgo [] l
def lgo (cur : List UInt8) : List UInt8 -> List (List UInt8)
  | [] => if cur = [] then [] else [cur]
  | c :: r => if c = 10 then cur :: lgo [] r else lgo (cur ++ [c]) r
theorem index_one (b : UInt8) : ∀ l : List UInt8,(Lib.index l [b] = -1 /\ ∀ c ∈ l,c ≠ b) ∨ ∃ k : Nat,Lib.index l [b] = (k : Int) /\ k < l.length /\ (∀ c ∈ l.take k,c ≠ b) /\ ∃ r,l.drop k = b :: r
  | [] => Or.inl ⟨rfl,fun c hc => by cases hc⟩
  | a :: l => by
    by_cases hb : a = b
    · right
      refine ⟨0,?_,by simp,fun c hc => by simp at hc,l,by rw [hb]; rfl⟩; unfold Lib.index; rw [if_pos (by rw [hb]; simp [List.isPrefixOf])]
      rfl
    have hp : [b].isPrefixOf (a :: l) = false := by
      show ((b == a) && [].isPrefixOf l) = false
      rw [show (b == a) = false by simp; exact fun e => hb e.symm]
      rfl
    have e0 : Lib.index (a :: l) [b] = if Lib.index l [b] == -1 then -1 else Lib.index l [b] + 1 := by
      rw [Lib.index,if_neg (by rw [hp]; simp)]
    rcases index_one b l with ⟨h1,h2⟩ | ⟨k,h1,h2,h3,r,h4⟩
    · left
      refine ⟨by rw [e0,h1]; rfl,fun c hc => ?_⟩
      rcases List.mem_cons.1 hc with e | e
      · rw [e]; exact hb
      exact h2 c e
    right
    refine ⟨k + 1,?_,by simp; omega,fun c hc => ?_,r,by rw [List.drop_succ_cons]; exact h4⟩
    · rw [e0,h1,if_neg (by simp)]
      omega
    rw [List.take_succ_cons] at hc
    rcases List.mem_cons.1 hc with e | e
    · rw [e]; exact hb
    exact h3 c e
theorem cut_one (b : UInt8) (l : List UInt8) : (∃ u r,l = u ++ b :: r /\ (∀ c ∈ u,c ≠ b) /\ (Lib.cut l [b]).1 = u /\ (Lib.cut l [b]).2.1 = r) ∨ ((∀ c ∈ l,c ≠ b) /\ (Lib.cut l [b]).1 = l /\ (Lib.cut l [b]).2.1 = []) := by
  rcases index_one b l with ⟨h1,h2⟩ | ⟨k,h1,h2,h3,r,h4⟩
  · right
    have e : Lib.cut l [b] = (l,[],false) := by unfold Lib.cut; rw [h1]; rfl
    exact ⟨h2,by rw [e],by rw [e]⟩
  left
  have e : Lib.cut l [b] = (l.take k,l.drop (k + 1),true) := by
    unfold Lib.cut; rw [h1]
    simp
  refine ⟨l.take k,r,?_,h3,by rw [e],?_⟩
  · rw [<- h4,List.take_append_drop]
  rw [e]
  show l.drop (k + 1) = r
  rw [<- List.drop_drop,h4]
  rfl
theorem wgo_blanks : ∀ {b r : List UInt8},(∀ c ∈ b,c = 32) -> wgo [] (b ++ r) = wgo [] r
  | [],_,_ => rfl
  | c :: b,r,h => by
    rw [List.cons_append,wgo,if_pos (h c (List.mem_cons_self ..)),if_pos rfl]; exact wgo_blanks (fun d hd => h d (List.mem_cons_of_mem _ hd))
theorem wgo_signs : ∀ {u cur r : List UInt8},(∀ c ∈ u,c ≠ 32) -> wgo cur (u ++ r) = wgo (cur ++ u) r
  | [],cur,r,_ => by rw [List.nil_append,List.append_nil]
  | c :: u,cur,r,h => by
    rw [List.cons_append,wgo,if_neg (h c (List.mem_cons_self ..)),wgo_signs (fun d hd => h d (List.mem_cons_of_mem _ hd)),List.append_assoc]
    rfl
theorem lgo_signs : ∀ {u cur r : List UInt8},(∀ c ∈ u,c ≠ 10) -> lgo cur (u ++ r) = lgo (cur ++ u) r
  | [],cur,r,_ => by rw [List.nil_append,List.append_nil]
  | c :: u,cur,r,h => by
    rw [List.cons_append,lgo,if_neg (h c (List.mem_cons_self ..)),lgo_signs (fun d hd => h d (List.mem_cons_of_mem _ hd)),List.append_assoc]
    rfl
theorem trim_split (l : List UInt8) : ∃ b,l = b ++ Lib.trimLeftB l 32 /\ (∀ c ∈ b,c = 32) := by
  unfold Lib.trimLeftB
  induction l with
  | nil => exact ⟨[],rfl,fun c hc => by cases hc⟩
  | cons a l ih =>
    rw [List.dropWhile_cons]
    by_cases h : a = 32
    · rw [if_pos (by simp [h])]
      obtain ⟨b,e,hb⟩ := ih; refine ⟨a :: b,by rw [List.cons_append,<- e],fun c hc => ?_⟩
      rcases List.mem_cons.1 hc with e2 | e2
      · rw [e2]; exact h
      exact hb c e2
    rw [if_neg (by simp [h])]; exact ⟨[],rfl,fun c hc => by cases hc⟩
theorem trim_head (l : List UInt8) : Lib.trimLeftB l 32 = [] ∨ ∃ c r,Lib.trimLeftB l 32 = c :: r /\ c ≠ 32 := by
  unfold Lib.trimLeftB
  induction l with
  | nil => exact Or.inl rfl
  | cons a l ih =>
    rw [List.dropWhile_cons]
    by_cases h : a = 32
    · rw [if_pos (by simp [h])]
      exact ih
    rw [if_neg (by simp [h])]; exact Or.inr ⟨a,l,rfl,h⟩
theorem wds_trim (l : List UInt8) : wds (Lib.trimLeftB l 32) = wds l := by
  obtain ⟨b,e,hb⟩ := trim_split l; unfold wds
  conv => rhs; rw [e]
  exact (wgo_blanks hb).symm
theorem wds_nil {l : List UInt8} (h : Lib.trimLeftB l 32 = []) : wds l = [] := by rw [<- wds_trim,h]; rfl
theorem wds_cut {l : List UInt8} (h : Lib.trimLeftB l 32 ≠ []) : wds l = (Lib.cut (Lib.trimLeftB l 32) [32]).1 :: wds (Lib.cut (Lib.trimLeftB l 32) [32]).2.1 := by
  rw [<- wds_trim]
  rcases trim_head l with e | ⟨c,r,e,hc⟩
  · exact absurd e h
  generalize Lib.trimLeftB l 32 = m at *
  rcases cut_one 32 m with ⟨u,r2,e2,hu,e3,e4⟩ | ⟨hu,e3,e4⟩
  · have hne : u ≠ [] := fun hn => by
      rw [hn,e] at e2
      simp at e2
      exact hc e2.1
    rw [e3,e4]; unfold wds
    conv => lhs; rw [e2]
    rw [wgo_signs hu,List.nil_append,wgo,if_pos rfl,if_neg hne]
  rw [e3,e4]; unfold wds; have hm : wgo [] (m ++ []) = wgo ([] ++ m) [] := wgo_signs hu; rw [List.append_nil,List.nil_append] at hm; rw [hm,wgo,if_neg h,wgo,if_pos rfl]
theorem wds_ne {l : List UInt8} (h : Lib.trimLeftB l 32 ≠ []) : wds l ≠ [] := by rw [wds_cut h]; simp
theorem lgo_cut {l : List UInt8} (h : l ≠ []) : lgo [] l = (Lib.cut l [10]).1 :: lgo [] (Lib.cut l [10]).2.1 := by
  rcases cut_one 10 l with ⟨u,r,e,hu,e3,e4⟩ | ⟨hu,e3,e4⟩
  · rw [e3,e4]
    conv => lhs; rw [e]
    rw [lgo_signs hu,List.nil_append,lgo,if_pos rfl]
  rw [e3,e4]; have hm : lgo [] (l ++ []) = lgo ([] ++ l) [] := lgo_signs hu; rw [List.append_nil,List.nil_append] at hm; rw [hm,lgo,if_neg h,lgo,if_pos rfl]
theorem lgo_nil {l : List UInt8} : lgo [] l = [] ↔ l = [] := by
  constructor
  · intro h
    by_cases e : l = []
    · exact e
    rw [lgo_cut e] at h; cases h
  intro e; rw [e]
  rfl
theorem cut_le (b : UInt8) (l : List UInt8) : (Lib.cut l [b]).1.length <= l.length /\ (Lib.cut l [b]).2.1.length <= l.length /\ (l ≠ [] -> (Lib.cut l [b]).2.1.length < l.length) := by
  rcases cut_one b l with ⟨u,r,e,hu,e3,e4⟩ | ⟨hu,e3,e4⟩
  · rw [e3,e4,e]
    simp
    omega
  rw [e3,e4]; refine ⟨Nat.le_refl _,by simp,fun h => ?_⟩; have := List.length_pos_iff.2 h
  simpa using this
end Go.Tm
