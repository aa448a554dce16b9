import Derived.Test.YtfljcdccepnidaaGreatDoorWtK
namespace Go.Proofs.YtfljcdccepnidaaGreatDoor
open Go.ChangeShapes Go.WideShapes Go.ChangeAt Go.RowKit Go.Lib Go.WideMaps Go.Maps Go.ChangeMaps

end Go.Proofs.YtfljcdccepnidaaGreatDoor
namespace Go.Proofs.YtfljcdccepnidaaGreatDoor
open Go.ChangeShapes Go.WideShapes Go.ChangeAt Go.RowKit Go.Lib Go.WideMaps Go.Maps Go.ChangeMaps

theorem RP.mono {w : World} {P P' : Nat -> Prop} {N n : Nat} (hP : ∀ j,P j -> P' j) {p : Pg} {cs : List Value} (h : RP w P N n p cs) : RP w P' N n p cs := by
  obtain ⟨vD,vB,e,h1,h2⟩ := h; exact ⟨vD,vB,e,h1.mono hP,h2.mono hP⟩
theorem RP.shape {w : World} {P : Nat -> Prop} {N n : Nat} {p : Pg} {cs : List Value} (h : RP w P N n p cs) : ∃ a1 c1 a2 c2,cs = [.string p.s,.int .i64 p.wd,.int .i64 p.ln,.slice a1 p.Ds.length c1,.slice a2 p.Bs.length c2] := by
  obtain ⟨vD,vB,rfl,⟨a1,c1,rfl,_⟩,h2⟩ := h; obtain ⟨a2,c2,rfl⟩ := h2.form; exact ⟨a1,c1,a2,c2,rfl⟩
end Go.Proofs.YtfljcdccepnidaaGreatDoor
namespace Go.Proofs.YtfljcdccepnidaaGreatDoor
open Go.ChangeShapes Go.WideShapes Go.ChangeAt Go.RowKit Go.Lib Go.WideMaps Go.Maps Go.ChangeMaps

def cs7 (l : List Nat) : Nat := min l.sum 65537
theorem cs7_le (l : List Nat) : cs7 l <= 65537 := by unfold cs7; omega
theorem cs7_snoc (l : List Nat) (x : Nat) : cs7 (l ++ [x]) = min (cs7 l + x) 65537 := by
  unfold cs7; rw [List.sum_append]
  simp
  omega
def tmS (d : Sd) : Nat := min (IntKind.u64.wrap (d.hi - d.lo)).toNat 65537
def stR (d : Sd) (T E : List Nat) : Nat := if d.k = 1 then 1 + d.E.length else if d.k = 2 then 1 + (d.A.length + d.E.length) else if d.k = 3 then 1 + (d.E.length + cs7 T + cs7 E) else if d.k = 4 then (if d.lo < d.hi then 1 + tmS d * (1 + cs7 T) else 1) else 1
def gS (d : Sd) (st : List Nat) : List Nat := stR d (st.take d.mT) ((st.drop d.mT).take d.mE) :: st.drop (d.mT + d.mE)
def vS (S : List Sd) : Nat := (S.foldr gS []).headD 0
theorem fold_rows (Bs : List (List Sd)) (h : ∀ j,j < Bs.length -> ∀ st,(Bs.getD j []).foldr gS st = vS (Bs.getD j []) :: st) : ∀ st,Bs.flatten.foldr gS st = Bs.map vS ++ st := by
  induction Bs with
  | nil => intro st; rfl
  | cons S r ih =>
    intro st; rw [List.flatten_cons,List.foldr_append,ih (fun j hj st => h (j + 1) (by simpa using hj) st)]; exact h 0 (by simp) _
theorem fold_one (d : Sd) (BT BE : List (List Sd)) (hT : ∀ st,BT.flatten.foldr gS st = BT.map vS ++ st) (hE : ∀ st,BE.flatten.foldr gS st = BE.map vS ++ st) (h1 : d.mT = BT.length) (h2 : d.mE = BE.length) (st : List Nat) : (d :: (BT.flatten ++ BE.flatten)).foldr gS st = stR d (BT.map vS) (BE.map vS) :: st := by
  rw [List.foldr_cons,List.foldr_append,hE,hT]; unfold gS; have e1 : (BT.map vS).length = d.mT := by rw [List.length_map,h1]
  have e2 : (BE.map vS).length = d.mE := by rw [List.length_map,h2]
  rw [List.take_left' e1,List.drop_left' e1,List.take_left' e2,<- List.drop_drop,List.drop_left' e1,List.drop_left' e2]
theorem RB.fold {w : World} {P : Nat -> Prop} {N : Nat} : ∀ {n : Nat} {Bs : List (List Sd)} {v : Value},RB w P N n Bs v -> ∀ st,Bs.flatten.foldr gS st = Bs.map vS ++ st
  | 0,_,_,h => h.elim
  | n + 1,Bs,v,h => by
    obtain ⟨ad,cap,_,h3⟩ := h; refine fold_rows Bs (fun j hj st => ?_); obtain ⟨b,o,_,_,hc⟩ := h3 (by omega); obtain ⟨vs,_,_,k,s,a0,a1,a2,a3,e0,e1,e2,e3,lo,hi,t1,t2,LA,LE,BT,BE,hS,_,_,_,hT,hE⟩ := hc j hj; rw [hS]; unfold vS; have hf := fold_one ⟨k,s,LA,LE,lo,hi,BT.length,BE.length⟩ BT BE (RB.fold hT) (RB.fold hE) rfl rfl; rw [hf st,hf []]
    rfl
theorem vS_is {w : World} {P : Nat -> Prop} {N n : Nat} {k : Int} {s : ByteArray} {LA LE : List Nd} {lo hi : Int} {BT BE : List (List Sd)} {t1 t2 : Value} (hT : RB w P N n BT t1) (hE : RB w P N n BE t2) : vS (⟨k,s,LA,LE,lo,hi,BT.length,BE.length⟩ :: (BT.flatten ++ BE.flatten)) = stR ⟨k,s,LA,LE,lo,hi,BT.length,BE.length⟩ (BT.map vS) (BE.map vS) := by
  unfold vS; have hf := fold_one ⟨k,s,LA,LE,lo,hi,BT.length,BE.length⟩ BT BE (RB.fold hT) (RB.fold hE) rfl rfl; rw [hf []]
  rfl
theorem cut_any (x : Nat) (w : World) : Calls Tryz.prog 59 #[.int .i64 (x : Int)] w fun e w' => e = .returned (.int .i64 ((min x 65537 : Nat) : Int)) /\ w' = w := by
  go_enter Tryz.func59,Tryz.ntmps59
  by_cases h : 65536 < x
  · have q1 : (x : Int) > 65536 := by omega
    have hm : min x 65537 = 65537 := by omega
    rw [hm]
    go_wp2_with fail
    first | exact ⟨rfl,rfl⟩ | (go_ret; exact ⟨rfl,rfl⟩)
  have q1 : ¬ (x : Int) > 65536 := by omega
  have hm : min x 65537 = x := by omega
  rw [hm]
  go_wp2_with fail
  first | exact ⟨rfl,rfl⟩ | (go_ret; exact ⟨rfl,rfl⟩)
def KW (w : World) (Sb : Nat) (cs : Array Value) (W : World) : Prop := Aside (Below w.heap.size w W /\ W.heap[Sb]? = some (.cells cs 46 (0,0)))
theorem KW.out {w : World} {Sb : Nat} {cs : Array Value} {W : World} (h : KW w Sb cs W) : Below w.heap.size w W /\ W.heap[Sb]? = some (.cells cs 46 (0,0)) := Aside.out h
theorem KW.drew {w : World} {Sb : Nat} {cs : Array Value} {W : World} (h : KW w Sb cs W) : KW w Sb cs W.drew := ⟨⟨h.out.1.os,h.out.1.tape,h.out.1.output,h.out.1.size,h.out.1.block⟩,h.out.2⟩
theorem KW.next {w : World} {Sb : Nat} {cs : Array Value} {W W' : World} (h : KW w Sb cs W) (hb : Below W.heap.size W W') : KW w Sb cs W' := ⟨bnx h.out.1 hb,blk_next h.out.2 hb⟩
end Go.Proofs.YtfljcdccepnidaaGreatDoor
