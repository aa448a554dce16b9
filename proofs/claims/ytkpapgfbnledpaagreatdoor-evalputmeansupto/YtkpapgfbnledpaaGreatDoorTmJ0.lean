import Derived.Test.YtkpapgfbnledpaaGreatDoorTmI0
namespace Go.Proofs.YtkpapgfbnledpaaGreatDoor
open Go.ChangeShapes Go.WideShapes Go.ChangeAt Go.RowKit Go.Lib Go.Tm Go.Bw Go.Bn Go.WideMaps Go.Maps Go.ChangeMaps

theorem AddP.of_below {ty : TypeId} {w w' : World} {B0 B : Nat} {lim : Int} {L : List Nd} {v : Value} {M1 M2 : Option Nat} (h : SM ty w B0 B lim L v M1 M2) (hb : Below w.heap.size w w') : AddP ty w B0 B lim L v M1 M2 w' :=
  ⟨v,M1,M2,h.below hb,Kp.of_below hb,fun _ hk => Or.inl hk,fun _ => ⟨rfl,rfl⟩⟩
theorem AddP.back {ty : TypeId} {w W w' : World} {B0 B : Nat} {lim : Int} {L : List Nd} {v : Value} {M1 M2 : Option Nat} (hb : Below w.heap.size w W) (h : AddP ty W B0 B lim L v M1 M2 w') : AddP ty w B0 B lim L v M1 M2 w' := by
  obtain ⟨v',N1,N2,hs,hk,ho,hne⟩ := h; refine ⟨v',N1,N2,hs,⟨hk.os.trans hb.os,hk.tape.trans hb.tape,hk.output.trans hb.output,Nat.le_trans hb.size hk.size,fun k h1 hno => (hk.block k (Nat.lt_of_lt_of_le h1 hb.size) hno).trans (hb.block k h1)⟩,fun k e => ?_,hne⟩
  rcases ho k e with e2 | e2
  · exact Or.inl e2
  exact Or.inr (Nat.le_trans hb.size e2)
def MkP (ty : TypeId) (w : World) (B0 B : Nat) (lim : Int) (L : List Nd) (v : Value) (M1 M2 : Option Nat) (n : Nd) (e : Ending) (w' : World) : Prop :=
  e = .returned (.tuple #[.int .i64 (mk lim L n).2.1,.int .i64 (mk lim L n).2.2]) /\ AddP ty w B0 B lim (mk lim L n).1 v M1 M2 w'
theorem MkP.ref {ty : TypeId} {w w' : World} {B0 B : Nat} {lim : Int} {L : List Nd} {v : Value} {M1 M2 : Option Nat} {n : Nd} (h : SM ty w B0 B lim L v M1 M2) (hr : rfE L n ≠ 0) (hb : Below w.heap.size w w') : MkP ty w B0 B lim L v M1 M2 n (.returned (.tuple #[.int .i64 0,.int .i64 (rfE L n)])) w' := by
  have e : mk lim L n = (L,0,rfE L n) := by unfold mk; rw [if_pos hr]
  unfold MkP; rw [e]; exact ⟨rfl,AddP.of_below h hb⟩
theorem MkP.old {ty : TypeId} {w w' : World} {B0 B : Nat} {lim : Int} {L : List Nd} {v : Value} {M1 M2 : Option Nat} {n : Nd} {i : Nat} (h : SM ty w B0 B lim L v M1 M2) (hr : rfE L n = 0) (hp : pos n L = some i) (hb : Below w.heap.size w w') : MkP ty w B0 B lim L v M1 M2 n (.returned (.tuple #[.int .i64 ((i : Int) + 1),.int .i64 0])) w' := by
  have e : mk lim L n = (L,(i : Int) + 1,0) := by unfold mk; rw [if_neg (by omega),hp]
  unfold MkP; rw [e]; exact ⟨rfl,AddP.of_below h hb⟩
theorem MkP.full {ty : TypeId} {w w' : World} {B0 B : Nat} {lim : Int} {L : List Nd} {v : Value} {M1 M2 : Option Nat} {n : Nd} (h : SM ty w B0 B lim L v M1 M2) (hr : rfE L n = 0) (hp : pos n L = none) (hf : 0 < lim /\ lim <= (L.length : Int)) (hb : Below w.heap.size w w') : MkP ty w B0 B lim L v M1 M2 n (.returned (.tuple #[.int .i64 0,.int .i64 4])) w' := by
  have e : mk lim L n = (L,0,4) := by unfold mk; rw [if_neg (by omega),hp]; exact if_pos hf
  unfold MkP; rw [e]; exact ⟨rfl,AddP.of_below h hb⟩
theorem MkP.new {ty : TypeId} {w w' : World} {B0 B : Nat} {lim : Int} {L : List Nd} {v : Value} {M1 M2 : Option Nat} {n : Nd} (hr : rfE L n = 0) (hp : pos n L = none) (hf : ¬ (0 < lim /\ lim <= (L.length : Int))) (hA : AddP ty w B0 B lim (L ++ [n]) v M1 M2 w') : MkP ty w B0 B lim L v M1 M2 n (.returned (.tuple #[.int .i64 ((L.length : Int) + 1),.int .i64 0])) w' := by
  have e : mk lim L n = (L ++ [n],(L.length : Int) + 1,0) := by unfold mk; rw [if_neg (by omega),hp]; exact if_neg hf
  unfold MkP; rw [e]; exact ⟨rfl,hA⟩
end Go.Proofs.YtkpapgfbnledpaaGreatDoor
