import Derived.Test.YtkpapgfbnledpaaGreatDoorTmJ0
import Derived.Test.YtkpapgfbnledpaaGreatDoorTmO
import Derived.Test.YtkpapgfbnledpaaGreatDoorTmW
namespace Go.Proofs.YtkpapgfbnledpaaGreatDoor
open Go.ChangeShapes Go.WideShapes Go.ChangeAt Go.RowKit Go.Lib Go.Tm Go.Bw Go.Bn Go.WideMaps Go.Maps Go.ChangeMaps

def nodeOf (L : List Nd) (o : OPR) : Option Nd :=
  if o.k = 1 then some o.n
  else if o.k = 2 then some ⟨if o.t = true then 1 else 2,0,0,0,0,0,ByteArray.empty⟩
  else if o.k = 3 then some ⟨3,o.w,0,0,0,trimI o.w o.x,ByteArray.empty⟩
  else if o.k = 4 then some ⟨4,o.w,0,0,0,0,o.name⟩
  else if o.k = 5 then (if o.o = 5 ∨ o.o = 15 ∨ o.o = 16 then some ⟨o.o,mw o.o (wd L o.a) (wd L 0),o.a,0,0,0,ByteArray.empty⟩ else none)
  else if o.k = 6 then (if pt o.o = 2 then some ⟨o.o,mw o.o (wd L o.a) (wd L o.b),o.a,o.b,0,0,ByteArray.empty⟩ else none)
  else if o.k = 7 then some ⟨14,mw 14 (wd L o.a) (wd L o.b),o.a,o.b,o.c,0,ByteArray.empty⟩
  else if o.k = 8 then some ⟨31,o.c,o.a,0,0,IntKind.u64.wrap o.b,ByteArray.empty⟩
  else if o.k = 9 then (if o.o = 32 ∨ o.o = 33 then some ⟨o.o,o.w,o.a,0,0,0,ByteArray.empty⟩ else none)
  else none
def res (lim : Int) (L : List Nd) (o : OPR) : List Nd × Int × Int :=
  match nodeOf L o with
  | some n => mk lim L n
  | none => (L,0,if 1 <= o.k /\ o.k <= 9 then 73 else 0)
def CallP (ty : TypeId) (w : World) (B0 B : Nat) (lim : Int) (L : List Nd) (v : Value) (M1 M2 : Option Nat) (o : OPR) (e : Ending) (w' : World) : Prop :=
  e = .returned (.tuple #[.int .i64 (res lim L o).2.1,.int .i64 (res lim L o).2.2]) /\ AddP ty w B0 B lim (res lim L o).1 v M1 M2 w'
theorem CallP.tuple {ty : TypeId} {w : World} {B0 B : Nat} {lim : Int} {L : List Nd} {v : Value} {M1 M2 : Option Nat} {o : OPR} (e : Ending) (w' : World) (h : CallP ty w B0 B lim L v M1 M2 o e w') : ∃ p q,e = .returned (.tuple #[.int .i64 p,.int .i64 q]) := ⟨_,_,h.1⟩
theorem U_of {x : Int} (h : U64 x) : U x := ⟨h.1,by have := h.2; omega⟩
end Go.Proofs.YtkpapgfbnledpaaGreatDoor
