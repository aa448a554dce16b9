import Derived.Test.YtkpapgfbnledpaaGreatDoorTmD
import Derived.Test.YtkpapgfbnledpaaGreatDoorRows
import Derived.WalkKit
import Derived.ProofKit
import Derived.OpenShut
import Derived.SizedLaws
import Derived.Carry
import Derived.Deep.Slices
import Derived.Deep.Strs
namespace Go.Proofs.YtkpapgfbnledpaaGreatDoor
open Go.ChangeShapes Go.WideShapes Go.ChangeAt Go.RowKit Go.Lib Go.Tm Go.Bw Go.Bn Go.WideMaps Go.Maps Go.ChangeMaps

theorem own : ownKnob Tryz.prog.godebug = none := by kernel_rfl
theorem cB : Tryz.prog.cellsOf 4 = 1 := by kernel_rfl
theorem addr_lit {w : World} {x : Addr} {v : Value} (h : w.cell? (x.add 0) = some v) : x = ⟨x.block,x.off,none⟩ := by
  obtain ⟨b,o,s⟩ := x; cases s with
  | none => rfl
  | some k =>
    simp only [World.cell?,Addr.add,if_true] at h
    split at h
    · simp at h
    cases h
structure OPR where
  k : Int
  o : Int
  a : Int
  b : Int
  c : Int
  w : Int
  t : Bool
  x : Int
  name : ByteArray
  n : Nd
def op0 : OPR := ⟨0,0,0,0,0,0,false,0,ByteArray.empty,z0⟩
def opC (o : OPR) : List Value := [.int .i64 o.k,.int .i64 o.o,.int .i64 o.a,.int .i64 o.b,.int .i64 o.c,.int .i64 o.w,.bool o.t,.int .u64 o.x,.string o.name,.int .i64 o.n.op,.int .i64 o.n.w,.int .i64 o.n.a,.int .i64 o.n.b,.int .i64 o.n.c,.int .u64 o.n.num,.string o.n.name]
structure OPR.ok (s : OPR) : Prop where
  k : I64 s.k
  o : I64 s.o
  a : I64 s.a
  b : I64 s.b
  c : I64 s.c
  w : I64 s.w
  x : U64 s.x
  name : s.name.size <= 140737488355328
  n : s.n.ok
def SCR (w : World) (B : Nat) (ad : Option Addr) (sc : List OPR) : Prop :=
  0 < sc.length -> ∃ b o,ad = some ⟨b,o,none⟩ /\ b < B /\ ∀ j,j < sc.length -> (∀ i,i < 16 -> w.cell? ⟨b,o + j * 16 + i,none⟩ = (opC (sc.getD j op0))[i]?) /\ (sc.getD j op0).ok
theorem SCR.below {w W : World} {B : Nat} {ad : Option Addr} {sc : List OPR} (h : SCR w B ad sc) (hb : Below B w W) : SCR W B ad sc := fun h0 => by
  obtain ⟨b,o,h1,h2,h3⟩ := h h0; refine ⟨b,o,h1,h2,fun j hj => ?_⟩; obtain ⟨k1,k2⟩ := h3 j hj; exact ⟨fun i hi => (World.cell?_of_block (w' := W) (w := w) (a := ⟨b,o + j * 16 + i,none⟩) (hb.block b h2)).trans (k1 i hi),k2⟩
end Go.Proofs.YtkpapgfbnledpaaGreatDoor
