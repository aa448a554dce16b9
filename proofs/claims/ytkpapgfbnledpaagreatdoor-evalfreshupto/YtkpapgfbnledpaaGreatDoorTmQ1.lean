import Derived.Test.YtkpapgfbnledpaaGreatDoorTmQ0
import Derived.Test.YtkpapgfbnledpaaGreatDoorTmP
import Derived.Test.YtkpapgfbnledpaaGreatDoorTmX
import Derived.Test.YtkpapgfbnledpaaGreatDoorTmJ
namespace Go.Proofs.YtkpapgfbnledpaaGreatDoor
open Go.ChangeShapes Go.WideShapes Go.ChangeAt Go.RowKit Go.Lib Go.Tm Go.Bw Go.Bn Go.WideMaps Go.Maps Go.ChangeMaps

theorem ask_mkc (B0 B : Nat) (lim : Int) (L : List Nd) (v : Value) (M1 M2 : Option Nat) (w : World) (h : SM 78 w B0 B lim L v M1 M2) (hB0 : B0 ≤ w.heap.size) (hl : L.length < 1000000000000) : MkC 28 B w (RR 78 w B0 B lim L v M1 M2) := fun n W hn hb =>
  (make_any B0 B lim L v M1 M2 n W (h.below hb) (Nat.le_trans hB0 hb.size) hl hn).mono fun _ _ ⟨h1, h2⟩ => ⟨_, _, h1, rfl, rfl, h2.back hb⟩
end Go.Proofs.YtkpapgfbnledpaaGreatDoor
