import Derived.Test.YtkpapgfbnledpaaGreatDoorTmE3
import Derived.Deep.RegionWith
import Derived.BigQuiet
namespace Go.Proofs.YtkpapgfbnledpaaGreatDoor
open Go.ChangeShapes Go.WideShapes Go.ChangeAt Go.RowKit Go.Lib Go.Tm Go.Bw Go.Bn Go.WideMaps Go.Maps Go.ChangeMaps

end Go.Proofs.YtkpapgfbnledpaaGreatDoor
namespace Go.Proofs.YtkpapgfbnledpaaGreatDoor
open Go.ChangeShapes Go.WideShapes Go.ChangeAt Go.RowKit Go.Lib Go.Tm Go.Bw Go.Bn Go.WideMaps Go.Maps Go.ChangeMaps

theorem hp_a {L : List Nd} {n : Nd} (h : hp L n = true) (h1 : 1 <= pt n.op) : isT L n.a = true := by
  unfold hp at h; have e : decide (pt n.op < 1) = false := decide_eq_false (by omega); rw [e] at h
  simp at h
  exact h.1
theorem hp_b {L : List Nd} {n : Nd} (h : hp L n = true) (h1 : 2 <= pt n.op) : isT L n.b = true := by
  unfold hp at h; have e : decide (pt n.op < 2) = false := decide_eq_false (by omega); rw [e] at h
  simp at h
  exact h.2.1
theorem hp_c {L : List Nd} {n : Nd} (h : hp L n = true) (h1 : 3 <= pt n.op) : isT L n.c = true := by
  unfold hp at h; have e : decide (pt n.op < 3) = false := decide_eq_false (by omega); rw [e] at h
  simp at h
  exact h.2.2
end Go.Proofs.YtkpapgfbnledpaaGreatDoor
