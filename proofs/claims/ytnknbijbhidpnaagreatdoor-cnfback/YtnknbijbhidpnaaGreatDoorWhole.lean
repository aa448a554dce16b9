import Derived.Test.YtnknbijbhidpnaaGreatDoorLendF
namespace Go.Proofs.YtnknbijbhidpnaaGreatDoor
open Go.ChangeShapes Go.WideShapes Go.ChangeAt Go.RowKit Go.Cn

/-- a formula that came in -/
structure Fm (w : World) (ad : Option Addr) (cs : List (List Int)) : Prop where
  cls : ClsS w ad cs
  len : cs.length ≤ 5864062014805
  each : ∀ j, j < cs.length → (cs.getD j []).length ≤ 17592186044416
theorem Lent.dn {w : World} {g : Nat} {xs : List Int} (h : Lent w g xs) (m : Nat) : Lent (w.drewN m) g xs := by
  obtain ⟨B, h⟩ := h
  exact ⟨B, own_dn h m⟩
end Go.Proofs.YtnknbijbhidpnaaGreatDoor
