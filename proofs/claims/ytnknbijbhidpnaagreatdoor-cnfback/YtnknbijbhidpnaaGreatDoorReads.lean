import Derived.Test.YtnknbijbhidpnaaGreatDoorWalks
import Derived.Test.YtnknbijbhidpnaaGreatDoorMathF
import Derived.Deep.Draws
import Derived.Deep.QuietTactic
namespace Go.Proofs.YtnknbijbhidpnaaGreatDoor
open Go.ChangeShapes Go.WideShapes Go.ChangeAt Go.RowKit Go.Cn

/-- a slice's numbers: nil, empty or not -/
def Ints (w : World) (ad : Option Addr) (xs : List Int) : Prop :=
  0 < xs.length → ∃ b off, ad = some ⟨b, off, none⟩ ∧ b < w.heap.size ∧ ∀ j, j < xs.length → w.cell? ⟨b, off + j, none⟩ = some (.int .i64 (xs.getD j 0))
theorem Ints.below {w w' : World} {ad : Option Addr} {xs : List Int} (h : Ints w ad xs) (hb : Below w.heap.size w w') : Ints w' ad xs := by
  intro h0
  obtain ⟨b, off, e, hlt, hc⟩ := h h0
  exact ⟨b, off, e, Nat.lt_of_lt_of_le hlt hb.size, fun j hj => (hb.cell (p := ⟨b, off + j, none⟩) hlt).trans (hc j hj)⟩
theorem Ints.drewN {w : World} {ad : Option Addr} {xs : List Int} (h : Ints w ad xs) (n : Nat) : Ints (w.drewN n) ad xs := h

end Go.Proofs.YtnknbijbhidpnaaGreatDoor
