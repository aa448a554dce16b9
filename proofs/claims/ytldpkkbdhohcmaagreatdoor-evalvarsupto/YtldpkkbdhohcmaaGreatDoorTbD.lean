import Derived.Test.YtldpkkbdhohcmaaGreatDoorTlB
namespace Go.Proofs.YtldpkkbdhohcmaaGreatDoor
open Go.Lib Go.Tm Go.Bw Go.Bn Go.Bd

/-- each node was made of those ahead of it,and stands for the first time -/
def GoodL (L : List Nd) : Prop := ∀ i,i < L.length -> rfE (L.take i) (L.getD i z0) = 0 /\ pos (L.getD i z0) (L.take i) = none
theorem good_snoc {L : List Nd} {n : Nd} (h : GoodL L) (h1 : rfE L n = 0) (h2 : pos n L = none) : GoodL (L ++ [n]) := fun i hi => by
  rw [List.length_append,List.length_singleton] at hi
  by_cases hlt : i < L.length
  · have h3 := h i hlt
    rw [List.take_append_of_le_length (by omega),List.getD_eq_getElem?_getD,List.getElem?_append_left hlt,<- List.getD_eq_getElem?_getD]; exact h3
  obtain rfl : i = L.length := by omega
  rw [List.take_left',List.getD_eq_getElem?_getD,List.getElem?_append_right (Nat.le_refl _)]
  · simp
    exact ⟨h1,h2⟩
  rfl
theorem good_mk {lim : Int} {L : List Nd} {n : Nd} (h : GoodL L) : GoodL (mk lim L n).1 := by
  unfold mk
  split
  · exact h
  rename_i h1
  split
  · exact h
  rename_i hp
  split
  · exact h
  exact good_snoc h (by omega) hp
end Go.Proofs.YtldpkkbdhohcmaaGreatDoor
namespace Go.Proofs.YtldpkkbdhohcmaaGreatDoor
open Go.Lib Go.Tm Go.Bw Go.Bn Go.Bd

end Go.Proofs.YtldpkkbdhohcmaaGreatDoor
namespace Go.Proofs.YtldpkkbdhohcmaaGreatDoor
open Go.Lib Go.Tm Go.Bw Go.Bn Go.Bd

/-- an order: terms,each but once,behind its parts -/
structure ORD (L : List Nd) (O : List Nat) : Prop where
  rng : ∀ j,j < O.length -> 1 <= O.getD j 0 /\ O.getD j 0 <= L.length
  nod : ∀ i j,i < O.length -> j < O.length -> O.getD i 0 = O.getD j 0 -> i = j
  par : ∀ i,i < O.length -> ∀ p,(p = (L.getD (O.getD i 0 - 1) z0).a ∨ p = (L.getD (O.getD i 0 - 1) z0).b ∨ p = (L.getD (O.getD i 0 - 1) z0).c) -> p = 0 ∨ ∃ j,j < i /\ p = ((O.getD j 0 : Nat) : Int)
section
variable {L : List Nd} {O : List Nat}
end
end Go.Proofs.YtldpkkbdhohcmaaGreatDoor
