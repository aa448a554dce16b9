import Derived.Test.YtfljcdccepnidaaGreatDoorWtH
namespace Go.Proofs.YtfljcdccepnidaaGreatDoor
open Go.ChangeShapes Go.WideShapes Go.ChangeAt Go.RowKit Go.Lib

theorem OTH.below {Sb B : Nat} {w w' : World} (h : OTH Sb w w') (hB : B <= w.heap.size) (hS : B <= Sb) : Below B w w' := ⟨h.os,h.tape,h.output,h.size,fun j hj => h.block j (by omega) (by omega)⟩
theorem new_row (w : World) (xs : List Value) (t : TypeId) : ∀ j u,xs[j]? = some u -> (w.alloc (.cells xs.toArray t)).cell? ((⟨w.heap.size,0,none⟩ : Addr).add j) = some u := fun j u hu => by
  rw [Addr.add_lit,cell_of (heap_alloc_new w _),Nat.zero_add]
  simpa using hu
end Go.Proofs.YtfljcdccepnidaaGreatDoor
