import Derived.Test.YtpkbigjijihljabPA
import Derived.WalkSpells
import Derived.LoopTactic
import Derived.Deep.LoopGhost
namespace Go.Proofs.Ytpkbigjijihljab
open Go.ChangeShapes Go.WideShapes Go.ChangeAt Go.RowKit
/-- the document's trail -/
def Trl (w : World) (ad : Option Addr) (tr : List (Int × Int)) : Prop :=
  0 < tr.length → ∃ b, ad = some ⟨b, 0, none⟩ ∧ b < w.heap.size ∧ ∀ j, j < tr.length → w.cell? ⟨b, j * 2, none⟩ = some (.int .i64 (tr.getD j (0, 0)).1) ∧ w.cell? ⟨b, j * 2 + 1, none⟩ = some (.int .i64 (tr.getD j (0, 0)).2)
def rof (l : Int) : List (Int × Int) → Int
  | [] => 0
  | x :: t => if x.1 = l then 1 else if x.1 = -l then -1 else rof l t
def rlev (v : Int) : List (Int × Int) → Int
  | [] => -1
  | x :: t => if x.1 = v ∨ x.1 = -v then x.2 else rlev v t
theorem drop_consP (tr : List (Int × Int)) (k : Nat) (h : k < tr.length) : tr.drop k = tr.getD k (0, 0) :: tr.drop (k + 1) := by
  rw [List.drop_eq_getElem_cons h]; simp [List.getD_eq_getElem?_getD, h]
end Go.Proofs.Ytpkbigjijihljab
