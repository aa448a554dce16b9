import Derived.Test.YtokpjegiinggdaaGreatDoorOwn
import Derived.Test.YtokpjegiinggdaaGreatDoorOne
import Derived.Deep.RegionLaw
import Derived.Deep.AppendLies
namespace Go.Proofs.YtokpjegiinggdaaGreatDoor
open Go.ChangeShapes Go.WideShapes Go.ChangeAt Go.RowKit Go.Cn

def AsPost (vars : Int) (cs : List (List Int)) (l : Int) (w : World) : Ending → World → Prop := fun e w' =>
  ∃ v L, e = .returned (.tuple #[.agg #[.int .i64 (asV vars cs l), v], .int .i64 (asE vars cs l)]) ∧ OwnL w' w.heap.size v L (asC vars cs l) ∧ Below w.heap.size w w'
structure ASt (w w2 wr : World) (vars : Int) (v5 : Value) (L : List Value) (cs : List (List Int)) : Prop where
  r1 : wr.heap[w.heap.size + 1]? = some (.cells #[.int .i64 0, .slice none 0 0] 24 (0, 0))
  r5 : wr.heap[w2.heap.size]? = some (.cells #[.int .i64 vars, v5] 24 (0, 0))
  own : OwnL wr w.heap.size v5 L cs
  below : Below w.heap.size w wr
  size : w2.heap.size + 1 ≤ wr.heap.size
theorem ASt.step {w w2 wr w6 w7 : World} {vars : Int} {ad5 : Option Addr} {m cap5 gg cap7 : Nat} {L : List Value} {cs : List (List Int)} {x : Value} {D : List Int} (H : ASt w w2 wr vars (.slice ad5 m cap5) L cs) (hm : cs.length = m) (hs2 : w.heap.size + 2 ≤ w2.heap.size)
    (hb6 : Below wr.heap.size wr.drew w6) (ho6 : w6.ownsRow wr.heap.size 3 1 x D.length (D.map (Value.int .i64))) (ho7 : w7.ownsRow w.heap.size 36 1 (.slice (some ⟨gg, 0, none⟩) (m + 1) cap7) (m + 1) (L ++ [x]))
    (hg : (w6.alloc (.cells #[x] 36)).grownBy w7 (Value.slice ad5 m cap5).ownBlock) (h7 : w7.heap[w2.heap.size]? = some (.cells #[.int .i64 vars, .slice ad5 m cap5] 24 (0, 0))) :
    ASt w w2 (w7.setCell ⟨w2.heap.size, 1, none⟩ (.slice (some ⟨gg, 0, none⟩) (m + 1) cap7)) vars (.slice (some ⟨gg, 0, none⟩) (m + 1) cap7) (L ++ [x]) (cs ++ [D]) := by
  subst hm
  have b6 : Below wr.heap.size wr w6 := ⟨hb6.os, hb6.tape, hb6.output, hb6.size, hb6.block⟩
  have hs5 := H.size
  have hb5 := H.below.size
  have hs6 := b6.size
  have hal : Below w6.heap.size w6 (w6.alloc (.cells #[x] 36)) := (Below.refl _ _).alloc (Nat.le_refl _) _
  have hne1 : (Value.slice ad5 cs.length cap5).ownBlock ≠ some (w.heap.size + 1) := row_ne_blk H.own.row H.r1 (by decide)
  have hsn : OwnL w7 w.heap.size (.slice (some ⟨gg, 0, none⟩) (cs.length + 1) cap7) (L ++ [x]) (cs ++ [D]) := OwnL.snoc ((H.own.below b6).below hal) (own_below (own_up ho6 hb5) hal) ho7 hg
  have hsz := hg.size
  rw [sz1] at hsz
  refine ⟨?_, ?_, ?_, ?_, ?_⟩
  · rw [heap_setCell_other _ _ _ _ (by show w.heap.size + 1 ≠ w2.heap.size; omega), hg.block (w.heap.size + 1) (by rw [sz1]; omega) (fun e => hne1 e.symm), Below.heap_alloc _ _ _ (by omega), b6.block _ (by omega)]
    exact H.r1
  · rw [heap_setCell_same _ w2.heap.size 1 _ _ _ h7]; rfl
  · exact hsn.set w2.heap.size 1 _ h7 (by decide) (by decide)
  · have b1 : Below w.heap.size w w7 := (below_next (below_next H.below b6) hal).grown hg (by rw [sz1]; omega) (fun j hj => (H.own.row.lt j hj).1)
    exact b1.setCell (by show w.heap.size ≤ w2.heap.size; omega) _
  · simp
    omega
end Go.Proofs.YtokpjegiinggdaaGreatDoor
