import Derived.Test.YtlkafgdddlgpcaaDoorFr
import Derived.Test.YtlkafgdddlgpcaaDoorVals
namespace Go.Proofs.YtlkafgdddlgpcaaDoor
open Go.ChangeShapes Go.WideShapes Go.ChangeAt Go.RowKit Go.Cn

theorem bytesB : Tryd.prog.bytesOf 41 = 1 := by kernel_rfl
/-- a list of small numbers that came in -/
structure Sli8 (w : World) (ad : Option Addr) (c : Nat) (xs : List Int) : Prop where
  le : xs.length ≤ c
  i8 : I8 w ad xs
theorem open_i8 {H : Type} {enc : TypeId × Value → H} {W : World} {base fuel : Nat} {a : Option Addr} {len cap : Nat} {x : DataW H × List MemPlace} (h : DataW.trod enc Tryd.prog W base (fun _ => true) true fuel 39 [.slice a len cap] = some x) :
    ∃ xs : List Int, xs.length = len ∧ Sli8 W a cap xs ∧ (cap = 0 ∨ ∃ elems spare, x.1 = .slice elems spare ∧ elems.length + spare.length = cap) := by
  rcases open_ints Tryd.underlying39 Tryd.underlying41 (by kernel_rfl) h with ⟨hcs, hd⟩ | ⟨ad, l, c, zs, hcs, hb, hl, hm, hz, hx, hcell, hwz⟩
  · cases hcs
    exact ⟨[], rfl, ⟨Nat.le_refl _, fun h => absurd h (by simp)⟩, Or.inl rfl⟩
  · cases hcs
    simp only [if_true] at hz
    refine ⟨zs.take len, by simp; omega, ⟨by simp; omega, fun hp => ?_⟩, Or.inr ⟨lits .i8 (zs.take len), lits .i8 (zs.drop len), by rw [hx], by simp [lits]; omega⟩⟩
    have hl0 : 0 < len := by simp at hp; omega
    have h0 := hcell 0 (by omega)
    have e := addr_lit h0
    have hlt : ad.block < W.heap.size := by
      have := block_lt_of_cell h0
      rw [e] at this
      exact this
    refine ⟨ad.block, ad.off, by rw [← e], hlt, fun j hj => ?_⟩
    have hj' : j < len := by simp at hj; omega
    have hj2 := hcell j (by omega)
    rw [e, Addr.add_lit] at hj2
    rw [hj2, take_getD zs len j hj']
end Go.Proofs.YtlkafgdddlgpcaaDoor
