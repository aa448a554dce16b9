import Derived.Test.YtnknbijbhidpnaaGreatDoorTwo
import Derived.Test.YtnknbijbhidpnaaGreatDoorMathF
import Derived.Maps.AppendAt
import Derived.Deep.RegionWith
namespace Go.Proofs.YtnknbijbhidpnaaGreatDoor
open Go.ChangeShapes Go.WideShapes Go.ChangeAt Go.RowKit Go.Cn

theorem Tryz.info3 : (Tryz.prog.info? 3).map (fun i => (i.zero, i.size, i.bytes)) = some (some (.int .i64 0), 1, 8) := by kernel_rfl
theorem map_get (xs : List Int) (j : Nat) (h : j < xs.length) : (xs.map (Value.int .i64))[j]? = some (.int .i64 (xs.getD j 0)) := by
  simp [List.getD_eq_getElem?_getD, h]
theorem own_ints {w : World} {B : Nat} {v : Value} {xs : List Int} (h : w.ownsRow B 3 1 v xs.length (xs.map (Value.int .i64))) :
    ∃ ad cap, v = .slice ad xs.length cap ∧ Ints w ad xs := by
  rcases h.2 with ⟨e, h0⟩ | ⟨g, cap, cur, rfl, hb, hg, h1, h2, h3, h4⟩
  · exact ⟨none, 0, by rw [e, h0], fun hp => by omega⟩
  · refine ⟨_, _, rfl, fun hp => ⟨g, 0, rfl, (Array.getElem?_eq_some_iff.1 hg).1, fun j hj => ?_⟩⟩
    rw [Nat.zero_add, h.cellAt j (by omega), map_get xs j hj]
theorem own_shape {w : World} {B m : Nat} {v : Value} {L : List Value} (h : w.ownsRow B 3 1 v (m + 1) L) :
    ∃ g cap, v = .slice (some ⟨g, 0, none⟩) (m + 1) cap ∧ B ≤ g ∧ w.ownsRow B 3 1 (.slice (some ⟨g, 0, none⟩) (m + 1) cap) (m + 1) L := by
  rcases h.2 with ⟨e, h0⟩ | ⟨g, cap, cur, rfl, hb, hg, h1, h2, h3, h4⟩
  · omega
  · exact ⟨g, cap, rfl, hb, h⟩
theorem wr64 {x : Int} (h : -9223372036854775808 ≤ x) (h2 : x ≤ 9223372036854775807) : IntKind.i64.wrap x = x := by
  rw [IntKind.wrap_i64]; omega
theorem below_dn {B : Nat} {a w : World} (h : Below B a w) (n : Nat) : Below B a (w.drewN n) := ⟨h.os, h.tape, h.output, h.size, h.block⟩
theorem below_append {B e n : Nat} {w wr w1 : World} {o : Obj} {v : Value} {L : List Value} (hB : Below B w wr) (hs : B ≤ wr.heap.size) (ho : wr.ownsRow B e 1 v n L) (hg : (wr.alloc o).grownBy w1 v.ownBlock) : Below B w w1 :=
  (hB.alloc hs _).grown hg (by simp; omega) (fun k hk => (ho.lt k hk).1)
theorem put_stop {S : List Int} {x : Int} {j : Nat} (hS : SetC S) (hx : x ∉ S) (hj : j ≤ S.length) (h1 : 0 < j → ¬ rk x < rk (S.getD (j - 1) 0)) (h2 : ∀ t, j ≤ t → t < S.length → rk x < rk (S.getD t 0)) : SetC (put S x j) := by
  refine setC_put hS hj ?_ h2
  intro t ht
  have h3 := h1 (by omega)
  have h4 : rk (S.getD (j - 1) 0) ≠ rk x := fun e => hx (by rw [← rk_inj e]; exact getD_mem (by omega))
  by_cases e : t = j - 1
  · subst e; omega
  · have := setC_get hS (show t < j - 1 by omega) (by omega)
    omega

end Go.Proofs.YtnknbijbhidpnaaGreatDoor
