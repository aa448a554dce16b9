import Derived.Test.YtokpjegiinggdaaGreatDoorElim8
import Derived.Test.YtokpjegiinggdaaGreatDoorRTidy
import Derived.Test.YtokpjegiinggdaaGreatDoorRChk
import Derived.Test.YtokpjegiinggdaaGreatDoorRRes
import Derived.Deep.RegionLaw
namespace Go.Proofs.YtokpjegiinggdaaGreatDoor
open Go.ChangeShapes Go.WideShapes Go.ChangeAt Go.RowKit Go.Cn

theorem rErr_is {vars v : Int} {xs ys : List Int} (hx : Cl1 vars xs) (hy : Cl1 vars ys) (hv : 1 ≤ v ∧ v ≤ 1048576) (h1 : v ∈ xs) (h2 : -v ∈ ys) : rErr xs ys v = if 65536 < (rAll xs ys v).length then 22 else 0 := by
  have e1 : ∀ {zs : List Int}, Cl1 vars zs → nErr zs = 0 := fun {zs} hz => by
    unfold nErr
    rw [if_neg (by have := hz.len; omega), if_pos]
    exact List.all_eq_true.2 fun x hx => (amB_rk (hz.lits x hx)).1
  unfold rErr
  rw [if_neg (by rw [e1 hx]; simp), if_neg (by rw [e1 hy]; simp), if_neg (by omega), if_neg (by simp [h1, h2])]
theorem joins_take (W A : List (List Int)) (i : Nat) (hi : i < W.length) : joins (W.take (i + 1)) A = joins (W.take i) A ++ A.map (fun b => setL (W.getD i [] ++ b)) := by
  rw [take_succ1 W i hi]
  unfold joins
  rw [List.flatMap_append]
  simp
theorem mapA_take (A : List (List Int)) (a : List Int) (k : Nat) (hk : k < A.length) : (A.take (k + 1)).map (fun b => setL (a ++ b)) = (A.take k).map (fun b => setL (a ++ b)) ++ [setL (a ++ A.getD k [])] := by
  rw [take_succ1 A k hk, List.map_append]
  rfl
theorem getD_mapL (T : List (List Int)) (f : List Int → List Int) (j : Nat) (hj : j < T.length) : (T.map f).getD j [] = f (T.getD j []) := by
  rw [getD_at _ j _ (by simpa using hj), getD_at _ j _ hj, List.getElem_map]
/-- three lists of clauses that grow -/
structure RE (w w4 wr : World) (vw va vo : Value) (Lw La Lo : List Value) (W A O : List (List Int)) : Prop where
  ow : OwnL wr w.heap.size vw Lw W
  oa : OwnL wr w.heap.size va La A
  oo : OwnL wr w.heap.size vo Lo O
  bw : ∀ g, vw.ownBlock = some g → w4.heap.size ≤ g
  ba : ∀ g, va.ownBlock = some g → w4.heap.size ≤ g
  bo : ∀ g, vo.ownBlock = some g → w4.heap.size ≤ g
  p1 : ∀ g, vw.ownBlock = some g → va.ownBlock ≠ some g
  p2 : ∀ g, vw.ownBlock = some g → vo.ownBlock ≠ some g
  p3 : ∀ g, va.ownBlock = some g → vo.ownBlock ≠ some g
  below : Below w4.heap.size w4 wr
theorem RE.next {w w4 wr w' : World} {vw va vo : Value} {Lw La Lo : List Value} {W A O : List (List Int)} (h : RE w w4 wr vw va vo Lw La Lo W A O) (hb : Below wr.heap.size wr w') : RE w w4 w' vw va vo Lw La Lo W A O :=
  ⟨h.ow.below hb, h.oa.below hb, h.oo.below hb, h.bw, h.ba, h.bo, h.p1, h.p2, h.p3, below_next h.below hb⟩
theorem put_ge {vx vx' : Value} {g H N : Nat} (hb : ∀ g, vx.ownBlock = some g → N ≤ g) (he : vx'.ownBlock = some g) (hw : vx.ownBlock = some g ∨ g = H) (hH : N ≤ H) : ∀ g, vx'.ownBlock = some g → N ≤ g := by
  intro g2 h2
  rw [he] at h2
  cases h2
  rcases hw with hw | hw
  · exact hb g hw
  · omega
theorem put_ne {vx vx' vy : Value} {g H : Nat} (hp : ∀ g, vx.ownBlock = some g → vy.ownBlock ≠ some g) (hy : ∀ g, vy.ownBlock = some g → g < H) (he : vx'.ownBlock = some g) (hw : vx.ownBlock = some g ∨ g = H) : ∀ g, vx'.ownBlock = some g → vy.ownBlock ≠ some g := by
  intro g2 h2 e
  rw [he] at h2
  cases h2
  rcases hw with hw | hw
  · exact hp g hw e
  · have := hy g e
    omega
theorem RE.put1 {w w4 wr w' : World} {vw vw' va vo x : Value} {Lw La Lo : List Value} {W A O : List (List Int)} {c : List Int} {g : Nat} (h : RE w w4 wr vw va vo Lw La Lo W A O) (hx : wr.ownsRow w.heap.size 3 1 x c.length (c.map (Value.int .i64))) (ho : w'.ownsRow w.heap.size 36 1 vw' (W.length + 1) (Lw ++ [x])) (hg : wr.grownBy w' vw.ownBlock) (he : vw'.ownBlock = some g) (hw : vw.ownBlock = some g ∨ g = wr.heap.size) : RE w w4 w' vw' va vo (Lw ++ [x]) La Lo (W ++ [c]) A O :=
  ⟨OwnL.snoc h.ow hx ho hg, h.oa.cgrown h.ow.row hg h.p1, h.oo.cgrown h.ow.row hg h.p2, put_ge h.bw he hw h.below.size, h.ba, h.bo, put_ne h.p1 (fun g e => (h.oa.row.lt g e).2) he hw, put_ne h.p2 (fun g e => (h.oo.row.lt g e).2) he hw, h.p3, h.below.grown hg h.below.size h.bw⟩
theorem RE.put2 {w w4 wr w' : World} {vw va va' vo x : Value} {Lw La Lo : List Value} {W A O : List (List Int)} {c : List Int} {g : Nat} (h : RE w w4 wr vw va vo Lw La Lo W A O) (hx : wr.ownsRow w.heap.size 3 1 x c.length (c.map (Value.int .i64))) (ho : w'.ownsRow w.heap.size 36 1 va' (A.length + 1) (La ++ [x])) (hg : wr.grownBy w' va.ownBlock) (he : va'.ownBlock = some g) (hw : va.ownBlock = some g ∨ g = wr.heap.size) : RE w w4 w' vw va' vo Lw (La ++ [x]) Lo W (A ++ [c]) O :=
  ⟨h.ow.cgrown h.oa.row hg (fun g h1 h2 => h.p1 g h2 h1), OwnL.snoc h.oa hx ho hg, h.oo.cgrown h.oa.row hg h.p3, h.bw, put_ge h.ba he hw h.below.size, h.bo, fun g2 h2 e => put_ne (vy := vw) (fun g h1 h2 => h.p1 g h2 h1) (fun g e => (h.ow.row.lt g e).2) he hw g2 e h2, h.p2, put_ne h.p3 (fun g e => (h.oo.row.lt g e).2) he hw, h.below.grown hg h.below.size h.ba⟩
theorem RE.put3 {w w4 wr w' : World} {vw va vo vo' x : Value} {Lw La Lo : List Value} {W A O : List (List Int)} {c : List Int} {g : Nat} (h : RE w w4 wr vw va vo Lw La Lo W A O) (hx : wr.ownsRow w.heap.size 3 1 x c.length (c.map (Value.int .i64))) (ho : w'.ownsRow w.heap.size 36 1 vo' (O.length + 1) (Lo ++ [x])) (hg : wr.grownBy w' vo.ownBlock) (he : vo'.ownBlock = some g) (hw : vo.ownBlock = some g ∨ g = wr.heap.size) : RE w w4 w' vw va vo' Lw La (Lo ++ [x]) W A (O ++ [c]) :=
  ⟨h.ow.cgrown h.oo.row hg (fun g h1 h2 => h.p2 g h2 h1), h.oa.cgrown h.oo.row hg (fun g h1 h2 => h.p3 g h2 h1), OwnL.snoc h.oo hx ho hg, h.bw, h.ba, put_ge h.bo he hw h.below.size, h.p1, fun g2 h2 e => put_ne (vy := vw) (fun g h1 h2 => h.p2 g h2 h1) (fun g e => (h.ow.row.lt g e).2) he hw g2 e h2, fun g2 h2 e => put_ne (vy := va) (fun g h1 h2 => h.p3 g h2 h1) (fun g e => (h.oa.row.lt g e).2) he hw g2 e h2, h.below.grown hg h.below.size h.bo⟩
end Go.Proofs.YtokpjegiinggdaaGreatDoor
