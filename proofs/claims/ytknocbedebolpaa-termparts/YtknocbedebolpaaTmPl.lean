import Derived.Test.YtknocbedebolpaaTmPg
import Derived.Test.YtknocbedebolpaaTmOd
namespace Go.Proofs.Ytknocbedebolpaa
open Go.ChangeShapes Go.WideShapes Go.ChangeAt Go.RowKit Go.Lib Go.Tm Go.Bw Go.Bn Go.WideMaps Go.Maps Go.ChangeMaps

set_option maxHeartbeats 4000000 in
set_option maxRecDepth 100000 in
theorem parts_no (lim : Int) {v1 v2 : Value} (w : World) (h : lim < 0) : Calls Try.prog 4 #[.int .i64 lim, v1, v2] w fun e w' => e = .returned (.bool true) ∧ Below w.heap.size w w' := by
  have HB : Hid (Calls Try.prog 9 #[.int .i64 lim] w fun e w' => e = .returned (.tuple #[.pointer none, .bool true]) ∧ Below w.heap.size w w') := first_no lim w h
  clear h
  go_enter Try.func4, Try.ntmps4
  go_wp2_with fail
  refine HB.out.mono ?_
  rintro e w1 ⟨rfl, hb⟩
  have HX : Hid (Below w.heap.size w w1) := hb
  clear hb
  go_wp2
  go_ret
  exact ⟨rfl, HX.out⟩
/-- what TermParts asks of the order -/
structure GD (L : List Nd) (xs : List Int) (O : List Nat) : Prop where
  pw : PW L O []
  ld : LD L (fun x => x ∈ toN xs) O []
  rt : ∀ x ∈ toN xs, x ∈ O
theorem gd_of {L : List Nd} {xs : List Int} (hP : PAR L) (hr : ∀ x ∈ xs, isT L x = true) : GD L xs (og L [] (toN xs)) := by
  obtain ⟨h1, h2, h3, _⟩ := og_ok (R := fun x => x ∈ toN xs) hP (toN xs) [] (PW.nil L) ⟨fun a x b e => by simp at e, fun a x b e => by simp at e⟩ (fun r hr2 => by
    obtain ⟨x, hx, rfl⟩ := List.mem_map.1 hr2
    have : 1 ≤ x ∧ x ≤ (L.length : Int) := of_decide_eq_true (hr x hx)
    exact ⟨by omega, by omega, hr2⟩)
  exact ⟨h1, h2, h3⟩
/-- the map of what was told: j of the order -/
def ATI (f : Int → Option Int) (S : List Nat) : Prop := ∀ y : Nat, (f (y : Int)).getD 0 = 0 ↔ y ∉ S
theorem ATI.start : ATI (fun _ => none) [] := fun y => by simp
theorem ATI.put {f : Int → Option Int} {S : List Nat} (h : ATI f S) (x : Nat) {v : Int} (hv : v ≠ 0) : ATI (fun y => if y = (x : Int) then some v else f y) (S ++ [x]) := fun y => by
  by_cases e : y = x
  · subst e
    simp [hv]
  · have e2 : ¬ ((y : Int) = (x : Int)) := by omega
    show ((if (y : Int) = (x : Int) then some v else f y).getD 0 = 0) ↔ _
    rw [if_neg e2, h y]
    simp [e]
/-- the map of what is wanted -/
def WNI (f : Int → Option Int) (S : Nat → Prop) : Prop := ∀ y : Nat, S y → (f (y : Int)).getD 0 ≠ 0
theorem WNI.put {f : Int → Option Int} {S : Nat → Prop} (h : WNI f S) (x : Int) : WNI (fun y => if y = x then some 1 else f y) (fun y => S y ∨ (y : Int) = x) := fun y hy => by
  show (if (y : Int) = x then some 1 else f y).getD 0 ≠ 0
  by_cases e : (y : Int) = x
  · rw [if_pos e]; decide
  · rw [if_neg e]
    rcases hy with hy | hy
    · exact h y hy
    · exact absurd hy e
theorem WNI.mono {f : Int → Option Int} {S T : Nat → Prop} (h : WNI f S) (hs : ∀ y, T y → S y) : WNI f T := fun y hy => h y (hs y hy)
/-- both maps, in a memory that grew from W0 -/
structure TP (W0 : World) (Ma Mw na nw : Nat) (fa fw : Int → Option Int) (W : World) : Prop where
  bel : Below W0.heap.size W0 W
  ma : IMP W Ma na fa
  mw : IMP W Mw nw fw
  ne : Ma ≠ Mw
  la : W0.heap.size ≤ Ma
  lw : W0.heap.size ≤ Mw
theorem TP.start (W : World) : TP W W.heap.size (W.heap.size + 1) 0 0 (fun _ => none) (fun _ => none) ((W.alloc (Obj.map #[] 0)).alloc (Obj.map #[] 0)) := by
  refine ⟨bel2 _ _ _, IMP.made ?_, IMP.made ?_, by omega, Nat.le_refl _, by omega⟩
  · rw [Below.heap_alloc _ _ _ (by simp)]
    exact heap_alloc_new W _
  · have := heap_alloc_new (W.alloc (Obj.map #[] 0)) (Obj.map #[] 0)
    simpa using this
theorem TP.over {W0 W W' : World} {Ma Mw na nw : Nat} {fa fw : Int → Option Int} (h : TP W0 Ma Mw na nw fa fw W) (hb : Below W.heap.size W W') : TP W0 Ma Mw na nw fa fw W' :=
  ⟨h.bel.trans (hb.mono h.bel.size), h.ma.keep (hb.block _ h.ma.lt), h.mw.keep (hb.block _ h.mw.lt), h.ne, h.la, h.lw⟩
theorem TP.want {W0 W : World} {Ma Mw na nw : Nat} {fa fw : Int → Option Int} (h : TP W0 Ma Mw na nw fa fw W) (hn : nw ≤ 1000000000000000000) (x v : Int) (hx : I64 x) (hv : I64 v) : ∃ w', (Instr.mapUpdate 43 (.map (some Mw)) (.int .i64 x) (.int .i64 v)).run Try.prog W = .ok () w' ∧ TP W0 Ma Mw na (nw + 1) fa (fun y => if y = x then some v else fw y) w' ∧ W.grownBy w' (some Mw) := by
  obtain ⟨w', hrun, hm, hg⟩ := h.mw.put hn x v hx hv
  refine ⟨w', hrun, ⟨⟨hg.os.trans h.bel.os, hg.tape.trans h.bel.tape, hg.output.trans h.bel.output, Nat.le_trans h.bel.size hg.size, fun k hk => (hg.block k (Nat.lt_of_lt_of_le hk h.bel.size) (fun e => ?_)).trans (h.bel.block k hk)⟩, h.ma.keep (hg.block _ h.ma.lt (fun e => h.ne (by injection e))), hm, h.ne, h.la, h.lw⟩, hg⟩
  injection e with e
  have := h.lw
  omega
theorem TP.told {W0 W : World} {Ma Mw na nw : Nat} {fa fw : Int → Option Int} (h : TP W0 Ma Mw na nw fa fw W) (hn : na ≤ 1000000000000000000) (x v : Int) (hx : I64 x) (hv : I64 v) : ∃ w', (Instr.mapUpdate 43 (.map (some Ma)) (.int .i64 x) (.int .i64 v)).run Try.prog W = .ok () w' ∧ TP W0 Ma Mw (na + 1) nw (fun y => if y = x then some v else fa y) fw w' := by
  obtain ⟨w', hrun, hm, hg⟩ := h.ma.put hn x v hx hv
  refine ⟨w', hrun, ⟨⟨hg.os.trans h.bel.os, hg.tape.trans h.bel.tape, hg.output.trans h.bel.output, Nat.le_trans h.bel.size hg.size, fun k hk => (hg.block k (Nat.lt_of_lt_of_le hk h.bel.size) (fun e => ?_)).trans (h.bel.block k hk)⟩, hm, h.mw.keep (hg.block _ h.mw.lt (fun e => h.ne (by injection e with e; exact e.symm))), h.ne, h.la, h.lw⟩⟩
  injection e with e
  have := h.la
  omega
end Go.Proofs.Ytknocbedebolpaa
