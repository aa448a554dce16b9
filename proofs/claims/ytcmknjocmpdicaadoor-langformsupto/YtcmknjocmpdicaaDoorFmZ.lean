import Derived.Test.YtcmknjocmpdicaaDoorFmH
namespace Go.Proofs.YtcmknjocmpdicaaDoor
open Go.ChangeShapes Go.WideShapes Go.ChangeAt Go.RowKit Go.Bn Go.Lib

set_option maxHeartbeats 8000000 in
set_option maxRecDepth 100000 in
/-- the blocks of a statement are laid to what is left -/
theorem lblocks_any (base : Nat) (W : World) (ad : Option Addr) (n cap : Nat) (xs : List Value) (g o : Nat) (b1 b2 : Option Addr) (m1 k1 m2 k2 : Nat) (hO : W.ownsRow base 23 1 (.slice ad n cap) n xs) (h1 : W.cell? ⟨g, o + 12, none⟩ = some (.slice b1 m1 k1)) (h2 : W.cell? ⟨g, o + 13, none⟩ = some (.slice b2 m2 k2)) (hg : g < base) (hn : n ≤ 100000000) (hb : base ≤ W.heap.size) :
    Calls Tryd.prog 16 #[.slice ad n cap, .pointer (some ⟨g, o, none⟩)] W fun e w' => ∃ ad' cap', e = .returned (.slice ad' (n + 2) cap') ∧ w'.ownsRow base 23 1 (.slice ad' (n + 2) cap') (n + 2) (xs ++ [.slice b1 m1 k1, .slice b2 m2 k2]) ∧ Below base W w' := by
  obtain ⟨i0, hi, hz0, hz1, hz2⟩ := info_parts (P := Tryd.prog) (e := 23) (z := .slice none 0 0) (size := 1) (bytes := 24) (by kernel_rfl)
  have HO : Hid (W.ownsRow base 23 1 (.slice ad n cap) n xs) := hO
  have HL : Hid (base ≤ W.heap.size) := hb
  have HKp : Hid (∀ X, Below base W X → X.cell? ⟨g, o + 12, none⟩ = some (.slice b1 m1 k1) ∧ X.cell? ⟨g, o + 13, none⟩ = some (.slice b2 m2 k2)) := fun X hX => ⟨(hX.cell (p := ⟨g, o + 12, none⟩) hg).trans h1, (hX.cell (p := ⟨g, o + 13, none⟩) hg).trans h2⟩
  have hk0 := HKp.out W.drew ⟨rfl, rfl, rfl, Nat.le_refl _, fun _ _ => rfl⟩
  clear hO hb h1 h2
  go_enter Tryd.func16, Tryd.ntmps16
  go_wp2_with fail
  refine wp_region_held_drew (S := (fun X => X.cell? ⟨g, o + 12, none⟩ = some (.slice b1 m1 k1) ∧ X.cell? ⟨g, o + 13, none⟩ = some (.slice b2 m2 k2))) (by kernel_rfl) hk0 (fun hHeld => ?_)
  clear hk0
  refine wpAnyH_take (i := 0) (oi := { dst := some 5, op := Op.move (Operand.tmp 0), type := 52, pos := "form.go:90", after := #[], guard := none }) (v := ?vq0) rfl (by kernel_rfl) (by kernel_rfl) (by kernel_rfl) (fun _ _ _ h => h) (Or.inl ⟨by kernel_rfl, ?hq0⟩) (by assumption) ?rq0
  case hq0 => (intro w hSw; (try dsimp only at hSw); go_simp <;> with_reducible rfl)
  try simp only [Act.put, List.setIfInBounds_toArray, List.set_cons_zero, List.set_cons_succ]
  refine wpAnyH_take (i := 1) (oi := { dst := some 6, op := Op.move (Operand.tmp 1), type := 44, pos := "form.go:90", after := #[], guard := none }) (v := ?vq1) rfl (by kernel_rfl) (by kernel_rfl) (by kernel_rfl) (fun _ _ _ h => h) (Or.inl ⟨by kernel_rfl, ?hq1⟩) (by assumption) ?rq1
  case hq1 => (intro w hSw; (try dsimp only at hSw); go_simp <;> with_reducible rfl)
  try simp only [Act.put, List.setIfInBounds_toArray, List.set_cons_zero, List.set_cons_succ]
  refine wpAnyH_take (i := 2) (oi := { dst := some 7, op := Op.nilCheck (Operand.tmp 6), type := 0, pos := "form.go:90", after := #[{ on := 1, ground := Ground.data }], guard := none }) (v := ?vq2) rfl (by kernel_rfl) (by kernel_rfl) (by kernel_rfl) (fun _ _ _ h => h) (Or.inl ⟨by kernel_rfl, ?hq2⟩) (by assumption) ?rq2
  case hq2 => (intro w hSw; (try dsimp only at hSw); go_simp <;> with_reducible rfl)
  try simp only [Act.put, List.setIfInBounds_toArray, List.set_cons_zero, List.set_cons_succ]
  refine wpAnyH_take (i := 3) (oi := { dst := some 8, op := Op.fieldAddr 42 (Operand.tmp 7) 6, type := 0, pos := "form.go:90", after := #[{ on := 2, ground := Ground.data }], guard := none }) (v := ?vq3) rfl (by kernel_rfl) (by kernel_rfl) (by kernel_rfl) (fun _ _ _ h => h) (Or.inl ⟨by kernel_rfl, ?hq3⟩) (by assumption) ?rq3
  case hq3 => (intro w hSw; (try dsimp only at hSw); go_simp <;> with_reducible rfl)
  try simp only [Act.put, List.setIfInBounds_toArray, List.set_cons_zero, List.set_cons_succ]
  refine wpAnyH_take (i := 4) (oi := { dst := some 9, op := Op.load 23 (Operand.tmp 8), type := 23, pos := "form.go:90", after := #[{ on := 3, ground := Ground.data }], guard := none }) (v := ?vq4) rfl (by kernel_rfl) (by kernel_rfl) (by kernel_rfl) (fun _ _ _ h => h) (Or.inl ⟨by kernel_rfl, ?hq4⟩) (by assumption) ?rq4
  case hq4 => (intro w hSw; (try dsimp only at hSw); go_simp <;> with_reducible rfl)
  try simp only [Act.put, List.setIfInBounds_toArray, List.set_cons_zero, List.set_cons_succ]
  refine wpAnyH_take (i := 5) (oi := { dst := some 10, op := Op.move (Operand.tmp 1), type := 44, pos := "form.go:90", after := #[], guard := none }) (v := ?vq5) rfl (by kernel_rfl) (by kernel_rfl) (by kernel_rfl) (fun _ _ _ h => h) (Or.inl ⟨by kernel_rfl, ?hq5⟩) (by assumption) ?rq5
  case hq5 => (intro w hSw; (try dsimp only at hSw); go_simp <;> with_reducible rfl)
  try simp only [Act.put, List.setIfInBounds_toArray, List.set_cons_zero, List.set_cons_succ]
  refine wpAnyH_take (i := 6) (oi := { dst := some 11, op := Op.nilCheck (Operand.tmp 10), type := 0, pos := "form.go:90", after := #[{ on := 5, ground := Ground.data }], guard := none }) (v := ?vq6) rfl (by kernel_rfl) (by kernel_rfl) (by kernel_rfl) (fun _ _ _ h => h) (Or.inl ⟨by kernel_rfl, ?hq6⟩) (by assumption) ?rq6
  case hq6 => (intro w hSw; (try dsimp only at hSw); go_simp <;> with_reducible rfl)
  try simp only [Act.put, List.setIfInBounds_toArray, List.set_cons_zero, List.set_cons_succ]
  refine wpAnyH_take (i := 7) (oi := { dst := some 12, op := Op.fieldAddr 42 (Operand.tmp 11) 7, type := 0, pos := "form.go:90", after := #[{ on := 6, ground := Ground.data }], guard := none }) (v := ?vq7) rfl (by kernel_rfl) (by kernel_rfl) (by kernel_rfl) (fun _ _ _ h => h) (Or.inl ⟨by kernel_rfl, ?hq7⟩) (by assumption) ?rq7
  case hq7 => (intro w hSw; (try dsimp only at hSw); go_simp <;> with_reducible rfl)
  try simp only [Act.put, List.setIfInBounds_toArray, List.set_cons_zero, List.set_cons_succ]
  refine wpAnyH_take (i := 8) (oi := { dst := some 13, op := Op.load 23 (Operand.tmp 12), type := 23, pos := "form.go:90", after := #[{ on := 7, ground := Ground.data }], guard := none }) (v := ?vq8) rfl (by kernel_rfl) (by kernel_rfl) (by kernel_rfl) (fun _ _ _ h => h) (Or.inl ⟨by kernel_rfl, ?hq8⟩) (by assumption) ?rq8
  case hq8 => (intro w hSw; (try dsimp only at hSw); go_simp <;> with_reducible rfl)
  try simp only [Act.put, List.setIfInBounds_toArray, List.set_cons_zero, List.set_cons_succ]
  refine wpAnyH_ready (rs := [9]) (by kernel_rfl) (by simp) ?_
  refine AllReadyH.cons (o := { dst := some 14, op := Op.buildSlice 52 2 #[(0, Operand.tmp 9), (1, Operand.tmp 13)], type := 52, pos := "form.go:90", after := #[{ on := 4, ground := Ground.data }, { on := 8, ground := Ground.data }], guard := none }) rfl (fun K hK => ?_) AllReadyH.nil
  go_simp
  have hA := (Below.refl base W).alloc HL.out (.cells #[.slice b1 m1 k1, .slice b2 m2 k2] 23)
  refine hK.out _ _ (HKp.out _ ⟨hA.os, hA.tape, hA.output, hA.size, hA.block⟩) (fun hHeld => ?_)
  clear hA
  clear hK K
  try simp only [Act.put, List.setIfInBounds_toArray, List.set_cons_zero, List.set_cons_succ]
  refine wpAnyH_ready (rs := [10]) (by kernel_rfl) (by simp) ?_
  refine AllReadyH.cons (o := { dst := some 15, op := Op.call { callee := Callee.builtin Builtin.append, args := #[Operand.tmp 5, Operand.tmp 14], argTypes := #[52, 52] }, type := 52, pos := "form.go:90", after := #[{ on := 0, ground := Ground.data }, { on := 9, ground := Ground.data }], guard := none }) rfl (fun K hK => ?_) AllReadyH.nil
  refine step_append_lies _ (by rfl) _ _ _ (by rfl) base 23 i0 _ 1 24 Tryd.underlying52 hi hz0 hz1 hz2 rfl (by omega) (.slice ad n cap) n xs (by rfl) ((show W.drew.ownsRow base 23 1 (.slice ad n cap) n xs from HO.out).alloc _) ⟨W.drew.heap.size, 0, none⟩ 2 2 [.slice b1 m1 k1, .slice b2 m2 k2] (by rfl) (by rfl) (World.news_of_block (cs := #[.slice b1 m1 k1, .slice b2 m2 k2]) (t := 23) (fr := (0, 0)) (heap_alloc_new W.drew _)) (by intro u hu; simp at hu; rcases hu with rfl | rfl <;> rfl) (by omega) (by unfold maxLen; omega) (by omega) (by have := HL.out; simp; omega) (W.drew.heap.size + 1) (by simp) ?_
  intro g8 c8 w8 ho8 hg8 _ _
  have hG := ((Below.refl base W.drew).alloc HL.out (.cells #[.slice b1 m1 k1, .slice b2 m2 k2] 23)).grown hg8 (by have := HL.out; simp; omega) (fun q hq => (HO.out.lt q hq).1)
  have HZ : Hid (w8.ownsRow base 23 1 (.slice (some ⟨g8, 0, none⟩) (n + 2) c8) (n + 2) (xs ++ [.slice b1 m1 k1, .slice b2 m2 k2]) ∧ Below base W w8) := ⟨ho8, ⟨hG.os, hG.tape, hG.output, hG.size, hG.block⟩⟩
  clear ho8 hg8 hG
  refine hK.out _ _ (HKp.out w8 HZ.out.2) (fun hHeld => ?_)
  clear hK K
  try simp only [Act.put, List.setIfInBounds_toArray, List.set_cons_zero, List.set_cons_succ]
  refine wpAnyH_take (i := 11) (oi := { dst := some 4, op := Op.assign (Operand.tmp 15), type := 52, pos := "form.go:90", after := #[{ on := 10, ground := Ground.data }, { on := 10, ground := Ground.chain }, { on := 0, ground := Ground.phase }, { on := 1, ground := Ground.phase }, { on := 2, ground := Ground.phase }, { on := 3, ground := Ground.phase }, { on := 4, ground := Ground.phase }, { on := 5, ground := Ground.phase }, { on := 6, ground := Ground.phase }, { on := 7, ground := Ground.phase }, { on := 8, ground := Ground.phase }, { on := 9, ground := Ground.phase }, { on := 10, ground := Ground.phase }], guard := none }) (v := ?vq11) rfl (by kernel_rfl) (by kernel_rfl) (by kernel_rfl) (fun _ _ _ h => h) (Or.inl ⟨by kernel_rfl, ?hq11⟩) (by assumption) ?rq11
  case hq11 => (intro w hSw; (try dsimp only at hSw); go_simp <;> with_reducible rfl)
  try simp only [Act.put, List.setIfInBounds_toArray, List.set_cons_zero, List.set_cons_succ]
  refine wpAnyH_done (by kernel_rfl) ?_ _
  try go_wp2_with fail
  go_ret
  exact ⟨some ⟨g8, 0, none⟩, c8, rfl, HZ.out.1, HZ.out.2⟩
end Go.Proofs.YtcmknjocmpdicaaDoor
