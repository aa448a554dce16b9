import Derived.Test.YtfpmacnbfbcjgaaEF
namespace Go.Proofs.Ytfpmacnbfbcjgaa
open Go.ChangeShapes Go.WideShapes Go.ChangeAt Go.RowKit
open Go.Pr
theorem Mem.setAB {w : World} {g : Nat} {O : Nat → Prop} {S : ES} {p : Nat → Value} (h : Mem w g O S p) {k : Nat} (hk : k < S.cls.length) {b c : Nat} (hp : p 1 = .slice (some ⟨b, 0, none⟩) S.cls.length c) (x y : Nat) :
    Mem (w.setCell ⟨b, k * 5 + 3, none⟩ (.int .i32 (x : Int))) g O (S.setC k { S.clause k with a := x }) p ∧ Fr O w (w.setCell ⟨b, k * 5 + 3, none⟩ (.int .i32 (x : Int))) O ∧
    Mem ((w.setCell ⟨b, k * 5 + 3, none⟩ (.int .i32 (x : Int))).setCell ⟨b, k * 5 + 3 + 1, none⟩ (.int .i32 (y : Int))) g O (S.setC k { S.clause k with a := x, b := y }) p ∧ Fr O w ((w.setCell ⟨b, k * 5 + 3, none⟩ (.int .i32 (x : Int))).setCell ⟨b, k * 5 + 3 + 1, none⟩ (.int .i32 (y : Int))) O := by
  have e : S.clause k = S.cls[k] := by unfold ES.clause; rw [getD_of _ _ _ hk]
  obtain ⟨m1, r1⟩ := h.store (S' := S.setC k { S.clause k with a := x }) (i := 1) (by unfold used; omega) hp (k * 5 + 3) (.int .i32 (x : Int)) rfl rfl (same_of 1 (Or.inr rfl) (Or.inl rfl) (Or.inr rfl) (Or.inr rfl) rfl (Or.inr rfl) (Or.inr rfl) (Or.inr rfl)) (by show (S.cls.set _ _).length = S.cls.length; rw [List.length_set]) (fm_set clF 5 (fun _ => rfl) 3 _ _ (by omega) S.cls k hk (by rw [← e]; rfl))
  have hl : (S.setC k { S.clause k with a := x }).cls.length = S.cls.length := by show (S.cls.set _ _).length = _; rw [List.length_set]
  obtain ⟨m2, r2⟩ := m1.store (S' := S.setC k { S.clause k with a := x, b := y }) (i := 1) (by unfold used; omega) (by rw [hp, ← hl]; rfl) (k * 5 + 4) (.int .i32 (y : Int)) rfl rfl (same_of 1 (Or.inr rfl) (Or.inl rfl) (Or.inr rfl) (Or.inr rfl) rfl (Or.inr rfl) (Or.inr rfl) (Or.inr rfl)) (by show (S.cls.set _ _).length = (S.cls.set _ _).length; rw [List.length_set, List.length_set]) (by
    have e2 := fm_set clF 5 (fun _ => rfl) 4 (.int .i32 (y : Int)) { S.clause k with a := x, b := y } (by omega) (S.cls.set k { S.clause k with a := x }) k (by rw [List.length_set]; exact hk) (by rw [List.getElem_set_self]; rfl)
    rw [List.set_set] at e2
    exact e2)
  exact ⟨m1, r1, m2, r1.trans r2⟩
theorem Mem.wats {w : World} {g : Nat} {O : Nat → Prop} {S : ES} {p : Nat → Value} (h : Mem w g O S p) (hl : S.wat.length = 2 * S.n + 2) {x : Nat} (hx : x < 2 * S.n + 2) :
    ∃ b5 c5 ax cx, p 5 = .slice (some ⟨b5, 0, none⟩) (2 * S.n + 2) c5 ∧ p (x + 12) = .slice ax (S.watch x).length cx ∧ (S.watch x).length ≤ cx ∧ w.cell? ⟨b5, x, none⟩ = some (.slice ax (S.watch x).length cx) ∧ w.ownsRow 0 87 2 (.slice ax (S.watch x).length cx) (S.watch x).length ((S.watch x).flatMap watF) ∧ ∀ j, w.frozen? ⟨b5, j, none⟩ = false := by
  have hn : nR S 5 = 2 * S.n + 2 := hl
  obtain ⟨b5, c5, h1, _, h2, h3⟩ := h.form (i := 5) (by unfold used; omega) (by omega)
  have hu : used S (x + 12) := by unfold used; omega
  obtain ⟨ax, cx, h4, h5⟩ := h.slice hu
  have h4' : p (x + 12) = .slice ax (S.watch x).length cx := h4
  have h6 := h.row (x + 12) hu
  rw [h4'] at h6
  rw [hn] at h1
  refine ⟨b5, c5, ax, cx, h1, h4', h5, ?_, h6, h3⟩
  rw [h2 x (by rw [hn]; show x < (2 * S.n + 2) * 1; omega)]
  show ((List.range S.wat.length).map fun i => p (i + 12))[x]? = _
  rw [List.getElem?_map, List.getElem?_range (by omega)]
  show some (p (x + 12)) = _
  rw [h4']
theorem last2_code {S : ES} (h : WF S) (k : Nat) : (S.last2 (S.inside k) 0 0).1 < 2 * S.n + 2 ∧ (S.last2 (S.inside k) 0 0).2 < 2 * S.n + 2 ∧ (S.last2 (S.inside k) 0 0).1 ≠ 1 ∧ (S.last2 (S.inside k) 0 0).2 ≠ 1 := by
  have h1 := last2_all S (fun x => x < 2 * S.n + 2 ∧ x ≠ 1) (S.inside k) 0 0 ⟨by omega, by omega⟩ ⟨by omega, by omega⟩ (fun l hl => by
    have := h.inside_mem hl
    exact ⟨this.2, by omega⟩)
  exact ⟨h1.1.1, h1.2.1, h1.1.2, h1.2.2⟩
theorem addW_self {S : ES} {x k o : Nat} (hx : x < S.wat.length) : (S.addW x k o).watch x = S.watch x ++ [(k, o)] := by
  unfold ES.addW
  show (S.wat.set x (S.watch x ++ [(k, o)])).getD x [] = _
  rw [List.getD_eq_getElem?_getD, List.getElem?_set, if_pos rfl, if_pos hx]
  rfl
theorem addW_ne {S : ES} {x y k o : Nat} (hx : y ≠ x) : (S.addW x k o).watch y = S.watch y := by
  unfold ES.addW
  show (S.wat.set x (S.watch x ++ [(k, o)])).getD y [] = _
  rw [List.getD_eq_getElem?_getD, List.getElem?_set, if_neg (fun e => hx e.symm), ← List.getD_eq_getElem?_getD]
  rfl
theorem Mem.addW {w w4 : World} {g : Nat} {O : Nat → Prop} {S : ES} {p : Nat → Value} (h : Mem w g O S p) (hl : S.wat.length = 2 * S.n + 2) {x k o : Nat} (hx : x < 2 * S.n + 2) {b5 c5 : Nat} (hp5 : p 5 = .slice (some ⟨b5, 0, none⟩) (2 * S.n + 2) c5) {ax : Option Addr} {cx : Nat} (hpx : p (x + 12) = .slice ax (S.watch x).length cx) {g4 cap4 : Nat}
    (hown : w4.ownsRow 0 87 2 (.slice (some ⟨g4, 0, none⟩) ((S.watch x).length + 1) cap4) ((S.watch x).length + 1) ((S.watch x).flatMap watF ++ [.int .i32 (k : Int), .int .i32 (o : Int)])) (hgr : w.grownBy w4 (Value.ownBlock (.slice ax (S.watch x).length cx))) (hat : (Value.slice ax (S.watch x).length cx).ownBlock = some g4 ∨ w.heap.size ≤ g4) (hlt : g4 < w4.heap.size) :
    (∃ O', Mem (w4.setCell ⟨b5, x, none⟩ (.slice (some ⟨g4, 0, none⟩) ((S.watch x).length + 1) cap4)) g O' (S.addW x k o) (upd p (x + 12) (.slice (some ⟨g4, 0, none⟩) ((S.watch x).length + 1) cap4)) ∧ Fr O w (w4.setCell ⟨b5, x, none⟩ (.slice (some ⟨g4, 0, none⟩) ((S.watch x).length + 1) cap4)) O') ∧ w4.heap[g]? = some (.cells (gcells S p) 64 (0, 0)) ∧ (∃ z, w4.cell? ⟨b5, x, none⟩ = some z) ∧ w4.frozen? ⟨b5, x, none⟩ = false := by
  have hxw : x < S.wat.length := by omega
  have hu : used S (x + 12) := by unfold used; omega
  have hgr' : w.grownBy w4 (p (x + 12)).ownBlock := by rw [hpx]; exact hgr
  obtain ⟨h1, h2⟩ := h.rows hu hgr'
  have e1 : (S.addW x k o).watch x = S.watch x ++ [(k, o)] := addW_self hxw
  refine ⟨h.rewat (S' := S.addW x k o) hxw (by rw [hp5, hl]) hgr' (.slice (some ⟨g4, 0, none⟩) ((S.watch x).length + 1) cap4) ((S.watch x).length + 1) _ hown ?_ rfl (by show (S.wat.set _ _).length = _; rw [List.length_set]) (same_wat x rfl rfl rfl rfl (fun y hy => addW_ne hy) (by show (S.wat.set _ _).length = _; rw [List.length_set]) rfl rfl rfl) ?_ ?_, h2, ?_⟩
  · rw [hpx]
    rcases hat with e | e
    · exact Or.inl e.symm
    · exact Or.inr ⟨g4, rfl, e, hlt⟩
  · show ((S.addW x k o).watch x).length = _
    rw [e1]
    simp
  · show ((S.addW x k o).watch x).flatMap watF = _
    rw [e1, List.flatMap_append]
    rfl
  · have h3 := h1 5 (by omega) (by unfold used; omega)
    rw [hp5] at h3
    have h4 : w4.ownsRow 0 85 1 (.slice (some ⟨b5, 0, none⟩) (2 * S.n + 2) c5) (2 * S.n + 2) (lR S p 5) := by
      have e : nR S 5 = 2 * S.n + 2 := hl
      rw [e] at h3
      exact h3
    refine ⟨?_, h4.frozenAt x⟩
    rw [h4.cellAt x (by omega), List.getElem?_eq_getElem (by rw [h4.1]; omega)]
    exact ⟨_, rfl⟩
end Go.Proofs.Ytfpmacnbfbcjgaa
