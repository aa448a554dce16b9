import Derived.Test.YtfpmacnbfbcjgaaEG
namespace Go.Pr
def ES.putW (S : ES) (l : Nat) (X : List (Nat × Nat)) : ES := { S with wat := S.wat.set l X }
theorem putW_self {S : ES} {l : Nat} {X : List (Nat × Nat)} (h : l < S.wat.length) : (S.putW l X).watch l = X := by
  unfold ES.putW ES.watch
  simp only
  rw [List.getD_eq_getElem?_getD, List.getElem?_set, if_pos rfl, if_pos h]
  rfl
theorem putW_ne {S : ES} {l y : Nat} {X : List (Nat × Nat)} (h : y ≠ l) : (S.putW l X).watch y = S.watch y := by
  unfold ES.putW ES.watch
  simp only
  rw [List.getD_eq_getElem?_getD, List.getElem?_set, if_neg (fun e => h e.symm), ← List.getD_eq_getElem?_getD]
theorem putW_put (S : ES) (l : Nat) (X Y : List (Nat × Nat)) : (S.putW l X).putW l Y = S.putW l Y := by
  unfold ES.putW
  simp only [List.set_set]
theorem putW_id {S : ES} {l : Nat} (h : l < S.wat.length) : S.putW l (S.watch l) = S := by
  have e : S.wat.set l (S.watch l) = S.wat := by
    unfold ES.watch
    rw [getD_of _ _ _ h, List.set_getElem_self]
  unfold ES.putW
  rw [e]
theorem addW_putW {S : ES} {l x k o : Nat} {X : List (Nat × Nat)} (h : x ≠ l) : (S.putW l X).addW x k o = (S.addW x k o).putW l X := by
  have e := putW_ne (S := S) (X := X) h
  unfold ES.addW
  rw [e]
  unfold ES.putW
  simp only
  rw [List.set_comm _ _ (fun e => h e.symm)]
theorem settle_putW (S : ES) (l k c : Nat) (X : List (Nat × Nat)) : (S.putW l X).settle k c = (S.settle k c).putW l X := by
  have e : (S.putW l X).val c = S.val c := rfl
  unfold ES.settle
  rw [e]
  split
  · rfl
  · split
    · rfl
    · rfl
theorem putW_len (S : ES) (l : Nat) (X : List (Nat × Nat)) : (S.putW l X).wat.length = S.wat.length := by
  unfold ES.putW
  simp
theorem drop_consW (c : List (Nat × Nat)) (k : Nat) (h : k < c.length) : c.drop k = c.getD k (0, 0) :: c.drop (k + 1) := by
  rw [List.drop_eq_getElem_cons h]; simp [List.getD_eq_getElem?_getD, h]
/-- the row as it stands in memory, so many kept -/
def laid (kept orig : List (Nat × Nat)) : List (Nat × Nat) := kept ++ orig.drop kept.length
theorem laid_len {kept orig : List (Nat × Nat)} (h : kept.length ≤ orig.length) : (laid kept orig).length = orig.length := by
  unfold laid
  rw [List.length_append, List.length_drop]
  omega
theorem laid_get {kept orig : List (Nat × Nat)} {i : Nat} (h : kept.length ≤ i) : (laid kept orig).getD i (0, 0) = orig.getD i (0, 0) := by
  unfold laid
  rw [List.getD_eq_getElem?_getD, List.getElem?_append_right h, List.getElem?_drop, List.getD_eq_getElem?_getD]
  rw [show kept.length + (i - kept.length) = i by omega]
theorem laid_set {kept orig : List (Nat × Nat)} (e : Nat × Nat) (h : kept.length < orig.length) : (laid kept orig).set kept.length e = laid (kept ++ [e]) orig := by
  unfold laid
  rw [List.set_append_right _ _ (Nat.le_refl _), Nat.sub_self, drop_consW _ _ h, List.set_cons_zero]
  simp
theorem sift_true {l : Nat} {S : ES} {k o : Nat} {r kept : List (Nat × Nat)} (h : 0 < S.val o) : ES.sift l S ((k, o) :: r) kept = ES.sift l S r (kept ++ [(k, o)]) := by
  rw [ES.sift, if_pos h]
theorem sift_found {l : Nat} {S S1 : ES} {k o i x : Nat} {c : CL} {r kept : List (Nat × Nat)} (h : ¬ 0 < S.val o) (hc : ES.turned (S.clause k) l = c) (h1 : S.setC k c = S1) (hs : S1.seek (S1.inside k) c.a (S1.inside k).length c.f = some (i, x)) :
    ES.sift l S ((k, o) :: r) kept = ES.sift l ((S1.setC k { c with f := i, b := x }).addW x k c.a) r kept := by
  rw [ES.sift, if_neg h]
  simp only
  rw [hc, h1, hs]
theorem sift_clash {l : Nat} {S S1 : ES} {k o : Nat} {c : CL} {r kept : List (Nat × Nat)} (h : ¬ 0 < S.val o) (hc : ES.turned (S.clause k) l = c) (h1 : S.setC k c = S1) (hs : S1.seek (S1.inside k) c.a (S1.inside k).length c.f = none) (hx : (S1.settle k c.a).clash.isSome = true) :
    ES.sift l S ((k, o) :: r) kept = (S1.settle k c.a, kept ++ [(k, c.a)] ++ r) := by
  rw [ES.sift, if_neg h]
  simp only
  rw [hc, h1, hs]
  simp only
  rw [if_pos hx]
theorem sift_next {l : Nat} {S S1 : ES} {k o : Nat} {c : CL} {r kept : List (Nat × Nat)} (h : ¬ 0 < S.val o) (hc : ES.turned (S.clause k) l = c) (h1 : S.setC k c = S1) (hs : S1.seek (S1.inside k) c.a (S1.inside k).length c.f = none) (hx : ¬ (S1.settle k c.a).clash.isSome = true) :
    ES.sift l S ((k, o) :: r) kept = ES.sift l (S1.settle k c.a) r (kept ++ [(k, c.a)]) := by
  rw [ES.sift, if_neg h]
  simp only
  rw [hc, h1, hs]
  simp only
  rw [if_neg hx]
theorem setC_setC (S : ES) (k : Nat) (a b : CL) : (S.setC k a).setC k b = S.setC k b := by
  unfold ES.setC
  simp only [List.set_set]
end Go.Pr
namespace Go.Proofs.Ytfpmacnbfbcjgaa
open Go.ChangeShapes Go.WideShapes Go.ChangeAt Go.RowKit
open Go.Pr
theorem Mem.setCl {w : World} {g : Nat} {O : Nat → Prop} {S : ES} {p : Nat → Value} (h : Mem w g O S p) {k : Nat} (hk : k < S.cls.length) {b c : Nat} (hp : p 1 = .slice (some ⟨b, 0, none⟩) S.cls.length c) (j : Nat) (hj : j < 5) (u : Value) (c' : CL) (he : clF c' = (clF (S.clause k)).set j u) :
    Mem (w.setCell ⟨b, k * 5 + j, none⟩ u) g O (S.setC k c') p ∧ Fr O w (w.setCell ⟨b, k * 5 + j, none⟩ u) O := by
  have e : S.clause k = S.cls[k] := by unfold ES.clause; rw [getD_of _ _ _ hk]
  exact h.store (S' := S.setC k c') (i := 1) (by unfold used; omega) hp (k * 5 + j) u rfl rfl (same_of 1 (Or.inr rfl) (Or.inl rfl) (Or.inr rfl) (Or.inr rfl) rfl (Or.inr rfl) (Or.inr rfl) (Or.inr rfl)) (by show (S.cls.set _ _).length = S.cls.length; rw [List.length_set]) (fm_set clF 5 (fun _ => rfl) j _ _ hj S.cls k hk (by rw [he, e]))
theorem Mem.setWt {w : World} {g : Nat} {O : Nat → Prop} {S : ES} {p : Nat → Value} (h : Mem w g O S p) {l : Nat} (hl : l < S.wat.length) {b c : Nat} (hp : p (l + 12) = .slice (some ⟨b, 0, none⟩) (S.watch l).length c) {i : Nat} (hi : i < (S.watch l).length) (j : Nat) (hj : j < 2) (u : Value) (e' : Nat × Nat) (he : watF e' = (watF ((S.watch l).getD i (0, 0))).set j u) :
    Mem (w.setCell ⟨b, i * 2 + j, none⟩ u) g O (S.putW l ((S.watch l).set i e')) p ∧ Fr O w (w.setCell ⟨b, i * 2 + j, none⟩ u) O := by
  have e1 : (S.putW l ((S.watch l).set i e')).watch l = (S.watch l).set i e' := putW_self hl
  exact h.store (S' := S.putW l ((S.watch l).set i e')) (i := l + 12) (by unfold used; omega) hp (i * 2 + j) u rfl (putW_len _ _ _) (same_wat l rfl rfl rfl rfl (fun y hy => putW_ne hy) (putW_len _ _ _) rfl rfl rfl) (by show ((S.putW l _).watch l).length = (S.watch l).length; rw [e1, List.length_set]) (by
    show ((S.putW l _).watch l).flatMap watF = ((S.watch l).flatMap watF).set (i * 2 + j) u
    rw [e1]
    exact fm_set watF 2 (fun _ => rfl) j u e' hj (S.watch l) i hi (by rw [he, getD_of _ _ _ hi]))
/-- both cells of an entry of the watchers of a literal -/
theorem Mem.setW2 {w : World} {g : Nat} {O : Nat → Prop} {S : ES} {p : Nat → Value} (h : Mem w g O S p) {l : Nat} (hl : l < S.wat.length) {b c : Nat} (hp : p (l + 12) = .slice (some ⟨b, 0, none⟩) (S.watch l).length c) {i : Nat} (hi : i < (S.watch l).length) (x y : Nat) :
    Mem ((w.setCell ⟨b, i * 2, none⟩ (.int .i32 (x : Int))).setCell ⟨b, i * 2 + 1, none⟩ (.int .i32 (y : Int))) g O (S.putW l ((S.watch l).set i (x, y))) p ∧ Fr O w ((w.setCell ⟨b, i * 2, none⟩ (.int .i32 (x : Int))).setCell ⟨b, i * 2 + 1, none⟩ (.int .i32 (y : Int))) O ∧ (∃ z, (w.setCell ⟨b, i * 2, none⟩ (.int .i32 (x : Int))).cell? ⟨b, i * 2 + 1, none⟩ = some z) ∧ (w.setCell ⟨b, i * 2, none⟩ (.int .i32 (x : Int))).frozen? ⟨b, i * 2 + 1, none⟩ = false := by
  obtain ⟨m1, r1⟩ := h.setWt hl hp hi 0 (by omega) (.int .i32 (x : Int)) (x, ((S.watch l).getD i (0, 0)).2) rfl
  have e1 : (S.putW l ((S.watch l).set i (x, ((S.watch l).getD i (0, 0)).2))).watch l = (S.watch l).set i (x, ((S.watch l).getD i (0, 0)).2) := putW_self hl
  have e2 : ((S.watch l).set i (x, ((S.watch l).getD i (0, 0)).2)).length = (S.watch l).length := List.length_set
  obtain ⟨m2, r2⟩ := m1.setWt (l := l) (by rw [putW_len]; exact hl) (by rw [hp, e1, e2]) (i := i) (by rw [e1, e2]; exact hi) 1 (by omega) (.int .i32 (y : Int)) (x, y) (by
    rw [e1, getD_of _ _ _ (by rw [e2]; exact hi), List.getElem_set_self]
    rfl)
  rw [putW_put, e1, List.set_set] at m2
  have hc := m1.cellE (i := l + 12) (by unfold used; rw [putW_len]; omega) hp (by show _ = ((S.putW l _).watch l).length; rw [e1, e2]) (j := i * 2 + 1) (by show _ < ((S.putW l _).watch l).length * 2; rw [e1, e2]; omega)
  exact ⟨m2, r1.trans r2, hc.1, hc.2⟩
theorem Mem.watAt {w : World} {g : Nat} {O : Nat → Prop} {S : ES} {p : Nat → Value} (h : Mem w g O S p) {l : Nat} (hl : l < S.wat.length) {b c : Nat} (hp : p (l + 12) = .slice (some ⟨b, 0, none⟩) (S.watch l).length c) {i : Nat} (hi : i < (S.watch l).length) :
    w.cell? ⟨b, i * 2, none⟩ = some (.int .i32 (((S.watch l).getD i (0, 0)).1 : Int)) ∧ w.cell? ⟨b, i * 2 + 1, none⟩ = some (.int .i32 (((S.watch l).getD i (0, 0)).2 : Int)) ∧ w.frozen? ⟨b, i * 2, none⟩ = false ∧ w.frozen? ⟨b, i * 2 + 1, none⟩ = false := by
  have h1 := h.row (l + 12) (by unfold used; omega)
  rw [hp] at h1
  have h2 : w.ownsRow 0 87 2 (.slice (some ⟨b, 0, none⟩) (S.watch l).length c) (S.watch l).length ((S.watch l).flatMap watF) := h1
  have e1 := fm_get watF 2 (fun _ => rfl) (S.watch l) i 0 hi (by omega)
  have e2 := fm_get watF 2 (fun _ => rfl) (S.watch l) i 1 hi (by omega)
  rw [Nat.add_zero] at e1
  rw [h2.cellAt (i * 2) (by omega), h2.cellAt (i * 2 + 1) (by omega), e1, e2, getD_of _ _ _ hi]
  exact ⟨rfl, rfl, h2.frozenAt _, h2.frozenAt _⟩
end Go.Proofs.Ytfpmacnbfbcjgaa
