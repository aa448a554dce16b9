import Derived.Test.YtpkbigjijihljabEK
import Derived.Test.YtpkbigjijihljabEH
namespace Go.Proofs.Ytpkbigjijihljab
open Go.ChangeShapes Go.WideShapes Go.ChangeAt Go.RowKit
open Go.Pr
theorem take_app {α : Type} (A B : List α) (n : Nat) (h : A.length = n) : (A ++ B).take n = A := by subst h; exact List.take_left' rfl
theorem drop_app {α : Type} (A B : List α) (n : Nat) (h : A.length = n) : (A ++ B).drop n = B := by subst h; exact List.drop_left' rfl
theorem fm_drop {α : Type} (f : α → List Value) (k : Nat) (hf : ∀ x, (f x).length = k) (l : List α) (n : Nat) : (l.drop n).flatMap f = (l.flatMap f).drop (n * k) := by
  by_cases h : n ≤ l.length
  · have e : l = l.take n ++ l.drop n := (List.take_append_drop n l).symm
    have e2 : l.flatMap f = (l.take n).flatMap f ++ (l.drop n).flatMap f := by rw [← List.flatMap_append, List.take_append_drop]
    rw [e2, drop_app]
    rw [fm_len f k hf, List.length_take, Nat.min_eq_left h]
  · rw [List.drop_eq_nil_of_le (by omega), List.drop_eq_nil_of_le (by rw [fm_len f k hf]; exact Nat.mul_le_mul_right _ (by omega))]
    rfl
theorem laid_copy {cur : List Value} {kept orig : List (Nat × Nat)} {i1 : Nat} (hk : kept.length ≤ i1) (hi : i1 ≤ orig.length) (h : cur.take (orig.length * 2) = (laid kept orig).flatMap watF) :
    (splice cur (kept.length * 2) ((orig.drop i1).flatMap watF)).take (orig.length * 2) = (kept ++ orig.drop i1 ++ orig.drop (kept.length + (orig.length - i1))).flatMap watF := by
  have hf : ∀ x, (watF x).length = 2 := fun _ => rfl
  have hle : orig.length * 2 ≤ cur.length := by
    have h1 := congrArg List.length h
    rw [fm_len watF 2 hf, laid_len (by omega), List.length_take] at h1
    omega
  have hk2 : (kept.flatMap watF).length = kept.length * 2 := fm_len watF 2 hf _
  have hr : ((orig.drop i1).flatMap watF).length = (orig.length - i1) * 2 := by rw [fm_len watF 2 hf, List.length_drop]
  have h1 : cur.take (kept.length * 2) = kept.flatMap watF := by
    have h2 : (cur.take (orig.length * 2)).take (kept.length * 2) = ((laid kept orig).flatMap watF).take (kept.length * 2) := by rw [h]
    rw [List.take_take, Nat.min_eq_left (by omega)] at h2
    rw [h2]
    unfold laid
    rw [List.flatMap_append, take_app _ _ _ hk2]
  have h3 : (cur.drop (kept.length * 2 + (orig.length - i1) * 2)).take (orig.length * 2 - (kept.length * 2 + (orig.length - i1) * 2)) = (orig.drop (kept.length + (orig.length - i1))).flatMap watF := by
    rw [← List.drop_take, h]
    have e : kept.length * 2 + (orig.length - i1) * 2 = (kept.length + (orig.length - i1)) * 2 := by omega
    rw [e, ← fm_drop watF 2 hf]
    unfold laid
    rw [List.drop_append, List.drop_eq_nil_of_le (by omega), List.nil_append, List.drop_drop]
    congr 2
    omega
  unfold splice
  rw [h1, hr, List.flatMap_append, List.flatMap_append, ← h3]
  rw [← List.append_assoc, List.take_append, List.length_append, hk2, hr]
  rw [List.take_of_length_le (by rw [List.length_append, hk2, hr]; omega)]
theorem Mem.copied {w : World} {g : Nat} {O : Nat → Prop} {S : ES} {p : Nat → Value} {l m bl cx i1 : Nat} {kept orig : List (Nat × Nat)} (h : Mem w g O (S.putW l (laid kept orig)) p) (hl : l < S.wat.length) (hp : p (l + 12) = .slice (some ⟨bl, 0, none⟩) m cx) (hm : orig.length = m) (hk : kept.length ≤ i1) (hi : i1 ≤ m) :
    ∃ cur : List Value, w.heap[bl]? = some (.cells cur.toArray 83 (0, 0)) ∧ kept.length * 2 + ((orig.drop i1).flatMap watF).length ≤ cur.length ∧ (∀ jj v, ((orig.drop i1).flatMap watF)[jj]? = some v → w.cell? ⟨bl, i1 * 2 + jj, none⟩ = some v) ∧
    ∀ w6, w6.heap[bl]? = some (.cells (splice cur (kept.length * 2) ((orig.drop i1).flatMap watF)).toArray 83 (0, 0)) → w.grownBy w6 (some bl) → Mem w6 g O (S.putW l (kept ++ orig.drop i1 ++ orig.drop (kept.length + (m - i1)))) p ∧ Fr O w w6 O := by
  have hf : ∀ x, (watF x).length = 2 := fun _ => rfl
  have hu : used (S.putW l (laid kept orig)) (l + 12) := by unfold used; rw [putW_len]; omega
  have hwl : (S.putW l (laid kept orig)).watch l = laid kept orig := putW_self hl
  have h1 := h.row (l + 12) hu
  rw [hp] at h1
  have hll : (laid kept orig).length = m := by rw [laid_len (by omega), hm]
  have hnR : nR (S.putW l (laid kept orig)) (l + 12) = m := by show ((S.putW l (laid kept orig)).watch l).length = m; rw [hwl, hll]
  have hlR : lR (S.putW l (laid kept orig)) p (l + 12) = (laid kept orig).flatMap watF := by show ((S.putW l (laid kept orig)).watch l).flatMap watF = _; rw [hwl]
  rw [hnR, hlR] at h1
  have h1' : w.ownsRow 0 83 2 (.slice (some ⟨bl, 0, none⟩) m cx) m ((laid kept orig).flatMap watF) := h1
  obtain ⟨_, h2⟩ := h1
  rcases h2 with ⟨e, _⟩ | ⟨g', cap', cur, hv, hb0, hh, hn, hcap, hsz, htk⟩
  · cases e
  · cases hv
    have htk' : cur.toList.take (orig.length * 2) = (laid kept orig).flatMap watF := by rw [hm]; exact htk
    have hsz' : cur.size = cx * 2 := hsz
    have hcl : cur.toList.length = cx * 2 := by rw [Array.length_toList]; exact hsz'
    have hcs : ((orig.drop i1).flatMap watF).length = (m - i1) * 2 := by rw [fm_len watF 2 hf, List.length_drop, hm]
    have hfit : kept.length * 2 + ((orig.drop i1).flatMap watF).length ≤ cur.toList.length := by rw [hcs, hcl]; omega
    refine ⟨cur.toList, by rw [Array.toArray_toList]; exact hh, hfit, fun jj v hv => ?_, fun w6 hw6 hgr => ?_⟩
    · have hjj : jj < (m - i1) * 2 := by
        have := List.getElem?_eq_some_iff.1 hv
        obtain ⟨h5, _⟩ := this
        omega
      rw [h1'.cellAt (i1 * 2 + jj) (by omega)]
      have e : (orig.drop i1).flatMap watF = ((laid kept orig).flatMap watF).drop (i1 * 2) := by
        rw [← fm_drop watF 2 hf]
        unfold laid
        rw [List.drop_append, List.drop_eq_nil_of_le hk, List.nil_append, List.drop_drop]
        congr 2
        omega
      rw [e, List.getElem?_drop] at hv
      exact hv
    · have hX : (S.putW l (kept ++ orig.drop i1 ++ orig.drop (kept.length + (m - i1)))).watch l = kept ++ orig.drop i1 ++ orig.drop (kept.length + (m - i1)) := putW_self hl
      have hXl : (kept ++ orig.drop i1 ++ orig.drop (kept.length + (m - i1))).length = m := by
        rw [List.length_append, List.length_append, List.length_drop, List.length_drop, hm]
        omega
      refine h.relaid (S' := S.putW l (kept ++ orig.drop i1 ++ orig.drop (kept.length + (m - i1)))) hu (by rw [hp]; exact hgr) rfl (by rw [putW_len, putW_len]) (same_wat l rfl rfl rfl rfl (fun y hy => by rw [putW_ne hy, putW_ne hy]) (by rw [putW_len, putW_len]) rfl rfl rfl) ?_
      rw [hp]
      have e1 : nR (S.putW l (kept ++ orig.drop i1 ++ orig.drop (kept.length + (m - i1)))) (l + 12) = m := by show ((S.putW l _).watch l).length = m; rw [hX, hXl]
      have e2 : lR (S.putW l (kept ++ orig.drop i1 ++ orig.drop (kept.length + (m - i1)))) p (l + 12) = (kept ++ orig.drop i1 ++ orig.drop (kept.length + (m - i1))).flatMap watF := by show ((S.putW l _).watch l).flatMap watF = _; rw [hX]
      rw [e1, e2]
      have hlc := laid_copy (cur := cur.toList) hk (by rw [hm]; exact hi) htk'
      rw [hm] at hlc
      refine ⟨by rw [fm_len watF 2 hf, hXl]; rfl, Or.inr ⟨bl, cx, _, rfl, hb0, hw6, hn, hcap, ?_, ?_⟩⟩
      · rw [List.size_toArray, length_splice _ _ _ hfit, hcl]
        rfl
      · show List.take (m * 2) _ = _
        rw [List.toList_toArray]
        exact hlc
end Go.Proofs.Ytpkbigjijihljab
