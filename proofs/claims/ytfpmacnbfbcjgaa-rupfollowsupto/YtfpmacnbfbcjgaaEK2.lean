import Derived.Test.YtfpmacnbfbcjgaaEI
import Derived.Laws.CopyOwn
import Derived.Test.YtfpmacnbfbcjgaaEH
namespace Go.Proofs.Ytfpmacnbfbcjgaa
open Go.ChangeShapes Go.WideShapes Go.ChangeAt Go.RowKit
open Go.Pr
/-- copy of elements of any size, within a region -/
theorem step_copy_sz {P : Program} {ops : Array Oper} {o : Oper} {a : Act} {w : World} {K : Act → World → Prop} {Q : Exit → Act → World → Prop} {E : Prop} (hgd : o.guard = none) (d s : Operand) (dT sT : TypeId)
    (ho : o.op = .call { callee := .builtin .copy, args := #[d, s], argTypes := #[dT, sT] }) (elem : TypeId) (sz : Nat) (hu : P.underlying dT = some (.slice elem)) (hsz : (P.info? elem).map (·.size) = some sz)
    (dp sp : Option Addr) (dLen dCap sLen sCap : Nat) (hd : a.eval d = .slice dp dLen dCap) (hs : a.eval s = .slice sp sLen sCap)
    (g off : Nat) (cur : List Value) (t : TypeId) (hg : w.heap[g]? = some (.cells cur.toArray t (0, 0))) (n : Nat) (hm : Nat.min sLen dLen = n) (cs : List Value) (hn : cs.length = n * sz)
    (hpos : 0 < n → dp = some ⟨g, off, none⟩ ∧ ∃ ad, sp = some ad ∧ ∀ j v, cs[j]? = some v → w.cell? (ad.add j) = some v)
    (hfit : off + cs.length ≤ cur.length) (h1 : ∀ v ∈ cs, v.oneCell' = true)
    (h : ∀ w', Hid (w'.heap[g]? = some (.cells (splice cur off cs).toArray t (0, 0)) ∧ w.grownBy w' (some g)) → K (a.put o.dst (goInt n)) w') :
    if Region.wanted o (yielded ops a.tmps) = true then Oper.wp P o a w K Q else E := by
  have hw : Region.wanted o (yielded ops a.tmps) = true := by simp [Region.wanted, hgd]
  rw [if_pos hw]
  by_cases h0 : n = 0
  · subst h0
    obtain rfl : cs = [] := List.eq_nil_of_length_eq_zero (by rw [hn, Nat.zero_mul])
    have hrun : (Builtin.copy_ #[dT, sT] o.type #[.slice dp dLen dCap, .slice sp sLen sCap]).run P w = .ok (goInt 0) w := by
      cases hq : P.info? elem with
      | none => simp [hq] at hsz
      | some i =>
        have hl : ∀ (x : Addr), (loadCells x 0).run P w = .ok #[] w := fun x => by simpa using run_loadCells_list (P := P) w x [] (by simp)
        cases dp <;> cases sp <;> simp [Builtin.copy_, run_underlying hu, Builtin.lenOf, Builtin.firstCells, sizeOf, typeInfo, hq, hm, storeCells, hl]
    unfold Oper.wp
    simp [execOp, ho, resolve, invoke, builtin, hd, hs, hrun, Result.andThen]
    exact h w ⟨by simpa [splice] using hg, ⟨rfl, rfl, rfl, Nat.le_refl _, fun _ _ _ => rfl⟩⟩
  · obtain ⟨rfl, ad, rfl, hsrc⟩ := hpos (by omega)
    have hl := run_loadCells_list (P := P) w ad cs hsrc
    have hst := run_storeCells_at P g off t cs 0 cur.toArray w hg (by simpa using hfit) h1
    have hrun : (Builtin.copy_ #[dT, sT] o.type #[.slice (some ⟨g, off, none⟩) dLen dCap, .slice (some ad) sLen sCap]).run P w = .ok (goInt n) (w.setRow g (splice cur off cs).toArray) := by
      cases hq : P.info? elem with
      | none => simp [hq] at hsz
      | some i =>
        have hi : i.size = sz := by simpa [hq] using hsz
        rw [hn] at hl
        simp [Builtin.copy_, run_underlying hu, Builtin.lenOf, Builtin.firstCells, sizeOf, typeInfo, hq, hi, hm, hl, hst, splice]
    unfold Oper.wp
    simp [execOp, ho, resolve, invoke, builtin, hd, hs, hrun, Result.andThen]
    exact h _ ⟨by simpa using setRow_heap w g _ _ t _ hg, ⟨rfl, rfl, rfl, by simp [World.setRow], fun k hk hne => setRow_other w g k _ (fun e => hne (by rw [e]))⟩⟩
/-- a row of the engine's is laid anew where it lies -/
theorem Mem.relaid {w w1 : World} {g : Nat} {O : Nat → Prop} {S S' : ES} {p : Nat → Value} (h : Mem w g O S p) {i : Nat} (hi : used S i) (hgr : w.grownBy w1 (p i).ownBlock) (hg : gcells S' p = gcells S p) (hw : S'.wat.length = S.wat.length) (hL : ∀ j, j ≠ i → used S j → nR S' j = nR S j ∧ ∀ q, lR S' q j = lR S q j) (hr : w1.ownsRow 0 (tyR i) (szR i) (p i) (nR S' i) (lR S' p i)) :
    Mem w1 g O S' p ∧ Fr O w w1 O := by
  obtain ⟨h1, h2⟩ := h.rows hi hgr
  refine ⟨⟨by rw [h2, hg], h.og, fun k hk => Nat.lt_of_lt_of_le (h.osz k hk) hgr.size, fun j hj => ?_, fun j hj => h.own j ((used_len hw j).1 hj), fun a b hab ha hb => h.ap a b hab ((used_len hw a).1 ha) ((used_len hw b).1 hb)⟩, hgr.os, hgr.tape, hgr.output, hgr.size, fun k hk hO => hgr.block k hk (fun e => hO (h.own i hi k e.symm)), fun k hk => Or.inl hk⟩
  by_cases e : j = i
  · subst e; exact hr
  · have hj' := (used_len hw j).1 hj
    rw [(hL j e hj').1, (hL j e hj').2]
    exact h1 j e hj'
end Go.Proofs.Ytfpmacnbfbcjgaa
namespace Go.Proofs.Ytfpmacnbfbcjgaa
open Go.ChangeShapes Go.WideShapes Go.ChangeAt Go.RowKit
open Go.Pr
theorem take_app {α : Type} (A B : List α) (n : Nat) (h : A.length = n) : (A ++ B).take n = A := by subst h; exact List.take_left' rfl
theorem drop_app {α : Type} (A B : List α) (n : Nat) (h : A.length = n) : (A ++ B).drop n = B := by subst h; exact List.drop_left' rfl
theorem fm_drop {α : Type} (f : α → List Value) (k : Nat) (hf : ∀ x, (f x).length = k) (l : List α) (n : Nat) : (l.drop n).flatMap f = (l.flatMap f).drop (n * k) := by
  by_cases h : n ≤ l.length
  · have e : l = l.take n ++ l.drop n := (List.take_append_drop n l).symm
    have e2 : l.flatMap f = (l.take n).flatMap f ++ (l.drop n).flatMap f := by rw [← List.flatMap_append, List.take_append_drop]
    rw [e2, drop_app]
    rw [fm_len f k hf, List.length_take, Nat.min_eq_left h]
  · rw [List.drop_eq_nil_of_le (by omega), List.drop_eq_nil_of_le (by rw [fm_len f k hf]; exact Nat.mul_le_mul_right _ (by omega))]
    rfl
theorem laid_copy {cur : List Value} {kept orig : List (Nat × Nat)} {i1 : Nat} (hk : kept.length ≤ i1) (hi : i1 ≤ orig.length) (h : cur.take (orig.length * 2) = (laid kept orig).flatMap watF) :
    (splice cur (kept.length * 2) ((orig.drop i1).flatMap watF)).take (orig.length * 2) = (kept ++ orig.drop i1 ++ orig.drop (kept.length + (orig.length - i1))).flatMap watF := by
  have hf : ∀ x, (watF x).length = 2 := fun _ => rfl
  have hle : orig.length * 2 ≤ cur.length := by
    have h1 := congrArg List.length h
    rw [fm_len watF 2 hf, laid_len (by omega), List.length_take] at h1
    omega
  have hk2 : (kept.flatMap watF).length = kept.length * 2 := fm_len watF 2 hf _
  have hr : ((orig.drop i1).flatMap watF).length = (orig.length - i1) * 2 := by rw [fm_len watF 2 hf, List.length_drop]
  have h1 : cur.take (kept.length * 2) = kept.flatMap watF := by
    have h2 : (cur.take (orig.length * 2)).take (kept.length * 2) = ((laid kept orig).flatMap watF).take (kept.length * 2) := by rw [h]
    rw [List.take_take, Nat.min_eq_left (by omega)] at h2
    rw [h2]
    unfold laid
    rw [List.flatMap_append, take_app _ _ _ hk2]
  have h3 : (cur.drop (kept.length * 2 + (orig.length - i1) * 2)).take (orig.length * 2 - (kept.length * 2 + (orig.length - i1) * 2)) = (orig.drop (kept.length + (orig.length - i1))).flatMap watF := by
    rw [← List.drop_take, h]
    have e : kept.length * 2 + (orig.length - i1) * 2 = (kept.length + (orig.length - i1)) * 2 := by omega
    rw [e, ← fm_drop watF 2 hf]
    unfold laid
    rw [List.drop_append, List.drop_eq_nil_of_le (by omega), List.nil_append, List.drop_drop]
    congr 2
    omega
  unfold splice
  rw [h1, hr, List.flatMap_append, List.flatMap_append, ← h3]
  rw [← List.append_assoc, List.take_append, List.length_append, hk2, hr]
  rw [List.take_of_length_le (by rw [List.length_append, hk2, hr]; omega)]
theorem Mem.copied {w : World} {g : Nat} {O : Nat → Prop} {S : ES} {p : Nat → Value} {l m bl cx i1 : Nat} {kept orig : List (Nat × Nat)} (h : Mem w g O (S.putW l (laid kept orig)) p) (hl : l < S.wat.length) (hp : p (l + 12) = .slice (some ⟨bl, 0, none⟩) m cx) (hm : orig.length = m) (hk : kept.length ≤ i1) (hi : i1 ≤ m) :
    ∃ cur : List Value, w.heap[bl]? = some (.cells cur.toArray 87 (0, 0)) ∧ kept.length * 2 + ((orig.drop i1).flatMap watF).length ≤ cur.length ∧ (∀ jj v, ((orig.drop i1).flatMap watF)[jj]? = some v → w.cell? ⟨bl, i1 * 2 + jj, none⟩ = some v) ∧
    ∀ w6, w6.heap[bl]? = some (.cells (splice cur (kept.length * 2) ((orig.drop i1).flatMap watF)).toArray 87 (0, 0)) → w.grownBy w6 (some bl) → Mem w6 g O (S.putW l (kept ++ orig.drop i1 ++ orig.drop (kept.length + (m - i1)))) p ∧ Fr O w w6 O := by
  have hf : ∀ x, (watF x).length = 2 := fun _ => rfl
  have hu : used (S.putW l (laid kept orig)) (l + 12) := by unfold used; rw [putW_len]; omega
  have hwl : (S.putW l (laid kept orig)).watch l = laid kept orig := putW_self hl
  have h1 := h.row (l + 12) hu
  rw [hp] at h1
  have hll : (laid kept orig).length = m := by rw [laid_len (by omega), hm]
  have hnR : nR (S.putW l (laid kept orig)) (l + 12) = m := by show ((S.putW l (laid kept orig)).watch l).length = m; rw [hwl, hll]
  have hlR : lR (S.putW l (laid kept orig)) p (l + 12) = (laid kept orig).flatMap watF := by show ((S.putW l (laid kept orig)).watch l).flatMap watF = _; rw [hwl]
  rw [hnR, hlR] at h1
  have h1' : w.ownsRow 0 87 2 (.slice (some ⟨bl, 0, none⟩) m cx) m ((laid kept orig).flatMap watF) := h1
  obtain ⟨_, h2⟩ := h1
  rcases h2 with ⟨e, _⟩ | ⟨g', cap', cur, hv, hb0, hh, hn, hcap, hsz, htk⟩
  · cases e
  · cases hv
    have htk' : cur.toList.take (orig.length * 2) = (laid kept orig).flatMap watF := by rw [hm]; exact htk
    have hsz' : cur.size = cx * 2 := hsz
    have hcl : cur.toList.length = cx * 2 := by rw [Array.length_toList]; exact hsz'
    have hcs : ((orig.drop i1).flatMap watF).length = (m - i1) * 2 := by rw [fm_len watF 2 hf, List.length_drop, hm]
    have hfit : kept.length * 2 + ((orig.drop i1).flatMap watF).length ≤ cur.toList.length := by rw [hcs, hcl]; omega
    refine ⟨cur.toList, by rw [Array.toArray_toList]; exact hh, hfit, fun jj v hv => ?_, fun w6 hw6 hgr => ?_⟩
    · have hjj : jj < (m - i1) * 2 := by
        have := List.getElem?_eq_some_iff.1 hv
        obtain ⟨h5, _⟩ := this
        omega
      rw [h1'.cellAt (i1 * 2 + jj) (by omega)]
      have e : (orig.drop i1).flatMap watF = ((laid kept orig).flatMap watF).drop (i1 * 2) := by
        rw [← fm_drop watF 2 hf]
        unfold laid
        rw [List.drop_append, List.drop_eq_nil_of_le hk, List.nil_append, List.drop_drop]
        congr 2
        omega
      rw [e, List.getElem?_drop] at hv
      exact hv
    · have hX : (S.putW l (kept ++ orig.drop i1 ++ orig.drop (kept.length + (m - i1)))).watch l = kept ++ orig.drop i1 ++ orig.drop (kept.length + (m - i1)) := putW_self hl
      have hXl : (kept ++ orig.drop i1 ++ orig.drop (kept.length + (m - i1))).length = m := by
        rw [List.length_append, List.length_append, List.length_drop, List.length_drop, hm]
        omega
      refine h.relaid (S' := S.putW l (kept ++ orig.drop i1 ++ orig.drop (kept.length + (m - i1)))) hu (by rw [hp]; exact hgr) rfl (by rw [putW_len, putW_len]) (same_wat l rfl rfl rfl rfl (fun y hy => by rw [putW_ne hy, putW_ne hy]) (by rw [putW_len, putW_len]) rfl rfl rfl) ?_
      rw [hp]
      have e1 : nR (S.putW l (kept ++ orig.drop i1 ++ orig.drop (kept.length + (m - i1)))) (l + 12) = m := by show ((S.putW l _).watch l).length = m; rw [hX, hXl]
      have e2 : lR (S.putW l (kept ++ orig.drop i1 ++ orig.drop (kept.length + (m - i1)))) p (l + 12) = (kept ++ orig.drop i1 ++ orig.drop (kept.length + (m - i1))).flatMap watF := by show ((S.putW l _).watch l).flatMap watF = _; rw [hX]
      rw [e1, e2]
      have hlc := laid_copy (cur := cur.toList) hk (by rw [hm]; exact hi) htk'
      rw [hm] at hlc
      refine ⟨by rw [fm_len watF 2 hf, hXl]; rfl, Or.inr ⟨bl, cx, _, rfl, hb0, hw6, hn, hcap, ?_, ?_⟩⟩
      · rw [List.size_toArray, length_splice _ _ _ hfit, hcl]
        rfl
      · show List.take (m * 2) _ = _
        rw [List.toList_toArray]
        exact hlc
end Go.Proofs.Ytfpmacnbfbcjgaa
