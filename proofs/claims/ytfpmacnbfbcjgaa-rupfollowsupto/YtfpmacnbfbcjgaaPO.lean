import Derived.Test.YtfpmacnbfbcjgaaPN
namespace Go.Pr

/-- nothing but what may turn has turned -/
structure Same (S S' : ES) : Prop where
  n : S'.n = S.n
  lits : S'.lits = S.lits
  len : S'.cls.length = S.cls.length
  ins : ∀ k, (S'.clause k).s = (S.clause k).s ∧ (S'.clause k).e = (S.clause k).e
  marks : S'.marks = S.marks
  met : S'.met = S.met
  tr : S.trail <+: S'.trail
theorem Same.refl (S : ES) : Same S S := ⟨rfl, rfl, rfl, fun _ => ⟨rfl, rfl⟩, rfl, rfl, List.prefix_rfl⟩
theorem Same.trans {S T U : ES} (h : Same S T) (h2 : Same T U) : Same S U :=
  ⟨h2.n.trans h.n, h2.lits.trans h.lits, h2.len.trans h.len, fun k => ⟨(h2.ins k).1.trans (h.ins k).1, (h2.ins k).2.trans (h.ins k).2⟩, h2.marks.trans h.marks, h2.met.trans h.met, h.tr.trans h2.tr⟩
theorem Same.inside {S S' : ES} (h : Same S S') (k : Nat) : S'.inside k = S.inside k := by unfold ES.inside; rw [h.lits, (h.ins k).1, (h.ins k).2]
theorem WF.val_of {S : ES} (h : WF S) (c : Nat) : S.val c = -1 ∨ S.val c = 0 ∨ S.val c = 1 := by
  unfold ES.val
  by_cases hc : c < S.vals.length
  · rw [getD_of _ _ _ hc]; exact h.val3 _ (List.getElem_mem _)
  · rw [List.getD_eq_getElem?_getD, List.getElem?_eq_none (by omega)]; exact Or.inr (Or.inl rfl)
theorem WF.clause_ok {S : ES} (h : WF S) {k : Nat} (hk : k < S.cls.length) : (S.clause k).s ≤ (S.clause k).e ∧ (S.clause k).e ≤ S.lits.length ∧ (S.clause k).e - (S.clause k).s ≤ 65536 ∧ (S.clause k).f ≤ 65536 ∧ (S.clause k).a < 2 * S.n + 2 ∧ (S.clause k).b < 2 * S.n + 2 ∧ (S.clause k).a ≠ 1 ∧ (S.clause k).b ≠ 1 := by
  unfold ES.clause
  rw [getD_of _ _ _ hk]
  exact h.cls _ (List.getElem_mem _)
theorem WF.inside_mem {S : ES} (h : WF S) {k c : Nat} (hc : c ∈ S.inside k) : 2 ≤ c ∧ c < 2 * S.n + 2 := h.lits c (List.mem_of_mem_drop (List.mem_of_mem_take hc))
theorem WF.inside_len {S : ES} (h : WF S) {k : Nat} (hk : k < S.cls.length) : (S.inside k).length = (S.clause k).e - (S.clause k).s := by
  have := h.clause_ok hk
  unfold ES.inside
  rw [List.length_take, List.length_drop]
  omega
theorem WF.settle {S : ES} (h : WF S) {k l : Nat} (hk : k < S.cls.length) (hl : l < 2 * S.n + 2) (h1 : l ≠ 1) : WF (S.settle k l) ∧ Same S (S.settle k l) := by
  unfold ES.settle
  split
  · next h0 =>
    have hl0 : l ≠ 0 := fun e => by rw [e, h.val0] at h0; exact absurd h0 (by decide)
    exact ⟨h.set (by omega) hl h0, ⟨rfl, rfl, rfl, fun _ => ⟨rfl, rfl⟩, rfl, rfl, List.prefix_append _ _⟩⟩
  · split
    · exact ⟨{ h with clash := fun j hj => by cases hj; exact hk }, ⟨rfl, rfl, rfl, fun _ => ⟨rfl, rfl⟩, rfl, rfl, List.prefix_rfl⟩⟩
    · exact ⟨h, Same.refl S⟩
theorem WF.remember {S : ES} (h : WF S) {k : Option Nat} {l since : Nat} (hk : ∀ j, k = some j → j < S.cls.length) (hl : l < 2 * S.n + 2) (h1 : l ≠ 1) : WF (S.remember k l since) ∧ Same S (S.remember k l since) := by
  unfold ES.remember
  split
  · refine ⟨{ h with tks := fun t ht => ?_, dn := ?_ }, ⟨rfl, rfl, rfl, fun _ => ⟨rfl, rfl⟩, rfl, rfl, List.prefix_rfl⟩⟩
    · rcases List.mem_append.1 ht with ht | ht
      · exact h.tks t ht
      · have e : t = ⟨k, l, since, S.level⟩ := by simpa using ht
        subst e
        exact ⟨hl, h1, hk⟩
    · have := h.dn
      simp
      omega
  · exact ⟨h, Same.refl S⟩
theorem last2_all (S : ES) (P : Nat → Prop) : ∀ (ls : List Nat) (f s : Nat), P f → P s → (∀ l ∈ ls, P l) → P (S.last2 ls f s).1 ∧ P (S.last2 ls f s).2
  | [], f, s, hf, hs, _ => ⟨hf, hs⟩
  | l :: r, f, s, hf, hs, h => by
    have hl := h l List.mem_cons_self
    have hr : ∀ x ∈ r, P x := fun x hx => h x (List.mem_cons_of_mem _ hx)
    unfold ES.last2
    split
    · exact last2_all S P r f s hf hs hr
    · split
      · exact last2_all S P r l f hl hf hr
      · split
        · exact last2_all S P r f l hf hl hr
        · split
          · exact ⟨hf, hs⟩
          · exact last2_all S P r f s hf hs hr
theorem mem_setL {α : Type} {l : List α} {i : Nat} {x y : α} (h : y ∈ l.set i x) : y ∈ l ∨ y = x := List.mem_or_eq_of_mem_set h
theorem WF.setC {S : ES} (h : WF S) {k : Nat} {c : CL} (hs : c.s = (S.clause k).s) (he : c.e = (S.clause k).e) (hk : k < S.cls.length) (hf : c.f ≤ 65536) (ha : c.a < 2 * S.n + 2) (hb : c.b < 2 * S.n + 2) (ha1 : c.a ≠ 1) (hb1 : c.b ≠ 1) : WF (S.setC k c) ∧ Same S (S.setC k c) := by
  have h0 := h.clause_ok hk
  refine ⟨{ h with cls := fun d hd => ?_, cll := ?_, met := ?_, wat := fun ws hw e he2 => ?_, tks := fun t ht => ?_, clash := fun j hj => ?_ }, ⟨rfl, rfl, by simp [ES.setC], fun j => ?_, rfl, rfl, List.prefix_rfl⟩⟩
  · rcases mem_setL hd with hd | hd
    · exact h.cls d hd
    · subst hd
      rw [hs, he]
      exact ⟨h0.1, h0.2.1, h0.2.2.1, hf, ha, hb, ha1, hb1⟩
  · simp [ES.setC]; exact h.cll
  · simp [ES.setC]; exact h.met
  · have := h.wat ws hw e he2
    simp [ES.setC]
    exact this
  · have := h.tks t ht
    simp [ES.setC]
    exact this
  · have := h.clash j hj
    simp [ES.setC]
    exact this
  · unfold ES.setC ES.clause
    by_cases e : k = j
    · subst e
      rw [List.getD_eq_getElem?_getD, List.getElem?_set, if_pos rfl, if_pos hk]
      exact ⟨hs, he⟩
    · rw [List.getD_eq_getElem?_getD, List.getElem?_set, if_neg e, ← List.getD_eq_getElem?_getD]
      exact ⟨rfl, rfl⟩
theorem WF.watch_ok {S : ES} (h : WF S) {c : Nat} {e : Nat × Nat} (he : e ∈ S.watch c) : e.1 < S.cls.length ∧ e.2 < 2 * S.n + 2 ∧ e.2 ≠ 1 := by
  unfold ES.watch at he
  by_cases hc : c < S.wat.length
  · rw [getD_of _ _ _ hc] at he
    exact h.wat _ (List.getElem_mem _) e he
  · rw [List.getD_eq_getElem?_getD, List.getElem?_eq_none (by omega)] at he
    exact absurd he (by simp)
theorem WF.setW {S : ES} (h : WF S) {c : Nat} {ws : List (Nat × Nat)} (hw : ∀ e ∈ ws, e.1 < S.cls.length ∧ e.2 < 2 * S.n + 2 ∧ e.2 ≠ 1) : WF { S with wat := S.wat.set c ws } ∧ Same S { S with wat := S.wat.set c ws } := by
  refine ⟨{ h with wtl := by simp [h.wtl], wat := fun us hu e he => ?_ }, ⟨rfl, rfl, rfl, fun _ => ⟨rfl, rfl⟩, rfl, rfl, List.prefix_rfl⟩⟩
  rcases mem_setL hu with hu | hu
  · exact h.wat us hu e he
  · subst hu
    exact hw e he
theorem WF.addW {S : ES} (h : WF S) {c k o : Nat} (hk : k < S.cls.length) (ho : o < 2 * S.n + 2) (ho1 : o ≠ 1) : WF (S.addW c k o) ∧ Same S (S.addW c k o) := by
  refine h.setW fun e he => ?_
  rcases List.mem_append.1 he with he | he
  · exact h.watch_ok he
  · have e1 : e = (k, o) := by simpa using he
    subst e1
    exact ⟨hk, ho, ho1⟩
theorem WF.meet {S : ES} (h : WF S) {k : Nat} (hk : k < S.cls.length) : WF (S.meet k) ∧ Same S (S.meet k) := by
  have hl := last2_all S (fun c => c < 2 * S.n + 2 ∧ c ≠ 1) (S.inside k) 0 0 ⟨by omega, by omega⟩ ⟨by omega, by omega⟩ (fun c hc => by have := h.inside_mem hc; exact ⟨this.2, by omega⟩)
  unfold ES.meet
  generalize S.last2 (S.inside k) 0 0 = p at *
  obtain ⟨f, s⟩ := p
  obtain ⟨⟨f1, f2⟩, s1, s2⟩ := hl
  have hc := h.clause_ok hk
  have h1 : WF (S.meet1 k f s) ∧ Same S (S.meet1 k f s) := by
    unfold ES.meet1
    split
    · obtain ⟨a1, a2⟩ := h.setC (c := { S.clause k with a := f, b := s }) rfl rfl hk hc.2.2.2.1 f1 s1 f2 s2
      obtain ⟨b1, b2⟩ := a1.addW (c := f) (k := k) (o := s) (by rw [a2.len]; exact hk) (by rw [a2.n]; exact s1) s2
      obtain ⟨c1, c2⟩ := b1.addW (c := s) (k := k) (o := f) (by rw [b2.len, a2.len]; exact hk) (by rw [b2.n, a2.n]; exact f1) f2
      exact ⟨c1, a2.trans (b2.trans c2)⟩
    · exact ⟨h, Same.refl S⟩
  obtain ⟨w1, e1⟩ := h1
  show WF ((S.meet1 k f s).meet2 k f s) ∧ Same S ((S.meet1 k f s).meet2 k f s)
  unfold ES.meet2
  split
  · exact ⟨w1, e1⟩
  · obtain ⟨w2, e2⟩ := w1.settle (k := k) (l := f) (by rw [e1.len]; exact hk) (by rw [e1.n]; exact f1) f2
    obtain ⟨w3, e3⟩ := w2.remember (k := some k) (l := f) (since := (S.meet1 k f s).fs s) (fun j hj => by cases hj; rw [e2.len, e1.len]; exact hk) (by rw [e2.n, e1.n]; exact f1) f2
    exact ⟨w3, e1.trans (e2.trans e3)⟩
theorem seek_ok (S : ES) (all : List Nat) (o : Nat) : ∀ (m i j x : Nat), 0 < all.length → S.seek all o m i = some (j, x) → j < all.length ∧ x ∈ all ∧ x ≠ o ∧ 0 ≤ S.val x
  | 0, i, j, x, _, h => by simp [ES.seek] at h
  | m + 1, i, j, x, hl, h => by
    unfold ES.seek at h
    simp only at h
    have hi : (if all.length ≤ i then 0 else i) < all.length := by split <;> omega
    generalize (if all.length ≤ i then 0 else i) = i' at *
    split at h
    · next hc =>
      cases h
      exact ⟨hi, by rw [getD_of _ _ _ hi]; exact List.getElem_mem _, hc.1, hc.2⟩
    · exact seek_ok S all o m (i' + 1) j x hl h
theorem turned_ok {c : CL} {l n : Nat} (ha : c.a < n) (hb : c.b < n) (hl : l < n) (ha1 : c.a ≠ 1) (hb1 : c.b ≠ 1) (hl1 : l ≠ 1) : (ES.turned c l).s = c.s ∧ (ES.turned c l).e = c.e ∧ (ES.turned c l).f = c.f ∧ (ES.turned c l).a < n ∧ (ES.turned c l).b < n ∧ (ES.turned c l).a ≠ 1 ∧ (ES.turned c l).b ≠ 1 := by
  unfold ES.turned
  split
  · exact ⟨rfl, rfl, rfl, hb, hl, hb1, hl1⟩
  · exact ⟨rfl, rfl, rfl, ha, hb, ha1, hb1⟩
theorem clause_setC {S : ES} {k : Nat} {c : CL} (hk : k < S.cls.length) : (S.setC k c).clause k = c := by
  unfold ES.setC ES.clause
  rw [List.getD_eq_getElem?_getD, List.getElem?_set, if_pos rfl, if_pos hk]
  rfl
theorem sift_wf (l : Nat) (hl1 : l ≠ 1) : ∀ (ls : List (Nat × Nat)) (S : ES) (kept : List (Nat × Nat)), WF S → l < 2 * S.n + 2 → (∀ e ∈ ls, e.1 < S.cls.length ∧ e.2 < 2 * S.n + 2 ∧ e.2 ≠ 1) → (∀ e ∈ kept, e.1 < S.cls.length ∧ e.2 < 2 * S.n + 2 ∧ e.2 ≠ 1) →
    WF (ES.sift l S ls kept).1 ∧ Same S (ES.sift l S ls kept).1 ∧ ∀ e ∈ (ES.sift l S ls kept).2, e.1 < S.cls.length ∧ e.2 < 2 * S.n + 2 ∧ e.2 ≠ 1
  | [], S, kept, h, _, _, hk => ⟨h, Same.refl S, hk⟩
  | (k, o) :: r, S, kept, h, hl, hls, hkp => by
    have hko := hls (k, o) List.mem_cons_self
    have hr : ∀ e ∈ r, e.1 < S.cls.length ∧ e.2 < 2 * S.n + 2 ∧ e.2 ≠ 1 := fun e he => hls e (List.mem_cons_of_mem _ he)
    unfold ES.sift
    split
    · refine sift_wf l hl1 r S (kept ++ [(k, o)]) h hl hr (fun e he => ?_)
      rcases List.mem_append.1 he with he | he
      · exact hkp e he
      · have e1 : e = (k, o) := by simpa using he
        rw [e1]; exact hko
    · have hc := h.clause_ok hko.1
      have ht := turned_ok (c := S.clause k) (l := l) hc.2.2.2.2.1 hc.2.2.2.2.2.1 hl hc.2.2.2.2.2.2.1 hc.2.2.2.2.2.2.2 hl1
      simp only
      generalize ES.turned (S.clause k) l = c at *
      obtain ⟨w1, e1⟩ := h.setC (k := k) (c := c) ht.1 ht.2.1 hko.1 (by rw [ht.2.2.1]; exact hc.2.2.2.1) ht.2.2.2.1 ht.2.2.2.2.1 ht.2.2.2.2.2.1 ht.2.2.2.2.2.2
      have hcl : (S.setC k c).clause k = c := clause_setC hko.1
      generalize S.setC k c = S1 at *
      have hk1 : k < S1.cls.length := by rw [e1.len]; exact hko.1
      have fin : ∀ {S2 : ES} {kp : List (Nat × Nat)}, WF S2 → Same S S2 → (∀ e ∈ kp, e.1 < S.cls.length ∧ e.2 < 2 * S.n + 2 ∧ e.2 ≠ 1) → WF (ES.sift l S2 r kp).1 ∧ Same S (ES.sift l S2 r kp).1 ∧ ∀ e ∈ (ES.sift l S2 r kp).2, e.1 < S.cls.length ∧ e.2 < 2 * S.n + 2 ∧ e.2 ≠ 1 := by
        intro S2 kp w2 e2 hkp2
        have := sift_wf l hl1 r S2 kp w2 (by rw [e2.n]; exact hl) (by rw [e2.n, e2.len]; exact hr) (by rw [e2.n, e2.len]; exact hkp2)
        rw [e2.n, e2.len] at this
        exact ⟨this.1, e2.trans this.2.1, this.2.2⟩
      have hkp2 : ∀ e ∈ kept ++ [(k, c.a)], e.1 < S.cls.length ∧ e.2 < 2 * S.n + 2 ∧ e.2 ≠ 1 := fun e he => by
        rcases List.mem_append.1 he with he | he
        · exact hkp e he
        · have e3 : e = (k, c.a) := by simpa using he
          rw [e3]
          exact ⟨hko.1, ht.2.2.2.1, ht.2.2.2.2.2.1⟩
      split
      · next i x hs =>
        have hlen := w1.inside_len hk1
        have hc1 := w1.clause_ok hk1
        have h0 : 0 < (S1.inside k).length := by
          rcases Nat.eq_zero_or_pos (S1.inside k).length with e | e
          · rw [e] at hs
            simp [ES.seek] at hs
          · exact e
        obtain ⟨q1, q2, q3, q4⟩ := seek_ok _ _ _ _ _ _ _ h0 hs
        have hx := w1.inside_mem q2
        obtain ⟨w2, e2⟩ := w1.setC (k := k) (c := { c with f := i, b := x }) (by rw [hcl]) (by rw [hcl]) hk1 (by show i ≤ 65536; omega) (by rw [e1.n]; exact ht.2.2.2.1) hx.2 ht.2.2.2.2.2.1 (by show x ≠ 1; omega)
        obtain ⟨w3, e3⟩ := w2.addW (c := x) (k := k) (o := c.a) (by rw [e2.len]; exact hk1) (by rw [e2.n, e1.n]; exact ht.2.2.2.1) ht.2.2.2.2.2.1
        exact fin w3 (e1.trans (e2.trans e3)) hkp
      · obtain ⟨w2, e2⟩ := w1.settle (k := k) (l := c.a) hk1 (by rw [e1.n]; exact ht.2.2.2.1) ht.2.2.2.2.2.1
        split
        · refine ⟨w2, e1.trans e2, fun e he => ?_⟩
          rcases List.mem_append.1 he with he | he
          · exact hkp2 e he
          · exact hr e he
        · exact fin w2 (e1.trans e2) hkp2
theorem WF.visit {S : ES} (h : WF S) {l : Nat} (hl : l < 2 * S.n + 2) (hl1 : l ≠ 1) : WF (S.visit l) ∧ Same S (S.visit l) := by
  obtain ⟨w1, e1, h3⟩ := sift_wf l hl1 (S.watch l) S [] h hl (fun e he => h.watch_ok he) (fun e he => absurd he (by simp))
  unfold ES.visit
  simp only
  generalize ES.sift l S (S.watch l) [] = p at *
  obtain ⟨w2, e2⟩ := w1.setW (c := l) (ws := p.2) (by rw [e1.n, e1.len]; exact h3)
  exact ⟨w2, e1.trans e2⟩
theorem WF.tell {S : ES} (h : WF S) {l : Nat} (hl : l < 2 * S.n + 2) (hl1 : l ≠ 1) : WF (S.tell l) ∧ Same S (S.tell l) := by
  obtain ⟨w1, e1⟩ := h.visit hl hl1
  unfold ES.tell
  simp only
  split
  · exact ⟨w1, e1⟩
  · obtain ⟨w2, e2⟩ := w1.remember (k := none) (l := l) (since := (S.visit l).lvl l) (fun j hj => by cases hj) (by rw [e1.n]; exact hl) hl1
    exact ⟨w2, e1.trans e2⟩
theorem WF.again {S : ES} (h : WF S) (hd : S.done < S.tasks.length) : WF S.again ∧ Same S S.again := by
  have ht := h.tks (S.tasks.getD S.done tk0) (by rw [getD_of _ _ _ hd]; exact List.getElem_mem _)
  unfold ES.again
  simp only
  generalize S.tasks.getD S.done tk0 = t at *
  have w1 : WF { S with tasks := S.tasks.set S.done { t with lv := S.level }, done := S.done + 1 } := by
    refine { h with tks := fun u hu => ?_, dn := by simp; omega }
    rcases mem_setL hu with hu | hu
    · exact h.tks u hu
    · rw [hu]; exact ht
  have e1 : Same S { S with tasks := S.tasks.set S.done { t with lv := S.level }, done := S.done + 1 } := ⟨rfl, rfl, rfl, fun _ => ⟨rfl, rfl⟩, rfl, rfl, List.prefix_rfl⟩
  split
  · obtain ⟨w2, e2⟩ := w1.visit (l := t.lit) ht.1 ht.2.1
    exact ⟨w2, e1.trans e2⟩
  · next k hk =>
    obtain ⟨w2, e2⟩ := w1.settle (k := k) (l := t.lit) (ht.2.2 k hk) ht.1 ht.2.1
    exact ⟨w2, e1.trans e2⟩
end Go.Pr
