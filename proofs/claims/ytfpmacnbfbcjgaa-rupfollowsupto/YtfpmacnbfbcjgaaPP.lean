import Derived.Test.YtfpmacnbfbcjgaaPO
namespace Go.Pr

theorem WF.add {S : ES} (h : WF S) {c : List Nat} (hc : ∀ x ∈ c, 2 ≤ x ∧ x < 2 * S.n + 2) (h1 : S.lits.length + c.length ≤ 4194304) (h2 : S.cls.length < 1048576) (h3 : c.length ≤ 65536) : WF (S.add c) := by
  refine { h with lits := fun x hx => ?_, litl := ?_, cls := fun d hd => ?_, cll := ?_, met := ?_, wat := fun ws hw e he => ?_, tks := fun t ht => ?_, clash := fun k hk => ?_ }
  · rcases List.mem_append.1 hx with hx | hx
    · exact h.lits x hx
    · exact hc x hx
  · show (S.lits ++ c).length ≤ _
    rw [List.length_append]; exact h1
  · show _ ∧ _ ≤ (S.lits ++ c).length ∧ _
    rw [List.length_append]
    rcases List.mem_append.1 hd with hd | hd
    · have := h.cls d hd
      exact ⟨this.1, by omega, this.2.2⟩
    · have e : d = ⟨S.lits.length, S.lits.length + c.length, 0, 0, 0⟩ := by simpa using hd
      subst e
      refine ⟨by simp, by simp, ?_, by simp, ?_, ?_, by simp, by simp⟩
      · show S.lits.length + c.length - S.lits.length ≤ _; omega
      · show 0 < _; omega
      · show 0 < _; omega
  · show (S.cls ++ _).length ≤ _
    simp
    omega
  · show S.met ≤ (S.cls ++ _).length
    have := h.met
    simp
    omega
  · have := h.wat ws hw e he
    refine ⟨?_, this.2⟩
    show e.1 < (S.cls ++ _).length
    simp
    omega
  · have := h.tks t ht
    refine ⟨this.1, this.2.1, fun k hk => ?_⟩
    have := this.2.2 k hk
    show k < (S.cls ++ _).length
    simp
    omega
  · have := h.clash k hk
    show k < (S.cls ++ _).length
    simp
    omega
theorem WF.decide {S : ES} (h : WF S) {l : Nat} (h1 : 2 ≤ l) (h2 : l < 2 * S.n + 2) (h0 : S.val l = 0) : WF (S.decide l) := by
  have hs := h.set (r := none) h1 h2 h0
  unfold ES.decide
  refine { n := hs.n, lits := hs.lits, litl := hs.litl, cls := hs.cls, cll := hs.cll, met := hs.met, vall := hs.vall, val3 := hs.val3, val0 := hs.val0, valx := hs.valx, givl := by simp [ES.set, h.givl], wtl := hs.wtl, wat := hs.wat, tr := hs.tr, trd := hs.trd, trv := hs.trv, head := hs.head, mks := fun m hm => ?_, mkd := ?_, tks := hs.tks, dn := hs.dn, clash := hs.clash }
  · show m < (S.trail ++ [l]).length
    rcases List.mem_append.1 hm with hm | hm
    · have := h.mks m hm
      simp
      omega
    · have e : m = S.trail.length := by simpa using hm
      subst e
      simp
  · show (S.marks ++ [S.trail.length]).Pairwise _
    rw [List.pairwise_append]
    refine ⟨h.mkd, by simp, fun a ha b hb => ?_⟩
    have e : b = S.trail.length := by simpa using hb
    subst e
    exact h.mks a ha
theorem unset_get : ∀ (ls : List Nat) (vs : List Int) (n c : Nat), vs.length = 2 * n + 2 → (∀ l ∈ ls, 2 ≤ l ∧ l < 2 * n + 2) → (ES.unset vs ls).length = 2 * n + 2 ∧ ((∃ l ∈ ls, c = l ∨ c = opp l) → (ES.unset vs ls).getD c 0 = 0) ∧ ((∀ l ∈ ls, c ≠ l ∧ c ≠ opp l) → (ES.unset vs ls).getD c 0 = vs.getD c 0)
  | [], vs, n, c, hl, _ => ⟨hl, fun ⟨l, hl, _⟩ => absurd hl (by simp), fun _ => rfl⟩
  | l :: r, vs, n, c, hl, h => by
    have h1 := h l List.mem_cons_self
    have ho := opp_lt h1.1 h1.2
    have hr : ∀ x ∈ r, 2 ≤ x ∧ x < 2 * n + 2 := fun x hx => h x (List.mem_cons_of_mem _ hx)
    obtain ⟨a1, a2, a3⟩ := unset_get r ((vs.set l 0).set (opp l) 0) n c (by simp [hl]) hr
    have hg := getD_set2 vs l (opp l) c 0 0 (by omega) (by omega)
    unfold ES.unset
    refine ⟨a1, ?_, ?_⟩
    · rintro ⟨x, hx, hc⟩
      by_cases hin : ∃ y ∈ r, c = y ∨ c = opp y
      · exact a2 hin
      · rw [a3 (fun y hy => ⟨fun e => hin ⟨y, hy, Or.inl e⟩, fun e => hin ⟨y, hy, Or.inr e⟩⟩), hg]
        rcases List.mem_cons.1 hx with e | e
        · subst e
          rcases hc with hc | hc
          · rw [if_neg (fun e => ho.2.2.1 (by rw [← e, hc])), if_pos hc]
          · rw [if_pos hc]
        · exact absurd ⟨x, e, hc⟩ hin
    · intro hn
      have hn1 := hn l List.mem_cons_self
      rw [a3 (fun y hy => hn y (List.mem_cons_of_mem _ hy)), hg, if_neg hn1.2, if_neg hn1.1]
theorem unset_mem : ∀ (ls : List Nat) (vs : List Int) (z : Int), z ∈ ES.unset vs ls → z ∈ vs ∨ z = 0
  | [], vs, z, h => Or.inl h
  | l :: r, vs, z, h => by
    unfold ES.unset at h
    rcases unset_mem r _ z h with h | h
    · rcases mem_set2 h with h | h | h
      · exact Or.inl h
      · exact Or.inr h
      · exact Or.inr h
    · exact Or.inr h
theorem undone_le (ts : List TK) (m : Nat) : ∀ d, ES.undone ts m d ≤ d
  | 0 => Nat.le_refl _
  | d + 1 => by
    unfold ES.undone
    split
    · exact Nat.le_succ_of_le (undone_le ts m d)
    · exact Nat.le_refl _
theorem nodup_parts {tr : List Nat} {i : Nat} (h : (tr.map fun c => c / 2).Nodup) {a b : Nat} (ha : a ∈ tr.take i) (hb : b ∈ tr.drop i) : a / 2 ≠ b / 2 := by
  have e : tr = tr.take i ++ tr.drop i := (List.take_append_drop i tr).symm
  rw [e, List.map_append, List.nodup_append] at h
  exact h.2.2 _ (List.mem_map.2 ⟨a, ha, rfl⟩) _ (List.mem_map.2 ⟨b, hb, rfl⟩)
theorem WF.back {S : ES} (h : WF S) {m : Nat} (hm : m < S.marks.length) : WF (S.back m) := by
  have hmk : S.marks.getD m 0 < S.trail.length := by rw [getD_of _ _ _ hm]; exact h.mks _ (List.getElem_mem _)
  have hleft : ∀ x ∈ S.marks.take m, x < S.marks.getD m 0 := fun x hx => by
    obtain ⟨j, hj, rfl⟩ := List.getElem_of_mem hx
    have hj' : j < m := by simp at hj; omega
    rw [List.getElem_take, getD_of _ _ _ hm]
    exact (List.pairwise_iff_getElem.1 h.mkd) j m (by omega) hm hj'
  have hdr : ∀ l ∈ S.trail.drop (S.marks.getD m 0), 2 ≤ l ∧ l < 2 * S.n + 2 := fun l hl => by have := h.tr l (List.mem_of_mem_drop hl); exact ⟨this.1, this.2.1⟩
  have hun := undone_le S.tasks m S.done
  unfold ES.back
  simp only
  generalize S.marks.getD m 0 = left at *
  generalize ES.undone S.tasks m S.done = d at *
  have hg := fun c => unset_get (S.trail.drop left) S.vals S.n c h.vall hdr
  have hnt : ∀ c ∈ S.trail.take left, ∀ l ∈ S.trail.drop left, c ≠ l ∧ c ≠ opp l := fun c hc l hl => by
    have hne := nodup_parts h.trd hc hl
    have ho := opp_lt (hdr l hl).1 (hdr l hl).2
    exact ⟨fun e => hne (by rw [e]), fun e => hne (by rw [e]; exact ho.2.2.2.2)⟩
  refine { n := h.n, lits := h.lits, litl := h.litl, cls := h.cls, cll := h.cll, met := h.met, vall := (hg 0).1, val3 := fun x hx => ?_, val0 := ?_, valx := fun c hc hc2 => ?_, givl := h.givl, wtl := h.wtl, wat := h.wat, tr := fun c hc => ?_, trd := ?_, trv := fun c hc hc2 hc3 => ?_, head := ?_, mks := fun x hx => ?_, mkd := h.mkd.sublist (List.take_sublist _ _), tks := fun t ht => ?_, dn := ?_, clash := fun k hk => by cases hk }
  · rcases unset_mem _ _ _ hx with h1 | h1
    · exact h.val3 x h1
    · exact Or.inr (Or.inl h1)
  · show (ES.unset S.vals _).getD 0 0 = -1
    rw [(hg 0).2.2 (fun l hl => ?_)]
    · exact h.val0
    · have h1 := hdr l hl
      have ho := opp_lt h1.1 h1.2
      exact ⟨by omega, by omega⟩
  · show (ES.unset S.vals _).getD (opp c) 0 = -(ES.unset S.vals _).getD c 0
    have hoc := opp_lt hc hc2
    by_cases hin : ∃ l ∈ S.trail.drop left, c = l ∨ c = opp l
    · rw [(hg c).2.1 hin, (hg (opp c)).2.1]
      · rfl
      · obtain ⟨l, hl, e | e⟩ := hin
        · exact ⟨l, hl, Or.inr (by rw [e])⟩
        · have ho := opp_lt (hdr l hl).1 (hdr l hl).2
          exact ⟨l, hl, Or.inl (by rw [e, ho.2.2.2.1])⟩
    · have hn : ∀ l ∈ S.trail.drop left, c ≠ l ∧ c ≠ opp l := fun l hl => ⟨fun e => hin ⟨l, hl, Or.inl e⟩, fun e => hin ⟨l, hl, Or.inr e⟩⟩
      rw [(hg c).2.2 hn, (hg (opp c)).2.2 (fun l hl => ?_)]
      · exact h.valx c hc hc2
      · have ho := opp_lt (hdr l hl).1 (hdr l hl).2
        exact ⟨fun e => (hn l hl).2 (by rw [← e, hoc.2.2.2.1]), fun e => (hn l hl).1 (by rw [← hoc.2.2.2.1, e, ho.2.2.2.1])⟩
  · have h1 := h.tr c (List.mem_of_mem_take hc)
    refine ⟨h1.1, h1.2.1, ?_⟩
    show (ES.unset S.vals _).getD c 0 = 1
    rw [(hg c).2.2 (fun l hl => hnt c hc l hl)]
    exact h1.2.2
  · show ((S.trail.take left).map fun c => c / 2).Nodup
    exact h.trd.sublist ((List.take_sublist _ _).map _)
  · have hc4 : (ES.unset S.vals (S.trail.drop left)).getD c 0 = 1 := hc3
    by_cases hin : ∃ l ∈ S.trail.drop left, c = l ∨ c = opp l
    · rw [(hg c).2.1 hin] at hc4; exact absurd hc4 (by decide)
    · have hn : ∀ l ∈ S.trail.drop left, c ≠ l ∧ c ≠ opp l := fun l hl => ⟨fun e => hin ⟨l, hl, Or.inl e⟩, fun e => hin ⟨l, hl, Or.inr e⟩⟩
      rw [(hg c).2.2 hn] at hc4
      have hm2 := h.trv c hc hc2 hc4
      rw [← List.take_append_drop left S.trail, List.mem_append] at hm2
      rcases hm2 with h1 | h1
      · exact h1
      · exact absurd rfl (hn c h1).1
  · show min S.head left ≤ (S.trail.take left).length
    rw [List.length_take]
    have := h.head
    omega
  · show x < (S.trail.take left).length
    have := hleft x hx
    rw [List.length_take]
    omega
  · have ht2 : t ∈ S.tasks := by
      rcases List.mem_append.1 ht with h1 | h1
      · exact List.mem_of_mem_take h1
      · exact List.mem_of_mem_drop (List.mem_filter.1 h1).1
    exact h.tks t ht2
  · show d ≤ (S.tasks.take d ++ _).length
    have := h.dn
    rw [List.length_append, List.length_take]
    omega
theorem WF.step {S T : ES} (h : WF S) (hs : S.step = some T) : WF T := by
  unfold ES.step at hs
  split at hs
  · next hd =>
    cases hs
    exact (h.again hd).1
  · split at hs
    · next hm =>
      cases hs
      obtain ⟨w1, e1⟩ := h.meet hm
      exact { w1 with met := by show S.met + 1 ≤ _; rw [e1.len]; exact hm }
    · split at hs
      · next hh =>
        cases hs
        have ht := h.tr (S.trail.getD S.head 0) (by rw [getD_of _ _ _ hh]; exact List.getElem_mem _)
        have ho := opp_lt ht.1 ht.2.1
        obtain ⟨w1, e1⟩ := h.tell (l := opp (S.trail.getD S.head 0)) ho.2.1 (by omega)
        refine { w1 with head := ?_ }
        have := e1.tr.length_le
        show S.head + 1 ≤ (S.tell _).trail.length
        omega
      · cases hs
end Go.Pr
