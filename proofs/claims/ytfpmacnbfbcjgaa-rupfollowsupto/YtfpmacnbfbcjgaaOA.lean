import Derived.Test.YtfpmacnbfbcjgaaQC
import Derived.Test.YtfpmacnbfbcjgaaPA
namespace Go.Proofs.Ytfpmacnbfbcjgaa
open Go.Pr
theorem hasB_is {n : Nat} {l : Int} (h : hasB n l = true) : l ≠ 0 ∧ -(n : Int) ≤ l ∧ l ≤ n := by
  unfold hasB at h
  simp at h
  omega
theorem hasB_mk {n : Nat} {l : Int} (h : l ≠ 0 ∧ -(n : Int) ≤ l ∧ l ≤ n) : hasB n l = true := by
  unfold hasB
  simp [h.1, h.2.1, h.2.2]
theorem code_is {n : Nat} {l : Int} (h : hasB n l = true) : 2 ≤ codeN l ∧ codeN l < 2 * n + 2 := by
  have := hasB_is h
  exact ⟨code_ge this.1, code_lt this.2.1 this.2.2⟩
theorem all_len (S : ES) : (allI S).length = S.cls.length := by unfold allI; rw [List.length_map, List.length_range]
theorem all_get {S : ES} {k : Nat} (hk : k < S.cls.length) : (allI S).getD k [] = (S.inside k).map litI := by
  unfold allI
  rw [List.getD_eq_getElem?_getD, List.getElem?_map, List.getElem?_range hk]
  rfl
theorem all_add {S : ES} (hw : WF S) (c : List Nat) : allI (S.add c) = allI S ++ [c.map litI] := by
  unfold allI
  have e : (S.add c).cls.length = S.cls.length + 1 := by show (S.cls ++ [_]).length = _; simp
  rw [e, List.range_succ, List.map_append, List.map_singleton, add_inside_new]
  congr 1
  exact List.map_congr_left fun k hk => by rw [add_inside hw (List.mem_range.1 hk)]
theorem lits_codes (xs : List Int) : (xs.map codeN).map litI = xs := by
  rw [List.map_map]
  conv => rhs; rw [← List.map_id xs]
  exact List.map_congr_left fun l _ => litI_code l
/-- what a statement's book knows of an engine -/
structure BREL (S : ES) (cls : List (List Int)) (dec : List Int) : Prop where
  full : FULL S
  all : cls = allI S
  len : dec.length = S.marks.length
  dec : ∀ j, j < S.marks.length → dec.getD j 0 = litI (S.trail.getD (S.marks.getD j 0) 0)
theorem BREL.zero {n : Nat} (hn : n ≤ 1048576) : BREL (es0 n) [] [] := ⟨full0 hn, rfl, rfl, fun j hj => absurd hj (Nat.not_lt_zero j)⟩
theorem BREL.add {S : ES} {cls : List (List Int)} {dec : List Int} (h : BREL S cls dec) {xs : List Int} (c1 : xs.all (hasB S.n) = true) (c2 : xs.length ≤ 65536) (c3 : S.cls.length < 1048576) (c4 : S.lits.length + xs.length ≤ 4194304) : BREL (S.add (xs.map codeN)) (cls ++ [xs]) dec := by
  have hw := h.full.inv.wf
  have hcod : ∀ x ∈ xs.map codeN, 2 ≤ x ∧ x < 2 * S.n + 2 := fun x hx => by
    obtain ⟨l, hl, rfl⟩ := List.mem_map.1 hx
    exact code_is (List.all_eq_true.1 c1 l hl)
  have hle : (xs.map codeN).length = xs.length := List.length_map _
  refine ⟨h.full.add hcod (by rw [hle]; exact c4) c3 (by rw [hle]; exact c2), ?_, h.len, h.dec⟩
  rw [all_add hw, lits_codes, h.all]
theorem BREL.decide {S : ES} {cls : List (List Int)} {dec : List Int} (h : BREL S cls dec) {l : Int} (d1 : hasB S.n l = true) (d2 : S.clash = none) (d3 : S.val (codeN l) = 0) : BREL (S.decide (codeN l)) cls (dec ++ [l]) := by
  have hw := h.full.inv.wf
  have hc := code_is d1
  refine ⟨h.full.decide hc.1 hc.2 d3 d2, h.all, ?_, fun j hj => ?_⟩
  · show (dec ++ [l]).length = (S.marks ++ [_]).length
    rw [List.length_append, List.length_append, h.len]
    rfl
  · have hj' : j < (S.marks ++ [S.trail.length]).length := hj
    rw [List.length_append] at hj'
    show (dec ++ [l]).getD j 0 = litI ((S.trail ++ [codeN l]).getD ((S.marks ++ [S.trail.length]).getD j 0) 0)
    by_cases e : j < S.marks.length
    · have hml : S.marks.getD j 0 < S.trail.length := by rw [getD_of _ _ _ e]; exact hw.mks _ (List.getElem_mem _)
      have e1 : (S.marks ++ [S.trail.length]).getD j 0 = S.marks.getD j 0 := by rw [List.getD_eq_getElem?_getD, List.getElem?_append_left e, ← List.getD_eq_getElem?_getD]
      have e2 : (S.trail ++ [codeN l]).getD (S.marks.getD j 0) 0 = S.trail.getD (S.marks.getD j 0) 0 := by rw [List.getD_eq_getElem?_getD, List.getElem?_append_left hml, ← List.getD_eq_getElem?_getD]
      have e3 : (dec ++ [l]).getD j 0 = dec.getD j 0 := by rw [List.getD_eq_getElem?_getD, List.getElem?_append_left (by rw [h.len]; exact e), ← List.getD_eq_getElem?_getD]
      rw [e1, e2, e3, h.dec j e]
    · have ej : j = S.marks.length := by simp at hj'; omega
      have e1 : (S.marks ++ [S.trail.length]).getD j 0 = S.trail.length := by rw [List.getD_eq_getElem?_getD, ej]; simp
      have e2 : (S.trail ++ [codeN l]).getD S.trail.length 0 = codeN l := by rw [List.getD_eq_getElem?_getD]; simp
      have e3 : (dec ++ [l]).getD j 0 = l := by rw [List.getD_eq_getElem?_getD, ej, ← h.len]; simp
      rw [e1, e2, e3, litI_code]
theorem BREL.runs {S T : ES} {cls : List (List Int)} {dec : List Int} (h : BREL S cls dec) (r : Runs S T) : BREL T cls dec := by
  have g := r.grow h.full
  have hw := h.full.inv.wf
  refine ⟨r.full h.full, ?_, by rw [g.marks]; exact h.len, fun j hj => ?_⟩
  · rw [h.all]
    unfold allI
    rw [g.len]
    exact List.map_congr_left fun k _ => by rw [g.ins]
  · rw [g.marks] at hj ⊢
    have hml : S.marks.getD j 0 < S.trail.length := by rw [getD_of _ _ _ hj]; exact hw.mks _ (List.getElem_mem _)
    obtain ⟨t, ht⟩ := g.tr
    rw [h.dec j hj, ← ht]
    congr 1
    generalize S.marks.getD j 0 = a at hml
    rw [List.getD_eq_getElem?_getD, List.getD_eq_getElem?_getD, List.getElem?_append_left hml]
theorem BREL.back {S : ES} {cls : List (List Int)} {dec : List Int} (h : BREL S cls dec) {m : Nat} (hm : m < S.marks.length) : BREL (S.back m) cls (dec.take m) := by
  have hw := h.full.inv.wf
  have hml : ∀ j, j < m → S.marks.getD j 0 < S.marks.getD m 0 := fun j hj => by
    rw [getD_of _ _ _ hm, getD_of _ _ _ (Nat.lt_trans hj hm)]
    exact List.pairwise_iff_getElem.1 hw.mkd j m (Nat.lt_trans hj hm) hm hj
  refine ⟨h.full.back hm, h.all, ?_, fun j hj => ?_⟩
  · show (dec.take m).length = (S.marks.take m).length
    rw [List.length_take, List.length_take, h.len]
  · have hj' : j < (S.marks.take m).length := hj
    rw [List.length_take] at hj'
    have hjm : j < m := by omega
    show (dec.take m).getD j 0 = litI ((S.trail.take (S.marks.getD m 0)).getD ((S.marks.take m).getD j 0) 0)
    have e1 : (S.marks.take m).getD j 0 = S.marks.getD j 0 := by rw [List.getD_eq_getElem?_getD, List.getElem?_take_of_lt hjm, ← List.getD_eq_getElem?_getD]
    have e2 : (S.trail.take (S.marks.getD m 0)).getD (S.marks.getD j 0) 0 = S.trail.getD (S.marks.getD j 0) 0 := by rw [List.getD_eq_getElem?_getD, List.getElem?_take_of_lt (hml j hjm), ← List.getD_eq_getElem?_getD]
    have e3 : (dec.take m).getD j 0 = dec.getD j 0 := by rw [List.getD_eq_getElem?_getD, List.getElem?_take_of_lt hjm, ← List.getD_eq_getElem?_getD]
    rw [e1, e2, e3, h.dec j (by omega)]
/-- values that make all clauses and all decisions true make true all that the engine tells -/
theorem BREL.holds {S : ES} {cls : List (List Int)} {dec : List Int} (h : BREL S cls dec) {V : Int → Prop} (hn : ∀ x, V x → ¬ V (-x)) (hV : ∀ c ∈ cls, ∃ m ∈ c, V m) (hD : ∀ x ∈ dec, V x) : ∀ c ∈ S.trail, V (litI c) := by
  have hw := h.full.inv.wf
  have key : ∀ n i, i < n → i < S.trail.length → V (litI (S.trail.getD i 0)) := by
    intro n
    induction n with
    | zero => intro i hi; exact absurd hi (Nat.not_lt_zero i)
    | succ n ih =>
      intro i hi hil
      cases hr : (S.giv.getD (S.trail.getD i 0 / 2) (0, none)).2 with
      | none =>
        have hm := (h.full.snd.dec i hil).1 hr
        obtain ⟨j, hj, e⟩ := List.mem_iff_getElem.1 hm
        have hd := h.dec j hj
        rw [getD_of _ _ _ hj, e] at hd
        rw [← hd]
        have hjd : j < dec.length := by rw [h.len]; exact hj
        rw [getD_of _ _ _ hjd]
        exact hD _ (List.getElem_mem _)
      | some k =>
        obtain ⟨hk, hin, hoth⟩ := h.full.snd.rsn i hil k hr
        obtain ⟨m, hm, hv⟩ := hV ((S.inside k).map litI) (by rw [h.all]; exact mem_allI.2 ⟨k, hk, rfl⟩)
        obtain ⟨z, hz, rfl⟩ := List.mem_map.1 hm
        by_cases e : z = S.trail.getD i 0
        · rw [← e]; exact hv
        · exfalso
          have ho := hoth z hz e
          obtain ⟨j, hj, ej⟩ := List.mem_iff_getElem.1 ho
          rw [List.length_take] at hj
          rw [List.getElem_take] at ej
          have hjl : j < S.trail.length := by omega
          have := ih j (by omega) hjl
          rw [getD_of _ _ _ hjl, ej, litI_opp (hw.inside_mem hz).1] at this
          exact hn _ hv this
  intro c hc
  obtain ⟨i, hi, e⟩ := List.mem_iff_getElem.1 hc
  have := key (i + 1) i (Nat.lt_succ_self i) hi
  rw [getD_of _ _ _ hi, e] at this
  exact this
/-- and then no clause is false -/
theorem BREL.sat {S : ES} {cls : List (List Int)} {dec : List Int} (h : BREL S cls dec) {V : Int → Prop} (hn : ∀ x, V x → ¬ V (-x)) (hV : ∀ c ∈ cls, ∃ m ∈ c, V m) (hD : ∀ x ∈ dec, V x) : S.clash = none := by
  cases hc : S.clash with
  | none => rfl
  | some k =>
    exfalso
    have hw := h.full.inv.wf
    obtain ⟨m, hm, hv⟩ := hV ((S.inside k).map litI) (by rw [h.all]; exact mem_allI.2 ⟨k, hw.clash k hc, rfl⟩)
    obtain ⟨z, hz, rfl⟩ := List.mem_map.1 hm
    have hz2 := hw.inside_mem hz
    have hf := h.full.snd.cla k hc z hz
    have hot : opp z ∈ S.trail := opp_true hw hz2.1 hz2.2 hf
    have := h.holds hn hV hD _ hot
    rw [litI_opp hz2.1] at this
    exact hn _ hv this
end Go.Proofs.Ytfpmacnbfbcjgaa
