import Derived.Test.YtpkbigjijihljabQC
import Derived.Test.YtpkbigjijihljabPA
import Derived.Test.YtpkbigjijihljabEE
import Derived.Test.YtpkbigjijihljabPE
import Derived.BigQuiet
import Derived.Deep.DeepCutAuto
namespace Go.Proofs.Ytpkbigjijihljab
open Go.Pr
theorem hasB_is {n : Nat} {l : Int} (h : hasB n l = true) : l ≠ 0 ∧ -(n : Int) ≤ l ∧ l ≤ n := by
  unfold hasB at h
  simp at h
  omega
theorem hasB_mk {n : Nat} {l : Int} (h : l ≠ 0 ∧ -(n : Int) ≤ l ∧ l ≤ n) : hasB n l = true := by
  unfold hasB
  simp [h.1, h.2.1, h.2.2]
theorem code_is {n : Nat} {l : Int} (h : hasB n l = true) : 2 ≤ codeN l ∧ codeN l < 2 * n + 2 := by
  have := hasB_is h
  exact ⟨code_ge this.1, code_lt this.2.1 this.2.2⟩
theorem all_len (S : ES) : (allI S).length = S.cls.length := by unfold allI; rw [List.length_map, List.length_range]
theorem all_get {S : ES} {k : Nat} (hk : k < S.cls.length) : (allI S).getD k [] = (S.inside k).map litI := by
  unfold allI
  rw [List.getD_eq_getElem?_getD, List.getElem?_map, List.getElem?_range hk]
  rfl
theorem all_add {S : ES} (hw : WF S) (c : List Nat) : allI (S.add c) = allI S ++ [c.map litI] := by
  unfold allI
  have e : (S.add c).cls.length = S.cls.length + 1 := by show (S.cls ++ [_]).length = _; simp
  rw [e, List.range_succ, List.map_append, List.map_singleton, add_inside_new]
  congr 1
  exact List.map_congr_left fun k hk => by rw [add_inside hw (List.mem_range.1 hk)]
theorem lits_codes (xs : List Int) : (xs.map codeN).map litI = xs := by
  rw [List.map_map]
  conv => rhs; rw [← List.map_id xs]
  exact List.map_congr_left fun l _ => litI_code l
/-- what a statement's book knows of an engine -/
structure BREL (S : ES) (cls : List (List Int)) (dec : List Int) : Prop where
  full : FULL S
  all : cls = allI S
  len : dec.length = S.marks.length
  dec : ∀ j, j < S.marks.length → dec.getD j 0 = litI (S.trail.getD (S.marks.getD j 0) 0)
theorem BREL.zero {n : Nat} (hn : n ≤ 1048576) : BREL (es0 n) [] [] := ⟨full0 hn, rfl, rfl, fun j hj => absurd hj (Nat.not_lt_zero j)⟩
theorem BREL.add {S : ES} {cls : List (List Int)} {dec : List Int} (h : BREL S cls dec) {xs : List Int} (c1 : xs.all (hasB S.n) = true) (c2 : xs.length ≤ 65536) (c3 : S.cls.length < 1048576) (c4 : S.lits.length + xs.length ≤ 4194304) : BREL (S.add (xs.map codeN)) (cls ++ [xs]) dec := by
  have hw := h.full.inv.wf
  have hcod : ∀ x ∈ xs.map codeN, 2 ≤ x ∧ x < 2 * S.n + 2 := fun x hx => by
    obtain ⟨l, hl, rfl⟩ := List.mem_map.1 hx
    exact code_is (List.all_eq_true.1 c1 l hl)
  have hle : (xs.map codeN).length = xs.length := List.length_map _
  refine ⟨h.full.add hcod (by rw [hle]; exact c4) c3 (by rw [hle]; exact c2), ?_, h.len, h.dec⟩
  rw [all_add hw, lits_codes, h.all]
theorem BREL.decide {S : ES} {cls : List (List Int)} {dec : List Int} (h : BREL S cls dec) {l : Int} (d1 : hasB S.n l = true) (d2 : S.clash = none) (d3 : S.val (codeN l) = 0) : BREL (S.decide (codeN l)) cls (dec ++ [l]) := by
  have hw := h.full.inv.wf
  have hc := code_is d1
  refine ⟨h.full.decide hc.1 hc.2 d3 d2, h.all, ?_, fun j hj => ?_⟩
  · show (dec ++ [l]).length = (S.marks ++ [_]).length
    rw [List.length_append, List.length_append, h.len]
    rfl
  · have hj' : j < (S.marks ++ [S.trail.length]).length := hj
    rw [List.length_append] at hj'
    show (dec ++ [l]).getD j 0 = litI ((S.trail ++ [codeN l]).getD ((S.marks ++ [S.trail.length]).getD j 0) 0)
    by_cases e : j < S.marks.length
    · have hml : S.marks.getD j 0 < S.trail.length := by rw [getD_of _ _ _ e]; exact hw.mks _ (List.getElem_mem _)
      have e1 : (S.marks ++ [S.trail.length]).getD j 0 = S.marks.getD j 0 := by rw [List.getD_eq_getElem?_getD, List.getElem?_append_left e, ← List.getD_eq_getElem?_getD]
      have e2 : (S.trail ++ [codeN l]).getD (S.marks.getD j 0) 0 = S.trail.getD (S.marks.getD j 0) 0 := by rw [List.getD_eq_getElem?_getD, List.getElem?_append_left hml, ← List.getD_eq_getElem?_getD]
      have e3 : (dec ++ [l]).getD j 0 = dec.getD j 0 := by rw [List.getD_eq_getElem?_getD, List.getElem?_append_left (by rw [h.len]; exact e), ← List.getD_eq_getElem?_getD]
      rw [e1, e2, e3, h.dec j e]
    · have ej : j = S.marks.length := by simp at hj'; omega
      have e1 : (S.marks ++ [S.trail.length]).getD j 0 = S.trail.length := by rw [List.getD_eq_getElem?_getD, ej]; simp
      have e2 : (S.trail ++ [codeN l]).getD S.trail.length 0 = codeN l := by rw [List.getD_eq_getElem?_getD]; simp
      have e3 : (dec ++ [l]).getD j 0 = l := by rw [List.getD_eq_getElem?_getD, ej, ← h.len]; simp
      rw [e1, e2, e3, litI_code]
theorem BREL.runs {S T : ES} {cls : List (List Int)} {dec : List Int} (h : BREL S cls dec) (r : Runs S T) : BREL T cls dec := by
  have g := r.grow h.full
  have hw := h.full.inv.wf
  refine ⟨r.full h.full, ?_, by rw [g.marks]; exact h.len, fun j hj => ?_⟩
  · rw [h.all]
    unfold allI
    rw [g.len]
    exact List.map_congr_left fun k _ => by rw [g.ins]
  · rw [g.marks] at hj ⊢
    have hml : S.marks.getD j 0 < S.trail.length := by rw [getD_of _ _ _ hj]; exact hw.mks _ (List.getElem_mem _)
    obtain ⟨t, ht⟩ := g.tr
    rw [h.dec j hj, ← ht]
    congr 1
    generalize S.marks.getD j 0 = a at hml
    rw [List.getD_eq_getElem?_getD, List.getD_eq_getElem?_getD, List.getElem?_append_left hml]
theorem BREL.back {S : ES} {cls : List (List Int)} {dec : List Int} (h : BREL S cls dec) {m : Nat} (hm : m < S.marks.length) : BREL (S.back m) cls (dec.take m) := by
  have hw := h.full.inv.wf
  have hml : ∀ j, j < m → S.marks.getD j 0 < S.marks.getD m 0 := fun j hj => by
    rw [getD_of _ _ _ hm, getD_of _ _ _ (Nat.lt_trans hj hm)]
    exact List.pairwise_iff_getElem.1 hw.mkd j m (Nat.lt_trans hj hm) hm hj
  refine ⟨h.full.back hm, h.all, ?_, fun j hj => ?_⟩
  · show (dec.take m).length = (S.marks.take m).length
    rw [List.length_take, List.length_take, h.len]
  · have hj' : j < (S.marks.take m).length := hj
    rw [List.length_take] at hj'
    have hjm : j < m := by omega
    show (dec.take m).getD j 0 = litI ((S.trail.take (S.marks.getD m 0)).getD ((S.marks.take m).getD j 0) 0)
    have e1 : (S.marks.take m).getD j 0 = S.marks.getD j 0 := by rw [List.getD_eq_getElem?_getD, List.getElem?_take_of_lt hjm, ← List.getD_eq_getElem?_getD]
    have e2 : (S.trail.take (S.marks.getD m 0)).getD (S.marks.getD j 0) 0 = S.trail.getD (S.marks.getD j 0) 0 := by rw [List.getD_eq_getElem?_getD, List.getElem?_take_of_lt (hml j hjm), ← List.getD_eq_getElem?_getD]
    have e3 : (dec.take m).getD j 0 = dec.getD j 0 := by rw [List.getD_eq_getElem?_getD, List.getElem?_take_of_lt hjm, ← List.getD_eq_getElem?_getD]
    rw [e1, e2, e3, h.dec j (by omega)]
/-- values that make all clauses and all decisions true make true all that the engine tells -/
theorem BREL.holds {S : ES} {cls : List (List Int)} {dec : List Int} (h : BREL S cls dec) {V : Int → Prop} (hn : ∀ x, V x → ¬ V (-x)) (hV : ∀ c ∈ cls, ∃ m ∈ c, V m) (hD : ∀ x ∈ dec, V x) : ∀ c ∈ S.trail, V (litI c) := by
  have hw := h.full.inv.wf
  have key : ∀ n i, i < n → i < S.trail.length → V (litI (S.trail.getD i 0)) := by
    intro n
    induction n with
    | zero => intro i hi; exact absurd hi (Nat.not_lt_zero i)
    | succ n ih =>
      intro i hi hil
      cases hr : (S.giv.getD (S.trail.getD i 0 / 2) (0, none)).2 with
      | none =>
        have hm := (h.full.snd.dec i hil).1 hr
        obtain ⟨j, hj, e⟩ := List.mem_iff_getElem.1 hm
        have hd := h.dec j hj
        rw [getD_of _ _ _ hj, e] at hd
        rw [← hd]
        have hjd : j < dec.length := by rw [h.len]; exact hj
        rw [getD_of _ _ _ hjd]
        exact hD _ (List.getElem_mem _)
      | some k =>
        obtain ⟨hk, hin, hoth⟩ := h.full.snd.rsn i hil k hr
        obtain ⟨m, hm, hv⟩ := hV ((S.inside k).map litI) (by rw [h.all]; exact mem_allI.2 ⟨k, hk, rfl⟩)
        obtain ⟨z, hz, rfl⟩ := List.mem_map.1 hm
        by_cases e : z = S.trail.getD i 0
        · rw [← e]; exact hv
        · exfalso
          have ho := hoth z hz e
          obtain ⟨j, hj, ej⟩ := List.mem_iff_getElem.1 ho
          rw [List.length_take] at hj
          rw [List.getElem_take] at ej
          have hjl : j < S.trail.length := by omega
          have := ih j (by omega) hjl
          rw [getD_of _ _ _ hjl, ej, litI_opp (hw.inside_mem hz).1] at this
          exact hn _ hv this
  intro c hc
  obtain ⟨i, hi, e⟩ := List.mem_iff_getElem.1 hc
  have := key (i + 1) i (Nat.lt_succ_self i) hi
  rw [getD_of _ _ _ hi, e] at this
  exact this
/-- and then no clause is false -/
theorem BREL.sat {S : ES} {cls : List (List Int)} {dec : List Int} (h : BREL S cls dec) {V : Int → Prop} (hn : ∀ x, V x → ¬ V (-x)) (hV : ∀ c ∈ cls, ∃ m ∈ c, V m) (hD : ∀ x ∈ dec, V x) : S.clash = none := by
  cases hc : S.clash with
  | none => rfl
  | some k =>
    exfalso
    have hw := h.full.inv.wf
    obtain ⟨m, hm, hv⟩ := hV ((S.inside k).map litI) (by rw [h.all]; exact mem_allI.2 ⟨k, hw.clash k hc, rfl⟩)
    obtain ⟨z, hz, rfl⟩ := List.mem_map.1 hm
    have hz2 := hw.inside_mem hz
    have hf := h.full.snd.cla k hc z hz
    have hot : opp z ∈ S.trail := opp_true hw hz2.1 hz2.2 hf
    have := h.holds hn hV hD _ hot
    rw [litI_opp hz2.1] at this
    exact hn _ hv this
end Go.Proofs.Ytpkbigjijihljab
namespace Go.Proofs.Ytpkbigjijihljab
open Go.ChangeShapes Go.WideShapes Go.ChangeAt Go.RowKit
open Go.Pr
def intsV (l : List Int) : Array Value := (l.map (Value.int .i64)).toArray
theorem intsV_get (l : List Int) (j : Nat) (h : j < l.length) : (intsV l)[j]? = some (.int .i64 (l.getD j 0)) := by
  unfold intsV
  rw [List.getElem?_toArray, List.getElem?_map, List.getElem?_eq_getElem h, getD_of _ _ _ h]
  rfl
theorem intsV_size (l : List Int) : (intsV l).size = l.length := by unfold intsV; simp
theorem arr_is {A : Array Value} {l : List Int} (hs : A.size = l.length) (h : ∀ j, j < l.length → A[j]? = some (.int .i64 (l.getD j 0))) : A = intsV l := by
  refine Array.ext_getElem? fun j => ?_
  by_cases hj : j < l.length
  · rw [h j hj, intsV_get l j hj]
  · rw [Array.getElem?_eq_none (by omega), Array.getElem?_eq_none (by rw [intsV_size]; omega)]
/-- a row that is handed out: new memory -/
def NewRow (w w' : World) (v : Value) (xs : List Int) : Prop :=
  (v = .slice none 0 0 ∧ xs = []) ∨ ∃ a, v = .slice (some ⟨a, 0, none⟩) xs.length xs.length ∧ w.heap.size ≤ a ∧ a < w'.heap.size ∧ w'.heap[a]? = some (.cells (intsV xs) 3 (0, 0))
set_option maxHeartbeats 4000000 in
/-- a row of codes told as literals: a new row -/
theorem lits_any {ad : Option Addr} {cp : Nat} {cs : List Nat} (w : World) (hc : 0 < cs.length → ∃ b o, ad = some ⟨b, o, none⟩ ∧ b < w.heap.size ∧ ∀ j, j < cs.length → w.cell? ⟨b, o + j, none⟩ = some (.int .i32 (cs.getD j 0 : Int))) (hb : ∀ c ∈ cs, c ≤ 2097153) (hl : cs.length ≤ 4194304) :
    Calls Try.prog 27 #[.slice ad cs.length cp] w fun e w' => e = .returned (.slice (some ⟨w.heap.size, 0, none⟩) cs.length cs.length) ∧ Below w.heap.size w w' ∧ w.heap.size < w'.heap.size ∧ w'.heap[w.heap.size]? = some (.cells (intsV (cs.map litI)) 3 (0, 0)) := by
  generalize hPP : (fun (e : Ending) (w' : World) => e = .returned (.slice (some ⟨w.heap.size, 0, none⟩) cs.length cs.length) ∧ Below w.heap.size w w' ∧ w.heap.size < w'.heap.size ∧ w'.heap[w.heap.size]? = some (.cells (intsV (cs.map litI)) 3 (0, 0))) = PP
  have HPP : Hid (∀ w', Below w.heap.size w w' → (∃ A', w'.heap[w.heap.size]? = some (.cells A' 3 (0, 0)) ∧ A'.size = cs.length ∧ ∀ j, j < cs.length → A'[j]? = some (.int .i64 (ltI (cs.getD j 0)))) → PP (.returned (.slice (some ⟨w.heap.size, 0, none⟩) cs.length cs.length)) w') := fun w' h h2 => by
    rw [← hPP]
    obtain ⟨A', h3, h4, h5⟩ := h2
    refine ⟨rfl, h, (Array.getElem?_eq_some_iff.1 h3).1, ?_⟩
    rw [h3, arr_is (A := A') (l := cs.map litI) (by rw [List.length_map]; exact h4) (fun j hj => by
      have hj' : j < cs.length := by rw [List.length_map] at hj; exact hj
      rw [h5 j hj', getD_of _ _ _ hj, List.getElem_map, getD_of _ _ _ hj']
      rfl)]
  clear hPP
  have HC : Hid (0 < cs.length → ∃ b o, ad = some ⟨b, o, none⟩ ∧ b < w.heap.size ∧ ∀ j, j < cs.length → w.cell? ⟨b, o + j, none⟩ = some (.int .i32 (cs.getD j 0 : Int))) := hc
  have HB : Hid (∀ c ∈ cs, c ≤ 2097153) := hb
  clear hc hb
  obtain ⟨k, hk⟩ : ∃ k, cs.length = k := ⟨_, rfl⟩
  have HK : Hid (cs.length = k) := hk
  rw [hk] at hl HPP ⊢
  clear hk
  obtain ⟨i1, hi1, hz1, hs1, hb1⟩ := info_parts (P := Try.prog) (e := 3) (z := .int .i64 0) (size := 1) (bytes := 8) (by kernel_rfl)
  have e1 : ∀ W : World, (Instr.makeSlice 28 (.int .i64 (k : Int)) (.int .i64 (k : Int))).run Try.prog W = .ok (.slice (some ⟨W.heap.size, 0, none⟩) k k) (W.alloc (.cells (madeCells (Value.int .i64 0).cells (k * 1)) 3)) := fun W => by
    have := run_make (P := Try.prog) (w := W) 28 3 i1 (.int .i64 0) Try.underlying28 hi1 hz1 .i64 .i64 (k : Int) (k : Int) (by omega) (by omega) (by rw [hb1]; omega) (by omega)
    rw [this, hs1, show ((k : Int)).toNat = k by omega]
  have HA : Hid ((madeCells (Value.int .i64 0).cells (k * 1)).size = k) := by show _ = _; rw [size_madeCells]; simp
  generalize madeCells (Value.int .i64 0).cells (k * 1) = A at *
  clear hi1 hz1 hs1 hb1
  go_enter Try.func27, Try.ntmps27
  go_wp2_with fail
  go_loopg [11] k (fun gk s11 wr => ∃ i : Nat, s11 = .int .i64 (i : Int) ∧ i + gk = k ∧ Aside (Below w.heap.size w wr ∧ ∃ A', wr.heap[w.heap.size]? = some (.cells A' 3 (0, 0)) ∧ A'.size = k ∧ ∀ j, j < i → A'[j]? = some (.int .i64 (ltI (cs.getD j 0)))))
  case atStart => exact ⟨0, rfl, by omega, ⟨(Below.refl _ _).alloc (Nat.le_refl _) _, A, heap_alloc_new _ _, HA.out, fun j hj => absurd hj (Nat.not_lt_zero j)⟩⟩
  case round =>
    obtain ⟨i, rfl, hi2, HJ⟩ := hrel
    by_cases hlt : i < k
    · obtain ⟨b, o, rfl, hbl, hcel⟩ := HC.out (by rw [HK.out]; omega)
      have c0 : wr.cell? ⟨b, o + i, none⟩ = some (.int .i32 (cs.getD i 0 : Int)) := (World.cell?_of_block (w' := wr) (w := w) (a := ⟨b, o + i, none⟩) (HJ.out.1.block b hbl)).trans (hcel i (by rw [HK.out]; exact hlt))
      have hcb : cs.getD i 0 ≤ 2097153 := by rw [getD_of _ _ _ (by rw [HK.out]; exact hlt)]; exact HB.out _ (List.getElem_mem _)
      have HL : Hid (Calls Try.prog 40 #[.int .i32 (cs.getD i 0 : Int)] wr fun e w' => e = .returned (.int .i64 (ltI (cs.getD i 0))) ∧ w' = wr) := literalOf_any _ wr hcb
      obtain ⟨A', hA', hAs, hAj⟩ := HJ.out.2
      have z0 : ∃ z, wr.cell? ⟨w.heap.size, i, none⟩ = some z := ⟨A'[i], by rw [blk_cell hA', Array.getElem?_eq_getElem]⟩
      obtain ⟨z, cz⟩ := z0
      have fz : wr.frozen? ⟨w.heap.size, i, none⟩ = false := by simp [World.frozen?, hA']
      have HN : Aside (Below w.heap.size w (wr.setCell ⟨w.heap.size, i, none⟩ (.int .i64 (ltI (cs.getD i 0)))) ∧ ∃ A', (wr.setCell ⟨w.heap.size, i, none⟩ (.int .i64 (ltI (cs.getD i 0)))).heap[w.heap.size]? = some (.cells A' 3 (0, 0)) ∧ A'.size = k ∧ ∀ j, j < i + 1 → A'[j]? = some (.int .i64 (ltI (cs.getD j 0)))) :=
        ⟨⟨HJ.out.1.os, HJ.out.1.tape, HJ.out.1.output, by simpa using HJ.out.1.size, fun x hx => (heap_setCell_other _ _ _ _ (by show x ≠ w.heap.size; omega)).trans (HJ.out.1.block x hx)⟩, _, heap_setCell_same _ _ _ _ _ _ hA', by simpa using hAs, fun j hj => by
          by_cases e : j = i
          · subst e
            simp [hAs, hlt]
          · have e2 : i ≠ j := fun e5 => e e5.symm
            simp [e2]
            simpa using hAj j (by omega)⟩
      have q1 : (i : Int) < (k : Int) := by omega
      clear hcel hA' hAs hcb hAj
      generalize cs.getD i 0 = c at *
      generalize ltI c = y at *
      go_wp2_with fail
      refine HL.out.mono ?_
      rintro e w' ⟨rfl, hw'⟩
      obtain rfl := hw'.symm
      go_wp2
      go_roundg (gk - 1)
      case measure => omega
      case rel => exact ⟨i + 1, by simp, by omega, HN.out⟩
    · have hji : i = k := by omega
      subst hji
      go_wp2
      first | exact HPP.out _ HJ.out.1 HJ.out.2 | (go_ret2; exact HPP.out _ HJ.out.1 HJ.out.2) | (go_ret; exact HPP.out _ HJ.out.1 HJ.out.2)
end Go.Proofs.Ytpkbigjijihljab
namespace Go.Proofs.Ytpkbigjijihljab
open Go.ChangeShapes Go.WideShapes Go.ChangeAt Go.RowKit
open Go.Pr
def valE (S : ES) (v : Int) : Int := if v < 1 ∨ (S.n : Int) < v then 0 else S.val (2 * v).toNat
def levE (S : ES) (v : Int) : Int := if v < 1 ∨ (S.n : Int) < v then -1 else if S.val (2 * v).toNat = 0 then -1 else ((S.giv.getD v.toNat (0, none)).1 : Int)
theorem value_mem {w : World} {g : Nat} {O : Nat → Prop} {S : ES} {p : Nat → Value} (h : Mem w g O S p) (hw : WF S) (v : Int) :
    Calls Try.prog 22 #[.pointer (some ⟨g, 0, none⟩), .int .i64 v] w fun e w' => e = .returned (.int .i64 (valE S v)) ∧ ∃ m, w' = w.drewN m := by
  obtain ⟨b4, c4, hp4, _⟩ := h.givs hw
  obtain ⟨b3, c3, hp3, hv3, _⟩ := h.vals hw
  have hb3 := h.own 3 (by unfold used; omega) b3 (by rw [hp3]; rfl)
  exact value_any g S.n _ _ c4 c3 S.vals v w ((h.gcell 4).trans (congrArg some hp4)) ((h.gcell 3).trans (congrArg some hp3)) ⟨b3, rfl, h.osz b3 hb3, fun j hj => hv3 j (by rw [← hw.vall]; exact hj)⟩ hw.vall hw.n (fun x hx => by rcases hw.val3 x hx with e | e | e <;> omega)
theorem levelOf_mem {w : World} {g : Nat} {O : Nat → Prop} {S : ES} {p : Nat → Value} (h : Mem w g O S p) (hF : FULL S) (v : Int) :
    Calls Try.prog 17 #[.pointer (some ⟨g, 0, none⟩), .int .i64 v] w fun e w' => e = .returned (.int .i64 (levE S v)) ∧ ∃ m, w' = w.drewN m := by
  have hw := hF.inv.wf
  obtain ⟨b4, c4, hp4, hg4, _⟩ := h.givs hw
  obtain ⟨b3, c3, hp3, hv3, _⟩ := h.vals hw
  have hb3 := h.own 3 (by unfold used; omega) b3 (by rw [hp3]; rfl)
  have hb4 := h.own 4 (by unfold used; omega) b4 (by rw [hp4]; rfl)
  have hk := levelOf_any g S.n _ _ c4 c3 S.vals (S.giv.map fun x => ((x.1 : Int), clI x.2)) v w ((h.gcell 4).trans (congrArg some hp4)) ((h.gcell 3).trans (congrArg some hp3)) ⟨b3, rfl, h.osz b3 hb3, fun j hj => hv3 j (by rw [← hw.vall]; exact hj)⟩ hw.vall hw.n (fun x hx => by rcases hw.val3 x hx with e | e | e <;> omega) ⟨b4, rfl, h.osz b4 hb4, fun j hj => by
      have hj2 : j < S.giv.length := by rw [List.length_map] at hj; exact hj
      rw [getD_of _ _ _ hj, List.getElem_map, ← getD_of S.giv j (0, none) hj2]
      exact hg4 j (by rw [← hw.givl]; exact hj2)⟩ (by rw [List.length_map]; exact hw.givl) (fun h1 h2 h0 => by
    have hl : v.toNat < S.giv.length := by rw [hw.givl]; omega
    rw [getD_of _ _ _ (by rw [List.length_map]; exact hl), List.getElem_map]
    have h5 := hF.inv.lvb (2 * v).toNat (by omega) h0
    unfold ES.lvl at h5
    rw [show (2 * v).toNat / 2 = v.toNat by omega, getD_of _ _ _ hl] at h5
    have h6 : S.level ≤ S.n := WF.marks_len hw
    have h7 := hw.n
    show -2147483648 ≤ (S.giv[v.toNat].1 : Int) ∧ (S.giv[v.toNat].1 : Int) ≤ 2147483647
    omega)
  have e : (if v < 1 ∨ (S.n : Int) < v then -1 else if S.vals.getD (2 * v).toNat 0 = 0 then -1 else ((S.giv.map fun x => ((x.1 : Int), clI x.2)).getD v.toNat (0, 0)).1) = levE S v := by
    unfold levE
    by_cases h1 : v < 1 ∨ (S.n : Int) < v
    · rw [if_pos h1, if_pos h1]
    · rw [if_neg h1, if_neg h1]
      have e2 : ((S.giv.map fun x => ((x.1 : Int), clI x.2)).getD v.toNat (0, 0)).1 = ((S.giv.getD v.toNat (0, none)).1 : Int) := by
        have hl : v.toNat < S.giv.length := by rw [hw.givl]; omega
        rw [getD_of _ _ _ (by rw [List.length_map]; exact hl), getD_of _ _ _ hl, List.getElem_map]
      rw [e2]
      rfl
  rw [e] at hk
  exact hk
/-- behind a look that hands out a row -/
def Told1 (w : World) (g : Nat) (O : Nat → Prop) (S : ES) (p : Nat → Value) (xs : List Int) (e : Ending) (w' : World) : Prop :=
  ∃ v, e = .returned v ∧ NewRow w w' v xs ∧ Mem w' g O S p ∧ Fr O w w' O
theorem Fr.below {O : Nat → Prop} {w w1 w2 : World} (h : Fr O w w1 O) (hb : Below w1.heap.size w1 w2) : Fr O w w2 O :=
  ⟨hb.os.trans h.os, hb.tape.trans h.tape, hb.output.trans h.output, Nat.le_trans h.size hb.size, fun k hk hO => (hb.block k (Nat.lt_of_lt_of_le hk h.size)).trans (h.kept k hk hO), h.new⟩
theorem Mem.over {w W : World} {g : Nat} {O : Nat → Prop} {S : ES} {p : Nat → Value} (h : Mem w g O S p) (hb : Below w.heap.size w W) : Mem W g O S p := h.kept hb.size (fun k hk => hb.block k (h.osz k hk))
theorem trail_full {w : World} {g : Nat} {O : Nat → Prop} {S : ES} {p : Nat → Value} (h : Mem w g O S p) (hw : WF S) :
    Calls Try.prog 11 #[.pointer (some ⟨g, 0, none⟩)] w (Told1 w g O S p (S.trail.map litI)) := by
  obtain ⟨a6, c6, hp6, _⟩ := h.slice (i := 6) (by unfold used; omega)
  have k6 : w.cell? ⟨g, 6, none⟩ = some (.slice a6 S.trail.length c6) := (h.gcell 6).trans (congrArg some hp6)
  have hn := hw.n
  have HL : Hid (Calls Try.prog 27 #[.slice a6 S.trail.length c6] w fun e w' => e = .returned (.slice (some ⟨w.heap.size, 0, none⟩) S.trail.length S.trail.length) ∧ Below w.heap.size w w' ∧ w.heap.size < w'.heap.size ∧ w'.heap[w.heap.size]? = some (.cells (intsV (S.trail.map litI)) 3 (0, 0))) := by
    refine lits_any w (fun h0 => ?_) (fun c hc => by have := hw.tr c hc; omega) (by have := hw.trail_len; omega)
    obtain ⟨b, c, e1, _, e2, _⟩ := h.form (i := 6) (by unfold used; omega) h0
    have hO := h.own 6 (by unfold used; omega) b (by rw [e1]; rfl)
    rw [hp6] at e1
    injection e1 with e3 _ _
    refine ⟨b, 0, e3, h.osz b hO, fun j hj => ?_⟩
    rw [Nat.zero_add, e2 j (by show j < S.trail.length * 1; omega)]
    show (codesV S.trail)[j]? = _
    unfold codesV
    rw [List.getElem?_map, List.getElem?_eq_getElem hj, getD_of _ _ _ hj]
    rfl
  generalize hPP : Told1 w g O S p (S.trail.map litI) = PP
  have HPP : Hid (∀ w', Below w.heap.size w w' ∧ w.heap.size < w'.heap.size ∧ w'.heap[w.heap.size]? = some (.cells (intsV (S.trail.map litI)) 3 (0, 0)) → PP (.returned (.slice (some ⟨w.heap.size, 0, none⟩) S.trail.length S.trail.length)) w') := fun w' hh => by
    rw [← hPP]
    exact ⟨_, rfl, Or.inr ⟨w.heap.size, by rw [List.length_map], Nat.le_refl _, hh.2.1, hh.2.2⟩, h.over hh.1, (Fr.refl O w).below hh.1⟩
  clear h hw hp6 hPP
  go_enter Try.func11, Try.ntmps11
  go_wp2_with fail
  refine HL.out.mono ?_
  rintro e w1 ⟨rfl, hb⟩
  have HB : Hid (Below w.heap.size w w1 ∧ w.heap.size < w1.heap.size ∧ w1.heap[w.heap.size]? = some (.cells (intsV (S.trail.map litI)) 3 (0, 0))) := hb
  clear hb
  go_wp2
  first | exact HPP.out _ HB.out | (go_ret; exact HPP.out _ HB.out) | (go_ret2; exact HPP.out _ HB.out)
/-- a clause as it was handed in -/
def clL (S : ES) : Option Nat → List Int
  | none => []
  | some k => (S.inside k).map litI
theorem tellClause_mem {w : World} {g : Nat} {O : Nat → Prop} {S : ES} {p : Nat → Value} (h : Mem w g O S p) (hw : WF S) (c : Option Nat) (hc : ∀ k, c = some k → k < S.cls.length) :
    Calls Try.prog 28 #[.pointer (some ⟨g, 0, none⟩), .int .i32 (clI c)] w (Told1 w g O S p (clL S c)) := by
  cases c with
  | none =>
    generalize hPP : Told1 w g O S p (clL S none) = PP
    have HPP : Hid (PP (.returned (.slice none 0 0)) w) := by
      show PP _ _
      rw [← hPP]
      exact ⟨_, rfl, Or.inl ⟨rfl, rfl⟩, h, Fr.refl O w⟩
    clear h hw hPP hc
    show Calls Try.prog 28 #[.pointer (some ⟨g, 0, none⟩), .int .i32 (-1)] w PP
    go_enter Try.func28, Try.ntmps28
    go_wp2
    first | exact HPP.out | (go_ret; exact HPP.out) | (go_ret2; exact HPP.out)
  | some k =>
    have hk := hc k rfl
    have hkl := hw.cll
    have HI : Hid (Calls Try.prog 41 #[.pointer (some ⟨g, 0, none⟩), .int .i32 (k : Int)] w fun r w' => ∃ ad cp, r = .returned (.slice ad (S.inside k).length cp) ∧ Rd w' ad (S.inside k) ∧ Mem w' g O S p ∧ Fr O w w' O) := inside_mem h hw hk
    have HL : Hid (∀ W ad cp, Rd W ad (S.inside k) → Mem W g O S p → Calls Try.prog 27 #[.slice ad (S.inside k).length cp] W fun e w' => e = .returned (.slice (some ⟨W.heap.size, 0, none⟩) (S.inside k).length (S.inside k).length) ∧ Below W.heap.size W w' ∧ W.heap.size < w'.heap.size ∧ w'.heap[W.heap.size]? = some (.cells (intsV ((S.inside k).map litI)) 3 (0, 0))) := fun W ad cp hr m => by
      refine lits_any W (fun h0 => ?_) (fun c hc => by have := hw.inside_mem hc; have := hw.n; omega) (by rw [hw.inside_len hk]; have := (hw.clause_ok hk).2.2.1; omega)
      obtain ⟨b, o, e1, e2⟩ := hr h0
      refine ⟨b, o, e1, ?_, e2⟩
      exact block_lt_of_cell (e2 0 h0)
    generalize hPP : Told1 w g O S p (clL S (some k)) = PP
    have HPP : Hid (∀ W w', Mem W g O S p → Fr O w W O → Below W.heap.size W w' ∧ W.heap.size < w'.heap.size ∧ w'.heap[W.heap.size]? = some (.cells (intsV ((S.inside k).map litI)) 3 (0, 0)) → PP (.returned (.slice (some ⟨W.heap.size, 0, none⟩) (S.inside k).length (S.inside k).length)) w') := fun W w' m f hh => by
      rw [← hPP]
      refine ⟨_, rfl, Or.inr ⟨W.heap.size, ?_, f.size, hh.2.1, hh.2.2⟩, m.over hh.1, f.below hh.1⟩
      show _ = Value.slice _ ((S.inside k).map litI).length ((S.inside k).map litI).length
      rw [List.length_map]
    clear h hw hPP hc
    show Calls Try.prog 28 #[.pointer (some ⟨g, 0, none⟩), .int .i32 (k : Int)] w PP
    go_enter Try.func28, Try.ntmps28
    have q0 : ¬ ((k : Int) = -1) := by omega
    go_wp2_with fail
    refine HI.out.mono ?_
    rintro e w1 ⟨ad, cp, rfl, hr, m, f⟩
    have HM : Hid (Mem w1 g O S p) := m
    have HF : Hid (Fr O w w1 O) := f
    have HLL := HL.out w1 ad cp hr m
    generalize (S.inside k).length = n at *
    have HL2 : Hid (Calls Try.prog 27 #[.slice ad n cp] w1 fun e w' => e = .returned (.slice (some ⟨w1.heap.size, 0, none⟩) n n) ∧ Below w1.heap.size w1 w' ∧ w1.heap.size < w'.heap.size ∧ w'.heap[w1.heap.size]? = some (.cells (intsV ((S.inside k).map litI)) 3 (0, 0))) := HLL
    clear hr m f HLL
    go_wp2_with fail
    refine HL2.out.mono ?_
    rintro e w2 ⟨rfl, hb⟩
    have HB : Hid (Below w1.heap.size w1 w2 ∧ w1.heap.size < w2.heap.size ∧ w2.heap[w1.heap.size]? = some (.cells (intsV ((S.inside k).map litI)) 3 (0, 0))) := hb
    clear hb
    go_wp2
    first | exact HPP.out _ _ HM.out HF.out HB.out | (go_ret; exact HPP.out _ _ HM.out HF.out HB.out) | (go_ret2; exact HPP.out _ _ HM.out HF.out HB.out)
end Go.Proofs.Ytpkbigjijihljab
namespace Go.Proofs.Ytpkbigjijihljab
open Go.ChangeShapes Go.WideShapes Go.ChangeAt Go.RowKit
open Go.Pr
theorem conflict_mem {w : World} {g : Nat} {O : Nat → Prop} {S : ES} {p : Nat → Value} (h : Mem w g O S p) (hw : WF S) :
    Calls Try.prog 13 #[.pointer (some ⟨g, 0, none⟩)] w (Told1 w g O S p (clL S S.clash)) := by
  have k11 : w.cell? ⟨g, 11, none⟩ = some (.int .i32 (clI S.clash)) := h.gcell 11
  have HT : Hid (Calls Try.prog 28 #[.pointer (some ⟨g, 0, none⟩), .int .i32 (clI S.clash)] w (Told1 w g O S p (clL S S.clash))) := tellClause_mem h hw S.clash hw.clash
  clear h hw
  generalize clI S.clash = c at *
  generalize hPP : Told1 w g O S p (clL S S.clash) = PP at *
  have HPP : Hid (∀ e w', PP e w' → ∃ v, e = .returned v) := fun e w' h => by
    rw [← hPP] at h
    obtain ⟨v, h1, _⟩ := h
    exact ⟨v, h1⟩
  clear hPP
  go_enter Try.func13, Try.ntmps13
  go_wp2_with fail
  refine HT.out.mono ?_
  intro e w1 hh
  obtain ⟨v, rfl⟩ := HPP.out _ _ hh
  have HH : Hid (PP (.returned v) w1) := hh
  clear hh
  go_wp2
  first | exact HH.out | (go_ret; exact HH.out) | (go_ret2; exact HH.out)
/-- the clause that gave a variable its value -/
def rsnE (S : ES) (v : Int) : Option Nat := if valE S v = 0 then none else (S.giv.getD v.toNat (0, none)).2
theorem rsn_lt {S : ES} (hF : FULL S) (v : Int) : ∀ k, rsnE S v = some k → k < S.cls.length := fun k hk => by
  have hw := hF.inv.wf
  unfold rsnE at hk
  split at hk
  · cases hk
  · next h0 =>
    unfold valE at h0
    split at h0
    · exact absurd rfl h0
    · next h1 =>
      have hc2 : 2 ≤ (2 * v).toNat ∧ (2 * v).toNat < 2 * S.n + 2 := by omega
      have key : ∀ c, c ∈ S.trail → c / 2 = v.toNat → k < S.cls.length := fun c hc he => by
        obtain ⟨i, hi, e⟩ := List.mem_iff_getElem.1 hc
        have := hF.snd.rsn i hi k (by rw [getD_of _ _ _ hi, e, he]; exact hk)
        exact this.1
      rcases hw.val_of (2 * v).toNat with e | e | e
      · exact key _ (opp_true hw hc2.1 hc2.2 e) (by unfold opp; split <;> omega)
      · exact absurd e h0
      · exact key _ (hw.trv _ hc2.1 hc2.2 e) (by omega)
theorem reason_mem {w : World} {g : Nat} {O : Nat → Prop} {S : ES} {p : Nat → Value} (h : Mem w g O S p) (hF : FULL S) (v : Int) :
    Calls Try.prog 16 #[.pointer (some ⟨g, 0, none⟩), .int .i64 v] w (Told1 w g O S p (clL S (rsnE S v))) := by
  have hw := hF.inv.wf
  have HV : Hid (Calls Try.prog 22 #[.pointer (some ⟨g, 0, none⟩), .int .i64 v] w fun e w' => e = .returned (.int .i64 (valE S v)) ∧ ∃ m, w' = w.drewN m) := value_mem h hw v
  by_cases h0 : valE S v = 0
  · generalize hPP : Told1 w g O S p (clL S (rsnE S v)) = PP
    have HPP : Hid (∀ m, PP (.returned (.slice none 0 0)) (w.drewN m)) := fun m => by
      rw [← hPP]
      refine ⟨_, rfl, Or.inl ⟨rfl, ?_⟩, h.drewN, (Fr.refl O w).drewN⟩
      unfold rsnE
      rw [if_pos h0]
      rfl
    rw [h0] at HV
    clear h hw hF hPP h0
    go_enter Try.func16, Try.ntmps16
    go_wp2_with fail
    refine HV.out.mono ?_
    rintro e w1 ⟨rfl, m, rfl⟩
    go_wp2
    first | exact HPP.out _ | (go_ret; exact HPP.out _) | (go_ret2; exact HPP.out _)
  · have hv : 1 ≤ v ∧ v ≤ (S.n : Int) := by
      unfold valE at h0
      split at h0
      · exact absurd rfl h0
      · omega
    obtain ⟨b4, c4, hp4, hg4, _⟩ := h.givs hw
    have hn := hw.n
    have k4 : ∀ m, (w.drewN m).cell? ⟨g, 4, none⟩ = some (.slice (some ⟨b4, 0, none⟩) (S.n + 1) c4) := fun m => (h.drewN.gcell 4).trans (congrArg some hp4)
    have kv : ∀ m, (w.drewN m).cell? ⟨b4, v.toNat * 2 + 1, none⟩ = some (.int .i32 (clI (S.giv.getD v.toNat (0, none)).2)) := fun m => (hg4 v.toNat (by omega)).2
    have HT : Hid (∀ m, Calls Try.prog 28 #[.pointer (some ⟨g, 0, none⟩), .int .i32 (clI (rsnE S v))] (w.drewN m) (Told1 (w.drewN m) g O S p (clL S (rsnE S v)))) := fun m => tellClause_mem h.drewN hw (rsnE S v) (rsn_lt hF v)
    have er : rsnE S v = (S.giv.getD v.toNat (0, none)).2 := by unfold rsnE; rw [if_neg h0]
    rw [← er] at kv
    generalize hPP : Told1 w g O S p (clL S (rsnE S v)) = PP
    have HPP : Hid (∀ m e w', Told1 (w.drewN m) g O S p (clL S (rsnE S v)) e w' → PP e w' ∧ ∃ v, e = .returned v) := fun m e w' hh => by
      rw [← hPP]
      obtain ⟨u, h1, h2, h3, h4⟩ := hh
      exact ⟨⟨u, h1, h2, h3, ⟨h4.os, h4.tape, h4.output, h4.size, h4.kept, h4.new⟩⟩, u, h1⟩
    clear hPP er hg4 hp4 h hF hw
    obtain ⟨n, rfl⟩ : ∃ n : Nat, v = (n : Int) := ⟨v.toNat, by omega⟩
    generalize S.n = sn at *
    generalize valE S (n : Int) = y at *
    generalize clI (rsnE S (n : Int)) = c at *
    have q1 : (n : Int) < ((sn + 1 : Nat) : Int) := by omega
    have kv' : ∀ m, (w.drewN m).cell? ⟨b4, n * 2 + 1, none⟩ = some (.int .i32 c) := kv
    clear kv
    go_enter Try.func16, Try.ntmps16
    go_wp2_with fail
    refine HV.out.mono ?_
    rintro e w1 ⟨rfl, m, rfl⟩
    have k4' := k4 m
    have kv2 := kv' m
    go_wp2_with fail
    refine (HT.out m).mono ?_
    intro e w2 hh
    obtain ⟨hP, u, rfl⟩ := HPP.out m _ _ hh
    have HH : Hid (PP (.returned u) w2) := hP
    clear hP hh
    go_wp2
    first | exact HH.out | (go_ret; exact HH.out) | (go_ret2; exact HH.out)
end Go.Proofs.Ytpkbigjijihljab
namespace Go.Proofs.Ytpkbigjijihljab
open Go.ChangeShapes Go.WideShapes Go.ChangeAt Go.RowKit
open Go.Pr
theorem row_same {w w' : World} {base e size n : Nat} {v : Value} {L : List Value} (h : w.ownsRow base e size v n L) (hk : ∀ k, v.ownBlock = some k → w'.heap[k]? = w.heap[k]?) : w'.ownsRow base e size v n L := by
  refine ⟨h.1, ?_⟩
  rcases h.2 with h3 | ⟨b, cap, cur, e, h4, h5, h6⟩
  · exact Or.inl h3
  · exact Or.inr ⟨b, cap, cur, e, h4, (hk b (by rw [e]; rfl)).trans h5, h6⟩
theorem own_far {w : World} {B1 B2 e1 e2 s1 s2 n1 n2 : Nat} {v1 v2 : Value} {L1 L2 : List Value} (h1 : w.ownsRow B1 e1 s1 v1 n1 L1) (h2 : w.ownsRow B2 e2 s2 v2 n2 L2) (hne : e1 ≠ e2) : ∀ k, v1.ownBlock = some k → v2.ownBlock ≠ some k := by
  intro k hk
  rcases h1.2 with ⟨e, _⟩ | ⟨b, cap, cur, e, _, hb, _⟩
  · rw [e] at hk; cases hk
  · rw [e] at hk
    have e2 : b = k := by simpa [Value.ownBlock] using hk
    rw [← e2]
    exact row_ne_blk h2 hb (fun e => hne e.symm)
/-- a clause that the book keeps -/
def BQ (w : World) (O : Nat → Prop) (v : Value) (c : List Int) : Prop :=
  ∃ ad cp, v = .slice ad c.length cp ∧ (0 < c.length → ∃ b o cs, ad = some ⟨b, o, none⟩ ∧ O b ∧ w.heap[b]? = some (.cells cs 3 (0, 0)) ∧ ∀ j, j < c.length → w.cell? ⟨b, o + j, none⟩ = some (.int .i64 (c.getD j 0)))
theorem BQ.kept {w w' : World} {O O' : Nat → Prop} {v : Value} {c : List Int} (h : BQ w O v c) (ho : ∀ k, O k → O' k) (hk : ∀ k, O k → (∃ cs, w.heap[k]? = some (.cells cs 3 (0, 0))) → w'.heap[k]? = w.heap[k]?) : BQ w' O' v c := by
  obtain ⟨ad, cp, h1, h2⟩ := h
  refine ⟨ad, cp, h1, fun h0 => ?_⟩
  obtain ⟨b, o, cs, h3, h4, h5, h6⟩ := h2 h0
  have h7 := hk b h4 ⟨cs, h5⟩
  exact ⟨b, o, cs, h3, ho b h4, h7.trans h5, fun j hj => (World.cell?_of_block h7).trans (h6 j hj)⟩
/-- the book in memory -/
structure BK (w : World) (b : Nat) (O : Nat → Prop) (cls : List (List Int)) (dec : List Int) (pA pD : Value) (q : Nat → Value) : Prop where
  blk : w.heap[b]? = some (.cells #[pA, pD] 30 (0, 0))
  og : O b
  osz : ∀ k, O k → k < w.heap.size
  rA : w.ownsRow 0 28 1 pA cls.length ((List.range cls.length).map q)
  rD : w.ownsRow 0 3 1 pD dec.length (dec.map (Value.int .i64))
  oA : ∀ k, pA.ownBlock = some k → O k
  oD : ∀ k, pD.ownBlock = some k → O k
  rq : ∀ k, k < cls.length → BQ w (fun j => O j ∧ pD.ownBlock ≠ some j) (q k) (cls.getD k [])
theorem BK.kept {w w' : World} {b : Nat} {O : Nat → Prop} {cls : List (List Int)} {dec : List Int} {pA pD : Value} {q : Nat → Value} (h : BK w b O cls dec pA pD q) (hs : w.heap.size ≤ w'.heap.size) (hk : ∀ k, O k → w'.heap[k]? = w.heap[k]?) : BK w' b O cls dec pA pD q :=
  ⟨(hk b h.og).trans h.blk, h.og, fun k hO => Nat.lt_of_lt_of_le (h.osz k hO) hs, row_same h.rA (fun k hk2 => hk k (h.oA k hk2)), row_same h.rD (fun k hk2 => hk k (h.oD k hk2)), h.oA, h.oD, fun k hk2 => (h.rq k hk2).kept (fun _ h => h) (fun k hO _ => hk k hO.1)⟩
theorem BK.over {w w' : World} {b : Nat} {O : Nat → Prop} {cls : List (List Int)} {dec : List Int} {pA pD : Value} {q : Nat → Value} (h : BK w b O cls dec pA pD q) (hb : Below w.heap.size w w') : BK w' b O cls dec pA pD q := h.kept hb.size (fun k hk => hb.block k (h.osz k hk))
theorem BK.alloc {w : World} {b : Nat} {O : Nat → Prop} {cls : List (List Int)} {dec : List Int} {pA pD : Value} {q : Nat → Value} (h : BK w b O cls dec pA pD q) (o : Obj) : BK (w.alloc o) b O cls dec pA pD q :=
  h.kept (by simp) (fun k hk => Below.heap_alloc _ _ k (h.osz k hk))
theorem BK.drewN {w : World} {b m : Nat} {O : Nat → Prop} {cls : List (List Int)} {dec : List Int} {pA pD : Value} {q : Nat → Value} (h : BK w b O cls dec pA pD q) : BK (w.drewN m) b O cls dec pA pD q := h.kept (Nat.le_refl _) (fun _ _ => rfl)
theorem BK.drew {w : World} {b : Nat} {O : Nat → Prop} {cls : List (List Int)} {dec : List Int} {pA pD : Value} {q : Nat → Value} (h : BK w b O cls dec pA pD q) : BK w.drew b O cls dec pA pD q := h.kept (Nat.le_refl _) (fun _ _ => rfl)
theorem BK.cell {w : World} {b : Nat} {O : Nat → Prop} {cls : List (List Int)} {dec : List Int} {pA pD : Value} {q : Nat → Value} (h : BK w b O cls dec pA pD q) (j : Nat) : w.cell? ⟨b, j, none⟩ = (#[pA, pD] : Array Value)[j]? := blk_cell h.blk j
theorem BK.frozen {w : World} {b : Nat} {O : Nat → Prop} {cls : List (List Int)} {dec : List Int} {pA pD : Value} {q : Nat → Value} (h : BK w b O cls dec pA pD q) (j : Nat) : w.frozen? ⟨b, j, none⟩ = false := by simp [World.frozen?, h.blk]
theorem BK.neA {w : World} {b : Nat} {O : Nat → Prop} {cls : List (List Int)} {dec : List Int} {pA pD : Value} {q : Nat → Value} (h : BK w b O cls dec pA pD q) : pA.ownBlock ≠ some b := row_ne_blk h.rA h.blk (by decide)
theorem BK.neD {w : World} {b : Nat} {O : Nat → Prop} {cls : List (List Int)} {dec : List Int} {pA pD : Value} {q : Nat → Value} (h : BK w b O cls dec pA pD q) : pD.ownBlock ≠ some b := row_ne_blk h.rD h.blk (by decide)
/-- the row of the decisions is another one now -/
theorem BK.reD {w w1 : World} {b : Nat} {O : Nat → Prop} {cls : List (List Int)} {dec dec' : List Int} {pA pD : Value} {q : Nat → Value} (h : BK w b O cls dec pA pD q) (hgr : w.grownBy w1 pD.ownBlock) (v : Value) (hr : w1.ownsRow 0 3 1 v dec'.length (dec'.map (Value.int .i64))) (hv : v.ownBlock = pD.ownBlock ∨ v.ownBlock = none ∨ ∃ k, v.ownBlock = some k ∧ w.heap.size ≤ k ∧ k < w1.heap.size) :
    w1.heap[b]? = some (.cells #[pA, pD] 30 (0, 0)) ∧ ∃ O', BK (w1.setCell ⟨b, 1, none⟩ v) b O' cls dec' pA v q ∧ Fr O w (w1.setCell ⟨b, 1, none⟩ v) O' := by
  have hk1 : ∀ k, k < w.heap.size → some k ≠ pD.ownBlock → w1.heap[k]? = w.heap[k]? := fun k hk hne => hgr.block k hk hne
  have hb1 : w1.heap[b]? = some (.cells #[pA, pD] 30 (0, 0)) := (hk1 b (h.osz b h.og) (fun e => h.neD e.symm)).trans h.blk
  have hoth : ∀ k, k ≠ b → (w1.setCell ⟨b, 1, none⟩ v).heap[k]? = w1.heap[k]? := fun k hk => heap_setCell_other _ _ _ _ hk
  have hvr : v.ownBlock ≠ some b := row_ne_blk hr hb1 (by decide)
  have hsz := hgr.size
  refine ⟨hb1, fun k => O k ∨ (w.heap.size ≤ k ∧ k < w1.heap.size), ⟨?_, Or.inl h.og, fun k hk => ?_, ?_, ?_, fun k hk => Or.inl (h.oA k hk), fun k hk => ?_, fun k hk => ?_⟩, hgr.os, hgr.tape, hgr.output, by simp; omega, fun k hk hO => ?_, fun k hk => ?_⟩
  · rw [heap_setCell_same _ b 1 _ _ _ hb1]
    rfl
  · rcases hk with hk | hk
    · have := h.osz k hk; simp; omega
    · simp; omega
  · exact row_same h.rA (fun k hk => (hoth k (fun e => h.neA (by rw [hk, e]))).trans (hk1 k (h.osz k (h.oA k hk)) (fun e => own_far h.rA h.rD (by decide) k hk e.symm)))
  · exact row_same hr (fun k hk => hoth k (fun e => hvr (by rw [hk, e])))
  · rcases hv with hv | hv | ⟨k2, hv, h3⟩
    · exact Or.inl (h.oD k (by rw [← hv]; exact hk))
    · rw [hv] at hk; cases hk
    · rw [hv] at hk
      cases hk
      exact Or.inr h3
  · refine (h.rq k hk).kept (fun j hO => ⟨Or.inl hO.1, fun e => ?_⟩) (fun j hO hcs => (hoth j (fun e => ?_)).trans (hk1 j (h.osz j hO.1) (fun e => hO.2 e.symm)))
    · rcases hv with hv | hv | ⟨k2, hv, h3⟩
      · exact hO.2 (by rw [← hv]; exact e)
      · rw [hv] at e; cases e
      · rw [hv] at e
        cases e
        have := h.osz _ hO.1
        omega
    · obtain ⟨cs, hcs⟩ := hcs
      rw [e, h.blk] at hcs
      injection hcs with hcs
      injection hcs with _ h2 _
      exact absurd h2 (by decide)
  · exact (hoth k (fun e => hO (by rw [e]; exact h.og))).trans (hk1 k hk (fun e => hO (h.oD k e.symm)))
  · rcases hk with hk | hk
    · exact Or.inl hk
    · exact Or.inr hk.1
/-- a clause more -/
theorem BK.reA {w w1 : World} {b : Nat} {O : Nat → Prop} {cls : List (List Int)} {dec : List Int} {pA pD : Value} {q : Nat → Value} (h : BK w b O cls dec pA pD q) (hgr : w.grownBy w1 pA.ownBlock) (v vx : Value) (xs : List Int) (hr : w1.ownsRow 0 28 1 v (cls.length + 1) ((List.range cls.length).map q ++ [vx])) (hv : v.ownBlock = pA.ownBlock ∨ ∃ k, v.ownBlock = some k ∧ w.heap.size ≤ k ∧ k < w1.heap.size) (hx : BQ w (fun j => O j ∧ pD.ownBlock ≠ some j) vx xs) :
    w1.heap[b]? = some (.cells #[pA, pD] 30 (0, 0)) ∧ ∃ O' q', BK (w1.setCell ⟨b, 0, none⟩ v) b O' (cls ++ [xs]) dec v pD q' ∧ Fr O w (w1.setCell ⟨b, 0, none⟩ v) O' := by
  have hk1 : ∀ k, k < w.heap.size → some k ≠ pA.ownBlock → w1.heap[k]? = w.heap[k]? := fun k hk hne => hgr.block k hk hne
  have hb1 : w1.heap[b]? = some (.cells #[pA, pD] 30 (0, 0)) := (hk1 b (h.osz b h.og) (fun e => h.neA e.symm)).trans h.blk
  have hoth : ∀ k, k ≠ b → (w1.setCell ⟨b, 0, none⟩ v).heap[k]? = w1.heap[k]? := fun k hk => heap_setCell_other _ _ _ _ hk
  have hvr : v.ownBlock ≠ some b := row_ne_blk hr hb1 (by decide)
  have hsz := hgr.size
  have hrq : ∀ {u : Value} {c : List Int}, BQ w (fun j => O j ∧ pD.ownBlock ≠ some j) u c → BQ (w1.setCell ⟨b, 0, none⟩ v) (fun k => (O k ∨ (w.heap.size ≤ k ∧ k < w1.heap.size)) ∧ pD.ownBlock ≠ some k) u c := fun hq => by
    refine hq.kept (fun _ h => ⟨Or.inl h.1, h.2⟩) (fun k hO hcs => (hoth k (fun e => ?_)).trans (hk1 k (h.osz k hO.1) (fun e => ?_)))
    · obtain ⟨cs, hcs⟩ := hcs
      rw [e, h.blk] at hcs
      injection hcs with hcs
      injection hcs with _ h2 _
      exact absurd h2 (by decide)
    · obtain ⟨cs, hcs⟩ := hcs
      exact row_ne_blk h.rA hcs (by decide) e.symm
  refine ⟨hb1, fun k => O k ∨ (w.heap.size ≤ k ∧ k < w1.heap.size), fun k => if k = cls.length then vx else q k, ⟨?_, Or.inl h.og, fun k hk => ?_, ?_, ?_, fun k hk => ?_, fun k hk => Or.inl (h.oD k hk), fun k hk => ?_⟩, hgr.os, hgr.tape, hgr.output, by simp; omega, fun k hk hO => ?_, fun k hk => ?_⟩
  · rw [heap_setCell_same _ b 0 _ _ _ hb1]
    rfl
  · rcases hk with hk | hk
    · have := h.osz k hk; simp; omega
    · simp; omega
  · have el : (cls ++ [xs]).length = cls.length + 1 := by simp
    have eL : (List.range (cls.length + 1)).map (fun k => if k = cls.length then vx else q k) = (List.range cls.length).map q ++ [vx] := by
      rw [List.range_succ, List.map_append]
      congr 1
      · refine List.map_congr_left fun k hk => ?_
        have := List.mem_range.1 hk
        rw [if_neg (by omega)]
      · simp
    rw [el, eL]
    exact row_same hr (fun k hk => hoth k (fun e => hvr (by rw [hk, e])))
  · exact row_same h.rD (fun k hk => (hoth k (fun e => h.neD (by rw [hk, e]))).trans (hk1 k (h.osz k (h.oD k hk)) (fun e => own_far h.rD h.rA (by decide) k hk e.symm)))
  · rcases hv with hv | ⟨k2, hv, h3⟩
    · exact Or.inl (h.oA k (by rw [← hv]; exact hk))
    · rw [hv] at hk
      cases hk
      exact Or.inr h3
  · have hk' : k < cls.length + 1 := by simpa using hk
    by_cases e : k = cls.length
    · subst e
      rw [if_pos rfl]
      have e2 : (cls ++ [xs]).getD cls.length [] = xs := by rw [List.getD_eq_getElem?_getD]; simp
      rw [e2]
      exact hrq hx
    · rw [if_neg e]
      have e2 : (cls ++ [xs]).getD k [] = cls.getD k [] := by rw [List.getD_eq_getElem?_getD, List.getElem?_append_left (by omega), ← List.getD_eq_getElem?_getD]
      rw [e2]
      exact hrq (h.rq k (by omega))
  · exact (hoth k (fun e => hO (by rw [e]; exact h.og))).trans (hk1 k hk (fun e => hO (h.oA k e.symm)))
  · rcases hk with hk | hk
    · exact Or.inl hk
    · exact Or.inr hk.1
theorem BK.wide {w w' : World} {b : Nat} {O : Nat → Prop} {cls : List (List Int)} {dec : List Int} {pA pD : Value} {q : Nat → Value} (h : BK w b O cls dec pA pD q) (hs : w.heap.size ≤ w'.heap.size) (hk : ∀ k, k < w.heap.size → w'.heap[k]? = w.heap[k]?) : BK w' b (fun k => O k ∨ (w.heap.size ≤ k ∧ k < w'.heap.size)) cls dec pA pD q := by
  have h2 := h.kept hs (fun k hO => hk k (h.osz k hO))
  refine ⟨h2.blk, Or.inl h2.og, fun k hO => ?_, h2.rA, h2.rD, fun k hk => Or.inl (h2.oA k hk), fun k hk => Or.inl (h2.oD k hk), fun k hk => (h2.rq k hk).kept (fun _ h => ⟨Or.inl h.1, h.2⟩) (fun _ _ _ => rfl)⟩
  rcases hO with hO | hO
  · exact h2.osz k hO
  · exact hO.2
theorem BQ_own {w : World} {O : Nat → Prop} {b k cap : Nat} {xs : List Int} (h : w.ownsRow 0 3 1 (.slice (some ⟨b, 0, none⟩) k cap) k (xs.map (Value.int .i64))) (hO : O b) (hk : xs.length = k) : BQ w O (.slice (some ⟨b, 0, none⟩) k cap) xs := by
  refine ⟨_, cap, by rw [hk], fun _ => ?_⟩
  have h1 := h
  rcases h.2 with ⟨e, _⟩ | ⟨g', cap', cur, e, _, hb, _⟩
  · cases e
  · cases e
    refine ⟨b, 0, cur, rfl, hO, hb, fun j hj => ?_⟩
    rw [Nat.zero_add, h1.cellAt j (by omega), List.getElem?_map, List.getElem?_eq_getElem hj, getD_of _ _ _ hj]
    rfl
/-- the decisions cut -/
theorem row_cut {w : World} {v : Value} {dec : List Int} (h : w.ownsRow 0 3 1 v dec.length (dec.map (Value.int .i64))) {b n cap : Nat} (hv : v = .slice (some ⟨b, 0, none⟩) dec.length cap) (hn : n ≤ dec.length) : w.ownsRow 0 3 1 (.slice (some ⟨b, 0, none⟩) n cap) (dec.take n).length ((dec.take n).map (Value.int .i64)) := by
  have e : (dec.take n).length = n := by rw [List.length_take]; omega
  rw [e]
  refine ⟨by rw [List.length_map, e]; omega, ?_⟩
  rcases h.2 with ⟨e2, _⟩ | ⟨g', cap', cur, e2, h1, h2, h3, h4, h5, h6⟩
  · rw [hv] at e2; cases e2
  · rw [hv] at e2
    cases e2
    refine Or.inr ⟨b, cap, cur, rfl, h1, h2, by omega, h4, h5, ?_⟩
    rw [Nat.mul_one] at h6 ⊢
    rw [List.map_take, ← h6, List.take_take]
    congr 1
    omega
end Go.Proofs.Ytpkbigjijihljab
