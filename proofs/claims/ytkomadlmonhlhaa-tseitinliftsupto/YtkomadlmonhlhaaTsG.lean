import Derived.Test.YtkomadlmonhlhaaTsE
namespace Go.Proofs.Ytkomadlmonhlhaa
open Go.ChangeShapes Go.WideShapes Go.ChangeAt Go.RowKit Go.Lib Go.Ag Go.WideMaps Go.Maps Go.ChangeMaps Go.Cn

def intV (c : List Int) : Array Value := (c.map (Value.int .i64)).toArray
/-- clauses, each in a block of its own -/
structure CLA (w : World) (B : Nat) (cls : List (List Int)) (ads : List Value) (bk : Nat → Nat) : Prop where
  len : ads.length = cls.length
  nil : ∀ i, i < cls.length → cls.getD i [] = [] → ads[i]? = some (.slice none 0 0)
  row : ∀ i, i < cls.length → cls.getD i [] ≠ [] → ads[i]? = some (.slice (some ⟨bk i, 0, none⟩) (cls.getD i []).length (cls.getD i []).length) ∧ B ≤ bk i ∧ w.heap[bk i]? = some (.cells (intV (cls.getD i [])) 3 (0, 0))
  inc : ∀ i j, i < j → j < cls.length → cls.getD i [] ≠ [] → cls.getD j [] ≠ [] → bk i < bk j
theorem CLA.keep {w w' : World} {B : Nat} {cls : List (List Int)} {ads : List Value} {bk : Nat → Nat} (h : CLA w B cls ads bk) (hk : ∀ (j : Nat) (cs : Array Value), w.heap[j]? = some (Obj.cells cs 3 (0, 0)) → w'.heap[j]? = w.heap[j]?) : CLA w' B cls ads bk :=
  ⟨h.len, h.nil, fun i hi hn => ⟨(h.row i hi hn).1, (h.row i hi hn).2.1, (hk _ _ (h.row i hi hn).2.2).trans (h.row i hi hn).2.2⟩, h.inc⟩
theorem CLA.start (w : World) (B : Nat) : CLA w B [] [] (fun _ => 0) := ⟨rfl, fun i hi => by simp at hi, fun i hi => by simp at hi, fun i j _ hj => by simp at hj⟩
theorem getD_snoc {α : Type} (l : List α) (x d : α) (i : Nat) : (l ++ [x]).getD i d = if i < l.length then l.getD i d else if i = l.length then x else d := by
  by_cases h : i < l.length
  · rw [if_pos h, List.getD_eq_getElem?_getD, List.getElem?_append_left h, List.getD_eq_getElem?_getD]
  · rw [if_neg h]
    by_cases e : i = l.length
    · rw [if_pos e, e, List.getD_eq_getElem?_getD, List.getElem?_append_right (Nat.le_refl _)]
      simp
    · rw [if_neg e, List.getD_eq_getElem?_getD, List.getElem?_eq_none (by simp; omega)]
      rfl
/-- the clause that is handed in -/
def CA (w : World) (B : Nat) (c : List Int) (vA : Value) (b : Nat) : Prop := (c = [] ∧ vA = .slice none 0 0) ∨ (c ≠ [] ∧ vA = .slice (some ⟨b, 0, none⟩) c.length c.length ∧ w.heap[b]? = some (.cells (intV c) 3 (0, 0)) ∧ B ≤ b)
theorem CLA.snoc {w : World} {B : Nat} {cls : List (List Int)} {ads : List Value} {bk : Nat → Nat} (h : CLA w B cls ads bk) {c : List Int} {vA : Value} {b : Nat} (hc : CA w B c vA b) (hb : ∀ i, i < cls.length → cls.getD i [] ≠ [] → bk i < b) : CLA w B (cls ++ [c]) (ads ++ [vA]) (fun i => if i = cls.length then b else bk i) := by
  have hl := h.len
  refine ⟨by simp [hl], fun i hi he => ?_, fun i hi he => ?_, fun i j hij hj hi0 hj0 => ?_⟩
  · rw [List.length_append] at hi
    rw [getD_snoc] at he
    by_cases e : i < cls.length
    · rw [if_pos e] at he
      rw [List.getElem?_append_left (by omega)]
      exact h.nil i e he
    · have e2 : i = cls.length := by simp at hi; omega
      rw [if_neg e, if_pos e2] at he
      rw [List.getElem?_append_right (by omega), show i - ads.length = 0 by omega]
      rcases hc with ⟨_, h2⟩ | ⟨h1, _⟩
      · rw [h2]; rfl
      · exact absurd he h1
  · rw [List.length_append] at hi
    rw [getD_snoc] at he
    rw [getD_snoc]
    by_cases e : i < cls.length
    · rw [if_pos e] at he
      rw [if_pos e]
      have h5 := h.row i e he
      rw [if_neg (show ¬ i = cls.length by omega), List.getElem?_append_left (by omega)]
      exact h5
    · have e2 : i = cls.length := by simp at hi; omega
      rw [if_neg e, if_pos e2] at he
      rw [if_neg e, if_pos e2, if_pos e2, List.getElem?_append_right (by omega), show i - ads.length = 0 by omega]
      rcases hc with ⟨h1, _⟩ | ⟨h1, h2, h3, h4⟩
      · exact absurd h1 he
      · exact ⟨by rw [h2]; rfl, h4, h3⟩
  · rw [List.length_append] at hj
    have e : i < cls.length := by simp at hj; omega
    rw [getD_snoc, if_pos e] at hi0
    show (if i = cls.length then b else bk i) < (if j = cls.length then b else bk j)
    rw [if_neg (by omega)]
    by_cases e2 : j < cls.length
    · rw [getD_snoc, if_pos e2] at hj0
      rw [if_neg (by omega)]
      exact h.inc i j hij e2 hi0 hj0
    · rw [if_pos (by simp at hj; omega)]
      exact hb i e hi0
/-- a list of clauses on its way, in its box -/
structure CL (w0 w : World) (B Lb : Nat) (cls : List (List Int)) (vL : Value) : Prop where
  box : w.heap[Lb]? = some (.cells #[vL] 31 (0, 0))
  row : ∃ ads bk, w.ownsRow B 63 1 vL cls.length ads ∧ CLA w B cls ads bk
  bel : Below B w0 w
  hB : B ≤ w.heap.size
  lo : B ≤ Lb
theorem CL.over {w0 w w' : World} {B Lb : Nat} {cls : List (List Int)} {vL : Value} (h : CL w0 w B Lb cls vL) (hb : Below w.heap.size w w') : CL w0 w' B Lb cls vL := by
  obtain ⟨ads, bk, h1, h2⟩ := h.row
  exact ⟨(hb.block _ (Array.getElem?_eq_some_iff.1 h.box).1).trans h.box, ⟨ads, bk, ag_same h1 (fun j hj => hb.block j (h1.lt j hj).2), h2.keep (fun j cs hj => hb.block j (Array.getElem?_eq_some_iff.1 hj).1)⟩, h.bel.trans (hb.mono h.hB), Nat.le_trans h.hB hb.size, h.lo⟩
/-- cells of other types stand -/
def STD (Lb : Nat) (w w' : World) : Prop := ∀ j cs t fr, w.heap[j]? = some (.cells cs t fr) → t ≠ 63 → j ≠ Lb → w'.heap[j]? = w.heap[j]?
theorem STD.below {Lb : Nat} {w w' : World} (h : Below w.heap.size w w') : STD Lb w w' := fun j _ _ _ hj _ _ => h.block j (Array.getElem?_eq_some_iff.1 hj).1
theorem STD.trans {Lb : Nat} {w w1 w2 : World} (h : STD Lb w w1) (h2 : STD Lb w1 w2) : STD Lb w w2 := fun j cs t fr hj ht hn => by
  have h5 := h j cs t fr hj ht hn
  exact (h2 j cs t fr (h5.trans hj) ht hn).trans h5
def LAYP (w0 w : World) (B Lb : Nat) (cls : List (List Int)) (c : List Int) (e : Ending) (w' : World) : Prop := (∃ v, e = .returned v) ∧ ∃ vL', CL w0 w' B Lb (cls ++ [c]) vL' ∧ STD Lb w w'
theorem lay_end {w0 w w7 : World} {B Lb : Nat} {cls : List (List Int)} {vL : Value} {ads : List Value} {bk : Nat → Nat} {c : List Int} {vA : Value} {b g7 cap7 : Nat} {ob : Obj} (hbox : w.heap[Lb]? = some (.cells #[vL] 31 (0, 0))) (hrow : w.ownsRow B 63 1 vL cls.length ads) (hcla : CLA w B cls ads bk) (hbel : Below B w0 w) (hlo : B ≤ Lb) (hc : CA w B c vA b) (hb : ∀ i, i < cls.length → cls.getD i [] ≠ [] → bk i < b)
    (hown : w7.ownsRow B 63 1 (.slice (some ⟨g7, 0, none⟩) (cls.length + 1) cap7) (cls.length + 1) (ads ++ [vA])) (hg : (w.alloc ob).grownBy w7 vL.ownBlock) :
    w7.heap[Lb]? = some (.cells #[vL] 31 (0, 0)) ∧ CL w0 (w7.setCell ⟨Lb, 0, none⟩ (.slice (some ⟨g7, 0, none⟩) (cls.length + 1) cap7)) B Lb (cls ++ [c]) (.slice (some ⟨g7, 0, none⟩) (cls.length + 1) cap7) ∧ STD Lb w (w7.setCell ⟨Lb, 0, none⟩ (.slice (some ⟨g7, 0, none⟩) (cls.length + 1) cap7)) := by
  have hLb : Lb < w.heap.size := (Array.getElem?_eq_some_iff.1 hbox).1
  have hz := hg.size
  have hk : ∀ j, j < w.heap.size → vL.ownBlock ≠ some j → w7.heap[j]? = w.heap[j]? := fun j hj hne => by
    rw [hg.block j (by simp; omega) (fun e => hne e.symm)]
    exact Below.heap_alloc _ _ j hj
  have hb7 : w7.heap[Lb]? = some (.cells #[vL] 31 (0, 0)) := (hk Lb hLb (ag_ne hrow hbox (by decide))).trans hbox
  have ho : ∀ j, j ≠ Lb → (w7.setCell ⟨Lb, 0, none⟩ (.slice (some ⟨g7, 0, none⟩) (cls.length + 1) cap7)).heap[j]? = w7.heap[j]? := fun j hj => heap_setCell_other _ _ _ _ hj
  have hst : STD Lb w (w7.setCell ⟨Lb, 0, none⟩ (.slice (some ⟨g7, 0, none⟩) (cls.length + 1) cap7)) := fun j cs t fr hj ht hn => by
    rw [ho j hn]
    exact hk j (Array.getElem?_eq_some_iff.1 hj).1 (ag_ne hrow hj (fun e => ht e.symm))
  refine ⟨hb7, ⟨?_, ⟨ads ++ [vA], _, ?_, (hcla.snoc hc hb).keep (fun j cs hj => hst j cs 3 (0, 0) hj (by decide) (fun e => by rw [e, hbox] at hj; cases hj))⟩, ⟨hg.os.trans hbel.os, hg.tape.trans hbel.tape, hg.output.trans hbel.output, by have := hbel.size; simp at hz ⊢; omega, fun k hk2 => ?_⟩, by simp at hz ⊢; omega, hlo⟩, hst⟩
  · rw [heap_setCell_same _ Lb 0 _ _ _ hb7]
    rfl
  · rw [List.length_append]
    exact ag_same hown (fun j hj => ho j (fun e => ag_ne hown hb7 (by decide) (by rw [hj, e])))
  · rw [ho k (fun e => by omega), hk k (by omega) (fun e => by have := (hrow.lt k e).1; omega)]
    exact hbel.block k hk2
set_option maxHeartbeats 4000000 in
set_option maxRecDepth 100000 in
theorem lay_core {w0 w : World} {B Lb : Nat} {cls : List (List Int)} {vL : Value} {ads : List Value} {bk : Nat → Nat} (c : List Int) (vA : Value) (b : Nat) (hbox : w.heap[Lb]? = some (.cells #[vL] 31 (0, 0))) (hrow : w.ownsRow B 63 1 vL cls.length ads) (hcla : CLA w B cls ads bk) (hbel : Below B w0 w) (hB : B ≤ w.heap.size) (hlo : B ≤ Lb) (hc : CA w B c vA b) (hb : ∀ i, i < cls.length → cls.getD i [] ≠ [] → bk i < b) (hn : cls.length ≤ 1000000000) :
    Calls Try.prog 78 #[vA, .pointer (some ⟨Lb, 0, none⟩)] w (LAYP w0 w B Lb cls c) := by
  obtain ⟨i0, hi, hz0, hz1, hz2⟩ := info_parts (P := Try.prog) (e := 63) (z := .slice none 0 0) (size := 1) (bytes := 24) (by kernel_rfl)
  have c0 := ag_cell hbox 0
  have HR : Hid (w.ownsRow B 63 1 vL cls.length ads) := hrow
  have HGO : Hid (∀ (w7 : World) (g7 cap7 : Nat), w7.ownsRow B 63 1 (.slice (some ⟨g7, 0, none⟩) (cls.length + 1) cap7) (cls.length + 1) (ads ++ [vA]) → (w.alloc (.cells #[vA] 63)).grownBy w7 vL.ownBlock → LAYP w0 w B Lb cls c (.returned (.tuple #[])) (w7.setCell ⟨Lb, 0, none⟩ (.slice (some ⟨g7, 0, none⟩) (cls.length + 1) cap7)) ∧ w7.cell? ⟨Lb, 0, none⟩ = some vL ∧ w7.frozen? ⟨Lb, 0, none⟩ = false) := fun w7 g7 cap7 h1 h2 => by
    obtain ⟨h3, h4, h5⟩ := lay_end hbox hrow hcla hbel hlo hc hb h1 h2
    exact ⟨⟨⟨_, rfl⟩, _, h4, h5⟩, ag_cell h3 0, ag_fz h3 0⟩
  have hv1 : vA.oneCell' = true := by rcases hc with ⟨_, e⟩ | ⟨_, e, _⟩ <;> rw [e] <;> rfl
  have hv2 : ∃ ad n cp, vA = .slice ad n cp := by rcases hc with ⟨_, e⟩ | ⟨_, e, _⟩ <;> exact ⟨_, _, _, e⟩
  obtain ⟨adA, nA, cA, rfl⟩ := hv2
  obtain ⟨aL, cL, rfl, _, _⟩ := row_form hrow
  clear hbox hrow hcla hbel hlo hc hb
  generalize cls.length = n at *
  go_enter Try.func78, Try.ntmps78
  go_wp2_with (at_builtin; refine wpList_append_lies _ rfl _ _ 31 rfl B 63 i0 (.slice none 0 0) 1 24 Try.underlying31 hi hz0 hz1 hz2 rfl (by decide) _ _ _ rfl (HR.out.alloc _) ⟨w.heap.size, 0, none⟩ 1 1 [.slice adA nA cA] rfl rfl (one_new _ _ _) (by intro u hu; simp at hu; subst hu; rfl) (by omega) (by unfold maxLen; omega) (by omega) (by simp; omega) (w.heap.size + 1) (by simp) ?_; intro g7 cap7 w7 hown7 hgrow7 hat7 hlt7; obtain ⟨hq, k8, k9⟩ := HGO.out w7 g7 cap7 hown7 hgrow7; have HZ : Hid _ := hq; clear hq hown7 hgrow7 hat7 hlt7)
  first | exact HZ.out | (go_ret; exact HZ.out) | (go_end0; exact HZ.out)
/-- a clause is laid: its literals stand in a block that was made right before -/
theorem lay_some {w0 w : World} {B Lb : Nat} {cls : List (List Int)} {vL : Value} (h : CL w0 w B Lb cls vL) (c : List Int) (hc : c ≠ []) (n : Nat) (hcn : c.length = n) (hn : cls.length ≤ 1000000000) :
    Calls Try.prog 78 #[.slice (some ⟨w.heap.size, 0, none⟩) n n, .pointer (some ⟨Lb, 0, none⟩)] (w.alloc (.cells (intV c) 3)) (LAYP w0 w B Lb cls c) := by
  subst hcn
  have hb1 := ag_bel1 w (.cells (intV c) 3)
  obtain ⟨ads, bk, h1, h2⟩ := h.row
  have h3 := h.over hb1
  have h4 : ∀ i, i < cls.length → cls.getD i [] ≠ [] → bk i < w.heap.size := fun i hi hne => (Array.getElem?_eq_some_iff.1 (h2.row i hi hne).2.2).1
  refine (lay_core c _ w.heap.size h3.box (ag_same h1 (fun j hj => hb1.block j (h1.lt j hj).2)) (h2.keep (fun j cs hj => hb1.block j (Array.getElem?_eq_some_iff.1 hj).1)) h3.bel h3.hB h.lo (Or.inr ⟨hc, rfl, heap_alloc_new _ _, h.hB⟩) h4 hn).mono ?_
  rintro e w' ⟨h5, vL', h6, h7⟩
  exact ⟨h5, vL', h6, (STD.below hb1).trans h7⟩
theorem lay_none {w0 w : World} {B Lb : Nat} {cls : List (List Int)} {vL : Value} (h : CL w0 w B Lb cls vL) (hn : cls.length ≤ 1000000000) :
    Calls Try.prog 78 #[.slice none 0 0, .pointer (some ⟨Lb, 0, none⟩)] w (LAYP w0 w B Lb cls []) := by
  obtain ⟨ads, bk, h1, h2⟩ := h.row
  exact lay_core [] _ w.heap.size h.box h1 h2 h.bel h.hB h.lo (Or.inl ⟨rfl, rfl⟩) (fun i hi hne => (Array.getElem?_eq_some_iff.1 (h2.row i hi hne).2.2).1) hn
end Go.Proofs.Ytkomadlmonhlhaa
