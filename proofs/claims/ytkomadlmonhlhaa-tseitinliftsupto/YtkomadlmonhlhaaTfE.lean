import Derived.Test.YtkomadlmonhlhaaTfD
import Derived.Test.YtkomadlmonhlhaaTsJa
import Derived.Test.YtkomadlmonhlhaaTsG
namespace Go.Proofs.Ytkomadlmonhlhaa
open Go.ChangeShapes Go.WideShapes Go.ChangeAt Go.RowKit Go.Lib Go.Ag Go.WideMaps Go.Maps Go.ChangeMaps Go.Cn

/-- a clause in memory; an empty one wherever -/
def QA (w : World) (B : Nat) (c : List Int) (vA : Value) : Prop := ∃ ad cp, vA = .slice ad c.length cp ∧ (c ≠ [] → ∃ b, ad = some ⟨b, 0, none⟩ ∧ B ≤ b ∧ w.heap[b]? = some (.cells (intV c) 3 (0, 0)))
/-- a list of clauses in memory -/
def QL (w : World) (B : Nat) (cls : List (List Int)) (vL : Value) : Prop := ∃ ads, w.ownsRow B 63 1 vL cls.length ads ∧ ∀ i, i < cls.length → ∃ vA, ads[i]? = some vA ∧ QA w B (cls.getD i []) vA
theorem QA.keep {w w' : World} {B : Nat} {c : List Int} {vA : Value} (h : QA w B c vA) (hk : ∀ (j : Nat) (cs : Array Value), B ≤ j → w.heap[j]? = some (Obj.cells cs 3 (0, 0)) → w'.heap[j]? = w.heap[j]?) : QA w' B c vA := by
  obtain ⟨ad, cp, e, h2⟩ := h
  refine ⟨ad, cp, e, fun hc => ?_⟩
  obtain ⟨b, e2, hB, hb⟩ := h2 hc
  exact ⟨b, e2, hB, (hk b _ hB hb).trans hb⟩
theorem QL.keep {w w' : World} {B : Nat} {cls : List (List Int)} {vL : Value} (h : QL w B cls vL) (ho : ∀ j, B ≤ j → vL.ownBlock = some j → w'.heap[j]? = w.heap[j]?) (hk : ∀ (j : Nat) (cs : Array Value), B ≤ j → w.heap[j]? = some (Obj.cells cs 3 (0, 0)) → w'.heap[j]? = w.heap[j]?) : QL w' B cls vL := by
  obtain ⟨ads, h1, h2⟩ := h
  refine ⟨ads, ag_same h1 (fun j hj => ho j (h1.lt j hj).1 hj), fun i hi => ?_⟩
  obtain ⟨vA, e, h3⟩ := h2 i hi
  exact ⟨vA, e, h3.keep hk⟩
theorem QL.over {w w' : World} {B : Nat} {cls : List (List Int)} {vL : Value} (h : QL w B cls vL) (hb : Below w.heap.size w w') : QL w' B cls vL := by
  have h' := h
  obtain ⟨ads, h1, _⟩ := h'
  exact h.keep (fun j _ hj => hb.block j (h1.lt j hj).2) (fun j _ _ hj => hb.block j (Array.getElem?_eq_some_iff.1 hj).1)
theorem QL.form {w : World} {B : Nat} {cls : List (List Int)} {vL : Value} (h : QL w B cls vL) : ∃ ad cp, vL = .slice ad cls.length cp := by
  obtain ⟨ads, h1, _⟩ := h
  obtain ⟨ad, cp, e, _⟩ := row_form h1
  exact ⟨ad, cp, e⟩
theorem QL.nil (w : World) (B : Nat) : QL w B [] (.slice none 0 0) := ⟨[], ⟨rfl, .inl ⟨rfl, rfl⟩⟩, fun i hi => absurd hi (by simp)⟩
theorem getD_app {α : Type} (l l' : List α) (d : α) (i : Nat) (h : i < l.length) : (l ++ l').getD i d = l.getD i d := by rw [List.getD_eq_getElem?_getD, List.getElem?_append_left h, List.getD_eq_getElem?_getD]
theorem getD_app2 {α : Type} (l l' : List α) (d : α) (i : Nat) (h : l.length ≤ i) : (l ++ l').getD i d = l'.getD (i - l.length) d := by rw [List.getD_eq_getElem?_getD, List.getElem?_append_right h, List.getD_eq_getElem?_getD]
/-- clauses more -/
theorem QL.app {w w7 : World} {B : Nat} {cls new : List (List Int)} {ads vs : List Value} {aL : Option Addr} {cL g7 cap7 : Nat} {W : World} (hrow : w.ownsRow B 63 1 (.slice aL cls.length cL) cls.length ads) (hcl : ∀ i, i < cls.length → ∃ vA, ads[i]? = some vA ∧ QA w B (cls.getD i []) vA) (hWb : Below w.heap.size w W) (hnew : ∀ i, i < new.length → ∃ vA, vs[i]? = some vA ∧ QA W B (new.getD i []) vA)
    (hown : w7.ownsRow B 63 1 (.slice (some ⟨g7, 0, none⟩) (cls.length + new.length) cap7) (cls.length + new.length) (ads ++ vs)) (hg : W.grownBy w7 (Value.slice aL cls.length cL).ownBlock) : QL w7 B (cls ++ new) (.slice (some ⟨g7, 0, none⟩) (cls.length + new.length) cap7) := by
  have hl : ads.length = cls.length := by have := hrow.1; omega
  have hrow2 : W.ownsRow B 63 1 (.slice aL cls.length cL) cls.length ads := ag_same hrow (fun j hj => hWb.block j (hrow.lt j hj).2)
  have hk : ∀ (j : Nat) (cs : Array Value), B ≤ j → W.heap[j]? = some (Obj.cells cs 3 (0, 0)) → w7.heap[j]? = W.heap[j]? := fun j _ _ hj => hg.block j (Array.getElem?_eq_some_iff.1 hj).1 (fun e => ag_ne hrow2 hj (by decide) e.symm)
  refine ⟨ads ++ vs, by rw [List.length_append]; exact hown, fun i hi => ?_⟩
  rw [List.length_append] at hi
  by_cases h1 : i < cls.length
  · obtain ⟨vA, e, h2⟩ := hcl i h1
    refine ⟨vA, by rw [List.getElem?_append_left (by omega)]; exact e, ?_⟩
    rw [getD_app _ _ _ _ h1]
    exact (h2.keep (fun j _ _ hj => hWb.block j (Array.getElem?_eq_some_iff.1 hj).1)).keep hk
  · obtain ⟨vA, e, h2⟩ := hnew (i - cls.length) (by omega)
    refine ⟨vA, by rw [List.getElem?_append_right (by omega), hl]; exact e, ?_⟩
    rw [getD_app2 _ _ _ _ (by omega)]
    exact h2.keep hk
theorem QA.new (w : World) (B : Nat) (c : List Int) (hB : B ≤ w.heap.size) : QA (w.alloc (.cells (intV c) 3)) B c (.slice (some ⟨w.heap.size, 0, none⟩) c.length c.length) := ⟨_, _, rfl, fun _ => ⟨w.heap.size, rfl, hB, heap_alloc_new _ _⟩⟩
theorem QA.over {w w' : World} {B : Nat} {c : List Int} {vA : Value} (h : QA w B c vA) (hb : Below w.heap.size w w') : QA w' B c vA := h.keep (fun j _ _ hj => hb.block j (Array.getElem?_eq_some_iff.1 hj).1)
/-- a formula's box, and its clauses on their way -/
structure QF (w0 w : World) (B Fb : Nat) (vars : Int) (cls : List (List Int)) (vL : Value) : Prop where
  box : w.heap[Fb]? = some (.cells #[.int .i64 vars, vL] 33 (0, 0))
  ql : QL w B cls vL
  bel : Below B w0 w
  hB : B ≤ w.heap.size
  lo : B ≤ Fb
theorem QF.over {w0 w w' : World} {B Fb : Nat} {vars : Int} {cls : List (List Int)} {vL : Value} (h : QF w0 w B Fb vars cls vL) (hb : Below w.heap.size w w') : QF w0 w' B Fb vars cls vL :=
  ⟨(hb.block _ (Array.getElem?_eq_some_iff.1 h.box).1).trans h.box, h.ql.over hb, h.bel.trans (hb.mono h.hB), Nat.le_trans h.hB hb.size, h.lo⟩
/-- the cell of the clauses is stored -/
theorem QF.put {w0 w w7 W : World} {B Fb : Nat} {vars : Int} {cls new : List (List Int)} {ads vs : List Value} {aL : Option Addr} {cL g7 cap7 : Nat} (hF : QF w0 w B Fb vars cls (.slice aL cls.length cL)) (hrow : w.ownsRow B 63 1 (.slice aL cls.length cL) cls.length ads) (hcl : ∀ i, i < cls.length → ∃ vA, ads[i]? = some vA ∧ QA w B (cls.getD i []) vA) (hWb : Below w.heap.size w W) (hnew : ∀ i, i < new.length → ∃ vA, vs[i]? = some vA ∧ QA W B (new.getD i []) vA)
    (hown : w7.ownsRow B 63 1 (.slice (some ⟨g7, 0, none⟩) (cls.length + new.length) cap7) (cls.length + new.length) (ads ++ vs)) (hg : W.grownBy w7 (Value.slice aL cls.length cL).ownBlock) :
    (w7.cell? ⟨Fb, 1, none⟩ = some (.slice aL cls.length cL) ∧ w7.frozen? ⟨Fb, 1, none⟩ = false) ∧ QF w0 (w7.setCell ⟨Fb, 1, none⟩ (.slice (some ⟨g7, 0, none⟩) (cls.length + new.length) cap7)) B Fb vars (cls ++ new) (.slice (some ⟨g7, 0, none⟩) (cls.length + new.length) cap7) := by
  have hrow2 : W.ownsRow B 63 1 (.slice aL cls.length cL) cls.length ads := ag_same hrow (fun j hj => hWb.block j (hrow.lt j hj).2)
  have hbW : W.heap[Fb]? = some (.cells #[.int .i64 vars, .slice aL cls.length cL] 33 (0, 0)) := (hWb.block _ (Array.getElem?_eq_some_iff.1 hF.box).1).trans hF.box
  have hb7 : w7.heap[Fb]? = some (.cells #[.int .i64 vars, .slice aL cls.length cL] 33 (0, 0)) := (hg.block _ (Array.getElem?_eq_some_iff.1 hbW).1 (fun e => ag_ne hrow2 hbW (by decide) e.symm)).trans hbW
  have hz := hg.size
  have hzW := hWb.size
  have hq := QL.app hrow hcl hWb hnew hown hg
  have ho : ∀ j, j ≠ Fb → (w7.setCell ⟨Fb, 1, none⟩ (.slice (some ⟨g7, 0, none⟩) (cls.length + new.length) cap7)).heap[j]? = w7.heap[j]? := fun j hj => heap_setCell_other _ _ _ _ hj
  refine ⟨⟨ag_cell hb7 1, ag_fz hb7 1⟩, ⟨by rw [heap_setCell_same _ Fb 1 _ _ _ hb7]; rfl, hq.keep (fun j _ hj => ho j (fun e => ag_ne hown hb7 (by decide) (by rw [hj, e]))) (fun j _ _ hj => ho j (fun e => by rw [e, hb7] at hj; cases hj)), ⟨hg.os.trans (hWb.os.trans hF.bel.os), hg.tape.trans (hWb.tape.trans hF.bel.tape), hg.output.trans (hWb.output.trans hF.bel.output), by have := hF.bel.size; simp; omega, fun k hk2 => ?_⟩, by have := hF.hB; simp; omega, hF.lo⟩⟩
  have h1 := hF.hB
  rw [ho k (fun e => by have := hF.lo; omega), hg.block k (by omega) (fun e => by have := (hrow.lt k e.symm).1; omega), hWb.block k (by omega)]
  exact hF.bel.block k hk2
/-- the same, with another formula's box and the variables' row -/
structure RST (w0 w wr : World) (B Fb Xb Vb c : Nat) (cn : List Nat) (vars : Int) (cls : List (List Int)) (vL : Value) : Prop where
  f : QF w0 wr B Fb vars cls vL
  x : wr.heap[Xb]? = some (.cells #[.int .i64 0, .slice none 0 0] 33 (0, 0))
  ne : Xb ≠ Fb
  v : VR wr Vb c cn
  b : Below B w wr
  fb : w.heap.size ≤ Fb
  k : ∀ (j : Nat) (cs : Array Value), w.heap[j]? = some (Obj.cells cs 33 (0, 0)) → wr.heap[j]? = w.heap[j]?
theorem RST.over {w0 w wr W : World} {B Fb Xb Vb c : Nat} {cn : List Nat} {vars : Int} {cls : List (List Int)} {vL : Value} (h : RST w0 w wr B Fb Xb Vb c cn vars cls vL) (hb : Below wr.heap.size wr W) : RST w0 w W B Fb Xb Vb c cn vars cls vL :=
  ⟨h.f.over hb, (hb.block _ (Array.getElem?_eq_some_iff.1 h.x).1).trans h.x, h.ne, h.v.over hb, h.b.trans (hb.mono h.f.hB), h.fb, fun j cs hj => by
    have h5 := h.k j cs hj
    exact (hb.block j (Array.getElem?_eq_some_iff.1 (h5.trans hj)).1).trans h5⟩
theorem RST.put {w0 w wr w7 W : World} {B Fb Xb Vb c : Nat} {cn : List Nat} {vars : Int} {cls new : List (List Int)} {ads vs : List Value} {aL : Option Addr} {cL g7 cap7 n1 n2 : Nat} (h : RST w0 w wr B Fb Xb Vb c cn vars cls (.slice aL n1 cL)) (hn1 : cls.length = n1) (hn2 : n1 + new.length = n2) (hrow : wr.ownsRow B 63 1 (.slice aL n1 cL) n1 ads) (hcl : ∀ i, i < n1 → ∃ vA, ads[i]? = some vA ∧ QA wr B (cls.getD i []) vA) (hWb : Below wr.heap.size wr W) (hnew : ∀ i, i < new.length → ∃ vA, vs[i]? = some vA ∧ QA W B (new.getD i []) vA)
    (hown : w7.ownsRow B 63 1 (.slice (some ⟨g7, 0, none⟩) n2 cap7) n2 (ads ++ vs)) (hg : W.grownBy w7 (Value.slice aL n1 cL).ownBlock) :
    (w7.cell? ⟨Fb, 1, none⟩ = some (.slice aL n1 cL) ∧ w7.frozen? ⟨Fb, 1, none⟩ = false) ∧ RST w0 w (w7.setCell ⟨Fb, 1, none⟩ (.slice (some ⟨g7, 0, none⟩) n2 cap7)) B Fb Xb Vb c cn vars (cls ++ new) (.slice (some ⟨g7, 0, none⟩) n2 cap7) := by
  subst hn1
  subst hn2
  obtain ⟨h1, h2⟩ := QF.put h.f hrow hcl hWb hnew hown hg
  have hrow2 : W.ownsRow B 63 1 (.slice aL cls.length cL) cls.length ads := ag_same hrow (fun j hj => hWb.block j (hrow.lt j hj).2)
  have hW := h.over hWb
  have kp : ∀ j cs t, W.heap[j]? = some (Obj.cells cs t (0, 0)) → 63 ≠ t → j ≠ Fb → (w7.setCell ⟨Fb, 1, none⟩ (.slice (some ⟨g7, 0, none⟩) (cls.length + new.length) cap7)).heap[j]? = W.heap[j]? := fun j _ t hj ht hne => by
    rw [heap_setCell_other _ _ _ _ hne]
    exact hg.block j (Array.getElem?_eq_some_iff.1 hj).1 (fun e => ag_ne hrow2 hj ht e.symm)
  obtain ⟨vs9, v1, v2, v3⟩ := hW.v
  refine ⟨h1, ⟨h2, (kp Xb _ _ hW.x (by decide) h.ne).trans hW.x, h.ne, ⟨vs9, (kp Vb _ _ v1 (by decide) (fun e => by rw [e, hW.f.box] at v1; cases v1)).trans v1, v2, v3⟩, ?_, h.fb, fun j cs hj => ?_⟩⟩
  rotate_left
  · have h5 := hW.k j cs hj
    have hlt := (Array.getElem?_eq_some_iff.1 hj).1
    exact (kp j cs _ (h5.trans hj) (by decide) (fun e => by have := h.fb; omega)).trans h5
  have hz := hg.size
  have hzW := hWb.size
  have hB := h.f.hB
  refine ⟨hg.os.trans (hWb.os.trans h.b.os), hg.tape.trans (hWb.tape.trans h.b.tape), hg.output.trans (hWb.output.trans h.b.output), by have := h.b.size; simp; omega, fun k hk2 => ?_⟩
  rw [heap_setCell_other _ _ _ _ (show k ≠ Fb from fun e => by have := h.f.lo; omega), hg.block k (by omega) (fun e => by have := (hrow.lt k e.symm).1; omega), hWb.block k (by omega)]
  exact h.b.block k hk2
/-- the clauses of the first k roots -/
def rtC (cn ls : List Nat) (k : Nat) : List (List Int) := (ls.take k).flatMap (clR cn)
theorem rtC_succ (cn ls : List Nat) {k : Nat} (h : k < ls.length) : rtC cn ls (k + 1) = rtC cn ls k ++ clR cn (ls.getD k 0) := by
  unfold rtC
  rw [List.take_add_one, List.getElem?_eq_getElem h, List.flatMap_append, List.getD_eq_getElem?_getD, List.getElem?_eq_getElem h]
  simp
theorem rtC_all (cn ls : List Nat) : rtC cn ls ls.length = ls.flatMap (clR cn) := by unfold rtC; rw [List.take_length]
theorem rtC_len (cn ls : List Nat) : ∀ k, (rtC cn ls k).length ≤ k := by
  intro k
  induction k with
  | zero => simp [rtC]
  | succ k ih =>
    by_cases h : k < ls.length
    · rw [rtC_succ cn ls h, List.length_append, clR_len]
      split <;> omega
    · have e : rtC cn ls (k + 1) = rtC cn ls k := by unfold rtC; rw [List.take_of_length_le (by omega), List.take_of_length_le (by omega)]
      rw [e]
      omega
theorem res_s1 {P : Program} {fn : Func} {p : Tmp} {ty : TypeId} (h : fn.results = #[.cell p ty]) (tmps : Array Value) (w : World) (g : Nat) (t : TypeId) (cs : Array Value) (fr : Nat × Nat) (d : TypeDesc)
    (hp : tmps.getD p undef = .pointer (some ⟨g, 0, none⟩)) (hg : w.heap[g]? = some (.cells cs t fr)) (hu : P.underlying ty = some d) (hd : (match d with | .struct _ | .array _ _ => true | _ => false) = true) (hi : (P.info? ty).map (·.size) = some cs.size) :
    (results fn tmps).run P w = .ok (.agg cs) w := by
  simp only [results, h]
  simp [Sem.run_bind, Result.andThen]
  rw [show tmps[p]?.getD undef = tmps.getD p undef by simp, hp]
  simp [asAddr, run_loadVar_row w g t ty cs fr d hg hu hd hi]
theorem cfRL (args : Array Value) (W : World) : (callFunc 59 args).run Try.prog W = .ok (.enter 59 args) W := cf_of Try.func59 (by kernel_rfl) (by kernel_rfl) args W
set_option maxHeartbeats 16000000 in
set_option maxRecDepth 100000 in
/-- the document's rooted -/
theorem rooted_ok (w0 w : World) (B : Nat) (vars : Int) (cls0 : List (List Int)) (aL0 : Option Addr) (n0 cL0 : Nat) (hn0 : cls0.length = n0) (hq : QL w B cls0 (.slice aL0 n0 cL0)) (hbel : Below B w0 w) (hB : B ≤ w.heap.size) {Vb c : Nat} {cn : List Nat} (hv : VR w Vb c cn) (hVb : B ≤ Vb) (hcl : cn.length ≤ 1048576) (aR : Option Addr) (ls : List Nat) (cR : Nat) (hR : U32s w0 aR ls) (hR0 : 0 < ls.length → ∀ b off, aR = some ⟨b, off, none⟩ → b < B) (hl32 : ∀ l ∈ ls, l < 4294967296) (hbd : ∀ l ∈ ls, l / 2 < c) (hrn : n0 + ls.length ≤ 100000000) :
    Calls Try.prog 60 #[.agg #[.int .i64 vars, .slice aL0 n0 cL0], .slice (some ⟨Vb, 0, none⟩) c c, .slice aR ls.length cR] w fun e w' => ∃ aL cL, e = .returned (.agg #[.int .i64 vars, .slice aL (cls0 ++ ls.flatMap (clR cn)).length cL]) ∧ QL w' B (cls0 ++ ls.flatMap (clR cn)) (.slice aL (cls0 ++ ls.flatMap (clR cn)).length cL) ∧ Below B w0 w' ∧ Below B w w' ∧ (∀ (j : Nat) (cs : Array Value), w.heap[j]? = some (Obj.cells cs 33 (0, 0)) → w'.heap[j]? = w.heap[j]?) := by
  obtain ⟨i0, hi, hz0, hz1, hz2⟩ := info_parts (P := Try.prog) (e := 63) (z := .slice none 0 0) (size := 1) (bytes := 24) (by kernel_rfl)
  obtain ⟨w1, hw1⟩ : ∃ w1, (w.alloc (.cells #[.int .i64 vars, .slice aL0 n0 cL0] 33)).alloc (.cells #[.int .i64 0, .slice none 0 0] 33) = w1 := ⟨_, rfl⟩
  have HF1 : Hid (RST w0 w w1 B w.heap.size (w.heap.size + 1) Vb c cn vars (cls0 ++ rtC cn ls 0) (.slice aL0 n0 cL0)) := by
    have b1 := ag_bel1 w (.cells #[.int .i64 vars, .slice aL0 n0 cL0] 33)
    have e1 := heap_alloc_new w (.cells #[.int .i64 vars, .slice aL0 n0 cL0] 33)
    have s1 : (w.alloc (.cells #[.int .i64 vars, .slice aL0 n0 cL0] 33)).heap.size = w.heap.size + 1 := by simp
    generalize w.alloc (.cells #[.int .i64 vars, .slice aL0 n0 cL0] 33) = x1 at *
    have b2 := ag_bel1 x1 (.cells #[.int .i64 0, .slice none 0 0] 33)
    have e2 := heap_alloc_new x1 (.cells #[.int .i64 0, .slice none 0 0] 33)
    rw [hw1] at b2 e2
    have bb := ag_next b1 b2
    rw [s1] at e2
    have er : cls0 ++ rtC cn ls 0 = cls0 := by simp [rtC]
    rw [er]
    exact ⟨⟨(b2.block _ (by omega)).trans e1, hq.over bb, hbel.trans (bb.mono hB), Nat.le_trans hB bb.size, hB⟩, e2, by omega, hv.over bb, bb.mono hB, Nat.le_refl _, fun j cs hj => bb.block j (Array.getElem?_eq_some_iff.1 hj).1⟩
  have HW1e : Hid ((w.alloc (.cells #[.int .i64 vars, .slice aL0 n0 cL0] 33)).alloc (.cells #[.int .i64 0, .slice none 0 0] 33) = w1) := hw1
  have HU : Hid (U32s w0 aR ls ∧ (∀ l ∈ ls, l < 4294967296) ∧ (∀ l ∈ ls, l / 2 < c) ∧ (0 < ls.length → ∀ b off, aR = some ⟨b, off, none⟩ → b < B)) := ⟨hR, hl32, hbd, hR0⟩
  have HNx : Hid (∀ k, k < ls.length → rtC cn ls (k + 1) = rtC cn ls k ++ clR cn (ls.getD k 0)) := fun k hk => rtC_succ cn ls hk
  have HLn : Hid (∀ k, (cls0 ++ rtC cn ls k).length ≤ n0 + k) := fun k => by rw [List.length_append, hn0]; have := rtC_len cn ls k; omega
  have HAll : Hid (rtC cn ls ls.length = ls.flatMap (clR cn)) := rtC_all cn ls
  obtain ⟨n, hnn⟩ : ∃ n, ls.length = n := ⟨_, rfl⟩
  have HL : Hid (ls.length = n) := hnn
  have HN0 : Hid ((cls0 ++ rtC cn ls 0).length = n0) := by show _ = _; simp [rtC, hn0]
  have HVb : Hid (B ≤ Vb ∧ B ≤ w.heap.size) := ⟨hVb, hB⟩
  clear hq hbel hB hv hVb hR hl32 hbd hw1 hn0 hR0
  rw [hnn] at HNx HAll hrn
  rw [hnn]
  clear hnn
  generalize ls.flatMap (clR cn) = RC at *
  go_enter Try.func60, Try.ntmps60
  go_wp2_with fail
  rw [HW1e.out]
  clear HW1e
  go_loopg [7] n (fun gk v7 wr => ∃ k : Nat, v7 = .int .i64 (k : Int) ∧ k + gk = n ∧ Aside (∃ aL cL, RST w0 w wr B w.heap.size (w.heap.size + 1) Vb c cn vars (cls0 ++ rtC cn ls k) (.slice aL (cls0 ++ rtC cn ls k).length cL)))
  case atStart => exact ⟨0, rfl, by omega, ⟨aL0, cL0, by rw [HN0.out]; exact HF1.out⟩⟩
  case round =>
    clear HF1 HN0
    obtain ⟨k, rfl, hk, HR⟩ := hrel
    obtain ⟨aL, cL, hF⟩ := HR.out
    have hn1b := HLn.out k
    have c1 := ag_cell hF.f.box 1
    obtain ⟨n1, hn1⟩ : ∃ n1, (cls0 ++ rtC cn ls k).length = n1 := ⟨_, rfl⟩
    rw [hn1] at hF hn1b c1
    have HF : Hid (RST w0 w wr B w.heap.size (w.heap.size + 1) Vb c cn vars (cls0 ++ rtC cn ls k) (.slice aL n1 cL)) := hF
    have HN1 : Hid ((cls0 ++ rtC cn ls k).length = n1) := hn1
    clear HR hF
    by_cases hlt : k < n
    · have hkl : k < ls.length := by rw [HL.out]; exact hlt
      have hmem : ls.getD k 0 ∈ ls := by rw [List.getD_eq_getElem?_getD, List.getElem?_eq_getElem hkl]; exact List.getElem_mem _
      obtain ⟨b, off, rfl, hb, hc⟩ := HU.out.1 (by omega)
      have hbB := HU.out.2.2.2 (by omega) b off rfl
      have ck := (HF.out.f.bel.cell (p := ⟨b, off + k, none⟩) hbB).trans (hc k hkl)
      have hl3 := HU.out.2.1 _ hmem
      have hl4 := HU.out.2.2.1 _ hmem
      have HLt0 : Hid (∀ (W : World), VR W Vb c cn → Calls Try.prog 59 #[.slice (some ⟨Vb, 0, none⟩) c c, .int .u32 ((ls.getD k 0 : Nat) : Int)] W fun e w' => e = .returned (.int .i64 (litI cn (ls.getD k 0))) ∧ w' = W) := fun W hW => rlit_any W hW hcl _ hl3 hl4
      have HNk0 : Hid (rtC cn ls (k + 1) = rtC cn ls k ++ clR cn (ls.getD k 0)) := HNx.out k hlt
      clear hc hmem
      generalize ls.getD k 0 = l at *
      have q1 : (k : Int) < (n : Int) := by omega
      obtain ⟨ads, hrow, hqs⟩ := HF.out.f.ql
      rw [hn1] at hrow hqs
      have HQ : Hid (wr.ownsRow B 63 1 (.slice aL n1 cL) n1 ads ∧ ∀ i, i < n1 → ∃ vA, ads[i]? = some vA ∧ QA wr B ((cls0 ++ rtC cn ls k).getD i []) vA) := ⟨hrow, hqs⟩
      have HO : Hid (wr.ownsRow B 63 1 (.slice aL n1 cL) n1 ads) := hrow
      have HSz : Hid (B ≤ wr.heap.size) := HF.out.f.hB
      clear hrow hqs
      by_cases h0 : l = 0
      · subst h0
        have HNk : Hid (rtC cn ls (k + 1) = rtC cn ls k ++ [[]]) := HNk0.out
        have HPut : Hid (∀ (w7 : World) (g7 cap7 : Nat), w7.ownsRow B 63 1 (.slice (some ⟨g7, 0, none⟩) (n1 + 1) cap7) (n1 + 1) (ads ++ [.slice (some ⟨wr.heap.size, 0, none⟩) 0 0]) → ((wr.alloc (.cells #[] 3)).alloc (.cells #[.slice (some ⟨wr.heap.size, 0, none⟩) 0 0] 63)).grownBy w7 (Value.slice aL n1 cL).ownBlock → (w7.cell? ⟨w.heap.size, 1, none⟩ = some (.slice aL n1 cL) ∧ w7.frozen? ⟨w.heap.size, 1, none⟩ = false) ∧ RST w0 w (w7.setCell ⟨w.heap.size, 1, none⟩ (.slice (some ⟨g7, 0, none⟩) (n1 + 1) cap7)) B w.heap.size (w.heap.size + 1) Vb c cn vars (cls0 ++ rtC cn ls (k + 1)) (.slice (some ⟨g7, 0, none⟩) (n1 + 1) cap7)) := fun w7 g7 cap7 ho hgr => by
          have hnew : ∀ i, i < ([[]] : List (List Int)).length → ∃ vA, ([.slice (some ⟨wr.heap.size, 0, none⟩) 0 0] : List Value)[i]? = some vA ∧ QA ((wr.alloc (.cells #[] 3)).alloc (.cells #[.slice (some ⟨wr.heap.size, 0, none⟩) 0 0] 63)) B (([[]] : List (List Int)).getD i []) vA := fun i hi => by
            obtain rfl : i = 0 := by simpa using hi
            exact ⟨_, rfl, (QA.new wr B [] HF.out.f.hB).over (ag_bel1 _ _)⟩
          have h9 := HF.out.put (new := [[]]) hn1 rfl HQ.out.1 HQ.out.2 (ag_next (ag_bel1 _ _) (ag_bel1 _ _)) hnew ho hgr
          rw [HNk.out, ← List.append_assoc]
          exact h9
        have HLx : Hid ((cls0 ++ rtC cn ls (k + 1)).length = n1 + 1) := by show _ = _; rw [HNk.out, ← List.append_assoc, List.length_append, hn1]; rfl
        have HNw : Hid (∀ j u, ([.slice (some ⟨wr.heap.size, 0, none⟩) 0 0] : List Value)[j]? = some u → ((wr.alloc (.cells #[] 3)).alloc (.cells #[.slice (some ⟨wr.heap.size, 0, none⟩) 0 0] 63)).cell? ((⟨wr.heap.size + 1, 0, none⟩ : Addr).add j) = some u) := by
          have h9 := one_new (wr.alloc (.cells #[] 3)) (.slice (some ⟨wr.heap.size, 0, none⟩) 0 0) 63
          have e9 : (wr.alloc (.cells #[] 3)).heap.size = wr.heap.size + 1 := by simp
          rw [e9] at h9
          exact h9
        clear HN1 hn1 HLt0 HNk0 HNk HQ HF hb hbB hl3 hl4
        go_wp2_with (at_builtin; refine wpList_append_lies _ rfl _ _ 31 rfl B 63 i0 (.slice none 0 0) 1 24 Try.underlying31 hi hz0 hz1 hz2 rfl (by omega) (.slice aL n1 cL) n1 ads rfl ((HO.out.alloc _).alloc _) ⟨wr.heap.size + 1, 0, none⟩ 1 1 [.slice (some ⟨wr.heap.size, 0, none⟩) 0 0] rfl rfl HNw.out (by intro u hu; simp at hu; subst hu; rfl) (by omega) (by unfold maxLen; omega) (by omega) (by have := HSz.out; simp; omega) (wr.heap.size + 1 + 1) (by simp) ?_; intro g8 c8 w8 hown8 hgrow8 hat8 hlt8; obtain ⟨⟨y1, y2⟩, y3⟩ := HPut.out w8 g8 c8 hown8 hgrow8; have HY3 : Hid _ := y3; clear y3 hown8 hgrow8 hat8 hlt8)
        go_roundg (gk - 1)
        case measure => omega
        case rel => exact ⟨k + 1, by simp, by omega, ⟨_, c8, by rw [HLx.out]; exact HY3.out⟩⟩
      · by_cases h1 : l = 1
        · subst h1
          have HNk : Hid (rtC cn ls (k + 1) = rtC cn ls k) := by show _ = _; rw [HNk0.out]; simp [clR]
          have HZ : Hid (∃ aL cL, RST w0 w wr B w.heap.size (w.heap.size + 1) Vb c cn vars (cls0 ++ rtC cn ls (k + 1)) (.slice aL (cls0 ++ rtC cn ls (k + 1)).length cL)) := by rw [HNk.out, hn1]; exact ⟨aL, cL, HF.out⟩
          clear HN1 hn1 HLt0 HNk0 HNk HQ HF hb hbB hl3 hl4
          go_wp2_with fail
          go_roundg (gk - 1)
          case measure => omega
          case rel => exact ⟨k + 1, by simp, by omega, HZ.out⟩
        · have t0 : ((l : Int) == 0) = false := by simp; omega
          have t1 : ((l : Int) == 1) = false := by simp; omega
          have HNk1 : Hid (rtC cn ls (k + 1) = rtC cn ls k ++ [[litI cn l]]) := by show _ = _; rw [HNk0.out]; unfold clR; rw [if_neg h0, if_neg h1]
          obtain ⟨wd, hwd⟩ : ∃ wd, wr.drew = wd := ⟨_, rfl⟩
          have hbd : Below wr.heap.size wr wd := by rw [← hwd]; exact ⟨rfl, rfl, rfl, Nat.le_refl _, fun _ _ => rfl⟩
          have HFd : Hid (RST w0 w wd B w.heap.size (w.heap.size + 1) Vb c cn vars (cls0 ++ rtC cn ls k) (.slice aL n1 cL)) := HF.out.over hbd
          obtain ⟨ads2, hrow2, hqs2⟩ := HFd.out.f.ql
          rw [hn1] at hrow2 hqs2
          have HQ2 : Hid (wd.ownsRow B 63 1 (.slice aL n1 cL) n1 ads2 ∧ ∀ i, i < n1 → ∃ vA, ads2[i]? = some vA ∧ QA wd B ((cls0 ++ rtC cn ls k).getD i []) vA) := ⟨hrow2, hqs2⟩
          have HO2 : Hid (wd.ownsRow B 63 1 (.slice aL n1 cL) n1 ads2) := hrow2
          have HSz2 : Hid (B ≤ wd.heap.size) := HFd.out.f.hB
          have HLt : Hid (Calls Try.prog 59 #[.slice (some ⟨Vb, 0, none⟩) c c, .int .u32 (l : Int)] wd fun e w' => e = .returned (.int .i64 (litI cn l)) ∧ w' = wd) := HLt0.out _ HFd.out.v
          have HRd : Hid (∀ X, Below B wd X → X.cell? ⟨b, off + k, none⟩ = some (.int .u32 (l : Int))) := fun X hX => (hX.cell (p := ⟨b, off + k, none⟩) hbB).trans ((hbd.cell (p := ⟨b, off + k, none⟩) (Nat.lt_of_lt_of_le hbB HSz.out)).trans ck)
          have HS0 : Hid (wd.cell? ⟨w.heap.size, 1, none⟩ = some (.slice aL n1 cL) ∧ wd.cell? ⟨b, off + k, none⟩ = some (.int .u32 (l : Int))) := ⟨ag_cell HFd.out.f.box 1, HRd.out wd (Below.refl _ _)⟩
          have hwd9 : Hid (wr.drew = wd) := hwd
          generalize litI cn l = li at *
          have HNk : Hid (rtC cn ls (k + 1) = rtC cn ls k ++ [[li]]) := HNk1.out
          have HPut : Hid (∀ (w7 : World) (g7 cap7 : Nat), w7.ownsRow B 63 1 (.slice (some ⟨g7, 0, none⟩) (n1 + 1) cap7) (n1 + 1) (ads2 ++ [.slice (some ⟨wd.heap.size, 0, none⟩) 1 1]) → ((wd.alloc (.cells #[.int .i64 li] 3)).alloc (.cells #[.slice (some ⟨wd.heap.size, 0, none⟩) 1 1] 63)).grownBy w7 (Value.slice aL n1 cL).ownBlock → (w7.cell? ⟨w.heap.size, 1, none⟩ = some (.slice aL n1 cL) ∧ w7.frozen? ⟨w.heap.size, 1, none⟩ = false) ∧ Below B wd w7 ∧ RST w0 w (w7.setCell ⟨w.heap.size, 1, none⟩ (.slice (some ⟨g7, 0, none⟩) (n1 + 1) cap7)) B w.heap.size (w.heap.size + 1) Vb c cn vars (cls0 ++ rtC cn ls (k + 1)) (.slice (some ⟨g7, 0, none⟩) (n1 + 1) cap7)) := fun w7 g7 cap7 ho hgr => by
            have hnew : ∀ i, i < ([[li]] : List (List Int)).length → ∃ vA, ([.slice (some ⟨wd.heap.size, 0, none⟩) 1 1] : List Value)[i]? = some vA ∧ QA ((wd.alloc (.cells #[.int .i64 li] 3)).alloc (.cells #[.slice (some ⟨wd.heap.size, 0, none⟩) 1 1] 63)) B (([[li]] : List (List Int)).getD i []) vA := fun i hi => by
              obtain rfl : i = 0 := by simpa using hi
              exact ⟨_, rfl, (QA.new wd B [li] HSz2.out).over (ag_bel1 _ _)⟩
            have hbb : Below wd.heap.size wd ((wd.alloc (.cells #[.int .i64 li] 3)).alloc (.cells #[.slice (some ⟨wd.heap.size, 0, none⟩) 1 1] 63)) := ag_next (ag_bel1 _ _) (ag_bel1 _ _)
            have h9 := HFd.out.put (new := [[li]]) HN1.out rfl HQ2.out.1 HQ2.out.2 hbb hnew ho hgr
            rw [HNk.out, ← List.append_assoc]
            have hz := hgr.size
            have hz2 := hbb.size
            have hz3 := HSz2.out
            exact ⟨h9.1, ⟨hgr.os.trans hbb.os, hgr.tape.trans hbb.tape, hgr.output.trans hbb.output, by omega, fun j hj => by rw [hgr.block j (by omega) (fun e => by have := (HO2.out.lt j e.symm).1; omega)]; exact hbb.block j (by omega)⟩, h9.2⟩
          have HLx : Hid ((cls0 ++ rtC cn ls (k + 1)).length = n1 + 1) := by show _ = _; rw [HNk.out, ← List.append_assoc, List.length_append, hn1]; rfl
          have HNw : Hid (∀ j u, ([.slice (some ⟨wd.heap.size, 0, none⟩) 1 1] : List Value)[j]? = some u → ((wd.alloc (.cells #[.int .i64 li] 3)).alloc (.cells #[.slice (some ⟨wd.heap.size, 0, none⟩) 1 1] 63)).cell? ((⟨wd.heap.size + 1, 0, none⟩ : Addr).add j) = some u) := by
            have h9 := one_new (wd.alloc (.cells #[.int .i64 li] 3)) (.slice (some ⟨wd.heap.size, 0, none⟩) 1 1) 63
            have e9 : (wd.alloc (.cells #[.int .i64 li] 3)).heap.size = wd.heap.size + 1 := by simp
            rw [e9] at h9
            exact h9
          have HAl : Hid (∀ X, Below wd.heap.size wd X → Hid (X.cell? ⟨w.heap.size, 1, none⟩ = some (.slice aL n1 cL) ∧ X.cell? ⟨b, off + k, none⟩ = some (.int .u32 (l : Int)))) := fun X hX => ⟨ag_cell (HFd.out.over hX).f.box 1, HRd.out X (hX.mono HSz2.out)⟩
          have HS1 := HAl.out _ (ag_bel1 wd (.cells #[.int .i64 li] 3))
          have HS2 := HAl.out _ (ag_next (ag_bel1 wd (.cells #[.int .i64 li] 3)) (ag_bel1 _ (.cells #[.slice (some ⟨wd.heap.size, 0, none⟩) 1 1] 63)))
          clear HN1 hn1 HLt0 HNk0 HNk1 hl3 hl4 hwd hrow2 hqs2 HQ HO HSz HF HFd HQ2 HAl hbd
          go_wp2_with fail
          clear c1 ck
          refine AnyE.region (fun Wc => Hid (Wc.cell? ⟨w.heap.size, 1, none⟩ = some (.slice aL n1 cL) ∧ Wc.cell? ⟨b, off + k, none⟩ = some (.int .u32 (l : Int)))) 12 (by kernel_rfl) ?_
          rw [hwd9.out]
          refine AnyE.take (i := 0) (oi := { dst := some 18, op := Op.fieldAddr 33 (Operand.tmp 3) 1, type := 0, pos := "ref.go:47", after := #[], guard := none }) (v := .pointer (some ⟨w.heap.size, 1, none⟩)) rfl (by kernel_rfl) (by kernel_rfl) (by kernel_rfl) (by kernel_rfl) (fun _ _ _ h => h) (Or.inl ⟨by rfl, ?_⟩) HS0 ?_
          · intro W hW
            have s1 := hW.out.1
            have s2 := hW.out.2
            go_simp
          try simp only [Act.put, List.setIfInBounds_toArray, List.set_cons_zero, List.set_cons_succ]
          refine AnyE.take (i := 1) (oi := { dst := some 19, op := Op.load 31 (Operand.tmp 18), type := 31, pos := "ref.go:47", after := #[{ on := 0, ground := Ground.data }], guard := none }) (v := .slice aL n1 cL) rfl (by kernel_rfl) (by kernel_rfl) (by kernel_rfl) (by kernel_rfl) (fun _ _ _ h => h) (Or.inl ⟨by rfl, ?_⟩) HS0 ?_
          · intro W hW
            have s1 := hW.out.1
            have s2 := hW.out.2
            go_simp
          try simp only [Act.put, List.setIfInBounds_toArray, List.set_cons_zero, List.set_cons_succ]
          refine AnyE.take (i := 2) (oi := { dst := some 20, op := Op.move (Operand.tmp 1), type := 23, pos := "ref.go:47", after := #[], guard := none }) (v := .slice (some ⟨Vb, 0, none⟩) c c) rfl (by kernel_rfl) (by kernel_rfl) (by kernel_rfl) (by kernel_rfl) (fun _ _ _ h => h) (Or.inl ⟨by rfl, ?_⟩) HS0 ?_
          · intro W hW
            have s1 := hW.out.1
            have s2 := hW.out.2
            go_simp
          try simp only [Act.put, List.setIfInBounds_toArray, List.set_cons_zero, List.set_cons_succ]
          refine AnyE.take (i := 3) (oi := { dst := some 21, op := Op.move (Operand.tmp 2), type := 24, pos := "ref.go:47", after := #[], guard := none }) (v := .slice (some ⟨b, off, none⟩) n cR) rfl (by kernel_rfl) (by kernel_rfl) (by kernel_rfl) (by kernel_rfl) (fun _ _ _ h => h) (Or.inl ⟨by rfl, ?_⟩) HS0 ?_
          · intro W hW
            have s1 := hW.out.1
            have s2 := hW.out.2
            go_simp
          try simp only [Act.put, List.setIfInBounds_toArray, List.set_cons_zero, List.set_cons_succ]
          refine AnyE.take (i := 4) (oi := { dst := some 22, op := Op.move (Operand.tmp 7), type := 3, pos := "ref.go:47", after := #[], guard := none }) (v := .int .i64 (k : Int)) rfl (by kernel_rfl) (by kernel_rfl) (by kernel_rfl) (by kernel_rfl) (fun _ _ _ h => h) (Or.inl ⟨by rfl, ?_⟩) HS0 ?_
          · intro W hW
            have s1 := hW.out.1
            have s2 := hW.out.2
            go_simp
          try simp only [Act.put, List.setIfInBounds_toArray, List.set_cons_zero, List.set_cons_succ]
          refine AnyE.take (i := 5) (oi := { dst := some 23, op := Op.indexAddr 24 (Operand.tmp 21) (Operand.tmp 22), type := 0, pos := "ref.go:47", after := #[{ on := 3, ground := Ground.data }, { on := 4, ground := Ground.data }], guard := none }) (v := .pointer (some ⟨b, off + k, none⟩)) rfl (by kernel_rfl) (by kernel_rfl) (by kernel_rfl) (by kernel_rfl) (fun _ _ _ h => h) (Or.inl ⟨by rfl, ?_⟩) HS0 ?_
          · intro W hW
            have s1 := hW.out.1
            have s2 := hW.out.2
            go_simp
          try simp only [Act.put, List.setIfInBounds_toArray, List.set_cons_zero, List.set_cons_succ]
          refine AnyE.take (i := 6) (oi := { dst := some 24, op := Op.load 42 (Operand.tmp 23), type := 42, pos := "ref.go:47", after := #[{ on := 5, ground := Ground.data }], guard := none }) (v := .int .u32 (l : Int)) rfl (by kernel_rfl) (by kernel_rfl) (by kernel_rfl) (by kernel_rfl) (fun _ _ _ h => h) (Or.inl ⟨by rfl, ?_⟩) HS0 ?_
          · intro W hW
            have s1 := hW.out.1
            have s2 := hW.out.2
            go_simp
          try simp only [Act.put, List.setIfInBounds_toArray, List.set_cons_zero, List.set_cons_succ]
          refine AnyE.one (i := 7) (o := { dst := some 25, op := Op.call { callee := Callee.value (Operand.func 59), args := #[Operand.tmp 20, Operand.tmp 24], argTypes := #[23, 42] }, type := 3, pos := "ref.go:47", after := #[{ on := 2, ground := Ground.data }, { on := 6, ground := Ground.data }], guard := none }) (by kernel_rfl) rfl (fun K hK => ?_)
          refine step_call2 rfl 59 _ _ _ rfl (.slice (some ⟨Vb, 0, none⟩) c c) (.int .u32 (l : Int)) (by rfl) (by rfl) cfRL HLt.out ?_
          rintro e w6 ⟨rfl, hw6⟩
          obtain rfl := hw6.symm
          refine ⟨_, rfl, hK.out _ _ (fun _ => HS0) ?_⟩
          clear hK K
          try simp only [Act.put, List.setIfInBounds_toArray, List.set_cons_zero, List.set_cons_succ]
          refine AnyE.one (i := 8) (o := { dst := some 26, op := Op.buildSlice 63 1 #[(0, Operand.tmp 25)], type := 63, pos := "ref.go:47", after := #[{ on := 7, ground := Ground.data }], guard := none }) (by kernel_rfl) rfl (fun K hK => ?_)
          go_simp
          refine hK.out _ _ (fun _ => HS1) ?_
          clear hK K
          try simp only [Act.put, List.setIfInBounds_toArray, List.set_cons_zero, List.set_cons_succ]
          refine AnyE.one (i := 9) (o := { dst := some 27, op := Op.buildSlice 31 1 #[(0, Operand.tmp 26)], type := 31, pos := "ref.go:47", after := #[{ on := 8, ground := Ground.data }], guard := none }) (by kernel_rfl) rfl (fun K hK => ?_)
          go_simp
          refine hK.out _ _ (fun _ => HS2) ?_
          clear hK K
          try simp only [Act.put, List.setIfInBounds_toArray, List.set_cons_zero, List.set_cons_succ]
          refine AnyE.one (i := 10) (o := { dst := some 28, op := Op.call { callee := Callee.builtin Builtin.append, args := #[Operand.tmp 19, Operand.tmp 27], argTypes := #[31, 31] }, type := 31, pos := "ref.go:47", after := #[{ on := 1, ground := Ground.data }, { on := 9, ground := Ground.data }, { on := 7, ground := Ground.chain }], guard := none }) (by kernel_rfl) rfl (fun K hK => ?_)
          refine step_append_lies _ (by rfl) _ _ _ (by rfl) B 63 i0 _ 1 24 Try.underlying31 hi hz0 hz1 hz2 rfl (by omega) (.slice aL n1 cL) n1 ads2 (by rfl) ((HO2.out.alloc _).alloc _) ⟨wd.heap.size + 1, 0, none⟩ 1 1 [.slice (some ⟨wd.heap.size, 0, none⟩) 1 1] (by rfl) (by rfl) HNw.out (by intro u hu; simp at hu; subst hu; rfl) (by omega) (by unfold maxLen; omega) (by omega) (by have := HSz2.out; simp; omega) (wd.heap.size + 1 + 1) (by simp) ?_
          intro g8 c8 w8 hown8 hgrow8 _ _
          obtain ⟨⟨y1, y2⟩, y4, y3⟩ := HPut.out w8 g8 c8 hown8 hgrow8
          have HY3 : Hid _ := y3
          have HS8 : Hid (w8.cell? ⟨w.heap.size, 1, none⟩ = some (.slice aL n1 cL) ∧ w8.cell? ⟨b, off + k, none⟩ = some (.int .u32 (l : Int))) := ⟨y1, HRd.out w8 y4⟩
          clear y3 y4 hown8 hgrow8
          refine hK.out _ _ (fun _ => HS8) ?_
          clear hK K
          try simp only [Act.put, List.setIfInBounds_toArray, List.set_cons_zero, List.set_cons_succ]
          refine AnyE.take (i := 11) (oi := { dst := some 29, op := Op.fieldAddr 33 (Operand.tmp 3) 1, type := 0, pos := "ref.go:47", after := #[{ on := 0, ground := Ground.phase }, { on := 1, ground := Ground.phase }, { on := 2, ground := Ground.phase }, { on := 3, ground := Ground.phase }, { on := 4, ground := Ground.phase }, { on := 5, ground := Ground.phase }, { on := 6, ground := Ground.phase }, { on := 7, ground := Ground.phase }, { on := 8, ground := Ground.phase }, { on := 9, ground := Ground.phase }, { on := 10, ground := Ground.phase }], guard := none }) (v := .pointer (some ⟨w.heap.size, 1, none⟩)) rfl (by kernel_rfl) (by kernel_rfl) (by kernel_rfl) (by kernel_rfl) (fun _ _ _ h => h) (Or.inl ⟨by rfl, ?_⟩) HS8 ?_
          · intro W hW
            have s1 := hW.out.1
            have s2 := hW.out.2
            go_simp
          try simp only [Act.put, List.setIfInBounds_toArray, List.set_cons_zero, List.set_cons_succ]
          refine AnyE.one (i := 12) (o := { dst := none, op := Op.store 31 (Operand.tmp 29) (Operand.tmp 28), type := 0, pos := "ref.go:47", after := #[{ on := 11, ground := Ground.data }, { on := 10, ground := Ground.data }, { on := 10, ground := Ground.chain }, { on := 0, ground := Ground.phase }, { on := 1, ground := Ground.phase }, { on := 2, ground := Ground.phase }, { on := 3, ground := Ground.phase }, { on := 4, ground := Ground.phase }, { on := 5, ground := Ground.phase }, { on := 6, ground := Ground.phase }, { on := 7, ground := Ground.phase }, { on := 8, ground := Ground.phase }, { on := 9, ground := Ground.phase }, { on := 10, ground := Ground.phase }], guard := none }) (by kernel_rfl) rfl (fun K hK => ?_)
          go_simp
          refine hK.out _ _ (fun h => absurd rfl h) (AnyE.done (by kernel_rfl) ?_ _)
          clear hK K
          try simp only [Act.put, List.setIfInBounds_toArray, List.set_cons_zero, List.set_cons_succ]
          go_wp2_with fail
          go_roundg (gk - 1)
          case measure => omega
          case rel => exact ⟨k + 1, by simp, by omega, ⟨_, c8, by rw [HLx.out]; exact HY3.out⟩⟩
    · obtain rfl : k = n := by omega
      have q1 : ¬ (k : Int) < (k : Int) := by omega
      have c0 := ag_cell HF.out.f.box 0
      have hx := HF.out.x
      have d0 := ag_cell hx 0
      have d1 := ag_cell hx 1
      have z0 := ag_fz hx 0
      have z1 := ag_fz hx 1
      obtain ⟨W9, hW9⟩ : ∃ W9, (wr.setCell ⟨w.heap.size + 1, 0, none⟩ (.int .i64 vars)).setCell ⟨w.heap.size + 1, 1, none⟩ (.slice aL n1 cL) = W9 := ⟨_, rfl⟩
      have hk9 : ∀ j, j ≠ w.heap.size + 1 → W9.heap[j]? = wr.heap[j]? := fun j hj => by rw [← hW9, heap_setCell_other _ _ _ _ hj, heap_setCell_other _ _ _ _ hj]
      have hX9 : W9.heap[w.heap.size + 1]? = some (.cells #[.int .i64 vars, .slice aL n1 cL] 33 (0, 0)) := by
        rw [← hW9, heap_setCell_same _ _ 1 _ _ _ (heap_setCell_same _ _ 0 _ _ _ hx)]
        rfl
      have hs9 : W9.heap.size = wr.heap.size ∧ W9.os = wr.os ∧ W9.tape = wr.tape ∧ W9.output = wr.output := by rw [← hW9]; exact ⟨by simp, rfl, rfl, rfl⟩
      have hl9 : (cls0 ++ RC).length = n1 := by rw [← HAll.out]; exact HN1.out
      have HZ : Hid (QL W9 B (cls0 ++ RC) (.slice aL n1 cL) ∧ Below B w0 W9 ∧ Below B w W9 ∧ (∀ (j : Nat) (cs : Array Value), w.heap[j]? = some (Obj.cells cs 33 (0, 0)) → W9.heap[j]? = w.heap[j]?)) := by
        have hB9 := HVb.out.2
        have hq := HF.out.f.ql
        rw [HAll.out] at hq
        have hbl : ∀ (X : World), Below B X wr → Below B X W9 := fun X hX => ⟨hs9.2.1.trans hX.os, hs9.2.2.1.trans hX.tape, hs9.2.2.2.trans hX.output, by rw [hs9.1]; exact hX.size, fun j hj => (hk9 j (by omega)).trans (hX.block j hj)⟩
        obtain ⟨ads, hr, _⟩ := hq
        have hq := HF.out.f.ql
        rw [HAll.out] at hq
        exact ⟨hq.keep (fun j _ hj => hk9 j (fun e => ag_ne hr hx (by decide) (by rw [hj, e]))) (fun j _ _ hj => hk9 j (fun e => by rw [e, hx] at hj; cases hj)), hbl _ HF.out.f.bel, hbl _ HF.out.b, fun j cs hj => (hk9 j (by have := (Array.getElem?_eq_some_iff.1 hj).1; omega)).trans (HF.out.k j cs hj)⟩
      have HW9e : Hid ((wr.setCell ⟨w.heap.size + 1, 0, none⟩ (.int .i64 vars)).setCell ⟨w.heap.size + 1, 1, none⟩ (.slice aL n1 cL) = W9) := hW9
      have HX9 : Hid (W9.heap[w.heap.size + 1]? = some (.cells #[.int .i64 vars, .slice aL n1 cL] 33 (0, 0))) := hX9
      clear hW9 hX9 hk9 hs9 HF hx
      go_wp2_with fail
      rw [HW9e.out]
      refine bodyPost_ret (res_s1 (p := 6) rfl _ _ (w.heap.size + 1) 33 _ _ _ rfl HX9.out Try.underlying33 rfl (by kernel_rfl)) rfl ?_
      exact ⟨aL, cL, rfl, HZ.out⟩
end Go.Proofs.Ytkomadlmonhlhaa
