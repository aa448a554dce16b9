import Derived.Test.YtokpjegiinggdaaDoorElim3
namespace Go.Proofs.YtokpjegiinggdaaDoor
open Go.ChangeShapes Go.WideShapes Go.ChangeAt Go.RowKit Go.Cn Go.WideMaps Go.Maps

/-- all blocks but those of a gathering stand as they were -/
structure TKp (w w' : World) : Prop where
  os : w'.os = w.os
  tape : w'.tape = w.tape
  output : w'.output = w.output
  size : w.heap.size ≤ w'.heap.size
  block : ∀ (k : Nat) (cs : Array Value) (t : TypeId) (fr : Nat × Nat), w.heap[k]? = some (.cells cs t fr) → t ≠ 89 → t ≠ 71 → w'.heap[k]? = some (.cells cs t fr)
theorem TKp.refl (w : World) : TKp w w := ⟨rfl, rfl, rfl, Nat.le_refl _, fun _ _ _ _ h _ _ => h⟩
theorem TKp.trans {a b c : World} (h : TKp a b) (h2 : TKp b c) : TKp a c :=
  ⟨h2.os.trans h.os, h2.tape.trans h.tape, h2.output.trans h.output, Nat.le_trans h.size h2.size, fun k cs t fr hk h3 h4 => h2.block k cs t fr (h.block k cs t fr hk h3 h4) h3 h4⟩
theorem TKp.of_below {w w' : World} (hb : Below w.heap.size w w') : TKp w w' :=
  ⟨hb.os, hb.tape, hb.output, hb.size, fun k _ _ _ hk _ _ => (hb.block k (Array.getElem?_eq_some_iff.1 hk).1).trans hk⟩
theorem TKp.next {w wr w' : World} (h : TKp w wr) (hb : Below wr.heap.size wr w') : TKp w w' := h.trans (TKp.of_below hb)
theorem TKp.grown {w wr w' : World} {b : Option Nat} (h : TKp w wr) (hg : wr.grownBy w' b) (hb : ∀ g, b = some g → w.heap.size ≤ g) : TKp w w' :=
  ⟨hg.os.trans h.os, hg.tape.trans h.tape, hg.output.trans h.output, Nat.le_trans h.size hg.size, fun k cs t fr hk h3 h4 => by
    have hlt := (Array.getElem?_eq_some_iff.1 hk).1
    rw [hg.block k (Nat.lt_of_lt_of_le hlt h.size) (fun e => by have := hb k e.symm; omega)]
    exact h.block k cs t fr hk h3 h4⟩
theorem TKp.of_gk {w w' : World} {B G M n : Nat} {v : Value} {ps : List (Value × Int)} {lits : Int} {over : Bool} {D : DataW Unit} (hk : GKept w w' G M v) (hg : Gath w B G M v ps lits over n D) : TKp w w' :=
  ⟨hk.os, hk.tape, hk.output, hk.size, fun k cs t fr h h3 h4 => by
    rw [hk.block k (Array.getElem?_eq_some_iff.1 h).1 ?_ ?_ ?_]
    · exact h
    · intro e
      subst e
      rw [hg.blk] at h
      cases h
      exact h4 rfl
    · intro e
      subst e
      obtain ⟨es, clock, h1, _⟩ := hg.map
      rw [h1] at h
      cases h
    · exact fun e => row_ne_blk hg.row h (fun e2 => h3 e2.symm) e.symm⟩
theorem own_tk {w w' : World} {B t n : Nat} {v : Value} {L : List Value} (h : w.ownsRow B t 1 v n L) (hk : TKp w w') (h1 : t ≠ 89) (h2 : t ≠ 71) : w'.ownsRow B t 1 v n L := by
  refine ⟨h.1, ?_⟩
  rcases h.2 with h0 | ⟨g, cap, cur, e, hB, hg, h4⟩
  · exact Or.inl h0
  · exact Or.inr ⟨g, cap, cur, e, hB, hk.block _ _ _ _ hg h1 h2, h4⟩
theorem OwnL.tk {w w' : World} {B : Nat} {v : Value} {L : List Value} {cs : List (List Int)} (h : OwnL w B v L cs) (hk : TKp w w') : OwnL w' B v L cs :=
  ⟨h.len, own_tk h.row hk (by decide) (by decide), fun j hj => own_tk (h.each j hj) hk (by decide) (by decide)⟩
theorem Mks.tk {w w' : World} {m : Nat} {vars : Int} {f : Int → Bool} (h : Mks w m vars f) (hk : TKp w w') : Mks w' m vars f := by
  obtain ⟨arr, h1, h2⟩ := h
  exact ⟨arr, hk.block _ _ _ _ h1 (by decide) (by decide), h2⟩
/-- a gathering of clauses with their places -/
structure JSt (w : World) (B G M : Nat) (v : Value) (pl : List Pl) (I : List (List Int × Nat)) (ov : Bool) (D : DataW Unit) : Prop where
  gath : Gath w B G M v (pl.map slP) ((((I.map Prod.fst).map List.length).sum : Nat) : Int) ov I.length D
  len : pl.length = I.length
  pls : pl.map (fun p => p.2.val) = I.map Prod.snd
  each : ∀ j, j < I.length → w.ownsRow B 3 1 ((pl.map slV).getD j (.slice none 0 0)) ((I.map Prod.fst).getD j []).length (((I.map Prod.fst).getD j []).map (Value.int .i64))
  tm : TMap D (I.map Prod.fst)
  lim : I.length ≤ 1048576 ∧ ((I.map Prod.fst).map List.length).sum ≤ 4194304
theorem JSt.below {w w' : World} {B G M : Nat} {v : Value} {pl : List Pl} {I : List (List Int × Nat)} {ov : Bool} {D : DataW Unit} (h : JSt w B G M v pl I ov D) (hb : Below w.heap.size w w') : JSt w' B G M v pl I ov D :=
  ⟨h.gath.below hb, h.len, h.pls, fun j hj => own_below (h.each j hj) hb, h.tm, h.lim⟩
theorem getD_at {α : Type} (l : List α) (j : Nat) (d : α) (h : j < l.length) : l.getD j d = l[j] := by simp [List.getD_eq_getElem?_getD, h]
theorem kept_of {v : Value} {b : Option Nat} (h : b = none ∨ v.ownBlock ≠ b) : v.ownBlock = none ∨ v.ownBlock ≠ b := by
  rcases h with h | h
  · rw [h]; exact Classical.em _
  · exact Or.inr h
theorem JSt.grown {w w' : World} {B G M : Nat} {v : Value} {pl : List Pl} {I : List (List Int × Nat)} {ov : Bool} {D : DataW Unit} {b : Option Nat} (h : JSt w B G M v pl I ov D) (hg : w.grownBy w' b) (hG : b ≠ some G) (hM : b ≠ some M) (hv : b = none ∨ v.ownBlock ≠ b) (hr : b = none ∨ ∀ p ∈ pl, (slV p).ownBlock ≠ b) : JSt w' B G M v pl I ov D := by
  refine ⟨⟨?_, ?_, ?_, h.gath.bg, h.gath.bm⟩, h.len, h.pls, fun j hj => ?_, h.tm, h.lim⟩
  · rw [hg.block G (Array.getElem?_eq_some_iff.1 h.gath.blk).1 (fun e => hG e.symm)]; exact h.gath.blk
  · exact World.ownsRow.kept h.gath.row hg (kept_of hv)
  · exact World.ownsMap.kept h.gath.map hg (fun e => hM e.symm)
  · refine World.ownsRow.kept (h.each j hj) hg (kept_of ?_)
    rcases hr with hr | hr
    · exact Or.inl hr
    · right
      have hj' : j < (pl.map slV).length := by rw [List.length_map, h.len]; exact hj
      rw [getD_at _ j _ hj', List.getElem_map]
      exact hr _ (List.getElem_mem _)
/-- a row that is none of those that are held -/
def Apart (pl : List Pl) (mv : Value) : Prop := ∀ g, mv.ownBlock = some g → ∀ p ∈ pl, (slV p).ownBlock ≠ some g
theorem JSt.app {w w' : World} {B B' G M n : Nat} {v mv : Value} {pl : List Pl} {I : List (List Int × Nat)} {ov : Bool} {D : DataW Unit} {L : List Value} (h : JSt w B G M v pl I ov D) (hm : w.ownsRow B' 3 1 mv n L) (ha : Apart pl mv) (hg : w.grownBy w' mv.ownBlock) : JSt w' B G M v pl I ov D := by
  refine h.grown hg (row_ne_blk hm h.gath.blk (by decide)) (row_ne_map hm h.gath.map) ?_ ?_
  · rcases hm.2 with ⟨e, _⟩ | ⟨g, cap, cur, e, _, hgb, _⟩
    · left; rw [e]; rfl
    · right
      rw [e]
      exact row_ne_blk h.gath.row hgb (by decide)
  · cases hb : mv.ownBlock with
    | none => exact Or.inl rfl
    | some g => exact Or.inr fun p hp => ha g hb p hp
theorem JSt.lt {w : World} {B G M : Nat} {v : Value} {pl : List Pl} {I : List (List Int × Nat)} {ov : Bool} {D : DataW Unit} (h : JSt w B G M v pl I ov D) : ∀ p ∈ pl, ∀ g, (slV p).ownBlock = some g → g < w.heap.size := by
  intro p hp g hg
  obtain ⟨j, hj, rfl⟩ := List.getElem_of_mem hp
  have h1 := h.each j (by rw [← h.len]; exact hj)
  have hj' : j < (pl.map slV).length := by rw [List.length_map]; exact hj
  rw [getD_at _ j _ hj', List.getElem_map] at h1
  exact (h1.lt g hg).2
/-- where the gathering stands: all of these places are in it, or there is too much -/
def GS (X : List (List Int)) (Dd : Nat → Prop) (I : List (List Int × Nat)) (ov : Bool) : Prop := (ov = false ∧ Gst X Dd I) ∨ (ov = true ∧ OverX X)
theorem map_set_slV (pl : List Pl) (i : Nat) (hi : i < pl.length) (q : Fin 4611686018427387904) : (pl.set i (pl[i].1, q)).map slV = pl.map slV := by
  rw [List.map_set]
  apply List.ext_getElem?
  intro j
  rw [List.getElem?_set]
  split
  · next e =>
    subst e
    simp [hi, slV]
  · rfl
theorem mem_set_slV {pl : List Pl} {i : Nat} (hi : i < pl.length) {q : Fin 4611686018427387904} {p : Pl} (hp : p ∈ pl.set i (pl[i].1, q)) : slV p ∈ pl.map slV := by
  rw [← map_set_slV pl i hi q]
  exact List.mem_map.2 ⟨p, hp, rfl⟩
def AddPost (w : World) (B G M : Nat) (v : Value) (pl : List Pl) (x : Value) (X : List (List Int)) (D' : Nat → Prop) : Ending → World → Prop := fun e w' =>
  e = .returned (.tuple #[]) ∧ ∃ v' pl' I' ov' Dm', JSt w' B G M v' pl' I' ov' Dm' ∧ GS X D' I' ov' ∧ GKept w w' G M v ∧ ∀ p ∈ pl', slV p ∈ pl.map slV ∨ slV p = x
theorem add_j (B G M : Nat) (v : Value) (pl : List Pl) (I : List (List Int × Nat)) (D : DataW Unit) (X : List (List Int)) (Dd D' : Nat → Prop) (p : Nat) (S : List Int) (a2 : Option Addr) (c2 : Nat) (w : World)
    (hJ : JSt w B G M v pl I false D) (hS : Gst X Dd I) (hX : ∀ S ∈ X, setL S = S) (hp : p < 4611686018427387904) (hSX : X[p]? = some S) (ht : two S = false)
    (hx : w.ownsRow B 3 1 (.slice a2 S.length c2) S.length (S.map (Value.int .i64))) (hlit : ∀ x ∈ S, litB x = true) (hlen : S.length ≤ 65536) (htab : PowT w.heap.size w) (hB : B ≤ w.heap.size) (hD : ∀ q, D' q ↔ Dd q ∨ q = p) :
    Calls Tryd.prog 32 #[.pointer (some ⟨G, 0, none⟩), .slice a2 S.length c2, .int .i64 p] w (AddPost w B G M v pl (.slice a2 S.length c2) X D') := by
  have hin2 : Ints w a2 S := by
    obtain ⟨a3, c3, e, hi⟩ := own_ints hx
    cases e
    exact hi
  by_cases hin : S ∈ I.map Prod.fst
  · obtain ⟨i, hi, ei⟩ := List.getElem_of_mem hin
    have hiI : i < I.length := by simpa using hi
    have hip : i < pl.length := by rw [hJ.len]; exact hiI
    have eg : (I.map Prod.fst).getD i [] = S := by rw [getD_at _ i _ hi, ei]
    have e1 : I[i].1 = S := by simpa using ei
    have e2 : pl[i].2.val = I[i].2 := by
      have h1 : (pl.map (fun p => p.2.val))[i]? = (I.map Prod.snd)[i]? := by rw [hJ.pls]
      simpa [hip, hiI] using h1
    have hIi : I[i]? = some (S, I[i].2) := by rw [List.getElem?_eq_getElem hiI, ← e1]
    have hc := add_min B G M I.length v (pl.map slP) _ p (pl[i].2.val) false D a2 S c2 i (slV pl[i]) w hJ.gath hin2 hlit hlen htab (by rw [hJ.tm.has S]; simpa using hin) (fun zd => by have := hJ.tm.val i hi zd; rw [eg] at this; exact this) (by rw [List.getElem?_map, List.getElem?_eq_getElem hip]; rfl)
    refine hc.mono ?_
    rintro e w' ⟨rfl, hg, hk⟩
    have hq : min pl[i].2.val p < 4611686018427387904 := by omega
    refine ⟨rfl, v, pl.set i (pl[i].1, ⟨min pl[i].2.val p, hq⟩), I.set i (S, min I[i].2 p), false, D, ⟨?_, by simp [hJ.len], ?_, ?_, ?_, ?_⟩, Or.inl ⟨rfl, hS.old hIi hSX hD⟩, hk, fun q hq2 => Or.inl (mem_set_slV hip hq2)⟩
    · rw [set_fst I i S _ _ hIi, List.map_set, List.length_set]
      exact hg
    · rw [List.map_set, List.map_set, hJ.pls]
      show (I.map Prod.snd).set i (min pl[i].2.val p) = (I.map Prod.snd).set i (min I[i].2 p)
      rw [e2]
    · intro j hj
      rw [set_fst I i S _ _ hIi, map_set_slV pl i hip]
      exact row_gkept (hJ.each j (by simpa using hj)) hk hJ.gath
    · rw [set_fst I i S _ _ hIi]; exact hJ.tm
    · rw [set_fst I i S _ _ hIi, List.length_set]; exact hJ.lim
  · have hhas : has D (.string (txtL S)) = false := by rw [hJ.tm.has S]; simpa using hin
    have hpl : (pl.map slP).length = I.length := by rw [List.length_map, hJ.len]
    by_cases hf : I.length = 1048576 ∨ 4194304 < ((I.map Prod.fst).map List.length).sum + S.length
    · have hc := add_full B G M I.length v (pl.map slP) _ p false D a2 S c2 w hJ.gath hin2 hlit hlen htab hhas (by omega) (by have := hJ.lim; omega) (by rw [hpl]; exact hJ.lim.1) (by rw [hpl]; omega)
      refine hc.mono ?_
      rintro e w' ⟨rfl, hg, hk⟩
      refine ⟨rfl, v, pl, I, true, D, ⟨hg, hJ.len, hJ.pls, fun j hj => row_gkept (hJ.each j hj) hk hJ.gath, hJ.tm, hJ.lim⟩, Or.inr ⟨rfl, gst_over hX hS hSX ht hin (by omega)⟩, hk, fun q hq => Or.inl (List.mem_map.2 ⟨q, hq, rfl⟩)⟩
    · have hl := hJ.lim
      have hc := add_new B G M I.length v (pl.map slP) _ p false D a2 S c2 w hJ.gath hin2 hlit hlen htab hB hhas (by rw [hpl]; omega) (by omega) (by omega) (by omega)
      refine hc.mono ?_
      rintro e w' ⟨rfl, v', hg, hk⟩
      refine ⟨rfl, v', pl ++ [((a2, S.length, c2), ⟨p, hp⟩)], I ++ [(S, p)], false, D.put (.string (txtL S)) (.lit (.int .i64 (I.map Prod.fst).length)), ⟨?_, by simp [hJ.len], by simp [hJ.pls], ?_, ?_, ?_⟩, Or.inl ⟨rfl, hS.new hSX ht hin hD⟩, hk, ?_⟩
      · have e1 : (pl ++ [((a2, S.length, c2), (⟨p, hp⟩ : Fin 4611686018427387904))]).map slP = pl.map slP ++ [(.slice a2 S.length c2, (p : Int))] := by simp [slP]
        have e2 : (((((I ++ [(S, p)]).map Prod.fst).map List.length).sum : Nat) : Int) = ((((I.map Prod.fst).map List.length).sum : Nat) : Int) + S.length := by simp
        have e3 : (I ++ [(S, p)]).length = I.length + 1 := by simp
        rw [e1, e2, e3, List.length_map]
        rw [hpl] at hg
        exact hg
      · intro j hj
        have e5 : (pl ++ [((a2, S.length, c2), (⟨p, hp⟩ : Fin 4611686018427387904))]).map slV = pl.map slV ++ [.slice a2 S.length c2] := by simp [slV]
        have e6 : (I ++ [(S, p)]).map Prod.fst = I.map Prod.fst ++ [S] := by simp
        rw [e5, e6]
        by_cases hlt : j < I.length
        · rw [getD_snoc_lt _ _ _ j (by rw [List.length_map, hJ.len]; exact hlt), getD_snoc_lt _ _ _ j (by simpa using hlt)]
          exact row_gkept (hJ.each j hlt) hk hJ.gath
        · have e : j = (I.map Prod.fst).length := by simp at hj ⊢; omega
          subst e
          rw [getD_snoc_last]
          have e7 : (I.map Prod.fst).length = (pl.map slV).length := by simp [hJ.len]
          rw [e7, getD_snoc_last]
          exact row_gkept hx hk hJ.gath
      · have := hJ.tm.put hin
        simpa using this
      · have e9 : (((I ++ [(S, p)]).map Prod.fst).map List.length).sum = ((I.map Prod.fst).map List.length).sum + S.length := by simp
        exact ⟨by simp; omega, by omega⟩
      · intro q hq
        rcases List.mem_append.1 hq with hq | hq
        · exact Or.inl (List.mem_map.2 ⟨q, hq, rfl⟩)
        · right
          have : q = ((a2, S.length, c2), ⟨p, hp⟩) := by simpa using hq
          rw [this]
          rfl
end Go.Proofs.YtokpjegiinggdaaDoor
