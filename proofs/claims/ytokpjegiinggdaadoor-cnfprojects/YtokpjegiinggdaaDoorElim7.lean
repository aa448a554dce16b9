import Derived.Test.YtokpjegiinggdaaDoorElim6
import Derived.Test.YtokpjegiinggdaaDoorTidyA
namespace Go.Proofs.YtokpjegiinggdaaDoor
open Go.ChangeShapes Go.WideShapes Go.ChangeAt Go.RowKit Go.Cn Go.WideMaps Go.Maps

/-- the clause of a place -/
def phi (X : List (List Int)) (p : Pl) : List Int × Nat := (X.getD p.2.val [], p.2.val)
theorem jst_phi {w : World} {B G M : Nat} {v : Value} {pl : List Pl} {I : List (List Int × Nat)} {ov : Bool} {D : DataW Unit} {X : List (List Int)} {Dd : Nat → Prop} (h : JSt w B G M v pl I ov D) (hS : Gst X Dd I) : I = pl.map (phi X) := by
  apply List.ext_getElem?
  intro j
  rw [List.getElem?_map]
  have hp : (pl.map (fun p => p.2.val))[j]? = (I.map Prod.snd)[j]? := by rw [h.pls]
  rw [List.getElem?_map, List.getElem?_map] at hp
  cases hI : I[j]? with
  | none =>
    rw [hI] at hp
    cases hq : pl[j]? with
    | none => rfl
    | some q => rw [hq] at hp; simp at hp
  | some e =>
    rw [hI] at hp
    cases hq : pl[j]? with
    | none => rw [hq] at hp; simp at hp
    | some q =>
      rw [hq] at hp
      have e1 : q.2.val = e.2 := by simpa using hp
      have h1 := (hS.src e (List.mem_of_getElem? hI)).2.1
      simp only [Option.map_some, phi]
      rw [e1, List.getD_eq_getElem?_getD, h1]
      rfl
theorem jst_rows {w : World} {B G M : Nat} {v : Value} {pl : List Pl} {I : List (List Int × Nat)} {ov : Bool} {D : DataW Unit} {X : List (List Int)} {Dd : Nat → Prop} (h : JSt w B G M v pl I ov D) (hS : Gst X Dd I) : ∀ p ∈ pl, w.ownsRow B 3 1 (slV p) (X.getD p.2.val []).length ((X.getD p.2.val []).map (Value.int .i64)) := by
  intro p hp
  obtain ⟨j, hj, rfl⟩ := List.getElem_of_mem hp
  have h1 := h.each j (by rw [← h.len]; exact hj)
  rw [getD_at _ j _ (by rw [List.length_map]; exact hj), List.getElem_map] at h1
  have e : (I.map Prod.fst).getD j [] = X.getD pl[j].2.val [] := by
    rw [jst_phi h hS, List.map_map, getD_at _ j _ (by simpa using hj), List.getElem_map]
    rfl
  rw [e] at h1
  exact h1
theorem jst_done {w : World} {B G M : Nat} {v : Value} {pl pl' : List Pl} {I : List (List Int × Nat)} {ov : Bool} {D : DataW Unit} {X : List (List Int)} {Dd : Nat → Prop} (h : JSt w B G M v pl I ov D) (hS : Gst X Dd I) (hX : ∀ S ∈ X, setL S = S) (hD : ∀ q, q < X.length → Dd q) (hp : pl'.Perm pl) (hs : pl'.Pairwise fun a b => a.2.val ≤ b.2.val) :
    td X = pl'.map (fun p => X.getD p.2.val []) ∧ ¬ OverX X := by
  have e1 := jst_phi h hS
  have hne : pl.Pairwise fun a b => a.2.val ≠ b.2.val := by
    have hd := hS.dist
    rw [e1, List.map_map] at hd
    unfold List.Nodup at hd
    rw [List.pairwise_map] at hd
    exact hd.imp fun hab e => hab (by simp only [Function.comp, phi]; rw [e])
  have hne' : pl'.Pairwise fun a b => a.2.val ≠ b.2.val := (hp.pairwise_iff (fun hab e => hab e.symm)).2 hne
  have hlt : (pl'.map (phi X)).Pairwise fun a b => a.2 < b.2 := by
    rw [List.pairwise_map]
    have hb := hs.and hne'
    exact hb.imp fun hab => by
      show _ < _
      exact Nat.lt_of_le_of_ne hab.1 hab.2
  have hd := gst_done hX hS hD (L := pl'.map (phi X)) (fun x => by rw [e1]; exact (hp.map (phi X)).mem_iff) hlt
  refine ⟨by rw [← hd, List.map_map]; rfl, ?_⟩
  have hsub : ∀ S ∈ td X, S ∈ I.map Prod.fst := fun S hS2 => by
    rw [← hd] at hS2
    rw [e1]
    exact ((hp.map (phi X)).map Prod.fst).mem_iff.1 hS2
  have h9 := sub_len (td X) (I.map Prod.fst) (tdy_td X).1 hsub
  have hl := h.lim
  unfold OverX
  simp only [List.length_map] at h9
  omega
/-- a clause that is new, and has room -/
theorem add_jn (B G M : Nat) (v : Value) (pl : List Pl) (I : List (List Int × Nat)) (D : DataW Unit) (p : Nat) (S : List Int) (a2 : Option Addr) (c2 : Nat) (w : World)
    (hJ : JSt w B G M v pl I false D) (hp : p < 4611686018427387904) (hin : S ∉ I.map Prod.fst)
    (hx : w.ownsRow B 3 1 (.slice a2 S.length c2) S.length (S.map (Value.int .i64))) (hlit : ∀ x ∈ S, litB x = true) (hlen : S.length ≤ 65536) (htab : PowT w.heap.size w) (hB : B ≤ w.heap.size) (hl1 : I.length < 1048576) (hl2 : ((I.map Prod.fst).map List.length).sum + S.length ≤ 4194304) :
    Calls Tryd.prog 32 #[.pointer (some ⟨G, 0, none⟩), .slice a2 S.length c2, .int .i64 p] w fun e w' => e = .returned (.tuple #[]) ∧ ∃ v' pl' Dm', JSt w' B G M v' pl' (I ++ [(S, p)]) false Dm' ∧ GKept w w' G M v := by
  have hin2 : Ints w a2 S := by
    obtain ⟨a3, c3, e, hi⟩ := own_ints hx
    cases e
    exact hi
  have hhas : has D (.string (txtL S)) = false := by rw [hJ.tm.has S]; simpa using hin
  have hpl : (pl.map slP).length = I.length := by rw [List.length_map, hJ.len]
  have hc := add_new B G M I.length v (pl.map slP) _ p false D a2 S c2 w hJ.gath hin2 hlit hlen htab hB hhas (by rw [hpl]; omega) (by omega) (by omega) (by omega)
  refine hc.mono ?_
  rintro e w' ⟨rfl, v', hg, hk⟩
  refine ⟨rfl, v', pl ++ [((a2, S.length, c2), ⟨p, hp⟩)], D.put (.string (txtL S)) (.lit (.int .i64 (I.map Prod.fst).length)), ⟨?_, by simp [hJ.len], by simp [hJ.pls], ?_, ?_, ?_⟩, hk⟩
  · have e1 : (pl ++ [((a2, S.length, c2), (⟨p, hp⟩ : Fin 4611686018427387904))]).map slP = pl.map slP ++ [(.slice a2 S.length c2, (p : Int))] := by simp [slP]
    have e2 : (((((I ++ [(S, p)]).map Prod.fst).map List.length).sum : Nat) : Int) = ((((I.map Prod.fst).map List.length).sum : Nat) : Int) + S.length := by simp
    have e3 : (I ++ [(S, p)]).length = I.length + 1 := by simp
    rw [e1, e2, e3, List.length_map]
    rw [hpl] at hg
    exact hg
  · intro j hj
    have e5 : (pl ++ [((a2, S.length, c2), (⟨p, hp⟩ : Fin 4611686018427387904))]).map slV = pl.map slV ++ [.slice a2 S.length c2] := by simp [slV]
    have e6 : (I ++ [(S, p)]).map Prod.fst = I.map Prod.fst ++ [S] := by simp
    rw [e5, e6]
    by_cases hlt : j < I.length
    · rw [getD_snoc_lt _ _ _ j (by rw [List.length_map, hJ.len]; exact hlt), getD_snoc_lt _ _ _ j (by simpa using hlt)]
      exact row_gkept (hJ.each j hlt) hk hJ.gath
    · have e : j = (I.map Prod.fst).length := by simp at hj ⊢; omega
      subst e
      rw [getD_snoc_last]
      have e7 : (I.map Prod.fst).length = (pl.map slV).length := by simp [hJ.len]
      rw [e7, getD_snoc_last]
      exact row_gkept hx hk hJ.gath
  · have := hJ.tm.put hin
    simpa using this
  · have e9 : (((I ++ [(S, p)]).map Prod.fst).map List.length).sum = ((I.map Prod.fst).map List.length).sum + S.length := by simp
    exact ⟨by simp; omega, by omega⟩
theorem JSt.cgrown {w w' : World} {B B' G M n : Nat} {v mv : Value} {pl : List Pl} {I : List (List Int × Nat)} {ov : Bool} {D : DataW Unit} {L : List Value} (h : JSt w B G M v pl I ov D) (hm : w.ownsRow B' 40 1 mv n L) (hg : w.grownBy w' mv.ownBlock) : JSt w' B G M v pl I ov D := by
  rcases hm.2 with ⟨e, _⟩ | ⟨g, cap, cur, e, _, hgb, _⟩
  · rw [e] at hg
    exact h.grown hg (fun e => by cases e) (fun e => by cases e) (Or.inl rfl) (Or.inl rfl)
  · have e2 : mv.ownBlock = some g := by rw [e]; rfl
    refine h.grown hg (row_ne_blk hm h.gath.blk (by decide)) (row_ne_map hm h.gath.map) (Or.inr ?_) (Or.inr fun p hp => ?_)
    · rw [e2]; exact row_ne_blk h.gath.row hgb (by decide)
    · obtain ⟨i, hi, rfl⟩ := List.getElem_of_mem hp
      have h1 := h.each i (by rw [← h.len]; exact hi)
      rw [getD_at _ i _ (by rw [List.length_map]; exact hi), List.getElem_map] at h1
      rw [e2]
      exact row_ne_blk h1 hgb (by decide)
theorem OwnL.cgrown {w w' : World} {B B' n : Nat} {va mv : Value} {La L : List Value} {A : List (List Int)} (h : OwnL w B va La A) (hm : w.ownsRow B' 40 1 mv n L) (hg : w.grownBy w' mv.ownBlock) (hap : ∀ g, mv.ownBlock = some g → va.ownBlock ≠ some g) : OwnL w' B va La A := by
  rcases hm.2 with ⟨e, _⟩ | ⟨g, cap, cur, e, _, hgb, _⟩
  · rw [e] at hg
    exact ⟨h.len, World.ownsRow.kept h.row hg (Classical.em _), fun j hj => World.ownsRow.kept (h.each j hj) hg (Classical.em _)⟩
  · have e2 : mv.ownBlock = some g := by rw [e]; rfl
    exact ⟨h.len, World.ownsRow.kept h.row hg (Or.inr (by rw [e2]; exact hap g e2)), fun j hj => World.ownsRow.kept (h.each j hj) hg (Or.inr (by rw [e2]; exact row_ne_blk (h.each j hj) hgb (by decide)))⟩
/-- the clauses dealt out, up to some of them -/
structure ESt (w w4 wr : World) (B G M : Nat) (X : List (List Int)) (v : Int) (Tk : List (List Int)) (vw va : Value) (Lw La : List Value) (vg : Value) (pl : List Pl) (I : List (List Int × Nat)) (D : DataW Unit) : Prop where
  jst : JSt wr B G M vg pl I false D
  gst : Gst X (fun q => q < (eRs v Tk).length) I
  fst : I.map Prod.fst = eRs v Tk
  ow : OwnL wr w4.heap.size vw Lw (eWs v Tk)
  oa : OwnL wr w4.heap.size va La (eAs v Tk)
  ap : ∀ g, vw.ownBlock = some g → va.ownBlock ≠ some g
  below : Below B w wr
  tk : TKp w4 wr
theorem ESt.next {w w4 wr w' : World} {B G M : Nat} {X : List (List Int)} {v : Int} {Tk : List (List Int)} {vw va : Value} {Lw La : List Value} {vg : Value} {pl : List Pl} {I : List (List Int × Nat)} {D : DataW Unit} (h : ESt w w4 wr B G M X v Tk vw va Lw La vg pl I D) (hb : Below wr.heap.size wr w') (hB : B ≤ wr.heap.size) : ESt w w4 w' B G M X v Tk vw va Lw La vg pl I D :=
  ⟨h.jst.below hb, h.gst, h.fst, h.ow.below hb, h.oa.below hb, h.ap, h.below.trans (hb.mono hB), h.tk.next hb⟩
theorem ESt.putW {w w4 wr w' : World} {B G M : Nat} {X : List (List Int)} {v : Int} {Tk : List (List Int)} {vw vw' va x : Value} {Lw La : List Value} {vg : Value} {pl : List Pl} {I : List (List Int × Nat)} {D : DataW Unit} {c : List Int} {g : Nat} (h : ESt w w4 wr B G M X v Tk vw va Lw La vg pl I D) (hc : v ∈ c) (hB : B ≤ w4.heap.size)
    (hx : wr.ownsRow w4.heap.size 3 1 x (woC c v).length ((woC c v).map (Value.int .i64))) (ho : w'.ownsRow w4.heap.size 40 1 vw' ((eWs v Tk).length + 1) (Lw ++ [x])) (hg : wr.grownBy w' vw.ownBlock) (he : vw'.ownBlock = some g) (hw : vw.ownBlock = some g ∨ g = wr.heap.size) :
    ESt w w4 w' B G M X v (Tk ++ [c]) vw' va (Lw ++ [x]) La vg pl I D := by
  obtain ⟨e1, _, _, e4, e5⟩ := e_with (T := Tk) hc
  refine ⟨h.jst.cgrown h.ow.row hg, by rw [e1]; exact h.gst, by rw [e1]; exact h.fst, by rw [e4]; exact OwnL.snoc h.ow hx ho hg, by rw [e5]; exact h.oa.cgrown h.ow.row hg h.ap, ?_, h.below.grown hg (Nat.le_trans hB h.tk.size) (fun k hk => Nat.le_trans hB (h.ow.row.lt k hk).1), h.tk.grown hg (fun k hk => (h.ow.row.lt k hk).1)⟩
  intro g2 hg2
  rw [he] at hg2
  cases hg2
  rcases hw with hw | hw
  · exact h.ap g hw
  · intro e
    have := (h.oa.row.lt g e).2
    omega
theorem ESt.putA {w w4 wr w' : World} {B G M : Nat} {X : List (List Int)} {v : Int} {Tk : List (List Int)} {vw va va' x : Value} {Lw La : List Value} {vg : Value} {pl : List Pl} {I : List (List Int × Nat)} {D : DataW Unit} {c : List Int} {g : Nat} (h : ESt w w4 wr B G M X v Tk vw va Lw La vg pl I D) (hc : v ∉ c) (hc2 : -v ∈ c) (hB : B ≤ w4.heap.size)
    (hx : wr.ownsRow w4.heap.size 3 1 x (woC c (-v)).length ((woC c (-v)).map (Value.int .i64))) (ho : w'.ownsRow w4.heap.size 40 1 va' ((eAs v Tk).length + 1) (La ++ [x])) (hg : wr.grownBy w' va.ownBlock) (he : va'.ownBlock = some g) (hw : va.ownBlock = some g ∨ g = wr.heap.size) :
    ESt w w4 w' B G M X v (Tk ++ [c]) vw va' Lw (La ++ [x]) vg pl I D := by
  obtain ⟨e1, _, _, e4, e5⟩ := e_against (T := Tk) hc hc2
  refine ⟨h.jst.cgrown h.oa.row hg, by rw [e1]; exact h.gst, by rw [e1]; exact h.fst, by rw [e4]; exact h.ow.cgrown h.oa.row hg (fun g2 hg2 e => h.ap g2 e hg2), by rw [e5]; exact OwnL.snoc h.oa hx ho hg, ?_, h.below.grown hg (Nat.le_trans hB h.tk.size) (fun k hk => Nat.le_trans hB (h.oa.row.lt k hk).1), h.tk.grown hg (fun k hk => (h.oa.row.lt k hk).1)⟩
  intro g2 hg2 e
  rw [he] at e
  cases e
  rcases hw with hw | hw
  · exact h.ap g hg2 hw
  · have := (h.ow.row.lt g hg2).2
    omega
theorem ESt.putR {w w4 wr w' : World} {B G M : Nat} {X : List (List Int)} {v : Int} {Tk : List (List Int)} {vw va : Value} {Lw La : List Value} {vg vg' : Value} {pl pl' : List Pl} {I : List (List Int × Nat)} {D D' : DataW Unit} {c : List Int} (h : ESt w w4 wr B G M X v Tk vw va Lw La vg pl I D) (hc : v ∉ c) (hc2 : -v ∉ c) (hB : B ≤ w4.heap.size)
    (hJ : JSt w' B G M vg' pl' (I ++ [(c, (eRs v Tk).length)]) false D') (hk : GKept wr w' G M vg) (hX : X[(eRs v Tk).length]? = some c) (h2 : two c = false) (hin : c ∉ eRs v Tk) :
    ESt w w4 w' B G M X v (Tk ++ [c]) vw va Lw La vg' pl' (I ++ [(c, (eRs v Tk).length)]) D' := by
  obtain ⟨e1, _, _, e4, e5⟩ := e_rest (T := Tk) hc hc2
  have htk := TKp.of_gk hk h.jst.gath
  refine ⟨hJ, ?_, by rw [e1, List.map_append, h.fst]; rfl, by rw [e4]; exact h.ow.tk htk, by rw [e5]; exact h.oa.tk htk, h.ap, hk.below h.jst.gath h.below (Nat.le_trans hB h.tk.size), h.tk.trans htk⟩
  have := h.gst.new (D' := fun q => q < (eRs v (Tk ++ [c])).length) hX h2 (by rw [h.fst]; exact hin) (fun q => by rw [e1, List.length_append, List.length_singleton]; omega)
  exact this
/-- Eliminate's answer -/
def ElPost (vars : Int) (cs : List (List Int)) (v : Int) (w : World) : Ending → World → Prop := fun e w' =>
  ∃ u L, e = .returned (.tuple #[.agg #[.int .i64 (elV vars cs v), u], .int .i64 (elE vars cs v)]) ∧ OwnL w' w.heap.size u L (elC vars cs v) ∧ Below w.heap.size w w'
theorem elPost_bad {vars : Int} {cs : List (List Int)} {v x : Int} {w w' : World} (h : elE vars cs v = x) (h0 : x ≠ 0) (hb : Below w.heap.size w w') : ElPost vars cs v w (.returned (.tuple #[.agg #[.int .i64 0, .slice none 0 0], .int .i64 x])) w' := by
  refine ⟨.slice none 0 0, [], ?_, ?_, hb⟩
  · unfold elV; rw [h, if_neg h0]
  · unfold elC; rw [h, if_neg h0]; exact OwnL.nil _ _
end Go.Proofs.YtokpjegiinggdaaDoor
