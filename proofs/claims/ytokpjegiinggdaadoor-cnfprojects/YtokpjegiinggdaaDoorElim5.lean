import Derived.Test.YtokpjegiinggdaaDoorElim4
import Derived.Deep.AppendLies
namespace Go.Proofs.YtokpjegiinggdaaDoor
open Go.ChangeShapes Go.WideShapes Go.ChangeAt Go.RowKit Go.Cn Go.WideMaps Go.Maps

/-- what stands behind j of the others -/
structure JO (w wr : World) (B G M : Nat) (X : List (List Int)) (Dd : Nat → Nat → Prop) (Base : List Int) (Os : List (List Int)) (Mt : Nat) (v : Value) (pl : List Pl) (I : List (List Int × Nat)) (ov : Bool) (D Dt : DataW Unit) (mv : Value) (ml : List Int) (j nt : Nat) : Prop where
  jst : JSt wr B G M v pl I ov D
  gs : GS X (Dd j) I ov
  below : Below B w wr
  tk : TKp w wr
  mrow : wr.ownsRow w.heap.size 3 1 mv ml.length (ml.map (Value.int .i64))
  apart : Apart pl mv
  told : wr.ownsMap Tryd.prog 9 (plainElem Tryd.prog 3) Mt nt Dt
  tge : w.heap.size ≤ Mt
  isMap : IsMap Dt
  keys : ∀ S, Maps.has Dt (.string (txtL S)) = true → ∃ o, o < j ∧ moreL Base (Os.getD o []) = S
  ntl : nt ≤ j
  short : ∀ o, o < j → (setL (Base ++ Os.getD o [])).length ≤ 65536
theorem own_cut0 {w : World} {B e n cap : Nat} {ad : Option Addr} {L : List Value} (h : w.ownsRow B e 1 (.slice ad n cap) n L) : w.ownsRow B e 1 (.slice ad 0 cap) 0 [] := by
  refine ⟨rfl, ?_⟩
  rcases h.2 with ⟨e1, h0⟩ | ⟨g, cap', cur, e1, hB, hg, h1, h2, h3, _⟩
  · cases e1
    exact Or.inl ⟨rfl, rfl⟩
  · cases e1
    exact Or.inr ⟨g, cap, cur, rfl, hB, hg, Nat.zero_le _, h2, h3, by simp⟩
theorem map_below {w w' : World} {P : Program} {k : TypeId} {R : Value → Option (DataW Unit × List MemPlace)} {b n : Nat} {D : DataW Unit} (h : w.ownsMap P k R b n D) (hb : Below w.heap.size w w') : w'.ownsMap P k R b n D := by
  have hlt := h.lt
  obtain ⟨es, clock, h1, h2⟩ := h
  exact ⟨es, clock, (hb.block b hlt).trans h1, h2⟩
theorem OwnL.tkAt {w : World} {B co j : Nat} {ao : Option Addr} {L : List Value} {cs : List (List Int)} (h : OwnL w B (.slice ao cs.length co) L cs) (hj : j < cs.length) :
    ∃ g aj cj, ao = some ⟨g, 0, none⟩ ∧ ∀ W, TKp w W → W.cell? ⟨g, j, none⟩ = some (.slice aj (cs.getD j []).length cj) ∧ Sl W aj cj (cs.getD j []) := by
  obtain ⟨aj, cj, e1, hs⟩ := own_sl (h.each j hj)
  rcases h.row.2 with ⟨e, h0⟩ | ⟨g, cap, cur, e, _⟩
  · omega
  · cases e
    refine ⟨g, aj, cj, rfl, fun W hW => ⟨?_, ?_⟩⟩
    · have hl : j < L.length := by rw [h.len]; exact hj
      rw [(h.tk hW).row.cellAt j (by omega), List.getElem?_eq_getElem hl, ← e1, getD_at L j _ hl]
    · obtain ⟨a2, c2, e2, hs2⟩ := own_sl ((h.tk hW).each j hj)
      rw [e1] at e2
      cases e2
      exact hs2
theorem JO.next {w wr w' : World} {B G M : Nat} {X : List (List Int)} {Dd : Nat → Nat → Prop} {Base : List Int} {Os : List (List Int)} {Mt : Nat} {v : Value} {pl : List Pl} {I : List (List Int × Nat)} {ov : Bool} {D Dt : DataW Unit} {mv : Value} {ml : List Int} {j nt : Nat} (h : JO w wr B G M X Dd Base Os Mt v pl I ov D Dt mv ml j nt) (hb : Below wr.heap.size wr w') (hB : B ≤ w.heap.size) : JO w w' B G M X Dd Base Os Mt v pl I ov D Dt mv ml j nt :=
  ⟨h.jst.below hb, h.gs, h.below.trans (hb.mono (Nat.le_trans hB h.tk.size)), h.tk.next hb, own_below h.mrow hb, h.apart, map_below h.told hb, h.tge, h.isMap, h.keys, h.ntl, h.short⟩
/-- the clause that is being gathered -/
theorem JO.row {w wr w' : World} {B G M : Nat} {X : List (List Int)} {Dd : Nat → Nat → Prop} {Base : List Int} {Os : List (List Int)} {Mt : Nat} {v : Value} {pl : List Pl} {I : List (List Int × Nat)} {ov : Bool} {D Dt : DataW Unit} {mv mv' : Value} {ml ml' : List Int} {j nt g : Nat} (h : JO w wr B G M X Dd Base Os Mt v pl I ov D Dt mv ml j nt) (hg : wr.grownBy w' mv.ownBlock) (hB : B ≤ w.heap.size)
    (ho : w'.ownsRow w.heap.size 3 1 mv' ml'.length (ml'.map (Value.int .i64))) (he : mv'.ownBlock = some g) (hw : mv.ownBlock = some g ∨ g = wr.heap.size) : JO w w' B G M X Dd Base Os Mt v pl I ov D Dt mv' ml' j nt := by
  refine ⟨h.jst.app h.mrow h.apart hg, h.gs, h.below.grown hg (Nat.le_trans hB h.tk.size) (fun k hk => Nat.le_trans hB (h.mrow.lt k hk).1), h.tk.grown hg (fun k hk => (h.mrow.lt k hk).1), ho, ?_, World.ownsMap.kept h.told hg (fun e => row_ne_map h.mrow h.told e.symm), h.tge, h.isMap, h.keys, h.ntl, h.short⟩
  intro g2 hg2 p hp
  rw [he] at hg2
  cases hg2
  rcases hw with hw | hw
  · exact h.apart g hw p hp
  · intro e
    have := h.jst.lt p hp g e
    omega
theorem JO.cut {w wr : World} {B G M : Nat} {X : List (List Int)} {Dd : Nat → Nat → Prop} {Base : List Int} {Os : List (List Int)} {Mt : Nat} {v : Value} {pl : List Pl} {I : List (List Int × Nat)} {ov : Bool} {D Dt : DataW Unit} {ad : Option Addr} {ml : List Int} {j nt n cap : Nat} (h : JO w wr B G M X Dd Base Os Mt v pl I ov D Dt (.slice ad n cap) ml j nt) (hn : n = ml.length) : JO w wr B G M X Dd Base Os Mt v pl I ov D Dt (.slice ad 0 cap) [] j nt := by
  subst hn
  exact ⟨h.jst, h.gs, h.below, h.tk, own_cut0 h.mrow, fun g hg => h.apart g (by cases ad <;> exact hg), h.told, h.tge, h.isMap, h.keys, h.ntl, h.short⟩
/-- one of the others is done, and nothing was put in -/
theorem JO.on {w wr : World} {B G M : Nat} {X : List (List Int)} {Dd : Nat → Nat → Prop} {Base : List Int} {Os : List (List Int)} {Mt : Nat} {v : Value} {pl : List Pl} {I : List (List Int × Nat)} {ov : Bool} {D Dt : DataW Unit} {mv : Value} {ml : List Int} {j nt : Nat} (h : JO w wr B G M X Dd Base Os Mt v pl I ov D Dt mv ml j nt) (hs : (setL (Base ++ Os.getD j [])).length ≤ 65536) (hg : GS X (Dd (j + 1)) I ov) : JO w wr B G M X Dd Base Os Mt v pl I ov D Dt mv ml (j + 1) nt :=
  ⟨h.jst, hg, h.below, h.tk, h.mrow, h.apart, h.told, h.tge, h.isMap, fun S hS => by
    obtain ⟨o, ho, e⟩ := h.keys S hS
    exact ⟨o, by omega, e⟩, Nat.le_succ_of_le h.ntl, fun o ho => by
    rcases Nat.lt_succ_iff_lt_or_eq.1 ho with h1 | h1
    · exact h.short o h1
    · rw [h1]; exact hs⟩
/-- a clause is told -/
theorem JO.tell {w wr w' : World} {B G M : Nat} {X : List (List Int)} {Dd : Nat → Nat → Prop} {Base : List Int} {Os : List (List Int)} {Mt : Nat} {v : Value} {pl : List Pl} {I : List (List Int × Nat)} {ov : Bool} {D Dt D2 : DataW Unit} {mv : Value} {ml : List Int} {j nt : Nat} (h : JO w wr B G M X Dd Base Os Mt v pl I ov D Dt mv ml j nt) (hB : B ≤ w.heap.size) (hml : ml = moreL Base (Os.getD j [])) (hg : wr.grownBy w' (some Mt)) (hG : G < w.heap.size) (hM : M < w.heap.size)
    (ho : w'.ownsMap Tryd.prog 9 (plainElem Tryd.prog 3) Mt (nt + 1) (Dt.put (.string (txtL ml)) D2)) :
    JSt w' B G M v pl I ov D ∧ Below B w w' ∧ TKp w w' ∧ w'.ownsRow w.heap.size 3 1 mv ml.length (ml.map (Value.int .i64)) ∧ IsMap (Dt.put (.string (txtL ml)) D2) ∧ (∀ S, Maps.has (Dt.put (.string (txtL ml)) D2) (.string (txtL S)) = true → ∃ o, o < j + 1 ∧ moreL Base (Os.getD o []) = S) := by
  have hge := h.tge
  refine ⟨h.jst.grown hg (fun e => by cases e; omega) (fun e => by cases e; omega) (Or.inr (row_ne_map h.jst.gath.row h.told)) (Or.inr fun p hp => ?_), h.below.grown hg (Nat.le_trans hB h.tk.size) (fun k hk => by cases hk; omega), h.tk.grown hg (fun k hk => by cases hk; exact hge), World.ownsRow.kept h.mrow hg (Or.inr (row_ne_map h.mrow h.told)), isMap_put h.isMap _ _, fun S hS => ?_⟩
  · obtain ⟨i, hi, rfl⟩ := List.getElem_of_mem hp
    have h1 := h.jst.each i (by rw [← h.jst.len]; exact hi)
    rw [getD_at _ i _ (by rw [List.length_map]; exact hi), List.getElem_map] at h1
    exact row_ne_map h1 h.told
  · by_cases e : S = ml
    · exact ⟨j, Nat.lt_succ_self j, by rw [e, hml]⟩
    · rw [has_put_other (fun e2 => e (txtL_inj (by simpa using e2)))] at hS
      obtain ⟨o, ho, e2⟩ := h.keys S hS
      exact ⟨o, by omega, e2⟩
set_option maxHeartbeats 8000000 in
set_option maxRecDepth 100000 in
theorem joinOne_any (B G M : Nat) (v : Value) (pl : List Pl) (I : List (List Int × Nat)) (ov : Bool) (D : DataW Unit) (X : List (List Int)) (n0 k : Nat) (plc : Nat → Nat → Nat) (Bs Os : List (List Int)) (vars : Int) (ab ao : Option Addr) (cb co m nm capm : Nat) (Lo : List Value) (pb kb : Value) (w : World)
    (hJ : JSt w B G M v pl I ov D) (hS : GS X (DD n0 plc Bs.length Os.length k 0) I ov) (hX : ∀ S ∈ X, setL S = S) (hO : Ori X n0 Bs Os plc) (hk : k < Bs.length)
    (hb : w.ownsRow B 3 1 (.slice ab (Bs.getD k []).length cb) (Bs.getD k []).length ((Bs.getD k []).map (Value.int .i64))) (hos : OwnL w B (.slice ao Os.length co) Lo Os) (hol : Os.length ≤ 1048576)
    (hM : Mks w m vars (fun l => decide (l ∈ Bs.getD k []))) (hnm : (nm : Int) = 2 * vars + 2) (hc : ∀ c ∈ Bs, Cl1 vars c) (hc2 : ∀ c ∈ Os, Cl1 vars c) (hpl : ∀ o, o < Os.length → plc k o < 4611686018427387904)
    (hcl : ∀ W, TKp w W → ∀ o, o < Os.length → Calls Tryd.prog 58 #[.int .i64 o, pb, kb] W fun e w' => e = .returned (.int .i64 (plc k o : Int)) ∧ w' = W)
    (hT : ∀ W, Below B w W → PowT W.heap.size W) (hB : B ≤ w.heap.size) :
    Calls Tryd.prog 57 #[.pointer (some ⟨G, 0, none⟩), .slice ab (Bs.getD k []).length cb, .slice ao Os.length co, .slice (some ⟨m, 0, none⟩) nm capm, .func (.func 58) #[] #[pb, kb]] w fun e w' => ∃ v' pl' I' ov' D', JSt w' B G M v' pl' I' ov' D' ∧ Below B w w' ∧ TKp w w' ∧
      ((e = .returned (.int .i64 0) ∧ (∀ o, o < Os.length → (setL (Bs.getD k [] ++ Os.getD o [])).length ≤ 65536) ∧ GS X (DD n0 plc Bs.length Os.length (k + 1) 0) I' ov') ∨ (e = .returned (.int .i64 22) ∧ ∃ o, o < Os.length ∧ 65536 < (setL (Bs.getD k [] ++ Os.getD o [])).length)) := by
  have hBase : Cl1 vars (Bs.getD k []) := hc _ (by rw [getD_at _ _ _ hk]; exact List.getElem_mem _)
  have hAt := fun o ho => hO.at_ k o hk ho
  have hMono := fun o o' h => hO.mono k o o' hk h
  generalize Bs.getD k [] = Base at *
  generalize hpp : (fun (e : Ending) (w' : World) => ∃ v' pl' I' ov' D', JSt w' B G M v' pl' I' ov' D' ∧ Below B w w' ∧ TKp w w' ∧
      ((e = .returned (.int .i64 0) ∧ (∀ o, o < Os.length → (setL (Base ++ Os.getD o [])).length ≤ 65536) ∧ GS X (DD n0 plc Bs.length Os.length (k + 1) 0) I' ov') ∨ (e = .returned (.int .i64 22) ∧ ∃ o, o < Os.length ∧ 65536 < (setL (Base ++ Os.getD o [])).length))) = PP
  have HPP : Hid (∀ e w', (∃ v' pl' I' ov' D', JSt w' B G M v' pl' I' ov' D' ∧ Below B w w' ∧ TKp w w' ∧
      ((e = .returned (.int .i64 0) ∧ (∀ o, o < Os.length → (setL (Base ++ Os.getD o [])).length ≤ 65536) ∧ GS X (DD n0 plc Bs.length Os.length (k + 1) 0) I' ov') ∨ (e = .returned (.int .i64 22) ∧ ∃ o, o < Os.length ∧ 65536 < (setL (Base ++ Os.getD o [])).length))) → PP e w') := fun e w' hh => by rw [← hpp]; exact hh
  clear hpp
  have HJ : Hid (JSt w B G M v pl I ov D) := hJ
  have HS : Hid (GS X (DD n0 plc Bs.length Os.length k 0) I ov) := hS
  have HX : Hid (∀ S ∈ X, setL S = S) := hX
  have HAt : Hid (∀ o, o < Os.length → X[plc k o]? = some (setL (Base ++ Os.getD o []))) := hAt
  have HMono : Hid (∀ o o', o ≤ o' → plc k o ≤ plc k o') := hMono
  have HStep : Hid (∀ j, j < Os.length → ∀ q, DD n0 plc Bs.length Os.length k (j + 1) q ↔ DD n0 plc Bs.length Os.length k j q ∨ q = plc k j) := fun j hj q => dd_step hk hj q
  have HRow : Hid (∀ q, DD n0 plc Bs.length Os.length (k + 1) 0 q ↔ DD n0 plc Bs.length Os.length k Os.length q) := fun q => dd_row q
  have HDin : Hid (∀ j o, o < j → o < Os.length → DD n0 plc Bs.length Os.length k j (plc k o)) := fun j o h1 h2 => Or.inr ⟨k, o, hk, h2, Or.inr ⟨rfl, h1⟩, rfl⟩
  have HBs : Hid (w.ownsRow B 3 1 (.slice ab Base.length cb) Base.length (Base.map (Value.int .i64))) := hb
  have HOs : Hid (OwnL w B (.slice ao Os.length co) Lo Os) := hos
  have HM : Hid (Mks w m vars (fun l => decide (l ∈ Base))) := hM
  have HC1 : Hid (Cl1 vars Base) := hBase
  have HC2 : Hid (∀ o, o < Os.length → Cl1 vars (Os.getD o [])) := fun o ho => hc2 _ (by rw [getD_at _ _ _ ho]; exact List.getElem_mem _)
  have HPl : Hid (∀ o, o < Os.length → plc k o < 4611686018427387904) := hpl
  have HCl : Hid (∀ W, TKp w W → ∀ o, o < Os.length → Calls Tryd.prog 58 #[.int .i64 o, pb, kb] W fun e w' => e = .returned (.int .i64 (plc k o : Int)) ∧ w' = W) := hcl
  have HT : Hid (∀ W, Below B w W → PowT W.heap.size W) := hT
  have hbl := hBase.len
  clear hJ hS hX hO hAt hMono hb hos hM hc hc2 hpl hcl hT hBase hk
  have hmm := @run_makeMap Tryd.prog
  obtain ⟨Dd, hDd⟩ : ∃ Dd : Nat → Nat → Prop, Dd = fun j => DD n0 plc Bs.length Os.length k j := ⟨_, rfl⟩
  have HS0 : Hid (GS X (Dd 0) I ov) := by rw [hDd]; exact HS.out
  have HStp : Hid (∀ j, j < Os.length → ∀ q, Dd (j + 1) q ↔ Dd j q ∨ q = plc k j) := by rw [hDd]; exact HStep.out
  have HEnd : Hid (∀ I ov, GS X (Dd Os.length) I ov → GS X (DD n0 plc Bs.length Os.length (k + 1) 0) I ov) := fun I ov hh => by
    rw [hDd] at hh
    rcases hh with ⟨h1, h2⟩ | h1
    · exact Or.inl ⟨h1, h2.congr HRow.out⟩
    · exact Or.inr h1
  have HIn : Hid (∀ j o, o < j → o < Os.length → Dd j (plc k o)) := by rw [hDd]; exact HDin.out
  have HG0 : Hid (G < w.heap.size ∧ M < w.heap.size) := ⟨(Array.getElem?_eq_some_iff.1 HJ.out.gath.blk).1, HJ.out.gath.map.lt⟩
  have HTk : Hid (∀ j, j < Os.length → ∃ g aj cj, ao = some ⟨g, 0, none⟩ ∧ ∀ W, TKp w W → W.cell? ⟨g, j, none⟩ = some (.slice aj (Os.getD j []).length cj) ∧ Sl W aj cj (Os.getD j [])) := fun j hj => HOs.out.tkAt hj
  clear HS HStep HRow HDin hDd HOs
  generalize hq : Os.length = q at *
  have HL : Aside (Os.length = q) := hq
  clear hq
  obtain ⟨i0, hi, hz0, hz1, hz2⟩ := info_parts Tryd.info3
  go_enter Tryd.func57, Tryd.ntmps57
  go_wp2
  go_loopg [24, 12] q (fun gk s24 s12 wr => ∃ (j nt : Nat) (v : Value) (pl : List Pl) (I : List (List Int × Nat)) (ov : Bool) (D Dt : DataW Unit) (ml : List Int), s24 = .int .i64 j ∧ j + gk = q ∧ Aside (JO w wr B G M X Dd Base Os w.heap.size v pl I ov D Dt s12 ml j nt))
  case atStart =>
    have hal : Below w.heap.size w (w.alloc (.map #[] 0)) := (Below.refl _ _).alloc (Nat.le_refl _) _
    exact ⟨0, 0, v, pl, I, ov, D, .map [], [], rfl, by omega, ⟨HJ.out.below hal, HS0.out, hal.mono hB, TKp.of_below hal, World.ownsRow_nil _ _ _ _, (fun g hg => by cases hg), World.ownsMap_made w _ _ _, Nat.le_refl _, isMap_empty, (fun S hS => by cases hS), Nat.le_refl _, (fun o ho => absurd ho (Nat.not_lt_zero _))⟩⟩
  case round =>
    clear hmm HJ HS0
    obtain ⟨j, nt, v1, pl1, I1, ov1, D1, Dt1, ml0, rfl, hj, H⟩ := hrel
    obtain ⟨W5, hW5⟩ : ∃ W, W = wr := ⟨_, rfl⟩
    subst hW5
    by_cases hlt : j < q
    · obtain ⟨go, aj, cj, rfl, hco⟩ := HTk.out j hlt
      have cj1 := (hco W5 H.out.tk).1
      have HSl : Hid (∀ W, TKp w W → Sl W aj cj (Os.getD j [])) := fun W hW => (hco W hW).2
      have HCj : Hid (Cl1 vars (Os.getD j [])) := HC2.out j hlt
      have HAtj : Hid (X[plc k j]? = some (setL (Base ++ Os.getD j []))) := HAt.out j hlt
      have HLj : Hid ((setL (Base ++ Os.getD j [])).length = Base.length + (moreL Base (Os.getD j [])).length) := join_len HC1.out.set HCj.out.set
      have HTj : Hid (two (setL (Base ++ Os.getD j [])) = bothB Base (Os.getD j [])) := join_two HC1.out.one HCj.out.one
      have HMj : Hid (setL (Base ++ moreL Base (Os.getD j [])) = setL (Base ++ Os.getD j [])) := more_set _ _
      have HOn : Hid (∀ W v pl I ov D Dt mv ml nt, JO w W B G M X Dd Base Os w.heap.size v pl I ov D Dt mv ml j nt → (setL (Base ++ Os.getD j [])).length ≤ 65536 → GS X (Dd (j + 1)) I ov → JO w W B G M X Dd Base Os w.heap.size v pl I ov D Dt mv ml (j + 1) nt) := fun W v pl I ov D Dt mv ml nt h1 h2 h3 => h1.on h2 h3
      have HStj : Hid (∀ q, Dd (j + 1) q ↔ Dd j q ∨ q = plc k j) := HStp.out j hlt
      have HTell : Hid (∀ ml, ml = moreL Base (Os.getD j []) → ml = moreL Base (Os.getD j [])) := fun _ h => h
      have hPlj := HPl.out j hlt
      have hcl := HCj.out.len
      clear hco
      obtain ⟨Cq, hCq⟩ : ∃ C, C = Os.getD j [] := ⟨_, rfl⟩
      have HCq : Hid (Cq = Os.getD j []) := hCq
      rw [← hCq] at cj1 HSl HCj HAtj HLj HTj HMj HOn HTell hcl
      clear hCq
      obtain ⟨am, capm0, hms, _⟩ := own_ints H.out.mrow
      subst hms
      have H2 : Aside (JO w W5 B G M X Dd Base Os w.heap.size v1 pl1 I1 ov1 D1 Dt1 (.slice am 0 capm0) (moreL Base (Cq.take 0)) j nt) := H.out.cut rfl
      clear H
      generalize hcq : Cq.length = cl at *
      have HLc : Aside (Cq.length = cl) := hcq
      clear hcq
      have q1 : (j : Int) < (q : Int) := by omega
      go_wp2
      go_loopg [33, 15, 12] cl (fun gi s33 s15 s12 ws => ∃ (i : Nat), s33 = .int .i64 i ∧ i + gi = cl ∧ s15 = .bool (bothB Base (Cq.take i)) ∧ Aside (JO w ws B G M X Dd Base Os w.heap.size v1 pl1 I1 ov1 D1 Dt1 s12 (moreL Base (Cq.take i)) j nt))
      case atStart => exact ⟨0, rfl, by omega, rfl, H2⟩
      case round =>
        clear H2 cj1
        obtain ⟨i, rfl, hi2, rfl, H⟩ := hrel
        obtain ⟨am, cm, hms, _⟩ := own_ints H.out.mrow
        subst hms
        by_cases hlt2 : i < cl
        · obtain ⟨bz, oz, rfl, hbz, hcz⟩ := (HSl.out wr H.out.tk).ints (by rw [HLc.out]; omega)
          have cz := hcz i (by rw [HLc.out]; exact hlt2)
          have hzam := HCj.out.lits (Cq.getD i 0) (getD_mem (by rw [HLc.out]; exact hlt2))
          have HSn : Hid (moreL Base (Cq.take (i + 1)) = if Cq.getD i 0 ∈ Base then moreL Base (Cq.take i) else moreL Base (Cq.take i) ++ [Cq.getD i 0]) := by rw [take_succ_getD Cq i (by rw [HLc.out]; exact hlt2)]; exact more_snoc _ _ _
          have HBn : Hid (bothB Base (Cq.take (i + 1)) = (bothB Base (Cq.take i) || decide (-Cq.getD i 0 ∈ Base))) := by rw [take_succ_getD Cq i (by rw [HLc.out]; exact hlt2)]; exact both_snoc _ _ _
          have hml : (moreL Base (Cq.take i)).length ≤ i := Nat.le_trans (more_len _ _) (by rw [List.length_take]; exact Nat.min_le_left _ _)
          generalize Cq.getD i 0 = z at *
          have hr := amB_rk hzam
          have hzl := litB_iff.1 hr.1
          have hamn : amB vars (-z) = true := by
            unfold amB at hzam ⊢
            simp only [Bool.and_eq_true, decide_eq_true_eq] at hzam ⊢
            refine ⟨litB_neg hzam.1, ?_⟩
            have := hzam.2
            unfold vr at this ⊢
            split at this <;> split <;> omega
          have hrn := amB_rk hamn
          obtain ⟨arr, a1, a2, a3⟩ := HM.out.tk H.out.tk
          have y1 : wr.cell? ⟨m, (rk z).toNat, none⟩ = some (.bool (decide (z ∈ Base))) := (blk_cell a1 _).trans (a3 z hzam)
          have y2 : wr.cell? ⟨m, (rk (-z)).toNat, none⟩ = some (.bool (decide (-z ∈ Base))) := (blk_cell a1 _).trans (a3 (-z) hamn)
          have HRz : Hid (∀ W, Calls Tryd.prog 52 #[.int .i64 z] W fun e w' => e = .returned (.int .i64 (rk z)) ∧ w' = W) := fun W => rank_any _ W hr.1
          have HRn : Hid (∀ W, Calls Tryd.prog 52 #[.int .i64 (-z)] W fun e w' => e = .returned (.int .i64 (rk (-z))) ∧ w' = W) := fun W => rank_any _ W hrn.1
          have r1 := hr.2.1
          have r2 := hr.2.2
          have r3 := hrn.2.1
          have r4 := hrn.2.2
          have z1 := hzl.2.1
          have z2 := hzl.2.2
          clear hr hrn hzl a1 a2 a3 hzam hamn hcz
          generalize rk z = rz at *
          generalize rk (-z) = rn at *
          have q2 : rz < (nm : Int) := by omega
          have q3 : rn < (nm : Int) := by omega
          have q4 : (i : Int) < (cl : Int) := by omega
          generalize decide (-z ∈ Base) = dn at *
          obtain ⟨dz, hdz⟩ : ∃ b, b = decide (z ∈ Base) := ⟨_, rfl⟩
          rw [← hdz] at y1
          generalize bothB Base (Cq.take i) = t at *
          generalize hbt : bothB Base (Cq.take (i + 1)) = t2 at *
          cases t with
          | true =>
            have ht2 : t2 = true := by rw [HBn.out]; rfl
            subst ht2
            go_wp2_with fail
            refine (HRz.out _).mono ?_
            rintro e w' ⟨rfl, hw⟩
            obtain rfl := hw.symm
            cases dz with
            | true =>
              have HE : Aside (moreL Base (Cq.take (i + 1)) = moreL Base (Cq.take i)) := by have := HSn.out; rw [if_pos (by simpa using hdz.symm)] at this; exact this
              clear hdz
              go_wp2
              go_roundg (cl - i - 1)
              case measure => omega
              case rel => exact ⟨i + 1, by simp, by omega, by rw [hbt], by rw [HE.out]; exact H⟩
            | false =>
              have HE : Aside (moreL Base (Cq.take (i + 1)) = moreL Base (Cq.take i) ++ [z]) := by have := HSn.out; rw [if_neg (by simpa using hdz.symm)] at this; exact this
              have HOr : Hid (wr.ownsRow w.heap.size 3 1 (.slice am (moreL Base (Cq.take i)).length cm) (moreL Base (Cq.take i)).length ((moreL Base (Cq.take i)).map (Value.int .i64))) := H.out.mrow
              have hsz : w.heap.size ≤ wr.heap.size := H.out.tk.size
              clear hdz
              generalize hmq : (moreL Base (Cq.take i)).length = mq at *
              go_wp2_with (at_builtin; refine wpList_append_lies _ rfl _ _ 40 rfl w.heap.size 3 i0 (.int .i64 0) 1 8 Tryd.underlying40 hi hz0 hz1 hz2 rfl (by omega) (.slice am mq cm) mq ((moreL Base (Cq.take i)).map (Value.int .i64)) rfl (HOr.out.alloc _) ⟨wr.heap.size, 0, none⟩ 1 1 [.int .i64 z] rfl rfl (cell_one_new _ _ _) (by intro u hu; simp at hu; subst hu; rfl) (by omega) (by unfold maxLen; omega) (by omega) (by simp; omega) (wr.heap.size + 1) (by simp) ?_; intro gg cap7 w7 hown7 hgrow hat hlt7; have HK7 : Hid (w7.ownsRow w.heap.size 3 1 (.slice (some ⟨gg, 0, none⟩) (mq + 1) cap7) (mq + 1) ((moreL Base (Cq.take i)).map (Value.int .i64) ++ [.int .i64 z]) ∧ (wr.alloc (.cells #[.int .i64 z] 3)).grownBy w7 (Value.slice am mq cm).ownBlock ∧ ((Value.slice am mq cm).ownBlock = some gg ∨ gg = wr.heap.size + 1)) := ⟨hown7, hgrow, hat⟩; clear hown7 hgrow hat)
              go_roundg (cl - i - 1)
              case measure => omega
              case rel =>
                have hal : Below wr.heap.size wr (wr.alloc (.cells #[.int .i64 z] 3)) := (Below.refl _ _).alloc (Nat.le_refl _) _
                have e3 : (moreL Base (Cq.take i) ++ [z]).length = mq + 1 := by rw [List.length_append, hmq]; rfl
                have h9 := (H.out.next hal hB).row (mv' := .slice (some ⟨gg, 0, none⟩) (mq + 1) cap7) (ml' := moreL Base (Cq.take i) ++ [z]) (g := gg) HK7.out.2.1 hB (by rw [e3, List.map_append]; exact HK7.out.1) rfl (by have := HK7.out.2.2; simpa using this)
                exact ⟨i + 1, by simp, by omega, by rw [hbt], by rw [HE.out]; exact h9⟩
          | false =>
            have ht2 : t2 = dn := by rw [HBn.out]; simp
            subst ht2
            go_wp2_with fail
            refine (HRn.out _).mono ?_
            rintro e w' ⟨rfl, hw⟩
            obtain rfl := hw.symm
            go_wp2_with fail
            refine (HRz.out _).mono ?_
            rintro e w' ⟨rfl, hw⟩
            obtain rfl := hw.symm
            cases dz with
            | true =>
              have HE : Aside (moreL Base (Cq.take (i + 1)) = moreL Base (Cq.take i)) := by have := HSn.out; rw [if_pos (by simpa using hdz.symm)] at this; exact this
              clear hdz
              go_wp2
              go_roundg (cl - i - 1)
              case measure => omega
              case rel => exact ⟨i + 1, by simp, by omega, by rw [hbt], by rw [HE.out]; exact H⟩
            | false =>
              have HE : Aside (moreL Base (Cq.take (i + 1)) = moreL Base (Cq.take i) ++ [z]) := by have := HSn.out; rw [if_neg (by simpa using hdz.symm)] at this; exact this
              have HOr : Hid (wr.ownsRow w.heap.size 3 1 (.slice am (moreL Base (Cq.take i)).length cm) (moreL Base (Cq.take i)).length ((moreL Base (Cq.take i)).map (Value.int .i64))) := H.out.mrow
              have hsz : w.heap.size ≤ wr.heap.size := H.out.tk.size
              clear hdz
              generalize hmq : (moreL Base (Cq.take i)).length = mq at *
              go_wp2_with (at_builtin; refine wpList_append_lies _ rfl _ _ 40 rfl w.heap.size 3 i0 (.int .i64 0) 1 8 Tryd.underlying40 hi hz0 hz1 hz2 rfl (by omega) (.slice am mq cm) mq ((moreL Base (Cq.take i)).map (Value.int .i64)) rfl (HOr.out.alloc _) ⟨wr.heap.size, 0, none⟩ 1 1 [.int .i64 z] rfl rfl (cell_one_new _ _ _) (by intro u hu; simp at hu; subst hu; rfl) (by omega) (by unfold maxLen; omega) (by omega) (by simp; omega) (wr.heap.size + 1) (by simp) ?_; intro gg cap7 w7 hown7 hgrow hat hlt7; have HK7 : Hid (w7.ownsRow w.heap.size 3 1 (.slice (some ⟨gg, 0, none⟩) (mq + 1) cap7) (mq + 1) ((moreL Base (Cq.take i)).map (Value.int .i64) ++ [.int .i64 z]) ∧ (wr.alloc (.cells #[.int .i64 z] 3)).grownBy w7 (Value.slice am mq cm).ownBlock ∧ ((Value.slice am mq cm).ownBlock = some gg ∨ gg = wr.heap.size + 1)) := ⟨hown7, hgrow, hat⟩; clear hown7 hgrow hat)
              go_roundg (cl - i - 1)
              case measure => omega
              case rel =>
                have hal : Below wr.heap.size wr (wr.alloc (.cells #[.int .i64 z] 3)) := (Below.refl _ _).alloc (Nat.le_refl _) _
                have e3 : (moreL Base (Cq.take i) ++ [z]).length = mq + 1 := by rw [List.length_append, hmq]; rfl
                have h9 := (H.out.next hal hB).row (mv' := .slice (some ⟨gg, 0, none⟩) (mq + 1) cap7) (ml' := moreL Base (Cq.take i) ++ [z]) (g := gg) HK7.out.2.1 hB (by rw [e3, List.map_append]; exact HK7.out.1) rfl (by have := HK7.out.2.2; simpa using this)
                exact ⟨i + 1, by simp, by omega, by rw [hbt], by rw [HE.out]; exact h9⟩
        · obtain rfl : i = cl := by omega
          have et : Cq.take i = Cq := List.take_of_length_le (by rw [HLc.out]; exact Nat.le_refl _)
          rw [et] at H ⊢
          have hmlc : (moreL Base Cq).length ≤ i := by rw [← HLc.out]; exact more_len _ _
          have HMlit : Hid (∀ x ∈ moreL Base Cq, litB x = true) := fun x hx => (amB_rk (HCj.out.lits x ((mem_more _ _ _).1 hx).1)).1
          have HMset : Hid (SetC (moreL Base Cq)) := setC_more HCj.out.set
          have HMq : Hid (moreL Base Cq = moreL Base (Os.getD j [])) := by rw [← HCq.out]; exact rfl
          have HSlit : Hid (∀ x ∈ setL (Base ++ Cq), litB x = true) := fun x hx => by
            rw [mem_setL, List.mem_append] at hx
            rcases hx with hx | hx
            · exact (amB_rk (HC1.out.lits x hx)).1
            · exact (amB_rk (HCj.out.lits x hx)).1
          have HShj : Hid ((setL (Base ++ Cq)).length ≤ 65536 → (∀ o, o < j → (setL (Base ++ Os.getD o [])).length ≤ 65536) → ∀ o, o < j + 1 → (setL (Base ++ Os.getD o [])).length ≤ 65536) := fun h1 h2 o ho => by
            rcases Nat.lt_succ_iff_lt_or_eq.1 ho with h3 | h3
            · exact h2 o h3
            · rw [h3, ← HCq.out]; exact h1
          have HLong : Hid (65536 < Base.length + (moreL Base Cq).length → ∃ o, o < q ∧ 65536 < (setL (Base ++ Os.getD o [])).length) := fun hh => ⟨j, hlt, by rw [← HCq.out, HLj.out]; exact hh⟩
          have HShort : Hid (¬ 65536 < Base.length + (moreL Base Cq).length → (setL (Base ++ Cq)).length ≤ 65536) := fun hh => by rw [HLj.out]; omega
          have HDup : Hid (∀ I, (∃ o, o < j ∧ moreL Base (Os.getD o []) = moreL Base Cq) → Gst X (Dd j) I → Gst X (Dd (j + 1)) I) := fun I ⟨o, ho, e⟩ hG => by
            refine hG.dup HAtj.out (HIn.out j o ho (by omega)) ?_ (HMono.out o j (by omega)) HStj.out
            rw [HAt.out o (by omega), ← more_set, e, HMj.out]
          generalize hbb : bothB Base Cq = bb at *
          generalize moreL Base Cq = ML at *
          generalize setL (Base ++ Cq) = SS at *
          obtain ⟨am2, cm2, hms2, hIm⟩ := own_ints H.out.mrow
          cases hms2
          have HIm : Hid (Ints wr am ML) := hIm
          clear hIm et
          by_cases hlong : 65536 < Base.length + ML.length
          · have t1 : decide (65536 < Base.length + ML.length) = true := by simpa using hlong
            go_wp2
            exact HPP.out _ _ ⟨v1, pl1, I1, ov1, D1, H.out.jst, H.out.below, H.out.tk, Or.inr ⟨rfl, HLong.out hlong⟩⟩
          · have t1 : decide (65536 < Base.length + ML.length) = false := by simpa using hlong
            have HSh : Hid (SS.length ≤ 65536) := HShort.out hlong
            cases bb with
            | true =>
              have HN : Aside (JO w wr B G M X Dd Base Os w.heap.size v1 pl1 I1 ov1 D1 Dt1 (.slice am ML.length cm) ML (j + 1) nt) := by
                refine HOn.out _ _ _ _ _ _ _ _ _ _ H.out HSh.out ?_
                rcases H.out.gs with ⟨h1, h2⟩ | h1
                · exact Or.inl ⟨h1, h2.skip HAtj.out HTj.out HStj.out⟩
                · exact Or.inr h1
              go_wp2
              go_roundg (q - j - 1)
              case measure => omega
              case rel => exact ⟨j + 1, nt, v1, pl1, I1, ov1, D1, Dt1, ML, by simp, by omega, HN⟩
            | false =>
              have c3 : wr.cell? ⟨G, 3, none⟩ = some (.bool ov1) := blk_cell H.out.jst.gath.blk 3
              cases ov1 with
              | true =>
                have HN : Aside (JO w wr B G M X Dd Base Os w.heap.size v1 pl1 I1 true D1 Dt1 (.slice am ML.length cm) ML (j + 1) nt) := by
                  refine HOn.out _ _ _ _ _ _ _ _ _ _ H.out HSh.out ?_
                  rcases H.out.gs with ⟨h1, h2⟩ | h1
                  · cases h1
                  · exact Or.inr h1
                go_wp2
                go_roundg (q - j - 1)
                case measure => omega
                case rel => exact ⟨j + 1, nt, v1, pl1, I1, true, D1, Dt1, ML, by simp, by omega, HN⟩
              | false =>
                have HGst : Hid (Gst X (Dd j) I1) := by
                  rcases H.out.gs with ⟨h1, h2⟩ | ⟨h1, h2⟩
                  · exact h2
                  · cases h1
                have htl : (txtL ML).length ≤ 22 * ML.length := txtL_len ML HMlit.out
                have HA : Hid (Calls Tryd.prog 24 #[.slice none 0 0, .slice am ML.length cm] wr fun e w' => ∃ v, e = .returned v ∧ w'.ownsRow wr.heap.size 5 1 v (txtL ML).length (Lib.byteCells (txtL ML)) ∧ Below wr.heap.size wr w') :=
                  appendLits_any wr.heap.size (.slice none 0 0) [] am ML cm wr (World.ownsRow_nil _ _ _ _) (Nat.le_refl _) (HT.out wr H.out.below) (fun W hW => HIm.out.below hW) HMlit.out (by simp; omega)
                go_wp2_with fail
                refine HA.out.mono ?_
                rintro e w6 ⟨v6, rfl, ho6, hb6⟩
                have hcv := conv_text ho6
                have H6 : Aside (JO w w6 B G M X Dd Base Os w.heap.size v1 pl1 I1 false D1 Dt1 (.slice am ML.length cm) ML j nt) := H.out.next hb6 hB
                have hkey : keyOf Tryd.prog 9 (.string ⟨(txtL ML).toArray⟩) = some (.string (txtL ML)) := by
                  have h := keyOf_string_mk (P := Tryd.prog) (s := ⟨(txtL ML).toArray⟩) Tryd.underlying9 (by show (txtL ML).toArray.size ≤ maxLen; unfold maxLen; simp; omega)
                  simpa using h
                obtain ⟨vv, pss, hrun, hR⟩ := H6.out.told.look_ok lawT Tryd.underlying69 (zeroT w6) (plainElem_int Tryd.underlying3 (by decide)) hkey
                obtain ⟨cc, rfl, -, -⟩ := plainElem_int_inv Tryd.underlying3 hR
                have HKey : Hid (keyOf Tryd.prog 9 (.string ⟨(txtL ML).toArray⟩) = some (.string (txtL ML))) := hkey
                clear hkey hR ho6 hb6 H c3
                have hntl := H6.out.ntl
                cases hh : Maps.has Dt1 (.string (txtL ML)) with
                | true =>
                  rw [hh] at hrun
                  have HN : Aside (JO w w6 B G M X Dd Base Os w.heap.size v1 pl1 I1 false D1 Dt1 (.slice am ML.length cm) ML (j + 1) nt) := HOn.out _ _ _ _ _ _ _ _ _ _ H6.out HSh.out (Or.inl ⟨rfl, HDup.out _ (H6.out.keys ML hh) HGst.out⟩)
                  clear hh HKey
                  generalize (⟨(txtL ML).toArray⟩ : ByteArray) = tx at *
                  go_wp2
                  go_roundg (q - j - 1)
                  case measure => omega
                  case rel => exact ⟨j + 1, nt, v1, pl1, I1, false, D1, Dt1, ML, by simp, by omega, HN⟩
                | false =>
                  rw [hh] at hrun
                  obtain ⟨w7, hup, hmap7, hgr7⟩ := H6.out.told.update lawT Tryd.underlying69 (by unfold maxLen; omega) HKey.out (plainElem_int (H := Unit) (a := (j : Int)) Tryd.underlying3 (WalkArith.wf_i64 (by omega)))
                  obtain ⟨u1, u2, u3, u4, u5, u6⟩ := H6.out.tell hB HMq.out hgr7 HG0.out.1 HG0.out.2 hmap7
                  have HU : Hid (JSt w7 B G M v1 pl1 I1 false D1 ∧ Below B w w7 ∧ TKp w w7 ∧ w7.ownsRow w.heap.size 3 1 (.slice am ML.length cm) ML.length (ML.map (Value.int .i64)) ∧ IsMap (Dt1.put (.string (txtL ML)) (.lit (.int .i64 j))) ∧ (∀ S, Maps.has (Dt1.put (.string (txtL ML)) (.lit (.int .i64 j))) (.string (txtL S)) = true → ∃ o, o < j + 1 ∧ moreL Base (Os.getD o []) = S)) := ⟨u1, u2, u3, u4, u5, u6⟩
                  have HM7 : Hid (w7.ownsMap Tryd.prog 9 (plainElem Tryd.prog 3) w.heap.size (nt + 1) (Dt1.put (.string (txtL ML)) (.lit (.int .i64 j)))) := hmap7
                  have HUn : Hid (Calls Tryd.prog 39 #[.slice ab Base.length cb, .slice am ML.length cm] w7 fun e w' => ∃ v, e = .returned v ∧ w'.ownsRow w7.heap.size 3 1 v (setL (Base ++ ML)).length ((setL (Base ++ ML)).map (Value.int .i64)) ∧ v ≠ .slice none 0 0 ∧ Below w7.heap.size w7 w') := by
                    obtain ⟨a9, c9, e9, hs9⟩ := own_sl (own_tk HBs.out u3 (by decide) (by decide))
                    cases e9
                    obtain ⟨a8, c8, e8, hs8⟩ := own_sl u4
                    cases e8
                    exact union_any ab am Base ML cb cm w7 hs9 hs8 HC1.out.set HMset.out (fun x hx => (amB_rk (HC1.out.lits x hx)).1) HMlit.out (by omega) (by omega)
                  have hsz7 : w.heap.size ≤ w7.heap.size := u3.size
                  have HAp : Hid (Apart pl1 (.slice am ML.length cm)) := H6.out.apart
                  have HSho : Hid (∀ o, o < j + 1 → (setL (Base ++ Os.getD o [])).length ≤ 65536) := HShj.out HSh.out (fun o ho => H6.out.short o ho)
                  rw [HMj.out] at HUn
                  clear u1 u2 u3 u4 u5 u6 hmap7 hgr7 hh HKey H6
                  generalize (⟨(txtL ML).toArray⟩ : ByteArray) = tx at *
                  go_wp2_with fail
                  refine HUn.out.mono ?_
                  rintro e w8 ⟨v8, rfl, ho8, -, hb8⟩
                  obtain ⟨a8, c8, rfl, _⟩ := own_ints ho8
                  have hb8B : Below B w w8 := HU.out.2.1.trans (hb8.mono (Nat.le_trans hB hsz7))
                  have htk8 : TKp w w8 := HU.out.2.2.1.next hb8
                  have H8 : Hid (JSt w8 B G M v1 pl1 I1 false D1 ∧ Below B w w8 ∧ TKp w w8 ∧ w8.ownsRow w.heap.size 3 1 (.slice am ML.length cm) ML.length (ML.map (Value.int .i64)) ∧ w8.ownsMap Tryd.prog 9 (plainElem Tryd.prog 3) w.heap.size (nt + 1) (Dt1.put (.string (txtL ML)) (.lit (.int .i64 j)))) := ⟨HU.out.1.below hb8, hb8B, htk8, own_below HU.out.2.2.2.1 hb8, map_below HM7.out hb8⟩
                  have HX8 : Hid (w8.ownsRow w7.heap.size 3 1 (.slice a8 SS.length c8) SS.length (SS.map (Value.int .i64))) := ho8
                  have HPc : Hid (Calls Tryd.prog 58 #[.int .i64 j, pb, kb] w8 fun e w' => e = .returned (.int .i64 (plc k j : Int)) ∧ w' = w8) := HCl.out w8 htk8 j hlt
                  have HAd : Hid (Calls Tryd.prog 32 #[.pointer (some ⟨G, 0, none⟩), .slice a8 SS.length c8, .int .i64 (plc k j : Nat)] w8 (AddPost w8 B G M v1 pl1 (.slice a8 SS.length c8) X (Dd (j + 1)))) :=
                    add_j B G M v1 pl1 I1 D1 X (Dd j) (Dd (j + 1)) (plc k j) SS a8 c8 w8 H8.out.1 HGst.out HX.out hPlj HAtj.out HTj.out (own_up ho8 (Nat.le_trans hB hsz7)) HSlit.out HSh.out (HT.out w8 hb8B) (Nat.le_trans hB htk8.size) HStj.out
                  have hap8 : ∀ g, (Value.slice am ML.length cm).ownBlock = some g → (Value.slice a8 SS.length c8).ownBlock ≠ some g := fun g hg e => by
                    have h1 := (HU.out.2.2.2.1.lt g hg).2
                    have h2 := (ho8.lt g e).1
                    omega
                  have HAp8 : Hid (∀ g, (Value.slice am ML.length cm).ownBlock = some g → (Value.slice a8 SS.length c8).ownBlock ≠ some g) := hap8
                  clear hap8 ho8 hb8 hb8B htk8 hup hrun hcv
                  generalize hpj : plc k j = pj at *
                  go_wp2_with fail
                  refine HPc.out.mono ?_
                  rintro e w' ⟨rfl, hw⟩
                  obtain rfl := hw.symm
                  go_wp2_with fail
                  refine HAd.out.mono ?_
                  rintro e w9 ⟨rfl, v9, pl9, I9, ov9, D9, hJ9, hG9, hK9, hp9⟩
                  have HN : Aside (JO w w9 B G M X Dd Base Os w.heap.size v9 pl9 I9 ov9 D9 (Dt1.put (.string (txtL ML)) (.lit (.int .i64 j))) (.slice am ML.length cm) ML (j + 1) (nt + 1)) := by
                    refine ⟨hJ9, hG9, hK9.below H8.out.1.gath H8.out.2.1 (Nat.le_trans hB H8.out.2.2.1.size), H8.out.2.2.1.trans (TKp.of_gk hK9 H8.out.1.gath), row_gkept H8.out.2.2.2.1 hK9 H8.out.1.gath, ?_, ?_, Nat.le_refl _, HU.out.2.2.2.2.1, HU.out.2.2.2.2.2, by omega, HSho.out⟩
                    · intro g hg p hp
                      rcases hp9 p hp with h1 | h1
                      · obtain ⟨p0, hp0, e0⟩ := List.mem_map.1 h1
                        rw [← e0]
                        exact HAp.out g hg p0 hp0
                      · rw [h1]
                        exact HAp8.out g hg
                    · have ho := H8.out.2.2.2.2
                      have hlt9 := ho.lt
                      have hn3 := row_ne_map H8.out.1.gath.row ho
                      obtain ⟨es, clock, m1, m2⟩ := ho
                      have hg1 := HG0.out.1
                      have hg2 := HG0.out.2
                      exact ⟨es, clock, (hK9.block w.heap.size hlt9 (by omega) (by omega) (fun e => hn3 e.symm)).trans m1, m2⟩
                  clear hJ9 hG9 hK9 hp9
                  go_wp2
                  go_roundg (q - j - 1)
                  case measure => omega
                  case rel => exact ⟨j + 1, nt + 1, v9, pl9, I9, ov9, D9, _, ML, by simp, by omega, HN⟩
    · obtain rfl : j = q := by omega
      go_wp2
      exact HPP.out _ _ ⟨v1, pl1, I1, ov1, D1, H.out.jst, H.out.below, H.out.tk, Or.inl ⟨rfl, H.out.short, HEnd.out _ _ H.out.gs⟩⟩
end Go.Proofs.YtokpjegiinggdaaDoor
