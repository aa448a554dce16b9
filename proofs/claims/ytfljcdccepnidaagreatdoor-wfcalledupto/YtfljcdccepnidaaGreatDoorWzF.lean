import Derived.Test.YtfljcdccepnidaaGreatDoorWyB
import Derived.Test.YtfljcdccepnidaaGreatDoorWzD
import Derived.Test.YtfljcdccepnidaaGreatDoorWzE
namespace Go.Proofs.YtfljcdccepnidaaGreatDoor
open Go.ChangeShapes Go.WideShapes Go.ChangeAt Go.RowKit Go.Lib

section
variable (a b : ByteArray)
def rnD (d : Dd) : Dd := { d with s := rn a b d.s }
def rnT (t : Th) : Th := { t with s := rn a b t.s,lp := t.lp.map (rn a b) }
def rnP (p : Pg) : Pg := { p with Ds := p.Ds.map (rnD a b),Bs := p.Bs.map (fun S => S.map (rnS a b)) }
def nB (s : ByteArray) : Prop := (s.toList == b.toList) = false
end
section
variable {a b : ByteArray}
theorem rn_eq {s t : ByteArray} (hs : nB b s) (ht : nB b t) : ((rn a b s).toList == (rn a b t).toList) = (s.toList == t.toList) := by
  unfold nB at hs ht; unfold rn
  by_cases h1 : (s.toList == a.toList) = true
  · rw [if_pos h1]
    by_cases h2 : (t.toList == a.toList) = true
    · rw [if_pos h2]
      have e1 : s.toList = a.toList := by simpa using h1
      have e2 : t.toList = a.toList := by simpa using h2
      simp [e1,e2]
    rw [if_neg h2]; have e1 : s.toList = a.toList := by simpa using h1
    have e2 : ¬ t.toList = a.toList := by simpa using h2
    have e3 : ¬ t.toList = b.toList := by simpa using ht
    rw [e1,show (b.toList == t.toList) = false by simpa using (fun e => e3 e.symm),show (a.toList == t.toList) = false by simpa using (fun e => e2 e.symm)]
  rw [if_neg h1]
  by_cases h2 : (t.toList == a.toList) = true
  · rw [if_pos h2]
    have e2 : t.toList = a.toList := by simpa using h2
    have e1 : ¬ s.toList = a.toList := by simpa using h1
    have e3 : ¬ s.toList = b.toList := by simpa using hs
    rw [e2,show (s.toList == b.toList) = false by simpa using e3,show (s.toList == a.toList) = false by simpa using e1]
  rw [if_neg h2]
theorem hasB_rn {lp : List ByteArray} {s : ByteArray} (hl : ∀ x ∈ lp,nB b x) (hs : nB b s) : hasB (lp.map (rn a b)) (rn a b s) = hasB lp s := by
  unfold hasB
  induction lp with
  | nil => rfl
  | cons x r ih =>
    simp only [List.map_cons,List.any_cons]; rw [ih (fun y hy => hl y (List.mem_cons_of_mem _ hy)),rn_eq (hl x (List.mem_cons_self ..)) hs]
theorem dix_rn {Ds : List Dd} {s : ByteArray} (hD : ∀ d ∈ Ds,nB b d.s) (hs : nB b s) : dix (Ds.map (rnD a b)) (rn a b s) = dix Ds s := by
  unfold dix; rw [List.findIdx?_map]
  induction Ds with
  | nil => rfl
  | cons d r ih =>
    rw [List.findIdx?_cons,List.findIdx?_cons,ih (fun y hy => hD y (List.mem_cons_of_mem _ hy))]; have : ((fun d : Dd => d.s.toList == (rn a b s).toList) ∘ rnD a b) d = (d.s.toList == s.toList) := rn_eq (hD d (List.mem_cons_self ..)) hs; rw [this]
theorem getD_rn (Ds : List Dd) (j : Nat) (hj : j < Ds.length) : (Ds.map (rnD a b)).getD j dd0 = rnD a b (Ds.getD j dd0) := by
  rw [getD_of (by simpa using hj),getD_of hj]
  simp
theorem mean_rn {Ds : List Dd} {lp : List ByteArray} {s : ByteArray} (hD : ∀ d ∈ Ds,nB b d.s) (hl : ∀ x ∈ lp,nB b x) (hs : nB b s) : mean (Ds.map (rnD a b)) (lp.map (rn a b)) (rn a b s) = mean Ds lp s := by
  unfold mean; rw [hasB_rn hl hs,dix_rn hD hs]
  split
  · rfl
  cases e : dix Ds s with
  | none => rfl
  | some j =>
    dsimp only
    rw [getD_rn Ds j (dix_lt e)]
    rfl
def nT (b : ByteArray) (t : Th) : Prop := nB b t.s /\ ∀ x ∈ t.lp,nB b x
theorem thE_rn (lp : List ByteArray) (L : List Nd) : thE (lp.map (rn a b)) (L.map (rnN a b)) = (thE lp L).map (rnT a b) := by
  cases L with
  | nil => rfl
  | cons d r =>
    simp only [thE,List.map_cons,List.map_map]
    rfl
theorem headK (L : List Nd) : ((L.map (rnN a b)).headD nd0).k = (L.headD nd0).k := by cases L <;> rfl
theorem oE_rn (lp : List ByteArray) (L : List Nd) : oE (lp.map (rn a b)) (L.map (rnN a b)) = (oE lp L).map (rnT a b) := by
  unfold oE; rw [headK,thE_rn]
  split <;> rfl
theorem sth_rn (dp : Nat) (lp : List ByteArray) (d : Sd) : sth dp (lp.map (rn a b)) (rnS a b d) = (sth dp lp d).map (rnT a b) := by
  have h1 := oE_rn (a := a) (b := b) lp d.A; have h2 := oE_rn (a := a) (b := b) lp d.E; simp only [sth,List.map_cons,List.map_append]; rw [<- h1,<- h2]
  rfl
theorem lpI_rn (d : Sd) (lp : List ByteArray) : lpI (rnS a b d) (lp.map (rn a b)) = (lpI d lp).map (rn a b) := by
  unfold lpI
  show (if d.k = 4 then _ else _) = _
  split <;> rfl
def rnC (a b : ByteArray) (st : List (Nat × Nat × List ByteArray)) : List (Nat × Nat × List ByteArray) := st.map (fun e => (e.1,e.2.1,e.2.2.map (rn a b)))
theorem cen_rn (n dp : Nat) (lp : List ByteArray) (st : List (Nat × Nat × List ByteArray)) : cen n dp (lp.map (rn a b)) (rnC a b st) = rnC a b (cen n dp lp st) := by
  unfold cen
  split <;> rfl
theorem thS_rn : ∀ (L : List Sd) (st : List (Nat × Nat × List ByteArray)),thS (L.map (rnS a b)) (rnC a b st) = (thS L st).map (rnT a b)
  | [],_ => rfl
  | _ :: _,[] => rfl
  | d :: r,(c,dp,lp) :: st => by
    have h := thS_rn r (cen d.mT (dp + 1) (lpI d lp) (cen d.mE (dp + 1) lp (cen (c - 1) dp lp st))); rw [<- cen_rn,<- cen_rn,<- cen_rn,<- lpI_rn] at h
    show sth dp (lp.map (rn a b)) (rnS a b d) ++ thS (r.map (rnS a b)) _ = _
    rw [sth_rn]; simp only [thS,List.map_append]; rw [<- h]
    rfl
theorem thP_rn (p : Pg) : thP (rnP a b p) = (thP p).map (rnT a b) := by
  unfold thP; rw [List.map_append]
  congr 1
  · simp only [rnP,List.map_map]
    rfl
  have hf : bflat (ent (rnP a b p).Bs 1 [] []) = (bflat (ent p.Bs 1 [] [])).map (rnS a b) := by
    rw [bflat_ent,bflat_ent]; simp only [rnP,bflat,List.map_nil,List.flatten_nil,List.append_nil,List.map_flatten]
  have hc : bcnt (ent (rnP a b p).Bs 1 [] []) = rnC a b (bcnt (ent p.Bs 1 [] [])) := by
    rw [bcnt_ent,bcnt_ent,<- cen_rn]; simp only [rnP,List.length_map,List.map_nil]
    rfl
  unfold remT; rw [hf,hc,thS_rn]
theorem fv_rn {v v' : Nat -> Th -> Bool} {A : List Th} (h : ∀ j t,t ∈ A -> v' j (rnT a b t) = v j t) : fv v' 0 (A.map (rnT a b)) = fv v 0 A := by
  refine (fv_congr (by simp) (fun j t t' ht ht' => ?_)).symm; rw [List.getElem?_map,ht] at ht'; cases ht'; exact (h _ t (List.mem_of_getElem? ht)).symm
set_option maxRecDepth 100000 in
theorem rr_rn {fb : Bool} {p : Pg} (hD : ∀ d ∈ p.Ds,nB b d.s) (hT : ∀ t ∈ thP p,nT b t) (hv : ∀ S ∈ p.Bs,vS (S.map (rnS a b)) = vS S) (hin : inS (p.Ds.map (rnD a b)) = inS p.Ds) : ∀ i,i < 16 -> RR fb (rnP a b p) i = RR fb p i := by
  intro i hi; have hl : (rnP a b p).Ds.length = p.Ds.length := by simp [rnP]
  have hm : (rnP a b p).Ds.map thD = (p.Ds.map thD).map (rnT a b) := by simp only [rnP,List.map_map]; rfl
  have hg : ∀ j,j < p.Ds.length -> (rnP a b p).Ds.getD j dd0 = rnD a b (p.Ds.getD j dd0) := fun j hj => getD_rn p.Ds j hj
  have hx : ∀ {v v' : Nat -> Th -> Bool},(∀ j,j < p.Ds.length -> v' j (thD (rnD a b (p.Ds.getD j dd0))) = v j (thD (p.Ds.getD j dd0))) -> fv v' 0 ((rnP a b p).Ds.map thD) = fv v 0 (p.Ds.map thD) := fun {v v'} h => by
    refine (fv_congr (by simp [rnP]) (fun j t t' ht ht' => ?_)).symm; rw [hm,List.getElem?_map,ht] at ht'; cases ht'; rw [List.getElem?_map] at ht; obtain ⟨d,hd,rfl⟩ := Option.map_eq_some_iff.1 ht; obtain ⟨hj,e⟩ := List.getElem?_eq_some_iff.1 hd; have h5 := h j hj; rw [getD_of hj,e] at h5; rw [Nat.zero_add]; exact h5.symm
  have hc : i = 0 ∨ i = 1 ∨ i = 2 ∨ i = 3 ∨ i = 4 ∨ i = 5 ∨ i = 6 ∨ i = 7 ∨ i = 8 ∨ i = 9 ∨ i = 10 ∨ i = 11 ∨ i = 12 ∨ i = 13 ∨ i = 14 ∨ i = 15 := by omega
  rcases hc with rfl | rfl | rfl | rfl | rfl | rfl | rfl | rfl | rfl | rfl | rfl | rfl | rfl | rfl | rfl | rfl
  · rw [RR0,RR0]
  · rw [RR1,RR1]; rfl
  · rw [RR2,RR2]; rfl
  · rw [RR3,RR3,hl]
  · rw [RR4,RR4]
    congr 1
    refine hx (fun j hj => ?_); unfold vio5
    show ((((dix (p.Ds.map (rnD a b)) (rn a b (p.Ds.getD j dd0).s)).getD 0 : Nat) : Int) != _) = _
    rw [dix_rn hD (hD _ (getD_memD hj))]
    rfl
  · rw [RR5,RR5]
    congr 1
    refine hx (fun j hj => ?_); unfold vio6; rw [hg j hj]
    rfl
  · rw [RR6,RR6]
    congr 1
    refine hx (fun j hj => ?_); unfold vio7; rw [hg j hj]
    rfl
  · rw [RR7,RR7]
    congr 1
    refine hx (fun j hj => ?_); unfold vio8; rw [hg j hj]
    rfl
  · rw [RR8,RR8]
    show (if decide (4096 < inS (p.Ds.map (rnD a b))) then _ else _) = _
    rw [hin]
  · rw [RRx9,RRx9,thP_rn]
    congr 1
    exact fv_rn (fun j t ht => rfl)
  · rw [RRx10,RRx10,thP_rn]
    congr 1
    refine fv_rn (fun j t ht => ?_); unfold vio11 v11
    show (tkT t != 0 && mean (p.Ds.map (rnD a b)) (t.lp.map (rn a b)) (rn a b t.s) == 0) = _
    rw [mean_rn hD (hT t ht).2 (hT t ht).1]
  · rw [RRx11,RRx11,thP_rn]
    congr 1
    refine fv_rn (fun j t ht => ?_); unfold vio12 v12
    show (tkT t != 0 && bits .and .i64 (tkT t) (mean (p.Ds.map (rnD a b)) (t.lp.map (rn a b)) (rn a b t.s)) == 0) = _
    rw [mean_rn hD (hT t ht).2 (hT t ht).1]
  · rw [RRx12,RRx12,thP_rn]
    congr 1
    exact fv_rn (fun j t ht => rfl)
  · rw [RRx13,RRx13,thP_rn]
    congr 1
    exact fv_rn (fun j t ht => rfl)
  · rw [RRx14,RRx14,thP_rn]
    congr 1
    refine fv_rn (fun j t ht => ?_); unfold vio15 v15
    show (if t.is = 1 then (t.k == 4 && mean (p.Ds.map (rnD a b)) (t.lp.map (rn a b)) (rn a b t.s) != 0) else false) = _
    rw [mean_rn hD (hT t ht).2 (hT t ht).1]
  rw [RRx15,RRx15]; have : (rnP a b p).Bs.map vS = p.Bs.map vS := by
    simp only [rnP,List.map_map]; exact List.map_congr_left (fun S hS => hv S hS)
  rw [this]
theorem stR_rn (d : Sd) (T E : List Nat) : stR (rnS a b d) T E = stR d T E := by
  unfold stR; simp only [rnS,List.length_map]
  rfl
theorem vS_rn (S : List Sd) : vS (S.map (rnS a b)) = vS S := by
  unfold vS
  congr 1
  induction S with
  | nil => rfl
  | cons d r ih =>
    simp only [List.map_cons,List.foldr_cons,ih]; unfold gS; rw [stR_rn]
    rfl
theorem inS_rn (Ds : List Dd) : inS (Ds.map (rnD a b)) = inS Ds := by
  unfold inS; rw [List.map_map]
  congr 1
theorem ans_rn {p : Pg} (hD : ∀ d ∈ p.Ds,nB b d.s) (hT : ∀ t ∈ thP p,nT b t) (hk : ∀ i,i < 16 -> RR true p i = none) : FAns true (rnP a b p) 0 0 0 /\ cs7 ((rnP a b p).Bs.map vS) = cs7 (p.Bs.map vS) := by
  refine ⟨Or.inl ⟨rfl,rfl,rfl,fun i hi => ?_⟩,?_⟩
  · rw [rr_rn hD hT (fun S _ => vS_rn S) (inS_rn p.Ds) i hi]; exact hk i hi
  congr 1
  simp only [rnP,List.map_map]; exact List.map_congr_left (fun S hS => vS_rn S)
end
end Go.Proofs.YtfljcdccepnidaaGreatDoor
namespace Go.Proofs.YtfljcdccepnidaaGreatDoor
open Go.ChangeShapes Go.WideShapes Go.ChangeAt Go.RowKit Go.Lib

section
variable {a b : ByteArray}
def nS (b : ByteArray) (d : Sd) : Prop := nB b d.s /\ (∀ x ∈ d.A,nB b x.s) /\ ∀ x ∈ d.E,nB b x.s
theorem thE_n {lp : List ByteArray} {L : List Nd} (hl : ∀ x ∈ lp,nB b x) (h : ∀ x ∈ L,nB b x.s) : ∀ t ∈ thE lp L,nT b t := by
  intro t ht; cases L with
  | nil => cases ht
  | cons d r =>
    rcases List.mem_cons.1 ht with rfl | ht
    · exact ⟨h d (List.mem_cons_self ..),hl⟩
    obtain ⟨x,hx,rfl⟩ := List.mem_map.1 ht; exact ⟨h x (List.mem_cons_of_mem _ hx),hl⟩
theorem oE_n {lp : List ByteArray} {L : List Nd} (hl : ∀ x ∈ lp,nB b x) (h : ∀ x ∈ L,nB b x.s) : ∀ t ∈ oE lp L,nT b t := by
  intro t ht; unfold oE at ht
  split at ht
  · cases ht
  exact thE_n hl h t ht
theorem cen_n {n dp : Nat} {lp : List ByteArray} {st : List (Nat × Nat × List ByteArray)} (hl : ∀ x ∈ lp,nB b x) (h : ∀ e ∈ st,∀ x ∈ e.2.2,nB b x) : ∀ e ∈ cen n dp lp st,∀ x ∈ e.2.2,nB b x := by
  intro e he; unfold cen at he
  split at he
  · exact h e he
  rcases List.mem_cons.1 he with rfl | he
  · exact hl
  exact h e he
theorem thS_n : ∀ (L : List Sd) (st : List (Nat × Nat × List ByteArray)),(∀ d ∈ L,nS b d) -> (∀ e ∈ st,∀ x ∈ e.2.2,nB b x) -> ∀ t ∈ thS L st,nT b t
  | [],_,_,_ => fun t ht => by cases ht
  | _ :: _,[],_,_ => fun t ht => by cases ht
  | d :: r,(c,dp,lp) :: st,hL,hs => fun t ht => by
    have hd := hL d (List.mem_cons_self ..); have hl : ∀ x ∈ lp,nB b x := hs (c,dp,lp) (List.mem_cons_self ..); have hs' : ∀ e ∈ st,∀ x ∈ e.2.2,nB b x := fun e he => hs e (List.mem_cons_of_mem _ he)
    have ht' : t ∈ sth dp lp d ++ thS r (cen d.mT (dp + 1) (lpI d lp) (cen d.mE (dp + 1) lp (cen (c - 1) dp lp st))) := ht
    rcases List.mem_append.1 ht' with h | h
    · rcases List.mem_cons.1 h with rfl | h
      · exact ⟨hd.1,hl⟩
      rcases List.mem_append.1 h with h | h
      · exact oE_n hl hd.2.1 t h
      exact oE_n hl hd.2.2 t h
    refine thS_n r _ (fun x hx => hL x (List.mem_cons_of_mem _ hx)) ?_ t h; refine cen_n ?_ (cen_n hl (cen_n hl hs')); unfold lpI
    split
    · intro x hx
      rcases List.mem_cons.1 hx with rfl | hx
      · exact hd.1
      exact hl x hx
    exact hl
theorem thP_n {p : Pg} (hD : ∀ d ∈ p.Ds,nB b d.s) (hB : ∀ d ∈ p.Bs.flatten,nS b d) : ∀ t ∈ thP p,nT b t := by
  intro t ht
  rcases List.mem_append.1 ht with h | h
  · obtain ⟨d,hd,rfl⟩ := List.mem_map.1 h
    exact ⟨hD d hd,fun x hx => by cases hx⟩
  refine thS_n _ _ ?_ ?_ t h
  · rw [bflat_ent]
    intro d hd; rw [show bflat [] = ([] : List Sd) from rfl,List.append_nil] at hd; exact hB d hd
  rw [bcnt_ent]; exact cen_n (fun x hx => by cases hx) (fun e he => by cases he)
theorem rn_zero {s : ByteArray} (ha : a.size ≠ 0) (h : s.size = 0) : rn a b s = s := by
  unfold rn; rw [if_neg]; intro e; have e2 : s.toList = a.toList := by simpa using e
  have e3 := congrArg List.length e2; rw [ByteArray.toList_eq,ByteArray.toList_eq] at e3; have e4 : s.size = a.size := e3
  omega
theorem rn_name {s : ByteArray} (hb : Lf.nameB b = true) (h : Lf.nameB s = true) : Lf.nameB (rn a b s) = true := by
  unfold rn
  split
  · exact hb
  exact h
theorem rn_nb {s : ByteArray} (hb : NB b) (h : NB s) : NB (rn a b s) := by
  unfold rn
  split
  · exact hb
  exact h
theorem okNd_rn {d : Nd} (ha : a.size ≠ 0) (hb : Lf.nameB b = true) (h : okNd d) : okNd (rnN a b d) := by
  obtain ⟨h1,h2,h3⟩ := h; refine ⟨h1,?_,h3⟩
  show (if d.k = 2 ∨ d.k = 3 then Lf.nameB (rn a b d.s) = true else (rn a b d.s).size = 0)
  by_cases hk : d.k = 2 ∨ d.k = 3
  · rw [if_pos hk] at h2 ⊢
    exact rn_name hb h2
  rw [if_neg hk] at h2 ⊢; rw [rn_zero ha h2]; exact h2
theorem neL_rn {L : List Nd} (ha : a.size ≠ 0) (h : neL L) : neL (L.map (rnN a b)) := by
  cases L with
  | nil => exact h
  | cons d r =>
    obtain ⟨h1,h2,h3,h4⟩ := h; have h3' : d.s.size = 0 := h3; exact ⟨h1,h2,by show (rn a b d.s).size = 0; rw [rn_zero ha h3']; exact h3',h4⟩
theorem ok_rn {p : Pg} (ha : a.size ≠ 0) (hb : Lf.nameB b = true) (h : okPf p) : okPf (rnP a b p) := by
  obtain ⟨h1,h2,h3,h4,h5⟩ := h; refine ⟨h1,h2,h3,fun d hd => ?_,fun d hd => ?_⟩
  · obtain ⟨x,hx,rfl⟩ := List.mem_map.1 hd
    obtain ⟨g1,g2,g3,g4,g5⟩ := h4 x hx; exact ⟨g1,rn_name hb g2,g3,g4,g5⟩
  have hd' : d ∈ (p.Bs.flatten).map (rnS a b) := by
    have e : (rnP a b p).Bs.flatten = (p.Bs.flatten).map (rnS a b) := by simp only [rnP,List.map_flatten]
    rw [<- e]; exact hd
  obtain ⟨x,hx,rfl⟩ := List.mem_map.1 hd'; obtain ⟨g1,g2,g3,g4,g5,g6,g7⟩ := h5 x hx; refine ⟨g1,?_,?_,?_,g5,g6,g7⟩
  · show (if x.k = 3 then (rn a b x.s).size = 0 else Lf.nameB (rn a b x.s) = true)
    by_cases hk : x.k = 3
    · rw [if_pos hk] at g2 ⊢
      rw [rn_zero ha g2]; exact g2
    rw [if_neg hk] at g2 ⊢; exact rn_name hb g2
  · show (if x.k = 2 then ∀ y ∈ x.A.map (rnN a b),okNd y else neL (x.A.map (rnN a b)))
    by_cases hk : x.k = 2
    · rw [if_pos hk] at g3 ⊢
      intro y hy; obtain ⟨z,hz,rfl⟩ := List.mem_map.1 hy; exact okNd_rn ha hb (g3 z hz)
    rw [if_neg hk] at g3 ⊢; exact neL_rn ha g3
  show (if x.k <= 3 then ∀ y ∈ x.E.map (rnN a b),okNd y else neL (x.E.map (rnN a b)))
  by_cases hk : x.k <= 3
  · rw [if_pos hk] at g4 ⊢
    intro y hy; obtain ⟨z,hz,rfl⟩ := List.mem_map.1 hy; exact okNd_rn ha hb (g4 z hz)
  rw [if_neg hk] at g4 ⊢; exact neL_rn ha g4
theorem wtS_rn (L : List Sd) : wtS (L.map (rnS a b)) = wtS L := by
  induction L with
  | nil => rfl
  | cons d r ih => simp only [List.map_cons,wtS,ih,rnS,List.length_map]
theorem rg_rn {p : Pg} (hb : NB b) (h : RG p) : RG (rnP a b p) := by
  have e : (rnP a b p).Bs.flatten = (p.Bs.flatten).map (rnS a b) := by simp only [rnP,List.map_flatten]
  have hm : ∀ d ∈ (rnP a b p).Bs.flatten,∃ x ∈ p.Bs.flatten,d = rnS a b x := fun d hd => by
    rw [e] at hd; obtain ⟨x,hx,rfl⟩ := List.mem_map.1 hd; exact ⟨x,hx,rfl⟩
  refine ⟨?_,by rw [e,wtS_rn]; exact h.ws,h.nm,fun i => ?_,fun d hd => ?_,h.ln,h.wd,fun d hd => ?_,fun d hd => ?_,fun d hd => ?_,fun d hd => ?_⟩
  · have h5 := h.wt
    rw [wtD_map] at h5 ⊢
    show (((p.Ds.map (rnD a b)).map (fun d => 1 + d.vs.length)).sum) <= _
    rw [List.map_map]; exact h5
  · by_cases hi : i < p.Ds.length
    · show NB ((p.Ds.map (rnD a b)).getD i dd0).s
      rw [getD_rn p.Ds i hi]; exact rn_nb hb (h.nd i)
    rw [out_of (by simpa [rnP] using hi)]; unfold NB
    decide
  · obtain ⟨x,hx,rfl⟩ := hm d hd
    obtain ⟨g1,g2,g3⟩ := h.ns x hx; refine ⟨rn_nb hb g1,fun y hy => ?_,fun y hy => ?_⟩
    · obtain ⟨z,hz,rfl⟩ := List.mem_map.1 hy
      exact rn_nb hb (g2 z hz)
    obtain ⟨z,hz,rfl⟩ := List.mem_map.1 hy; exact rn_nb hb (g3 z hz)
  · obtain ⟨x,hx,rfl⟩ := List.mem_map.1 hd
    exact h.dz x hx
  · obtain ⟨x,hx,rfl⟩ := List.mem_map.1 hd
    exact h.dv x hx
  · obtain ⟨x,hx,rfl⟩ := hm d hd
    exact h.lo x hx
  obtain ⟨x,hx,rfl⟩ := hm d hd; refine ⟨fun y hy => ?_,fun y hy => ?_⟩
  · obtain ⟨z,hz,rfl⟩ := List.mem_map.1 hy
    exact (h.ax x hx).1 z hz
  obtain ⟨z,hz,rfl⟩ := List.mem_map.1 hy; exact (h.ax x hx).2 z hz
theorem ds_rn {p : Pg} (hr : RR true p 4 = none) {k : Nat} (hk : k < p.Ds.length) (ha : (p.Ds.getD k dd0).s = a) : ∀ j,j < p.Ds.length -> (p.Ds.map (rnD a b)).getD j dd0 = if j = k then { p.Ds.getD j dd0 with s := b } else p.Ds.getD j dd0 := by
  have h7 : fv (vio5 p) 0 (p.Ds.map thD) = none := by
    rw [RR4] at hr; cases e : fv (vio5 p) 0 (p.Ds.map thD) with
    | none => rfl
    | some q => rw [e] at hr; cases hr
  have hd : ∀ j,j < p.Ds.length -> (dix p.Ds (p.Ds.getD j dd0).s).getD 0 = j := fun j hj => by
    have h8 := fv_none _ _ _ h7 j (thD (p.Ds.getD j dd0)) (by rw [List.getElem?_map,List.getD_eq_getElem?_getD,List.getElem?_eq_getElem hj]; rfl); rw [Nat.zero_add] at h8; unfold vio5 at h8; have h9 : (((dix p.Ds (thD (p.Ds.getD j dd0)).s).getD 0 : Nat) : Int) = (j : Int) := by simpa using h8
    have h10 : (thD (p.Ds.getD j dd0)).s = (p.Ds.getD j dd0).s := rfl; rw [h10] at h9
    omega
  intro j hj; rw [getD_rn p.Ds j hj]
  by_cases e : j = k
  · subst e
    rw [if_pos rfl]; unfold rnD rn; rw [ha,if_pos (by simp)]
  rw [if_neg e]; unfold rnD rn; rw [if_neg]; intro e2; have e3 : (p.Ds.getD j dd0).s.toList = a.toList := by simpa using e2
  have e4 : dix p.Ds (p.Ds.getD j dd0).s = dix p.Ds (p.Ds.getD k dd0).s := by
    unfold dix; rw [e3,ha]
  have e5 := hd j hj; rw [e4,hd k hk] at e5; exact e e5.symm
end
end Go.Proofs.YtfljcdccepnidaaGreatDoor
namespace Go.Proofs.YtfljcdccepnidaaGreatDoor
open Go.ChangeShapes Go.WideShapes Go.ChangeAt Go.RowKit Go.Lib

def anyS (s : ByteArray) (d : Sd) : Bool := d.s.toList == s.toList || (anyN s d.A || anyN s d.E)
def anyB (s : ByteArray) (L : List Sd) : Bool := L.any (anyS s)
theorem anyB_flat (s : ByteArray) (Bs : List (List Sd)) (j : Nat) (hj : j < Bs.length) : anyB s (Bs.take (j + 1)).flatten = (anyB s (Bs.take j).flatten || anyB s (Bs.getD j [])) := by
  unfold anyB; rw [btake_flat hj,List.any_append]
theorem anyB_in (s : ByteArray) (Bs : List (List Sd)) (j : Nat) (hj : j < Bs.length) (h : anyB s (Bs.getD j []) = true) : anyB s Bs.flatten = true := by
  unfold anyB at h ⊢; rw [List.any_eq_true] at h ⊢; obtain ⟨d,hd,e⟩ := h; refine ⟨d,List.mem_flatten.2 ⟨_,?_,hd⟩,e⟩; rw [List.getD_eq_getElem?_getD,List.getElem?_eq_getElem hj]; exact List.getElem_mem _
set_option maxHeartbeats 8000000 in
set_option maxRecDepth 100000 in
theorem stands_any (s : ByteArray) (N : Nat) : ∀ (n : Nat) (Bs : List (List Sd)) (v : Value) (w : World) (P : Nat -> Prop),RB w P N n Bs v -> (∀ j,P j -> j < w.heap.size) -> wtS Bs.flatten <= 1048576 ->
    Calls Tryz.prog 8 #[v,.string s] w fun e w' => e = .returned (.bool (anyB s Bs.flatten)) /\ Below w.heap.size w w' := by
  intro n
  induction n with
  | zero => intro Bs v w P h; exact h.elim
  | succ n ih =>
    intro Bs v w P h hB hwt; have hbl := h.len; obtain ⟨ad,cap,rfl,hS⟩ := h; have HS : Hid (∀ X,Below w.heap.size w X -> RBs X P N (RB X P N n) Bs (.slice ad Bs.length cap)) := fun X hX => by
      have h5 := RB.keep (w' := X) (n := n + 1) (fun j hj => hX.block j (hB j hj)) (show RB w P N (n + 1) Bs (.slice ad Bs.length cap) from ⟨ad,cap,rfl,hS⟩); exact h5
    have HI : Hid (∀ Bs v X,Below w.heap.size w X -> RB X P N n Bs v -> wtS Bs.flatten <= 1048576 -> Calls Tryz.prog 8 #[v,.string s] X fun e w' => e = .returned (.bool (anyB s Bs.flatten)) /\ Below X.heap.size X w') := fun Bs v X hX h h2 => ih Bs v X P h (fun j hj => Nat.lt_of_lt_of_le (hB j hj) hX.size) h2
    have HU : Hid (∀ L cs X,Below w.heap.size w X -> RE X P N L cs -> L.length <= 1048576 -> Calls Tryz.prog 18 #[.agg cs.toArray,.string s] X fun e w' => e = .returned (.bool (anyN s L)) /\ Below X.heap.size X w') := fun L cs X hX h h2 => used_any s N L cs X P h (fun j hj => Nat.lt_of_lt_of_le (hB j hj) hX.size) h2
    have HBP : Hid (∀ j,P j -> j < w.heap.size) := hB; obtain ⟨rb,hrb⟩ : ∃ rb,anyB s Bs.flatten = rb := ⟨_,rfl⟩; have HRB : Hid (anyB s Bs.flatten = rb) := hrb; rw [hrb]; clear hS ih hB hrb; obtain ⟨m,hm⟩ : ∃ m,Bs.length = m := ⟨_,rfl⟩; have HM : Hid (Bs.length = m) := hm; have HT : Hid (∀ j,wtS (Bs.take j).flatten <= wtS Bs.flatten) := fun j => btake_le Bs j
    rw [hm] at hbl HS; rw [hm]; have hmm : m <= 1048576 := by omega
    clear hm
    go_enter Tryz.func8,Tryz.ntmps8
    go_wp2_with fail
    go_loopg [5] m (fun gk v5 wr => ∃ j : Nat,v5 = .int .i64 (j : Int) /\ j + gk = m /\ Aside (Below w.heap.size w wr /\ anyB s (Bs.take j).flatten = false))
    case atStart => exact ⟨0,rfl,by omega,Below.refl _ _,rfl⟩
    case round =>
      obtain ⟨j,rfl,hj,HR⟩ := hrel
      by_cases hlt : j < m
      rotate_left
      · obtain rfl : m = j := by omega
        have q1 : ¬ (m : Int) < (m : Int) := by omega
        have HZ : Hid (rb = false) := by
          have h5 := HR.out.2; rw [List.take_of_length_le (by rw [HM.out]; exact Nat.le_refl _)] at h5; exact HRB.out.symm.trans h5
        go_wp2_with fail
        go_ret
        exact ⟨by rw [HZ.out]; rfl,HR.out.1⟩
      have q1 : (j : Int) < (m : Int) := by omega
      have hw1 := btake_wt (Bs := Bs) (j := j) (by rw [HM.out]; exact hlt); have hw2 := HT.out (j + 1); obtain ⟨ad2,cap2,e2,h5⟩ := HS.out wr HR.out.1; cases e2; obtain ⟨bS,oS,rfl,⟨hPb,-⟩,hc⟩ := h5 (by rw [HM.out]; omega); obtain ⟨vs,hl,c0,hE⟩ := hc j (by rw [HM.out]; exact hlt); obtain ⟨k,s0,a0,a1,a2,a3,e0,e1,e2,e3,lo,hi,t1,t2,LA,LE,BT,BE,hSe,rfl,hA,hEE,hT,hEl⟩ := hE; have hws : wtS (Bs.getD j []) = 1 + LA.length + LE.length + (wtS BT.flatten + wtS BE.flatten) := by rw [hSe]; simp only [wtS,wtS_app]
      obtain ⟨ka,xa,sa,da,ma,ca,hea⟩ := hA.shape; obtain ⟨ke,xe,se,de,me,ce,hee⟩ := hEE.shape; obtain ⟨aT,cT,rfl⟩ := hT.form; obtain ⟨aL,cL,rfl⟩ := hEl.form; cases hea; cases hee; obtain ⟨nT',hnT⟩ : ∃ nT',BT.length = nT' := ⟨_,rfl⟩; obtain ⟨nL',hnL⟩ : ∃ nL',BE.length = nL' := ⟨_,rfl⟩; have hbd : LA.length <= 1048576 /\ LE.length <= 1048576 /\ wtS BT.flatten <= 1048576 /\ wtS BE.flatten <= 1048576 := by omega
      have hbS := HBP.out bS hPb; have HCe : Hid (∀ X,Below wr.heap.size wr X -> (X.cell? ⟨bS,oS + j * 14 + 1,none⟩ = some (.string s0) /\ (X.cell? ⟨bS,oS + j * 14 + 2,none⟩ = some (.int .i64 ka) /\ X.cell? ⟨bS,oS + j * 14 + 3,none⟩ = some (.int .u64 xa) /\ X.cell? ⟨bS,oS + j * 14 + 4,none⟩ = some (.string sa) /\ X.cell? ⟨bS,oS + j * 14 + 5,none⟩ = some (.slice da ma ca)) /\ (X.cell? ⟨bS,oS + j * 14 + 6,none⟩ = some (.int .i64 ke) /\ X.cell? ⟨bS,oS + j * 14 + 7,none⟩ = some (.int .u64 xe) /\ X.cell? ⟨bS,oS + j * 14 + 8,none⟩ = some (.string se) /\ X.cell? ⟨bS,oS + j * 14 + 9,none⟩ = some (.slice de me ce)) /\ X.cell? ⟨bS,oS + j * 14 + 12,none⟩ = some (.slice aT nT' cT) /\ X.cell? ⟨bS,oS + j * 14 + 13,none⟩ = some (.slice aL nL' cL))) := fun X hX => by
        have hcc : ∀ i,X.cell? ⟨bS,i,none⟩ = wr.cell? ⟨bS,i,none⟩ := fun i => hX.cell (p := ⟨bS,i,none⟩) (Nat.lt_of_lt_of_le hbS HR.out.1.size)
        have z := fun i h => (hcc (oS + j * 14 + i)).trans (c0 i h)
        refine ⟨z 1 (by omega),⟨z 2 (by omega),z 3 (by omega),z 4 (by omega),z 5 (by omega)⟩,⟨z 6 (by omega),z 7 (by omega),z 8 (by omega),z 9 (by omega)⟩,?_,?_⟩
        · rw [<- hnT]; exact z 12 (by omega)
        rw [<- hnL]; exact z 13 (by omega)
      have HA1 : Hid (Calls Tryz.prog 18 #[.agg #[.int .i64 ka,.int .u64 xa,.string sa,.slice da ma ca],.string s] wr fun e w' => e = .returned (.bool (anyN s LA)) /\ Below wr.heap.size wr w') := HU.out LA _ wr HR.out.1 hA hbd.1; have hkp : ∀ X,Below wr.heap.size wr X -> ∀ q,P q -> X.heap[q]? = wr.heap[q]? := fun X hX q hq => hX.block q (Nat.lt_of_lt_of_le (HBP.out q hq) HR.out.1.size)
      have HA2 : Hid (∀ X,Below wr.heap.size wr X -> Calls Tryz.prog 18 #[.agg #[.int .i64 ke,.int .u64 xe,.string se,.slice de me ce],.string s] X fun e w' => e = .returned (.bool (anyN s LE)) /\ Below X.heap.size X w') := fun X hX => HU.out LE _ X (bnx HR.out.1 hX) (hEE.keep (hkp X hX)) hbd.2.1
      have HA3 : Hid (∀ X,Below wr.heap.size wr X -> Calls Tryz.prog 8 #[.slice aT nT' cT,.string s] X fun e w' => e = .returned (.bool (anyB s BT.flatten)) /\ Below X.heap.size X w') := fun X hX => by rw [<- hnT]; exact HI.out BT _ X (bnx HR.out.1 hX) (hT.keep (hkp X hX)) hbd.2.2.1
      have HA4 : Hid (∀ X,Below wr.heap.size wr X -> Calls Tryz.prog 8 #[.slice aL nL' cL,.string s] X fun e w' => e = .returned (.bool (anyB s BE.flatten)) /\ Below X.heap.size X w') := fun X hX => by rw [<- hnL]; exact HI.out BE _ X (bnx HR.out.1 hX) (hEl.keep (hkp X hX)) hbd.2.2.2
      have HAny : Hid (anyB s (Bs.getD j []) = (s0.toList == s.toList || anyN s LA || anyN s LE || anyB s BT.flatten || anyB s BE.flatten) /\ j < Bs.length) := by
        refine ⟨?_,by rw [HM.out]; exact hlt⟩; rw [hSe]; unfold anyB; rw [List.any_cons,List.any_append]; unfold anyS; simp only [Bool.or_assoc]
      clear hA hEE hT hEl hSe hws hw1 hw2 h5 hc c0 hnT hnL hbd hkp hbS hPb; have HTrue : Hid (anyB s (Bs.getD j []) = true -> rb = true) := fun h => HRB.out.symm.trans (anyB_in s Bs j HAny.out.2 h)
      have HNext : Hid (anyB s (Bs.getD j []) = false -> anyB s (Bs.take (j + 1)).flatten = false) := fun h => by rw [anyB_flat s Bs j HAny.out.2,HR.out.2,h]; rfl
      obtain ⟨x1,hx1⟩ : ∃ x,(s0.toList == s.toList) = x := ⟨_,rfl⟩; obtain ⟨x2,hx2⟩ : ∃ x,anyN s LA = x := ⟨_,rfl⟩; obtain ⟨x3,hx3⟩ : ∃ x,anyN s LE = x := ⟨_,rfl⟩; obtain ⟨x4,hx4⟩ : ∃ x,anyB s BT.flatten = x := ⟨_,rfl⟩; obtain ⟨x5,hx5⟩ : ∃ x,anyB s BE.flatten = x := ⟨_,rfl⟩; rw [hx2] at HA1; rw [hx3] at HA2; rw [hx4] at HA3; rw [hx5] at HA4; rw [hx1,hx2,hx3,hx4,hx5] at HAny; have Hx1 : Hid ((s0.toList == s.toList) = x1) := hx1; have hc1 := HCe.out wr (Below.refl _ _); clear hx2 hx3 hx4 hx5; cases x1 with
      | true =>
        have HZ : Hid (rb = true) := HTrue.out (by rw [HAny.out.1]; simp); obtain ⟨g1,⟨g2,g3,g4,g5⟩,⟨g6,g7,g8,g9⟩,g12,g13⟩ := hc1; clear g2 g3 g4 g5 g6 g7 g8 g9 g12 g13
        go_wp2_with fail
        go_ret
        exact ⟨by rw [HZ.out]; rfl,HR.out.1⟩
      | false =>
        obtain ⟨g1,⟨g2,g3,g4,g5⟩,⟨g6,g7,g8,g9⟩,g12,g13⟩ := hc1; clear g6 g7 g8 g9 g12 g13
        go_wp2_with fail
        refine HA1.out.mono ?_; rintro e w1 ⟨rfl,hb1⟩; have H1 : Hid (Below wr.heap.size wr w1) := hb1; clear hb1 g1 g2 g3 g4 g5 HA1 hx1; cases x2 with
        | true =>
          have HZ : Hid (rb = true /\ Below w.heap.size w w1) := ⟨HTrue.out (by rw [HAny.out.1]; simp),bnx HR.out.1 H1.out⟩
          go_wp2_with fail
          go_ret
          exact ⟨by rw [HZ.out.1]; rfl,HZ.out.2⟩
        | false =>
          obtain ⟨g1,⟨g2,g3,g4,g5⟩,⟨g6,g7,g8,g9⟩,g12,g13⟩ := HCe.out w1 H1.out; clear g1 g2 g3 g4 g5 g12 g13
          go_wp2_with fail
          refine (HA2.out w1 H1.out).mono ?_; rintro e w2 ⟨rfl,hb2⟩; have H2 : Hid (Below wr.heap.size wr w2) := bnx H1.out hb2; clear hb2 g6 g7 g8 g9 HA2 H1; cases x3 with
          | true =>
            have HZ : Hid (rb = true /\ Below w.heap.size w w2) := ⟨HTrue.out (by rw [HAny.out.1]; simp),bnx HR.out.1 H2.out⟩
            go_wp2_with fail
            go_ret
            exact ⟨by rw [HZ.out.1]; rfl,HZ.out.2⟩
          | false =>
            obtain ⟨g1,⟨g2,g3,g4,g5⟩,⟨g6,g7,g8,g9⟩,g12,g13⟩ := HCe.out w2 H2.out; clear g1 g2 g3 g4 g5 g6 g7 g8 g9 g13
            go_wp2_with fail
            refine (HA3.out w2 H2.out).mono ?_; rintro e w3 ⟨rfl,hb3⟩; have H3 : Hid (Below wr.heap.size wr w3) := bnx H2.out hb3; clear hb3 g12 HA3 H2; cases x4 with
            | true =>
              have HZ : Hid (rb = true /\ Below w.heap.size w w3) := ⟨HTrue.out (by rw [HAny.out.1]; simp),bnx HR.out.1 H3.out⟩
              go_wp2_with fail
              go_ret
              exact ⟨by rw [HZ.out.1]; rfl,HZ.out.2⟩
            | false =>
              obtain ⟨g1,⟨g2,g3,g4,g5⟩,⟨g6,g7,g8,g9⟩,g12,g13⟩ := HCe.out w3 H3.out; clear g1 g2 g3 g4 g5 g6 g7 g8 g9 g12
              go_wp2_with fail
              refine (HA4.out w3 H3.out).mono ?_; rintro e w4 ⟨rfl,hb4⟩; have H4 : Hid (Below w.heap.size w w4) := bnx HR.out.1 (bnx H3.out hb4); clear hb4 g13 HA4 H3; cases x5 with
              | true =>
                have HZ : Hid (rb = true) := HTrue.out (by rw [HAny.out.1]; simp)
                go_wp2_with fail
                go_ret
                exact ⟨by rw [HZ.out]; rfl,H4.out⟩
              | false =>
                have HZ : Hid (anyB s (Bs.take (j + 1)).flatten = false) := HNext.out (by rw [HAny.out.1]; rfl); clear HAny HTrue HNext HR
                go_wp2_with fail
                go_roundg (Bs.length - (j + 1))
                case measure => omega
                case rel => exact ⟨j + 1,by simp,by omega,H4.out,HZ.out⟩
theorem stands_no {s : ByteArray} {L : List Sd} (h : anyB s L = false) : ∀ d ∈ L,nS s d := by
  intro d hd; unfold anyB at h; rw [List.any_eq_false] at h; have h5 := h d hd; unfold anyS at h5; simp only [Bool.not_eq_true,Bool.or_eq_false_iff] at h5; refine ⟨h5.1,fun x hx => ?_,fun x hx => ?_⟩
  · have h6 := h5.2.1
    unfold anyN at h6; rw [List.any_eq_false] at h6; have := h6 x hx; unfold nB
    simpa using this
  have h6 := h5.2.2; unfold anyN at h6; rw [List.any_eq_false] at h6; have := h6 x hx; unfold nB
  simpa using this
end Go.Proofs.YtfljcdccepnidaaGreatDoor
