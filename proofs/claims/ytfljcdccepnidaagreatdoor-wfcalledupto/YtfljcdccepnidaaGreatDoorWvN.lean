import Derived.Test.YtfljcdccepnidaaGreatDoorSqA
import Derived.Test.YtfljcdccepnidaaGreatDoorWvI
import Derived.Test.YtfljcdccepnidaaGreatDoorWvL
namespace Go.Proofs.YtfljcdccepnidaaGreatDoor
open Go.ChangeShapes Go.WideShapes Go.ChangeAt Go.RowKit Go.Lib

def dP (p : Pg) : List Th := p.Ds.map thD ++ dL p.Bs 1 []
set_option maxRecDepth 100000 in
set_option maxHeartbeats 16000000 in
theorem list_any {w : World} {P : Nat -> Prop} {N n : Nat} {p : Pg} {vD vB : Value} (hD : RDs w P p.Ds vD) (hB : RB w P N n p.Bs vB) (hP : ∀ j,P j -> j < w.heap.size) (hd : p.Ds.length <= 1048576) (hb : wtS p.Bs.flatten <= 1048576) :
    Calls Tryz.prog 25 #[.agg #[.string p.s,.int .i64 p.wd,.int .i64 p.ln,vD,vB]] w fun e w' => ∃ vK,e = .returned vK /\ KT w.heap.size w w' (dP p) vK := by
  unfold dP; obtain ⟨aD,cD,rfl,-⟩ := hD; obtain ⟨aB,cB,rfl⟩ := hB.form; obtain ⟨m,hm⟩ : ∃ m,p.Ds.length = m := ⟨_,rfl⟩; obtain ⟨vB,hvB⟩ : ∃ vB,Value.slice aB p.Bs.length cB = vB := ⟨_,rfl⟩; rw [hvB] at hB; rw [hm,hvB]; obtain ⟨W1,hW1⟩ : ∃ W1,w.alloc (.cells #[.string p.s,.int .i64 p.wd,.int .i64 p.ln,.slice aD m cD,vB] 25) = W1 := ⟨_,rfl⟩; obtain ⟨Eb,hEb⟩ : ∃ Eb,w.heap.size = Eb := ⟨_,rfl⟩; have hb1 : Below w.heap.size w W1 := by rw [<- hW1]; exact bel1 _ _
  have hbx : W1.heap[Eb]? = some (.cells #[.string p.s,.int .i64 p.wd,.int .i64 p.ln,.slice aD m cD,vB] 25 (0,0)) := by rw [<- hW1,<- hEb]; exact heap_alloc_new _ _
  have HW1 : Hid (w.alloc (.cells #[.string p.s,.int .i64 p.wd,.int .i64 p.ln,.slice aD m cD,vB] 25) = W1 /\ w.heap.size = Eb) := ⟨hW1,hEb⟩; have hk0 : KT w.heap.size w W1 [] (.slice none 0 0) := (KT.nil w).next (Nat.le_refl _) hb1; have H0 : Hid (KT w.heap.size w W1 [] (.slice none 0 0) /\ NO W1 (.slice none 0 0) Eb /\ W1.heap[Eb]? = some (.cells #[.string p.s,.int .i64 p.wd,.int .i64 p.ln,.slice aD m cD,vB] 25 (0,0)) /\ w.heap.size <= W1.heap.size) := ⟨hk0,⟨(Array.getElem?_eq_some_iff.1 hbx).1,fun e => by cases e⟩,hbx,hb1.size⟩; have HSt : Hid (∀ X v Ts,KPN W1 (.slice none 0 0) X v -> KT w.heap.size w X Ts v -> Ts.length <= 1048576 -> Calls Tryz.prog 55 #[v,vB,.int .i64 1,.slice none 0 0] X fun e w' => ∃ vK',e = .returned vK' /\ KT w.heap.size w w' (Ts ++ dL p.Bs 1 []) vK' /\ KPN X v w' vK') := fun X v Ts h1 h2 h3 => dstmts_any N n p.Bs vB w.heap.size w X P Ts v 1 [] _ (hB.keep (fun j hj => ((h1 j ⟨Nat.lt_of_lt_of_le (hP j hj) hb1.size,fun e => by cases e⟩).1.trans (hb1.block j (hP j hj))))) (Nat.le_refl _) hP h2 ⟨none,0,rfl,fun h => absurd h (by simp)⟩ hb (by omega) (by omega) (by simpa using hb)
  have HM : Hid (p.Ds.length = m) := hm; have HT : Hid (p.Ds.take m = p.Ds) := by show _ = _; rw [<- hm,List.take_length]
  obtain ⟨i0,hi0,hz0,hz1,hz2⟩ := info_parts (P := Tryz.prog) (e := 80) (z := .agg #[.int .i64 0,.int .i64 0,.int .i64 0,.string ⟨#[]⟩,.int .i64 0,.int .u64 0,.string ⟨#[]⟩,.slice none 0 0,.int .i64 0,.int .u64 0,.string ⟨#[]⟩,.slice none 0 0,.int .u64 0,.int .u64 0,.slice none 0 0,.slice none 0 0,.int .i64 0,.int .u64 0,.string ⟨#[]⟩,.slice none 0 0,.int .i64 0,.slice none 0 0]) (size := 22) (bytes := 304) (by kernel_rfl); have HI0 : Hid (Tryz.prog.info? 80 = some i0 /\ i0.zero = some (.agg #[.int .i64 0,.int .i64 0,.int .i64 0,.string ⟨#[]⟩,.int .i64 0,.int .u64 0,.string ⟨#[]⟩,.slice none 0 0,.int .i64 0,.int .u64 0,.string ⟨#[]⟩,.slice none 0 0,.int .u64 0,.int .u64 0,.slice none 0 0,.slice none 0 0,.int .i64 0,.int .u64 0,.string ⟨#[]⟩,.slice none 0 0,.int .i64 0,.slice none 0 0]) /\ i0.size = 22 /\ i0.bytes = 304) := ⟨hi0,hz0,hz1,hz2⟩; rw [hm] at hd; obtain ⟨B,hBB⟩ : ∃ B,w.heap.size = B := ⟨_,rfl⟩; rw [hBB] at H0 HSt; have HBw : Hid (B <= w.heap.size) := Nat.le_of_eq hBB.symm; rw [hBB]; clear hW1 hEb hb1 hbx hk0 hB hP hb hm hvB hi0 hz0 hz1 hz2 hBB
  go_enter Tryz.func25,Tryz.ntmps25
  go_upto_region 1 with fail
  rw [HW1.out.1,HW1.out.2]
  go_wp2_with fail
  go_loopg [3,4] m (fun gk v3 v4 wr => ∃ j : Nat,v4 = .int .i64 (j : Int) /\ j + gk = m /\ Aside (KT B w wr ((p.Ds.take j).map thD) v3 /\ KPN W1 (.slice none 0 0) wr v3))
  case atStart => exact ⟨0,rfl,by omega,by simpa using H0.out.1,fun j hj => ⟨rfl,hj⟩⟩
  case round =>
    obtain ⟨j,rfl,hj,HR⟩ := hrel; have hbx := (HR.out.2 Eb H0.out.2.1).1.trans H0.out.2.2.1; have c3 : wr.cell? ⟨Eb,3,none⟩ = some (.slice aD m cD) := cell_of hbx 3; have c4 : wr.cell? ⟨Eb,4,none⟩ = some vB := cell_of hbx 4
    by_cases hlt : j < m
    · have q1 : (j : Int) < (m : Int) := by omega
      obtain ⟨aK,cK,rfl⟩ := HR.out.1.slice; have hln : ((p.Ds.take j).map thD).length = j := by rw [List.length_map,List.length_take,HM.out]; omega
      rw [hln] at HR; rw [hln]; have HLn : Hid (((p.Ds.take j).map thD).length = j) := hln; have HTk : Hid ((p.Ds.take (j + 1)).map thD = (p.Ds.take j).map thD ++ [thD (p.Ds.getD j dd0)]) := by
        show _ = _
        rw [dtake (by rw [HM.out]; exact hlt),List.map_append]
        rfl
      have hBr : B <= wr.heap.size := by have h9 := HR.out.1; obtain ⟨css,_,_,_,hbb,_⟩ := h9; have := hbb.size; have := HBw.out; omega
      have HTC : Hid (TC wr (NO wr (.slice aK j cK)) (thD (p.Ds.getD j dd0)) [.int .i64 0,.int .i64 (j : Int),.int .i64 0,.string ⟨#[]⟩,.int .i64 0,.int .u64 0,.string ⟨#[]⟩,.slice none 0 0,.int .i64 0,.int .u64 0,.string ⟨#[]⟩,.slice none 0 0,.int .u64 0,.int .u64 0,.slice none 0 0,.slice none 0 0,.int .i64 0,.int .u64 0,.string ⟨#[]⟩,.slice none 0 0,.int .i64 0,.slice none 0 0]) := ⟨0,(j : Int),0,⟨#[]⟩,_,_,_,_,_,_,_,_,0,0,_,_,0,0,⟨#[]⟩,_,0,_,rfl,rfl,rfl,⟨none,0,rfl,fun h => absurd h (by simp [thD])⟩,Or.inl rfl⟩; obtain ⟨css,hcss⟩ := HR.out.1; have HC : Hid (KTc B w wr ((p.Ds.take j).map thD) (.slice aK j cK) css) := hcss; have HRw : Hid (wr.ownsRow B 80 22 (.slice aK j cK) j css.flatten) := by
        have h5 := HC.out.2.2.1; rw [HLn.out] at h5; exact h5
      have HBr : Hid (B <= wr.heap.size) := hBr; clear hbx hcss hln hBr
      go_upto_region 5 with fail
      clear c3 c4; refine wp_region_lit ?_
      iterate 2 (refine pl_op (v := ?_) (by rfl) ?_ ?_; rotate_left; (focus (go_simp <;> with_reducible rfl)); simp only [Act.put,z0,z1,z2])
      refine pl_op (by rfl) (exec_build _ _ rfl #[.int .i64 0,.int .i64 (j : Int),.int .i64 0,.string ⟨#[]⟩,.int .i64 0,.int .u64 0,.string ⟨#[]⟩,.slice none 0 0,.int .i64 0,.int .u64 0,.string ⟨#[]⟩,.slice none 0 0,.int .u64 0,.int .u64 0,.slice none 0 0,.slice none 0 0,.int .i64 0,.int .u64 0,.string ⟨#[]⟩,.slice none 0 0,.int .i64 0,.slice none 0 0] (by kernel_rfl)) ?_; simp only [Act.put,z0,z1,z2]; refine pl_do (by rfl) (fun K hK => ?_)
      go_simp
      refine hK.out _ _ ?_; clear hK K
      try simp only [Act.put,z0,z1,z2]
      refine pl_do (by rfl) (fun K hK => ?_)
      refine wp_append_lies _ _ _ 75 rfl B 80 i0 _ 22 304 Tryz.underlying75 HI0.out.1 HI0.out.2.1 HI0.out.2.2.1 HI0.out.2.2.2 rfl (by omega) (.slice aK j cK) j css.flatten (by rfl) (HRw.out.alloc _) ⟨wr.heap.size,0,none⟩ 1 1 [.int .i64 0,.int .i64 (j : Int),.int .i64 0,.string ⟨#[]⟩,.int .i64 0,.int .u64 0,.string ⟨#[]⟩,.slice none 0 0,.int .i64 0,.int .u64 0,.string ⟨#[]⟩,.slice none 0 0,.int .u64 0,.int .u64 0,.slice none 0 0,.slice none 0 0,.int .i64 0,.int .u64 0,.string ⟨#[]⟩,.slice none 0 0,.int .i64 0,.slice none 0 0] (by rfl) (by rfl) (cells_new wr [.int .i64 0,.int .i64 (j : Int),.int .i64 0,.string ⟨#[]⟩,.int .i64 0,.int .u64 0,.string ⟨#[]⟩,.slice none 0 0,.int .i64 0,.int .u64 0,.string ⟨#[]⟩,.slice none 0 0,.int .u64 0,.int .u64 0,.slice none 0 0,.slice none 0 0,.int .i64 0,.int .u64 0,.string ⟨#[]⟩,.slice none 0 0,.int .i64 0,.slice none 0 0] 80) (by intro u hu; simp only [List.mem_cons,List.not_mem_nil,or_false] at hu; rcases hu with rfl | rfl | rfl | rfl | rfl | rfl | rfl | rfl | rfl | rfl | rfl | rfl | rfl | rfl | rfl | rfl | rfl | rfl | rfl | rfl | rfl | rfl <;> rfl) (by omega) (by unfold maxLen; omega) (by omega) (by have := HBr.out; simp; omega) (wr.heap.size + 1) (by simp) ?_; intro g6 cap6 w6 hown6 hgrow6 hat6 hlt6; have H6a := KT.push HLn.out HBr.out HC.out HTC.out hown6 hgrow6 hat6; have H6 : Hid (KT B w w6 ((p.Ds.take (j + 1)).map thD) (.slice (some ⟨g6,0,none⟩) (j + 1) cap6) /\ KPN W1 (.slice none 0 0) w6 (.slice (some ⟨g6,0,none⟩) (j + 1) cap6)) := by
        rw [HTk.out]; exact ⟨H6a.1,HR.out.2.trans H6a.2⟩
      clear hown6 hgrow6 hat6 hlt6 H6a HC HRw HTC HR; refine hK.out _ _ ?_; clear hK K
      try simp only [Act.put,z0,z1,z2]
      go_wp2_with fail
      go_roundg (m - (j + 1))
      case measure => omega
      case rel => exact ⟨j + 1,by simp,by omega,H6.out⟩
    obtain rfl : m = j := by omega
    have q1 : ¬ (m : Int) < (m : Int) := by omega
    have h5 := HSt.out wr u3 ((p.Ds.take m).map thD) HR.out.2 HR.out.1 (by rw [List.length_map,List.length_take]; omega); rw [HT.out] at h5; have HC : Hid (Calls Tryz.prog 55 #[u3,vB,.int .i64 1,.slice none 0 0] wr fun e w' => ∃ vK',e = .returned vK' /\ KT B w w' (p.Ds.map thD ++ dL p.Bs 1 []) vK' /\ KPN wr u3 w' vK') := h5; clear h5 hbx HR
    go_wp2_with fail
    refine HC.out.mono ?_; rintro e w7 ⟨v7,rfl,hk7,-⟩; have H7 : Hid (KT B w w7 (p.Ds.map thD ++ dL p.Bs 1 []) v7) := hk7; clear hk7
    go_wp2_with fail
    go_ret
    exact ⟨_,rfl,H7.out⟩
end Go.Proofs.YtfljcdccepnidaaGreatDoor
namespace Go.Proofs.YtfljcdccepnidaaGreatDoor
open Go.ChangeShapes Go.WideShapes Go.ChangeAt Go.RowKit Go.Lib

def er (t : Th) : Th := { t with tp := false }
theorem fv_map (vio : Nat -> Th -> Bool) (g : Th -> Th) (h : ∀ i t,vio i (g t) = vio i t) : ∀ (l : List Th) (q : Nat),fv vio q (l.map g) = fv vio q l
  | [],_ => rfl
  | t :: r,q => by
    simp only [List.map_cons,fv,h,fv_map vio g h r (q + 1)]
theorem okNd_k {d : Nd} (h : okNd d) : d.k ≠ 0 := fun e => by
  have h1 := h.1; rw [e] at h1; have : Lf.prt 0 = -1 := by decide
  omega
theorem oE_ok {lp : List ByteArray} {L : List Nd} (h : ∀ x ∈ L,okNd x) : (oE lp L).map er = L.map (thX false lp) := by
  cases L with
  | nil => rfl
  | cons d r =>
    unfold oE; rw [if_neg (by simpa using okNd_k (h d (List.mem_cons_self ..)))]; simp only [thE,List.map_cons,List.map_map]
    rfl
theorem oE_no {lp : List ByteArray} {L : List Nd} (h : neL L) : oE lp L = [] := by
  unfold oE; rw [if_pos h.1]
theorem ths_er : ∀ (L : List Sd) (st : List (Nat × Nat × List ByteArray)),(∀ d ∈ L,okSf d) -> (thS L st).map er = dS L st
  | [],_,_ => by simp [thS,dS]
  | _ :: _,[],_ => by simp [thS,dS]
  | d :: r,(c,dp,lp) :: st,h => by
    have hd := h d (List.mem_cons_self ..); obtain ⟨h1,h2,h3,h4,h5,h6,h7⟩ := hd; have hst : cen d.mT (dp + 1) (lpI d lp) (cen d.mE (dp + 1) lp (cen (c - 1) dp lp st)) = cen d.mT (dp + 1) (lpI d lp) (cen d.mE (dp + 1) (lpI d lp) (cen (c - 1) dp lp st)) := by
      rcases h6 with h6 | h6
      · have e : lpI d lp = lp := by unfold lpI; rw [if_neg (by omega)]
        rw [e]
      rw [h6]
      rfl
    have he : (oE lp d.A ++ oE lp d.E).map er = eR lp d := by
      rw [List.map_append]; unfold eR
      by_cases k2 : d.k = 2
      · rw [if_pos k2] at h3
        rw [if_pos (by omega)] at h4; rw [if_neg (by omega),if_pos k2,oE_ok h3,oE_ok h4]
      rw [if_neg k2] at h3; rw [oE_no h3,List.map_nil,List.nil_append]
      by_cases k3 : d.k <= 3
      · rw [if_pos k3] at h4
        rw [if_pos (by omega),oE_ok h4]
      rw [if_neg k3] at h4; rw [if_neg (by omega),if_neg k2,oE_no h4]
      rfl
    have hr := ths_er r (cen d.mT (dp + 1) (lpI d lp) (cen d.mE (dp + 1) lp (cen (c - 1) dp lp st))) (fun x hx => h x (List.mem_cons_of_mem _ hx)); rw [thS,dS,List.map_append,hr,hst]; unfold sth; rw [List.map_cons,he,List.cons_append]
    rfl
theorem remT_is (Bs : List (List Sd)) : remT (ent Bs 1 [] []) = thS Bs.flatten (cen Bs.length 1 [] []) := by
  unfold remT; rw [bflat_ent,bcnt_ent]
  simp [bflat,bcnt]
theorem thP_er {p : Pg} (hok : ∀ d ∈ p.Bs.flatten,okSf d) (hd : DOK p.Bs) : (thP p).map er = dP p := by
  unfold thP dP; rw [List.map_append,remT_is,ths_er _ _ hok,List.map_map]; have h5 := hd [] [] 1 []; rw [List.append_nil] at h5; rw [h5]; simp only [dS,List.append_nil]
  congr 1
def HI (L : List Nd) : Prop := ∀ d ∈ L,d.h <= (L.headD nd0).h
theorem hts_ge {Ls : List (List Nd)} {j : Nat} (h : j < Ls.length) : ((Ls.getD j []).headD nd0).h <= hts Ls := by
  induction Ls generalizing j with
  | nil => simp at h
  | cons L r ih =>
    cases j with
    | zero => simp only [List.getD_cons_zero,hts]; omega
    | succ j =>
      have := ih (j := j) (by simpa using h); simp only [List.getD_cons_succ,hts]
      omega
theorem RE.hi {w : World} {P : Nat -> Prop} : ∀ {n : Nat} {L : List Nd} {cs : List Value},RE w P n L cs -> HI L
  | 0,_,_,h => h.elim
  | n + 1,L,cs,h => by
    obtain ⟨k,x,s,ad,cap,Ls,rfl,rfl,hS⟩ := h; intro d hd; simp only [List.headD_cons]
    rcases List.mem_cons.1 hd with rfl | hd
    · exact Nat.le_refl _
    have key : ∀ d ∈ Ls.flatten,d.h <= hts Ls := by
      rw [mem_flat]; intro j hj d hd; obtain ⟨b,o,_,_,hc⟩ := hS (by omega); obtain ⟨_,_,_,_,_,_,_,_,hE⟩ := hc j hj; have h5 := hE.hi d hd; have h6 := hts_ge hj
      omega
    have := key d hd
    omega
theorem RB.hi {w : World} {P : Nat -> Prop} {N : Nat} : ∀ {n : Nat} {Bs : List (List Sd)} {v : Value},RB w P N n Bs v -> ∀ d ∈ Bs.flatten,HI d.A /\ HI d.E
  | 0,_,_,h => h.elim
  | n + 1,Bs,v,h => by
    obtain ⟨ad,cap,_,h3⟩ := h; rw [mem_flat]; intro j hj d hd; obtain ⟨b,o,_,_,hc⟩ := h3 (by omega); obtain ⟨vs,_,_,hE⟩ := hc j hj; obtain ⟨k,s,a0,a1,a2,a3,f0,f1,f2,f3,lo,hi,t1,t2,LA,LE,BT,BE,hSe,rfl,hA,hEE,hT,hEl⟩ := hE; rw [hSe] at hd
    rcases List.mem_cons.1 hd with rfl | hd
    · exact ⟨hA.hi,hEE.hi⟩
    rcases List.mem_append.1 hd with hd | hd
    · exact hT.hi d hd
    exact hEl.hi d hd
def dv10 (_ : Nat) (t : Th) : Bool := decide (64 < (t.dp : Int))
theorem fv_none_of (vio : Nat -> Th -> Bool) : ∀ (l : List Th) (q : Nat),(∀ i,∀ t ∈ l,vio i t = false) -> fv vio q l = none
  | [],_,_ => rfl
  | t :: r,q,h => by
    unfold fv; rw [h q t (List.mem_cons_self ..),if_neg (by simp)]; exact fv_none_of vio r (q + 1) (fun i t ht => h i t (List.mem_cons_of_mem _ ht))
theorem oE10 {lp : List ByteArray} {L : List Nd} (h : HI L) (q : Nat) : fv vio10 q (oE lp L) = fv dv10 q (oE lp L) := by
  unfold oE
  split
  · rfl
  cases L with
  | nil => rfl
  | cons d r =>
    simp only [thE,fv]; have e1 : vio10 q (thX true lp d) = dv10 q (thX true lp d) := by
      unfold vio10 dv10 thX
      simp
      omega
    rw [e1]
    by_cases hv : dv10 q (thX true lp d) = true
    · rw [if_pos hv,if_pos hv]
    rw [if_neg hv,if_neg hv]; have hd : d.h <= 64 := by
      unfold dv10 thX at hv
      simp at hv
      omega
    rw [fv_none_of vio10 _ _ (fun i t ht => ?_),fv_none_of dv10 _ _ (fun i t ht => ?_)]
    · obtain ⟨x,hx,rfl⟩ := List.mem_map.1 ht
      have h5 := h x (List.mem_cons_of_mem _ hx); simp only [List.headD_cons] at h5; unfold dv10 thX
      simp
      omega
    obtain ⟨x,hx,rfl⟩ := List.mem_map.1 ht; unfold vio10 thX
    simp
theorem fv_app2 {v1 v2 : Nat -> Th -> Bool} {a b : List Th} (h1 : ∀ q,fv v1 q a = fv v2 q a) (h2 : ∀ q,fv v1 q b = fv v2 q b) (q : Nat) : fv v1 q (a ++ b) = fv v2 q (a ++ b) := by
  rw [fv_app,fv_app,h1,h2]
theorem ths10 : ∀ (L : List Sd) (st : List (Nat × Nat × List ByteArray)),(∀ d ∈ L,HI d.A /\ HI d.E) -> ∀ q,fv vio10 q (thS L st) = fv dv10 q (thS L st)
  | [],_,_,q => by simp [thS,fv]
  | _ :: _,[],_,q => by simp [thS,fv]
  | d :: r,(c,dp,lp) :: st,h,q => by
    rw [thS]; refine fv_app2 (fun q => ?_) (fun q => ths10 r _ (fun x hx => h x (List.mem_cons_of_mem _ hx)) q) q; have hd := h d (List.mem_cons_self ..); unfold sth; have e : thT dp lp d :: (oE lp d.A ++ oE lp d.E) = [thT dp lp d] ++ (oE lp d.A ++ oE lp d.E) := rfl; rw [e]; refine fv_app2 (fun q => ?_) (fun q => fv_app2 (oE10 hd.1) (oE10 hd.2) q) q; have e1 : vio10 q (thT dp lp d) = dv10 q (thT dp lp d) := by
      unfold vio10 dv10 thT
      simp
    simp only [fv,e1]
theorem thP10 {p : Pg} (h : ∀ d ∈ p.Bs.flatten,HI d.A /\ HI d.E) : fv vio10 0 (thP p) = fv dv10 0 (thP p) := by
  unfold thP; refine fv_app2 (fun q => ?_) (fun q => ?_) 0
  · rw [fv_none_of vio10 _ _ (fun i t ht => ?_),fv_none_of dv10 _ _ (fun i t ht => ?_)]
    · obtain ⟨x,_,rfl⟩ := List.mem_map.1 ht
      rfl
    obtain ⟨x,_,rfl⟩ := List.mem_map.1 ht
    rfl
  rw [remT_is]; exact ths10 _ _ h q
theorem RB.mem {w : World} {P : Nat -> Prop} {N : Nat} : ∀ {n : Nat} {Bs : List (List Sd)} {v : Value},RB w P N n Bs v -> ∀ dp lp,∀ d ∈ Bs.flatten,∃ dp' lp',thT dp' lp' d ∈ dL Bs dp lp
  | 0,_,_,h => h.elim
  | n + 1,Bs,v,h => by
    intro dp lp; obtain ⟨ad,cap,_,h3⟩ := h; rw [mem_flat]; intro j hj d hd; obtain ⟨b,o,_,_,hc⟩ := h3 (by omega); obtain ⟨vs,_,_,hE⟩ := hc j hj; obtain ⟨k,s,a0,a1,a2,a3,f0,f1,f2,f3,lo,hi,t1,t2,LA,LE,BT,BE,hSe,rfl,hA,hEE,hT,hEl⟩ := hE; have hin : ∀ t,t ∈ oneD dp lp (Bs.getD j []) -> t ∈ dL Bs dp lp := fun t ht => List.mem_flatten.2 ⟨_,List.mem_map.2 ⟨_,(by rw [List.getD_eq_getElem?_getD,List.getElem?_eq_getElem hj]; exact List.getElem_mem _),rfl⟩,ht⟩
    rw [hSe,oneD_is hT.ds hEl.ds rfl rfl] at hin; rw [hSe] at hd
    rcases List.mem_cons.1 hd with rfl | hd
    · exact ⟨dp,lp,hin _ (List.mem_cons_self ..)⟩
    rcases List.mem_append.1 hd with hd | hd
    · obtain ⟨dp',lp',h5⟩ := hT.mem (dp + 1) (lpI ⟨k,s,LA,LE,lo,hi,BT.length,BE.length⟩ lp) d hd
      exact ⟨dp',lp',hin _ (List.mem_cons_of_mem _ (List.mem_append_right _ (List.mem_append_left _ h5)))⟩
    obtain ⟨dp',lp',h5⟩ := hEl.mem (dp + 1) (lpI ⟨k,s,LA,LE,lo,hi,BT.length,BE.length⟩ lp) d hd; exact ⟨dp',lp',hin _ (List.mem_cons_of_mem _ (List.mem_append_right _ (List.mem_append_right _ h5)))⟩
end Go.Proofs.YtfljcdccepnidaaGreatDoor
namespace Go.Proofs.YtfljcdccepnidaaGreatDoor
open Go.ChangeShapes Go.WideShapes Go.ChangeAt Go.RowKit Go.Lib

def U64 (x : Int) : Prop := 0 <= x /\ x < 18446744073709551616
def I64 (x : Int) : Prop := -9223372036854775808 <= x /\ x < 9223372036854775808
structure RG (p : Pg) : Prop where
  wt : wtD p.Ds <= 1048576
  ws : wtS p.Bs.flatten <= 1048576
  nm : NB p.s
  nd : ∀ i,NB (p.Ds.getD i dd0).s
  ns : ∀ d ∈ p.Bs.flatten,NB d.s /\ NMx d.A /\ NMx d.E
  ln : I64 p.ln
  wd : I64 p.wd
  dz : ∀ d ∈ p.Ds,I64 d.z
  dv : ∀ d ∈ p.Ds,∀ v ∈ d.vs,U64 v
  lo : ∀ d ∈ p.Bs.flatten,U64 d.lo /\ U64 d.hi
  ax : ∀ d ∈ p.Bs.flatten,(∀ x ∈ d.A,U64 x.x) /\ ∀ x ∈ d.E,U64 x.x
theorem dca_sj {X Pb : Nat} {P : Nat -> Prop} {N n : Nat} {p : Pg} {vD vB : Value} (hn : p.Ds.length <= 1048576) (hnb : ∀ i,NB (p.Ds.getD i dd0).s) : DCA X Pb (SJ p.Ds X Pb) P N n p vD vB := by
  intro w s hs hp hj; obtain ⟨mv,hX,h⟩ := hj
  rcases h with rfl | ⟨M,k,rfl,hM⟩
  · exact declared_new X Pb w s hs hX hp.box hp.ds (fun j hj => ⟨(hp.wc.p j hj).1,(hp.wc.p j hj).2.1⟩) hp.ne hn hnb
  exact declared_made p.Ds X Pb M k w s hs hX hM
theorem hok_any {w : World} {P : Nat -> Prop} {N n : Nat} {p : Pg} {vB : Value} (fb : Bool) (hfb : fb = true ↔ okPf p) (hg : RG p) (hBs : RB w P N n p.Bs vB) (h : ∀ i,i < 15 -> RR fb p i = none) : ∀ d ∈ p.Bs.flatten,okSd d := by
  have h0 := h 0 (by omega); have hf : fb = true := by
    cases fb with
    | true => rfl
    | false => simp [RR] at h0
  have hok := hfb.1 hf; have h13 := h 13 (by omega); have h13' : fv (vio14 p) 0 (thP p) = none := by
    cases e : fv (vio14 p) 0 (thP p) with
    | none => rfl
    | some j => simp [RR,e] at h13
  rw [<- fv_map (vio14 p) er (fun i t => rfl),thP_er hok.2.2.2.2 hBs.ds] at h13'; intro d hd; obtain ⟨h1,h2,h3,h4,h5,h6,h7⟩ := hok.2.2.2.2 d hd; have hlo := hg.lo d hd; have hk : d.k = 1 ∨ d.k = 2 ∨ d.k = 3 ∨ d.k = 4 ∨ d.k = 5 := by omega
  unfold okSd
  rcases hk with k | k | k | k | k
  · rw [if_neg (by omega)] at h3
    rw [if_pos (by omega)] at h4; exact Or.inl ⟨k,h3.1,fun x hx => okNd_k (h4 x hx),by omega,by omega⟩
  · rw [if_pos k] at h3
    rw [if_pos (by omega)] at h4; exact Or.inr (Or.inl ⟨k,fun x hx => okNd_k (h3 x hx),fun x hx => okNd_k (h4 x hx),by omega,by omega⟩)
  · rw [if_neg (by omega)] at h3
    rw [if_pos (by omega)] at h4; exact Or.inr (Or.inr (Or.inl ⟨k,h3.1,fun x hx => okNd_k (h4 x hx)⟩))
  · rw [if_neg (by omega)] at h3
    rw [if_neg (by omega)] at h4; obtain ⟨dp',lp',hm⟩ := hBs.mem 1 [] d hd; have hm2 : thT dp' lp' d ∈ dP p := List.mem_append_right _ hm; obtain ⟨i,hi,e⟩ := List.getElem_of_mem hm2; have h9 := fv_none (vio14 p) (dP p) 0 h13' i _ (by rw [List.getElem?_eq_getElem hi,e]); unfold vio14 at h9; have e1 : (thT dp' lp' d).is = 1 := rfl; rw [if_pos e1] at h9; have h10 : v14 p.wd d.k d.lo d.hi = false := h9; unfold v14 at h10; rw [k] at h10
    simp at h10
    refine Or.inr (Or.inr (Or.inr (Or.inl ⟨k,h3.1,h4.1,by omega,by omega,hlo.1.1,hlo.2.2⟩)))
  rw [if_neg (by omega)] at h3; rw [if_neg (by omega)] at h4; exact Or.inr (Or.inr (Or.inr (Or.inr ⟨k,h3.1,h4.1,by omega,by omega⟩)))
def FAns (fb : Bool) (p : Pg) (c a e : Int) : Prop := (c = 0 /\ a = 0 /\ e = 0 /\ ∀ i,i < 16 -> RR fb p i = none) ∨ ∃ (j : Nat) (pl : Int),j < 16 /\ (∀ i,i < j -> RR fb p i = none) /\ RR fb p j = some pl /\ c = (j : Int) + 1 /\ a = pl /\ e = (cat j).1
theorem FAns.uniq {fb : Bool} {p : Pg} {c a e c' a' e' : Int} (h : FAns fb p c a e) (h' : FAns fb p c' a' e') : c = c' /\ a = a' /\ e = e' := by
  rcases h with ⟨rfl,rfl,rfl,hn⟩ | ⟨j,pl,hj,hn,hs,rfl,rfl,rfl⟩
  · rcases h' with ⟨rfl,rfl,rfl,_⟩ | ⟨j,pl,hj,_,hs,_⟩
    · exact ⟨rfl,rfl,rfl⟩
    rw [hn j hj] at hs; cases hs
  rcases h' with ⟨_,_,_,hn'⟩ | ⟨j',pl',hj',hn',hs',rfl,rfl,rfl⟩
  · rw [hn' j hj] at hs
    cases hs
  have : j = j' := by
    rcases Nat.lt_trichotomy j j' with h | h | h
    · rw [hn' j h] at hs; cases hs
    · exact h
    rw [hn j' h] at hs'; cases hs'
  subst this; rw [hs] at hs'; cases hs'; exact ⟨rfl,rfl,rfl⟩
theorem prog_fault {w : World} {P : Nat -> Prop} {N n : Nat} {p : Pg} {vD vB : Value} (fb : Bool) (hfb : fb = true ↔ okPf p) (hg : RG p) (hDs : RDs w P p.Ds vD) (hBs : RB w P (N + 1) (n + 1) p.Bs vB) (hP : ∀ j,P j -> j < w.heap.size) (h0 : P 0) (h1 : P 1) (hT : Lf.TBL 1 w) (hF : Lf.TBF 0 w) :
    Calls Tryz.prog 14 #[.agg #[.string p.s,.int .i64 p.wd,.int .i64 p.ln,vD,vB]] w fun e w' => ∃ c a er,e = .returned (.tuple #[.int .i64 c,.int .i64 a,.int .i64 er]) /\ FAns fb p c a er /\ Below w.heap.size w w' := by
  have hdl := wtD_len p.Ds; have hwt := hg.wt; refine (fault_prog hDs hBs hP fb (SJ p.Ds) (SJ.zero p.Ds) (SJ.jst p.Ds) (SJ.box p.Ds) (fun X Pb => dca_sj (by omega) hg.nd) hg.wt hg.ws hg.ns hg.nd (fun w2 hk hs => ?_) (hz_any fb p) (hok_any fb hfb hg hBs)).mono ?_
  · have hP2 : ∀ j,P j -> j < w2.heap.size := fun j hj => Nat.lt_of_lt_of_le (hP j hj) hs
    refine (form_both fb hfb (hDs.keep hk) (hBs.keep hk) hP2 hg.wt hg.ws hg.nm hg.ns hg.nd).1 (fun kn q1 q2 => ?_) (fun kn q1 q2 => ?_) (hP2 1 h1)
    · exact (World.cell?_of_block (a := ⟨1,_,none⟩) (hk 1 h1)).trans (hT kn q1 q2)
    have hc : ∀ i,w2.cell? ⟨0,i,none⟩ = w.cell? ⟨0,i,none⟩ := fun i => World.cell?_of_block (a := ⟨0,i,none⟩) (hk 0 h0)
    obtain ⟨g1,g2,g3,g4,g5,g6⟩ := hF kn q1 q2; exact ⟨(hc _).trans g1,(hc _).trans g2,(hc _).trans g3,(hc _).trans g4,(hc _).trans g5,(hc _).trans g6⟩
  rintro e w' ⟨hb,⟨rfl,hn⟩ | ⟨j,pl,hj,hn,hs,rfl⟩⟩
  · exact ⟨0,0,0,rfl,Or.inl ⟨rfl,rfl,rfl,hn⟩,hb⟩
  exact ⟨_,_,_,rfl,Or.inr ⟨j,pl,hj,hn,hs,rfl,rfl,rfl⟩,hb⟩
end Go.Proofs.YtfljcdccepnidaaGreatDoor
