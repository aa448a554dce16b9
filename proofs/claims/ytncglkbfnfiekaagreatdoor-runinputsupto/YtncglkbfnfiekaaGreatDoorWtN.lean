import Derived.Test.YtncglkbfnfiekaaGreatDoorWtK
namespace Go.Proofs.YtncglkbfnfiekaaGreatDoor
open Go.ChangeShapes Go.WideShapes Go.ChangeAt Go.RowKit Go.Lib Go.WideMaps Go.Maps Go.ChangeMaps

theorem res1P {fn : Func} {p : Tmp} (h : fn.results = #[.cell p 25]) (tmps : Array Value) (w : World) (g : Nat) (t : TypeId) (cs : Array Value) (fr : Nat × Nat)
    (hp : tmps.getD p undef = .pointer (some ⟨g,0,none⟩)) (hg : w.heap[g]? = some (.cells cs t fr)) (hi : cs.size = 5) :
    (results fn tmps).run Tryz.prog w = .ok (.agg cs) w := by
  have hi2 : (Tryz.prog.info? 25).map (·.size) = some cs.size := by rw [hi]; kernel_rfl
  simp only [results,h]
  simp [Sem.run_bind,Result.andThen]
  rw [show tmps[p]?.getD undef = tmps.getD p undef by simp,hp]
  simp [asAddr,run_loadVar_row w g t 25 cs fr _ hg Tryz.underlying25 rfl hi2]
set_option maxHeartbeats 16000000 in
set_option maxRecDepth 100000 in
/-- a copy of a program,in new memory -/
theorem Own_any (w : World) (P : Nat -> Prop) (N n : Nat) (p : Pg) (cs : List Value) (h : RP w P N n p cs) (hB : ∀ j,P j -> j < w.heap.size) (hwt : wtP p <= 1048576) :
    Calls Tryz.prog 14 #[.agg cs.toArray] w fun e w' => ∃ cs',e = .returned (.agg cs'.toArray) /\ Below w.heap.size w w' /\ RP w' (fun b => w.heap.size <= b /\ b < w'.heap.size) N n p cs' := by
  obtain ⟨s,wd,ln,Ds,Bs⟩ := p; obtain ⟨vD,vB,rfl,⟨ad,cap,rfl,hD⟩,hBo⟩ := h; obtain ⟨aB,cB,rfl⟩ := hBo.form
  dsimp only at *
  unfold wtP at *
  dsimp only at *
  have hdl := wtD_len Ds; obtain ⟨m,hm⟩ : ∃ m,Ds.length = m := ⟨_,rfl⟩; have HM : Hid (Ds.length = m) := hm; have HT : Hid (∀ j,wtD (Ds.take j) <= wtD Ds) := fun j => dtake_le Ds j
  obtain ⟨Eb,hEb⟩ : ∃ Eb,w.heap.size = Eb := ⟨_,rfl⟩; obtain ⟨W0,hW0⟩ : ∃ W0,((w.alloc (.cells #[.string s,.int .i64 wd,.int .i64 ln,.slice ad Ds.length cap,.slice aB Bs.length cB] 25)).alloc (.cells #[.string ⟨#[]⟩,.int .i64 0,.int .i64 0,.slice none 0 0,.slice none 0 0] 25)).alloc (.cells #[.string s,.int .i64 wd,.int .i64 ln,.slice ad Ds.length cap,.slice aB Bs.length cB] 25) = W0 := ⟨_,rfl⟩; obtain ⟨W1,hW1⟩ : ∃ W1,W0.setCell ⟨Eb + 1 + 1,3,none⟩ (.slice none 0 0) = W1 := ⟨_,rfl⟩; have hE0 : W0.heap[Eb + 1 + 1]? = some (.cells #[.string s,.int .i64 wd,.int .i64 ln,.slice ad Ds.length cap,.slice aB Bs.length cB] 25 (0,0)) := by
    rw [<- hW0,<- hEb]; have h5 := heap_alloc_new ((w.alloc (.cells #[.string s,.int .i64 wd,.int .i64 ln,.slice ad Ds.length cap,.slice aB Bs.length cB] 25)).alloc (.cells #[.string ⟨#[]⟩,.int .i64 0,.int .i64 0,.slice none 0 0,.slice none 0 0] 25)) (.cells #[.string s,.int .i64 wd,.int .i64 ln,.slice ad Ds.length cap,.slice aB Bs.length cB] 25)
    simpa using h5
  have H0 : Hid (Below w.heap.size w W1 /\ W1.heap[Eb]? = some (.cells #[.string s,.int .i64 wd,.int .i64 ln,.slice ad Ds.length cap,.slice aB Bs.length cB] 25 (0,0)) /\ W1.heap[Eb + 1]? = some (.cells #[.string ⟨#[]⟩,.int .i64 0,.int .i64 0,.slice none 0 0,.slice none 0 0] 25 (0,0)) /\ W1.heap[Eb + 1 + 1]? = some (.cells #[.string s,.int .i64 wd,.int .i64 ln,.slice none 0 0,.slice aB Bs.length cB] 25 (0,0)) /\ W1.heap.size = Eb + 1 + 1 + 1 /\ w.heap.size = Eb) := by
    have hs0 : W0.heap.size = Eb + 1 + 1 + 1 := by rw [<- hW0,<- hEb]; simp
    have hb0 : Below w.heap.size w W0 := by rw [<- hW0]; exact bnx (bnx (bel1 _ _) (bel1 _ _)) (bel1 _ _)
    have h1 : W0.heap[Eb]? = some (.cells #[.string s,.int .i64 wd,.int .i64 ln,.slice ad Ds.length cap,.slice aB Bs.length cB] 25 (0,0)) := by
      rw [<- hW0,<- hEb]; exact blk_next (blk_next (heap_alloc_new _ _) (bel1 _ _)) (bel1 _ _)
    have h2 : W0.heap[Eb + 1]? = some (.cells #[.string ⟨#[]⟩,.int .i64 0,.int .i64 0,.slice none 0 0,.slice none 0 0] 25 (0,0)) := by
      rw [<- hW0,<- hEb]; have h5 := heap_alloc_new (w.alloc (.cells #[.string s,.int .i64 wd,.int .i64 ln,.slice ad Ds.length cap,.slice aB Bs.length cB] 25)) (.cells #[.string ⟨#[]⟩,.int .i64 0,.int .i64 0,.slice none 0 0,.slice none 0 0] 25); refine blk_next ?_ (bel1 _ _)
      simpa using h5
    have hoth : OTH (Eb + 1 + 1) W0 W1 := by rw [<- hW1]; exact OTH.set _ _ _ _
    refine ⟨hb0.trans (hoth.below (by omega) (by omega)),(hoth.block _ (by omega) (by omega)).trans h1,(hoth.block _ (by omega) (by omega)).trans h2,?_,by rw [<- hW1]; simp [hs0],hEb⟩; rw [<- hW1,heap_setCell_same _ _ 3 _ _ _ hE0]
    simp
  have HW0 : Hid (((w.alloc (.cells #[.string s,.int .i64 wd,.int .i64 ln,.slice ad Ds.length cap,.slice aB Bs.length cB] 25)).alloc (.cells #[.string ⟨#[]⟩,.int .i64 0,.int .i64 0,.slice none 0 0,.slice none 0 0] 25)).alloc (.cells #[.string s,.int .i64 wd,.int .i64 ln,.slice ad Ds.length cap,.slice aB Bs.length cB] 25) = W0 /\ w.heap.size = Eb) := ⟨hW0,hEb⟩; have HW1 : Hid (W0.setCell ⟨Eb + 1 + 1,3,none⟩ (.slice none 0 0) = W1) := hW1; have x3 := cell_of hE0 3; have fx3 := fz_of hE0 3; have hk : ∀ X,OTH (Eb + 1 + 1) W1 X -> ∀ q,P q -> X.heap[q]? = w.heap[q]? := fun X hX q hq => by
    have h5 := hB q hq; have h6 := H0.out.2.2.2.2; rw [hX.block q (by omega) (by omega),H0.out.1.block q h5]
  have HD : Hid (∀ X,OTH (Eb + 1 + 1) W1 X -> RDs X P Ds (.slice ad Ds.length cap)) := fun X hX => RDs.keep (hk X hX) ⟨ad,cap,rfl,hD⟩
  have HBy : Hid (∀ X,OTH (Eb + 1 + 1) W1 X -> Calls Tryz.prog 22 #[.slice aB Bs.length cB] X fun e w' => ∃ v',e = .returned v' /\ Below X.heap.size X w' /\ RB w' (fun b => X.heap.size <= b /\ b < w'.heap.size) N n Bs v') := fun X hX => body_any N n Bs _ X P (hBo.keep (hk X hX)) (fun q hq => by
    have h5 := hB q hq; have h6 := H0.out.2.2.2.2; have h7 := hX.size
    omega) (by omega)
  have HP : Hid (∀ q,P q -> q < w.heap.size) := hB; rw [hm] at HD hdl H0 HW0 x3; rw [hm]; obtain ⟨i0,hi0,hz0,hz1,hz2⟩ := info_parts (P := Tryz.prog) (e := 46) (z := .agg #[.int .i64 0,.string ⟨#[]⟩,.int .i64 0,.slice none 0 0]) (size := 4) (bytes := 56) (by kernel_rfl); clear hW0 hW1 hEb hm hk hD hBo hB hE0
  go_enter Tryz.func14,Tryz.ntmps14
  go_upto_region 2 with fail
  rw [HW0.out.1,HW0.out.2]
  go_upto_region 3 with fail
  rw [HW1.out]; clear x3 fx3 HW1; have hmm : m <= 1048576 := by omega
  go_wp2_with fail
  go_loopg [4] m (fun gk v4 wr => ∃ j : Nat,v4 = .int .i64 (j : Int) /\ j + gk = m /\ Aside (∃ aK cK,j <= cK /\ KD W1 wr (Eb + 1 + 1) s wd ln (.slice aB Bs.length cB) (Ds.take j) (.slice aK j cK)))
  case atStart => exact ⟨0,rfl,by omega,none,0,Nat.le_refl _,KD.nil W1 _ s wd ln _ H0.out.2.2.2.1⟩
  case round =>
    obtain ⟨j,rfl,hj,HR⟩ := hrel; obtain ⟨aK,cK,hcK,css,hkd⟩ := HR.out; have HKD : Hid (KDc W1 wr (Eb + 1 + 1) s wd ln (.slice aB Bs.length cB) (Ds.take j) (.slice aK j cK) css) := hkd; obtain ⟨_,_,_,hoth,hqb,_⟩ := hkd; have hlt2 : (Ds.take j).length = j := by rw [List.length_take,HM.out]; omega
    have hbx := (hoth.block Eb (by have := H0.out.2.2.2.2; omega) (by omega)).trans H0.out.2.1; have c3 : wr.cell? ⟨Eb,3,none⟩ = some (.slice ad m cap) := cell_of hbx 3; have HO : Hid (OTH (Eb + 1 + 1) W1 wr) := hoth; have HLt : Hid ((Ds.take j).length = j) := hlt2
    by_cases hlt : j < m
    · have q1 : (j : Int) < (m : Int) := by omega
      obtain ⟨ad2,cap2,e2,h5⟩ := HD.out wr hoth; rw [HM.out] at e2; cases e2; obtain ⟨b,o,rfl,hPb,hc⟩ := h5 (by rw [HM.out]; omega); obtain ⟨v0,v1,v2,v3,d0,d1,d2,d3,aV,cV,e5,hU⟩ := hc j (by rw [HM.out]; exact hlt); cases e5; have hw := dtake_wt (Ds := Ds) (j := j) (by rw [HM.out]; exact hlt); have hw2 := HT.out (j + 1); have HTk : Hid (Ds.take (j + 1) = Ds.take j ++ [Ds.getD j dd0]) := dtake (by rw [HM.out]; exact hlt)
      generalize hdj : Ds.getD j dd0 = dj at *
      obtain ⟨dk,ds,dz,vs⟩ := dj
      dsimp only at *
      clear hdj hc h5; obtain ⟨vl,hvl⟩ : ∃ vl,vs.length = vl := ⟨_,rfl⟩; have HVl : Hid (vs.length = vl) := hvl; rw [hvl] at d3 hw; have hvb : vl <= 1048576 := by omega
      clear hvl hw hw2; obtain ⟨x1,hx1⟩ : ∃ x1,wr.alloc (.cells #[.int .i64 dk,.string ds,.int .i64 dz,.slice aV vl cV] 46) = x1 := ⟨_,rfl⟩; obtain ⟨Sb,hSb⟩ : ∃ Sb,wr.heap.size = Sb := ⟨_,rfl⟩; have HX1 : Hid (Below wr.heap.size wr x1 /\ x1.heap[Sb]? = some (.cells #[.int .i64 dk,.string ds,.int .i64 dz,.slice aV vl cV] 46 (0,0)) /\ x1.heap.size = Sb + 1 /\ wr.heap.size = Sb /\ W1.heap.size <= Sb) := by rw [<- hx1,<- hSb]; exact ⟨bel1 _ _,heap_alloc_new _ _,by simp,rfl,hoth.size⟩
      have HE1 : Hid (wr.alloc (.cells #[.int .i64 dk,.string ds,.int .i64 dz,.slice aV vl cV] 46) = x1 /\ wr.heap.size = Sb) := ⟨hx1,hSb⟩; have HU1 : Hid (U6 x1 P vs aV) := hU.keep (fun q hq => HX1.out.1.block q (by
        have h1 := HP.out q hq; have h2 := H0.out.1.size; have h3 := HX1.out.2.2.2
        omega))
      clear hx1 hSb hU hqb hbx hoth
      go_upto_region 7 with fail
      rw [HE1.out.1,HE1.out.2]; clear d0 d1 d2 d3 c3 HE1; have s3 := cell_of HX1.out.2.1 3; have fs3 := fz_of HX1.out.2.1 3
      go_wp2_with (at_builtin; refine wpList_copyU rfl _ _ rfl x1 rfl aV vs vl cV HVl.out rfl P HU1.out hvb ?_; intro aO cO x2 hU2 hb2; have HU2 : Hid (U6 x2 (fun b => x1.heap.size <= b /\ b < x2.heap.size) vs aO /\ Below x1.heap.size x1 x2) := ⟨hU2,hb2⟩; clear hU2 hb2 s3 fs3; refine Hid.out ?_)
      refine Lib.hid ?_; have hb2 := blk_next HX1.out.2.1 HU2.out.2; obtain ⟨x3,hx3⟩ : ∃ x3,x2.setCell ⟨Sb,3,none⟩ (.slice aO vl cO) = x3 := ⟨_,rfl⟩; have HX3 : Hid (Below wr.heap.size wr x3 /\ x3.heap[Sb]? = some (.cells #[.int .i64 dk,.string ds,.int .i64 dz,.slice aO vl cO] 46 (0,0)) /\ RD x3 (fun b => wr.heap.size <= b /\ b < x3.heap.size) ⟨dk,ds,dz,vs⟩ [.int .i64 dk,.string ds,.int .i64 dz,.slice aO vl cO]) := by
        have hoS : OTH Sb x2 x3 := by rw [<- hx3]; exact OTH.set _ _ _ _
        have hs1 := HX1.out.2.2; have hs2 := HU2.out.2.size; have hs3 := hoS.size; refine ⟨(bnx HX1.out.1 HU2.out.2).trans (hoS.below (by omega) (by omega)),?_,aO,cO,?_,?_⟩
        · rw [<- hx3,heap_setCell_same _ _ 3 _ _ _ hb2]
          simp
        · dsimp only
          rw [HVl.out]
        dsimp only
        exact (HU2.out.1.keep (w' := x3) (fun q hq => hoS.block q hq.2 (by omega))).mono (fun q hq => ⟨by omega,by omega⟩)
      have HE3 : Hid (x2.setCell ⟨Sb,3,none⟩ (.slice aO vl cO) = x3) := hx3; have t3 := cell_of hb2 3; have ft3 := fz_of hb2 3; clear hx3 hb2
      go_upto_region 8 with fail
      rw [HE3.out]; clear t3 ft3 HE3 HU1 HU2; have g0 := cell_of HX3.out.2.1 0; have g1 := cell_of HX3.out.2.1 1; have g2 := cell_of HX3.out.2.1 2; have g3 := cell_of HX3.out.2.1 3; have k3 := cell_of (blk_next HKD.out.2.2.2.2.1 HX3.out.1) 3; have HRw : Hid (x3.ownsRow W1.heap.size 46 4 (.slice aK j cK) j css.flatten) := by
        have h5 := HKD.out.2.2.1; rw [HLt.out] at h5; exact row_below h5 HX3.out.1
      have hw5 : W1.heap.size <= x3.heap.size := Nat.le_trans HO.out.size HX3.out.1.size; have hq5 : Eb + 1 + 1 < W1.heap.size := by have := H0.out.2.2.2.2; omega
      go_wp2_with (at_builtin; refine wpList_append_lies _ rfl _ _ 22 rfl W1.heap.size 46 i0 _ 4 56 Tryz.underlying22 hi0 hz0 hz1 hz2 rfl (by decide) _ _ _ rfl (HRw.out.alloc _) ⟨x3.heap.size,0,none⟩ 1 1 [.int .i64 dk,.string ds,.int .i64 dz,.slice aO vl cO] rfl rfl (four_new _ _ _ _ _ _) (by intro u hu; simp only [List.mem_cons,List.not_mem_nil,or_false] at hu; rcases hu with rfl | rfl | rfl | rfl <;> rfl) (by omega) (by unfold maxLen; omega) (by omega) (by simp; omega) (x3.heap.size + 1) (by simp) ?_; intro g6 cap6 w6 hown6 hgrow6 hat6 hlt6; have HS6 : Hid (w6.heap[Eb + 1 + 1]? = some (.cells #[.string s,.int .i64 wd,.int .i64 ln,.slice aK j cK,.slice aB Bs.length cB] 25 (0,0)) /\ KD W1 (w6.setCell ⟨Eb + 1 + 1,3,none⟩ (.slice (some ⟨g6,0,none⟩) (j + 1) cap6)) (Eb + 1 + 1) s wd ln (.slice aB Bs.length cB) (Ds.take (j + 1)) (.slice (some ⟨g6,0,none⟩) (j + 1) cap6) /\ j + 1 <= cap6) := (by refine ⟨(KD.push HLt.out hq5 HKD.out HX3.out.1 HX3.out.2.2 hown6 hgrow6 hat6).1,?_,?_⟩; (rw [HTk.out]; exact (KD.push HLt.out hq5 HKD.out HX3.out.1 HX3.out.2.2 hown6 hgrow6 hat6).2); (rcases hown6.2 with ⟨e,_⟩ | ⟨g,cap,cur,e,_,_,h3,_⟩; (cases e); (cases e; exact h3))); clear hown6 hgrow6 hat6 hlt6; refine Hid.out ?_)
      refine Lib.hid ?_; clear HR HKD HRw HTk HLt HX3 HX1 HO g0 g1 g2 g3 k3; obtain ⟨w7,hw7⟩ : ∃ w7,w6.setCell ⟨Eb + 1 + 1,3,none⟩ (.slice (some ⟨g6,0,none⟩) (j + 1) cap6) = w7 := ⟨_,rfl⟩; have y3 := cell_of HS6.out.1 3; have fy3 := fz_of HS6.out.1 3; rw [hw7] at HS6; have HE7 : Hid (w6.setCell ⟨Eb + 1 + 1,3,none⟩ (.slice (some ⟨g6,0,none⟩) (j + 1) cap6) = w7) := hw7; clear hw7
      go_upto_region 5 with fail
      rw [HE7.out]; clear y3 fy3 HE7
      go_wp2_with fail
      go_roundg (m - (j + 1))
      case measure => omega
      case rel => exact ⟨j + 1,by simp,by omega,_,cap6,HS6.out.2.2,HS6.out.2.1⟩
    obtain rfl : m = j := by omega
    have q1 : ¬ (m : Int) < (m : Int) := by omega
    have c4 : wr.cell? ⟨Eb,4,none⟩ = some (.slice aB Bs.length cB) := cell_of hbx 4; have HC := HBy.out wr hoth; replace HC : Hid (Calls Tryz.prog 22 #[.slice aB Bs.length cB] wr fun e w' => ∃ v',e = .returned v' /\ Below wr.heap.size wr w' /\ RB w' (fun b => wr.heap.size <= b /\ b < w'.heap.size) N n Bs v') := HC; have HQ : Hid (wr.heap[Eb + 1 + 1]? = some (.cells #[.string s,.int .i64 wd,.int .i64 ln,.slice aK m cK,.slice aB Bs.length cB] 25 (0,0)) /\ wr.heap[Eb + 1]? = some (.cells #[.string ⟨#[]⟩,.int .i64 0,.int .i64 0,.slice none 0 0,.slice none 0 0] 25 (0,0))) := ⟨hqb,(hoth.block (Eb + 1) (by have := H0.out.2.2.2.2; omega) (by omega)).trans H0.out.2.2.1⟩; clear hbx hqb hoth
    go_wp2_with fail
    refine HC.out.mono ?_; rintro e w5 ⟨v5,rfl,hb5,hB5⟩; obtain ⟨a5,c5,rfl⟩ := hB5.form; have hq5 := blk_next HQ.out.1 hb5; have hz5 := blk_next HQ.out.2 hb5; obtain ⟨x5,hx5⟩ : ∃ x5,w5.setCell ⟨Eb + 1 + 1,4,none⟩ (.slice a5 Bs.length c5) = x5 := ⟨_,rfl⟩; have HX5 : Hid (OTH (Eb + 1 + 1) w5 x5 /\ x5.heap[Eb + 1 + 1]? = some (.cells #[.string s,.int .i64 wd,.int .i64 ln,.slice aK m cK,.slice a5 Bs.length c5] 25 (0,0)) /\ x5.heap[Eb + 1]? = some (.cells #[.string ⟨#[]⟩,.int .i64 0,.int .i64 0,.slice none 0 0,.slice none 0 0] 25 (0,0)) /\ Below wr.heap.size wr w5 /\ RB w5 (fun b => wr.heap.size <= b /\ b < w5.heap.size) N n Bs (.slice a5 Bs.length c5)) := by
      have hoS : OTH (Eb + 1 + 1) w5 x5 := by rw [<- hx5]; exact OTH.set _ _ _ _
      refine ⟨hoS,?_,(hoS.block _ (Array.getElem?_eq_some_iff.1 hz5).1 (by omega)).trans hz5,hb5,hB5⟩; rw [<- hx5,heap_setCell_same _ _ 4 _ _ _ hq5]
      simp
    have HE5 : Hid (w5.setCell ⟨Eb + 1 + 1,4,none⟩ (.slice a5 Bs.length c5) = x5) := hx5; have t4 := cell_of hq5 4; have ft4 := fz_of hq5 4; clear hx5 hq5 hz5 hb5 hB5 HC c3 c4 HQ
    go_upto_region 10 with fail
    rw [HE5.out]; clear t4 ft4 HE5; have e0 := cell_of HX5.out.2.1 0; have e1 := cell_of HX5.out.2.1 1; have e2 := cell_of HX5.out.2.1 2; have e3 := cell_of HX5.out.2.1 3; have e4 := cell_of HX5.out.2.1 4; have r0 := cell_of HX5.out.2.2.1 0; have fr0 := fz_of HX5.out.2.2.1 0; have r1 := cell_of HX5.out.2.2.1 1; have fr1 := fz_of HX5.out.2.2.1 1; have r2 := cell_of HX5.out.2.2.1 2; have fr2 := fz_of HX5.out.2.2.1 2; have r3 := cell_of HX5.out.2.2.1 3; have fr3 := fz_of HX5.out.2.2.1 3; have r4 := cell_of HX5.out.2.2.1 4; have fr4 := fz_of HX5.out.2.2.1 4
    go_wp2_with fail
    obtain ⟨wy,hwy⟩ : ∃ wy,(((((x5.setCell ⟨Eb + 1,0,none⟩ (.string s)).setCell ⟨Eb + 1,1,none⟩ (.int .i64 wd)).setCell ⟨Eb + 1,2,none⟩ (.int .i64 ln)).setCell ⟨Eb + 1,3,none⟩ (.slice aK m cK)).setCell ⟨Eb + 1,4,none⟩ (.slice a5 Bs.length c5)) = wy := ⟨_,rfl⟩; have k1 : wy.heap[Eb + 1]? = some (.cells #[.string s,.int .i64 wd,.int .i64 ln,.slice aK m cK,.slice a5 Bs.length c5] 25 (0,0)) := by
      rw [<- hwy,heap_setCell_same _ _ 4 _ _ _ (heap_setCell_same _ _ 3 _ _ _ (heap_setCell_same _ _ 2 _ _ _ (heap_setCell_same _ _ 1 _ _ _ (heap_setCell_same _ _ 0 _ _ _ HX5.out.2.2.1))))]
      simp
    have k2 : OTH (Eb + 1) x5 wy := by
      rw [<- hwy]; exact ((((OTH.set _ _ _ _).trans (OTH.set _ _ _ _)).trans (OTH.set _ _ _ _)).trans (OTH.set _ _ _ _)).trans (OTH.set _ _ _ _)
    have hwE := H0.out.2.2.2.2; have hs1 := HO.out.size; have hs2 := HX5.out.2.2.2.1.size; have hs3 := HX5.out.1.size; have hs4 := k2.size; have hs5 := H0.out.1.size; rw [hwy]; refine bodyPost_ret (res1P rfl _ _ (Eb + 1) _ _ _ rfl k1 rfl) rfl ?_; have hwr : Below w.heap.size wr wy := ((HX5.out.2.2.2.1.mono (by omega)).trans (HX5.out.1.below (by omega) (by omega))).trans (k2.below (by omega) (by omega)); have hw1 : Below w.heap.size w wr := H0.out.1.trans (HO.out.below (by omega) (by omega)); refine ⟨[.string s,.int .i64 wd,.int .i64 ln,.slice aK m cK,.slice a5 Bs.length c5],rfl,hw1.trans hwr,.slice aK m cK,.slice a5 Bs.length c5,rfl,?_,?_⟩
    · have h5 : KD W1 wr (Eb + 1 + 1) s wd ln (.slice aB Bs.length cB) (Ds.take m) (.slice aK m cK) := ⟨css,HKD.out⟩
      rw [List.take_of_length_le (by rw [HM.out]; exact Nat.le_refl _)] at h5; have h6 := HM.out; rw [<- h6] at h5; have h7 := KD.rds h5; rw [h6] at h7; refine (h7.keep (w' := wy) (fun q hq => ?_)).mono (fun q hq => ⟨by omega,by omega⟩); rw [k2.block q (by omega) (by omega),HX5.out.1.block q (by omega) (by omega),HX5.out.2.2.2.1.block q hq.2]
    refine (HX5.out.2.2.2.2.keep (w' := wy) (fun q hq => ?_)).mono (fun q hq => ⟨by omega,by omega⟩); rw [k2.block q (by omega) (by omega),HX5.out.1.block q (by omega) (by omega)]
end Go.Proofs.YtncglkbfnfiekaaGreatDoor
namespace Go.Proofs.YtncglkbfnfiekaaGreatDoor
open Go.ChangeShapes Go.WideShapes Go.ChangeAt Go.RowKit Go.Lib Go.WideMaps Go.Maps Go.ChangeMaps

theorem RP.mono {w : World} {P P' : Nat -> Prop} {N n : Nat} (hP : ∀ j,P j -> P' j) {p : Pg} {cs : List Value} (h : RP w P N n p cs) : RP w P' N n p cs := by
  obtain ⟨vD,vB,e,h1,h2⟩ := h; exact ⟨vD,vB,e,h1.mono hP,h2.mono hP⟩
theorem RP.shape {w : World} {P : Nat -> Prop} {N n : Nat} {p : Pg} {cs : List Value} (h : RP w P N n p cs) : ∃ a1 c1 a2 c2,cs = [.string p.s,.int .i64 p.wd,.int .i64 p.ln,.slice a1 p.Ds.length c1,.slice a2 p.Bs.length c2] := by
  obtain ⟨vD,vB,rfl,⟨a1,c1,rfl,_⟩,h2⟩ := h; obtain ⟨a2,c2,rfl⟩ := h2.form; exact ⟨a1,c1,a2,c2,rfl⟩
set_option maxHeartbeats 16000000 in
set_option maxRecDepth 100000 in
/-- a program in new memory,or the old one where it is too great -/
theorem own_any (w : World) (P : Nat -> Prop) (N n : Nat) (p : Pg) (cs : List Value) (h : RP w P N n p cs) (hB : ∀ j,P j -> j < w.heap.size) (hwt : wtP p <= 1048576) :
    Calls Tryz.prog 6 #[.agg cs.toArray] w fun e w' => ∃ cs',e = .returned (.agg cs'.toArray) /\ Below w.heap.size w w' /\ RP w' (fun b => P b ∨ (w.heap.size <= b /\ b < w'.heap.size)) N n p cs' := by
  have HG : Hid (∀ X,Below w.heap.size w X -> Calls Tryz.prog 13 #[.agg cs.toArray] X fun e w' => e = .returned (.bool (decide (10000 < wtP p))) /\ Below X.heap.size X w') := fun X hX => great_any X P N n p cs (h.keep (fun q hq => hX.block q (hB q hq))) (fun q hq => Nat.lt_of_lt_of_le (hB q hq) hX.size) hwt
  have HOw : Hid (∀ X,Below w.heap.size w X -> Calls Tryz.prog 14 #[.agg cs.toArray] X fun e w' => ∃ cs',e = .returned (.agg cs'.toArray) /\ Below X.heap.size X w' /\ RP w' (fun b => X.heap.size <= b /\ b < w'.heap.size) N n p cs') := fun X hX => Own_any X P N n p cs (h.keep (fun q hq => hX.block q (hB q hq))) (fun q hq => Nat.lt_of_lt_of_le (hB q hq) hX.size) hwt
  have HP : Hid (∀ X,Below w.heap.size w X -> RP X P N n p cs) := fun X hX => h.keep (fun q hq => hX.block q (hB q hq))
  obtain ⟨a1,c1,a2,c2,rfl⟩ := h.shape
  generalize hg : decide (10000 < wtP p) = gr at HG
  clear hg h hB; obtain ⟨s,wd,ln,Ds,Bs⟩ := p
  dsimp only at *
  replace HG : Hid (∀ X,Below w.heap.size w X -> Calls Tryz.prog 13 #[.agg #[.string s,.int .i64 wd,.int .i64 ln,.slice a1 Ds.length c1,.slice a2 Bs.length c2]] X fun e w' => e = .returned (.bool gr) /\ Below X.heap.size X w') := HG; replace HOw : Hid (∀ X,Below w.heap.size w X -> Calls Tryz.prog 14 #[.agg #[.string s,.int .i64 wd,.int .i64 ln,.slice a1 Ds.length c1,.slice a2 Bs.length c2]] X fun e w' => ∃ cs',e = .returned (.agg cs'.toArray) /\ Below X.heap.size X w' /\ RP w' (fun b => X.heap.size <= b /\ b < w'.heap.size) N n ⟨s,wd,ln,Ds,Bs⟩ cs') := HOw; obtain ⟨Eb,hEb⟩ : ∃ Eb,w.heap.size = Eb := ⟨_,rfl⟩; obtain ⟨W1,hW1⟩ : ∃ W1,(w.alloc (.cells #[.string s,.int .i64 wd,.int .i64 ln,.slice a1 Ds.length c1,.slice a2 Bs.length c2] 25)).alloc (.cells #[.string ⟨#[]⟩,.int .i64 0,.int .i64 0,.slice none 0 0,.slice none 0 0] 25) = W1 := ⟨_,rfl⟩; have H0 : Hid (Below w.heap.size w W1 /\ W1.heap[Eb]? = some (.cells #[.string s,.int .i64 wd,.int .i64 ln,.slice a1 Ds.length c1,.slice a2 Bs.length c2] 25 (0,0)) /\ W1.heap[Eb + 1]? = some (.cells #[.string ⟨#[]⟩,.int .i64 0,.int .i64 0,.slice none 0 0,.slice none 0 0] 25 (0,0)) /\ W1.heap.size = Eb + 1 + 1 /\ w.heap.size = Eb) := by
    rw [<- hW1,<- hEb]; refine ⟨bnx (bel1 _ _) (bel1 _ _),blk_next (heap_alloc_new _ _) (bel1 _ _),?_,by simp,rfl⟩; have h5 := heap_alloc_new (w.alloc (.cells #[.string s,.int .i64 wd,.int .i64 ln,.slice a1 Ds.length c1,.slice a2 Bs.length c2] 25)) (.cells #[.string ⟨#[]⟩,.int .i64 0,.int .i64 0,.slice none 0 0,.slice none 0 0] 25)
    simpa using h5
  have HW1 : Hid ((w.alloc (.cells #[.string s,.int .i64 wd,.int .i64 ln,.slice a1 Ds.length c1,.slice a2 Bs.length c2] 25)).alloc (.cells #[.string ⟨#[]⟩,.int .i64 0,.int .i64 0,.slice none 0 0,.slice none 0 0] 25) = W1 /\ w.heap.size = Eb) := ⟨hW1,hEb⟩; clear hW1 hEb
  go_enter Tryz.func6,Tryz.ntmps6
  go_upto_region 1 with fail
  rw [HW1.out.1,HW1.out.2]; have p0 := cell_of H0.out.2.1 0; have p1 := cell_of H0.out.2.1 1; have p2 := cell_of H0.out.2.1 2; have p3 := cell_of H0.out.2.1 3; have p4 := cell_of H0.out.2.1 4
  go_wp2_with fail
  refine (HG.out W1 H0.out.1).mono ?_; rintro e w2 ⟨rfl,hb2⟩; clear p0 p1 p2 p3 p4; have H2 : Hid (Below w.heap.size w w2 /\ w2.heap[Eb]? = some (.cells #[.string s,.int .i64 wd,.int .i64 ln,.slice a1 Ds.length c1,.slice a2 Bs.length c2] 25 (0,0)) /\ w2.heap[Eb + 1]? = some (.cells #[.string ⟨#[]⟩,.int .i64 0,.int .i64 0,.slice none 0 0,.slice none 0 0] 25 (0,0)) /\ w.heap.size = Eb) := ⟨bnx H0.out.1 hb2,blk_next H0.out.2.1 hb2,blk_next H0.out.2.2.1 hb2,H0.out.2.2.2.2⟩; clear hb2 H0 HW1; have p0 := cell_of H2.out.2.1 0; have p1 := cell_of H2.out.2.1 1; have p2 := cell_of H2.out.2.1 2; have p3 := cell_of H2.out.2.1 3; have p4 := cell_of H2.out.2.1 4; cases gr with
  | true =>
    have r0 := cell_of H2.out.2.2.1 0; have fr0 := fz_of H2.out.2.2.1 0; have r1 := cell_of H2.out.2.2.1 1; have fr1 := fz_of H2.out.2.2.1 1; have r2 := cell_of H2.out.2.2.1 2; have fr2 := fz_of H2.out.2.2.1 2; have r3 := cell_of H2.out.2.2.1 3; have fr3 := fz_of H2.out.2.2.1 3; have r4 := cell_of H2.out.2.2.1 4; have fr4 := fz_of H2.out.2.2.1 4
    go_wp2_with fail
    obtain ⟨wy,hwy⟩ : ∃ wy,(((((w2.setCell ⟨Eb + 1,0,none⟩ (.string s)).setCell ⟨Eb + 1,1,none⟩ (.int .i64 wd)).setCell ⟨Eb + 1,2,none⟩ (.int .i64 ln)).setCell ⟨Eb + 1,3,none⟩ (.slice a1 Ds.length c1)).setCell ⟨Eb + 1,4,none⟩ (.slice a2 Bs.length c2)) = wy := ⟨_,rfl⟩; have k1 : wy.heap[Eb + 1]? = some (.cells #[.string s,.int .i64 wd,.int .i64 ln,.slice a1 Ds.length c1,.slice a2 Bs.length c2] 25 (0,0)) := by
      rw [<- hwy,heap_setCell_same _ _ 4 _ _ _ (heap_setCell_same _ _ 3 _ _ _ (heap_setCell_same _ _ 2 _ _ _ (heap_setCell_same _ _ 1 _ _ _ (heap_setCell_same _ _ 0 _ _ _ H2.out.2.2.1))))]
      simp
    have k2 : OTH (Eb + 1) w2 wy := by
      rw [<- hwy]; exact ((((OTH.set _ _ _ _).trans (OTH.set _ _ _ _)).trans (OTH.set _ _ _ _)).trans (OTH.set _ _ _ _)).trans (OTH.set _ _ _ _)
    rw [hwy]; refine bodyPost_ret (res1P rfl _ _ (Eb + 1) _ _ _ rfl k1 rfl) rfl ?_; have hE := H2.out.2.2.2; have hwy2 : Below w.heap.size w wy := H2.out.1.trans (k2.below (by have := H2.out.1.size; omega) (by omega)); exact ⟨_,rfl,hwy2,(HP.out wy hwy2).mono (fun b hb => Or.inl hb)⟩
  | false =>
    have HC := HOw.out w2 H2.out.1; replace HC : Hid (Calls Tryz.prog 14 #[.agg #[.string s,.int .i64 wd,.int .i64 ln,.slice a1 Ds.length c1,.slice a2 Bs.length c2]] w2 fun e w' => ∃ cs',e = .returned (.agg cs'.toArray) /\ Below w2.heap.size w2 w' /\ RP w' (fun b => w2.heap.size <= b /\ b < w'.heap.size) N n ⟨s,wd,ln,Ds,Bs⟩ cs') := HC
    go_wp2_with fail
    refine HC.out.mono ?_; rintro e w5 ⟨cs',rfl,hb5,hP5⟩; obtain ⟨a5,c5,a6,c6,e5⟩ := hP5.shape
    dsimp only at e5
    subst e5; have HP5 : Hid (Below w2.heap.size w2 w5 /\ RP w5 (fun b => w2.heap.size <= b /\ b < w5.heap.size) N n ⟨s,wd,ln,Ds,Bs⟩ [.string s,.int .i64 wd,.int .i64 ln,.slice a5 Ds.length c5,.slice a6 Bs.length c6] /\ w5.heap[Eb + 1]? = some (.cells #[.string ⟨#[]⟩,.int .i64 0,.int .i64 0,.slice none 0 0,.slice none 0 0] 25 (0,0))) := ⟨hb5,hP5,blk_next H2.out.2.2.1 hb5⟩; clear hb5 hP5 HC p0 p1 p2 p3 p4; have r0 := cell_of HP5.out.2.2 0; have fr0 := fz_of HP5.out.2.2 0; have r1 := cell_of HP5.out.2.2 1; have fr1 := fz_of HP5.out.2.2 1; have r2 := cell_of HP5.out.2.2 2; have fr2 := fz_of HP5.out.2.2 2; have r3 := cell_of HP5.out.2.2 3; have fr3 := fz_of HP5.out.2.2 3; have r4 := cell_of HP5.out.2.2 4; have fr4 := fz_of HP5.out.2.2 4
    go_wp2_with fail
    obtain ⟨wy,hwy⟩ : ∃ wy,(((((w5.setCell ⟨Eb + 1,0,none⟩ (.string s)).setCell ⟨Eb + 1,1,none⟩ (.int .i64 wd)).setCell ⟨Eb + 1,2,none⟩ (.int .i64 ln)).setCell ⟨Eb + 1,3,none⟩ (.slice a5 Ds.length c5)).setCell ⟨Eb + 1,4,none⟩ (.slice a6 Bs.length c6)) = wy := ⟨_,rfl⟩; have k1 : wy.heap[Eb + 1]? = some (.cells #[.string s,.int .i64 wd,.int .i64 ln,.slice a5 Ds.length c5,.slice a6 Bs.length c6] 25 (0,0)) := by
      rw [<- hwy,heap_setCell_same _ _ 4 _ _ _ (heap_setCell_same _ _ 3 _ _ _ (heap_setCell_same _ _ 2 _ _ _ (heap_setCell_same _ _ 1 _ _ _ (heap_setCell_same _ _ 0 _ _ _ HP5.out.2.2))))]
      simp
    have k2 : OTH (Eb + 1) w5 wy := by
      rw [<- hwy]; exact ((((OTH.set _ _ _ _).trans (OTH.set _ _ _ _)).trans (OTH.set _ _ _ _)).trans (OTH.set _ _ _ _)).trans (OTH.set _ _ _ _)
    rw [hwy]; refine bodyPost_ret (res1P rfl _ _ (Eb + 1) _ _ _ rfl k1 rfl) rfl ?_; have hE := H2.out.2.2.2; have h1 := (Array.getElem?_eq_some_iff.1 H2.out.2.2.1).1; have h2 := HP5.out.1.size; have h3 := k2.size; have h4 := H2.out.1.size; have hwy2 : Below w.heap.size w wy := (bnx H2.out.1 HP5.out.1).trans (k2.below (by omega) (by omega)); refine ⟨_,rfl,hwy2,(HP5.out.2.1.keep (w' := wy) (fun q hq => k2.block q hq.2 (by omega))).mono (fun b hb => Or.inr ⟨by omega,by omega⟩)⟩
end Go.Proofs.YtncglkbfnfiekaaGreatDoor
namespace Go.Proofs.YtncglkbfnfiekaaGreatDoor
open Go.ChangeShapes Go.WideShapes Go.ChangeAt Go.RowKit Go.Lib Go.WideMaps Go.Maps Go.ChangeMaps

/-- a sum,as far as it is told apart -/
def cs7 (l : List Nat) : Nat := min l.sum 65537
theorem cs7_le (l : List Nat) : cs7 l <= 65537 := by unfold cs7; omega
theorem cs7_snoc (l : List Nat) (x : Nat) : cs7 (l ++ [x]) = min (cs7 l + x) 65537 := by
  unfold cs7; rw [List.sum_append]
  simp
  omega
/-- how often a loop goes round,as far as it is told apart -/
def tmS (d : Sd) : Nat := min (IntKind.u64.wrap (d.hi - d.lo)).toNat 65537
/-- the size of a statement,by those of the statements of its blocks -/
def stR (d : Sd) (T E : List Nat) : Nat := if d.k = 1 then 1 + d.E.length else if d.k = 2 then 1 + (d.A.length + d.E.length) else if d.k = 3 then 1 + (d.E.length + cs7 T + cs7 E) else if d.k = 4 then (if d.lo < d.hi then 1 + tmS d * (1 + cs7 T) else 1) else 1
def gS (d : Sd) (st : List Nat) : List Nat := stR d (st.take d.mT) ((st.drop d.mT).take d.mE) :: st.drop (d.mT + d.mE)
def vS (S : List Sd) : Nat := (S.foldr gS []).headD 0
theorem fold_rows (Bs : List (List Sd)) (h : ∀ j,j < Bs.length -> ∀ st,(Bs.getD j []).foldr gS st = vS (Bs.getD j []) :: st) : ∀ st,Bs.flatten.foldr gS st = Bs.map vS ++ st := by
  induction Bs with
  | nil => intro st; rfl
  | cons S r ih =>
    intro st; rw [List.flatten_cons,List.foldr_append,ih (fun j hj st => h (j + 1) (by simpa using hj) st)]; exact h 0 (by simp) _
theorem fold_one (d : Sd) (BT BE : List (List Sd)) (hT : ∀ st,BT.flatten.foldr gS st = BT.map vS ++ st) (hE : ∀ st,BE.flatten.foldr gS st = BE.map vS ++ st) (h1 : d.mT = BT.length) (h2 : d.mE = BE.length) (st : List Nat) : (d :: (BT.flatten ++ BE.flatten)).foldr gS st = stR d (BT.map vS) (BE.map vS) :: st := by
  rw [List.foldr_cons,List.foldr_append,hE,hT]; unfold gS; have e1 : (BT.map vS).length = d.mT := by rw [List.length_map,h1]
  have e2 : (BE.map vS).length = d.mE := by rw [List.length_map,h2]
  rw [List.take_left' e1,List.drop_left' e1,List.take_left' e2,<- List.drop_drop,List.drop_left' e1,List.drop_left' e2]
theorem RB.fold {w : World} {P : Nat -> Prop} {N : Nat} : ∀ {n : Nat} {Bs : List (List Sd)} {v : Value},RB w P N n Bs v -> ∀ st,Bs.flatten.foldr gS st = Bs.map vS ++ st
  | 0,_,_,h => h.elim
  | n + 1,Bs,v,h => by
    obtain ⟨ad,cap,_,h3⟩ := h; refine fold_rows Bs (fun j hj st => ?_); obtain ⟨b,o,_,_,hc⟩ := h3 (by omega); obtain ⟨vs,_,_,k,s,a0,a1,a2,a3,e0,e1,e2,e3,lo,hi,t1,t2,LA,LE,BT,BE,hS,_,_,_,hT,hE⟩ := hc j hj; rw [hS]; unfold vS; have hf := fold_one ⟨k,s,LA,LE,lo,hi,BT.length,BE.length⟩ BT BE (RB.fold hT) (RB.fold hE) rfl rfl; rw [hf st,hf []]
    rfl
/-- what a statement's size is -/
theorem vS_is {w : World} {P : Nat -> Prop} {N n : Nat} {k : Int} {s : ByteArray} {LA LE : List Nd} {lo hi : Int} {BT BE : List (List Sd)} {t1 t2 : Value} (hT : RB w P N n BT t1) (hE : RB w P N n BE t2) : vS (⟨k,s,LA,LE,lo,hi,BT.length,BE.length⟩ :: (BT.flatten ++ BE.flatten)) = stR ⟨k,s,LA,LE,lo,hi,BT.length,BE.length⟩ (BT.map vS) (BE.map vS) := by
  unfold vS; have hf := fold_one ⟨k,s,LA,LE,lo,hi,BT.length,BE.length⟩ BT BE (RB.fold hT) (RB.fold hE) rfl rfl; rw [hf []]
  rfl
theorem cut_any (x : Nat) (w : World) : Calls Tryz.prog 67 #[.int .i64 (x : Int)] w fun e w' => e = .returned (.int .i64 ((min x 65537 : Nat) : Int)) /\ w' = w := by
  go_enter Tryz.func67,Tryz.ntmps67
  by_cases h : 65536 < x
  · have q1 : (x : Int) > 65536 := by omega
    have hm : min x 65537 = 65537 := by omega
    rw [hm]
    go_wp2_with fail
    first | exact ⟨rfl,rfl⟩ | (go_ret; exact ⟨rfl,rfl⟩)
  have q1 : ¬ (x : Int) > 65536 := by omega
  have hm : min x 65537 = x := by omega
  rw [hm]
  go_wp2_with fail
  first | exact ⟨rfl,rfl⟩ | (go_ret; exact ⟨rfl,rfl⟩)
/-- a statement's box,and all that stood -/
def KW (w : World) (Sb : Nat) (cs : Array Value) (W : World) : Prop := Aside (Below w.heap.size w W /\ W.heap[Sb]? = some (.cells cs 67 (0,0)))
theorem KW.out {w : World} {Sb : Nat} {cs : Array Value} {W : World} (h : KW w Sb cs W) : Below w.heap.size w W /\ W.heap[Sb]? = some (.cells cs 67 (0,0)) := Aside.out h
theorem KW.drew {w : World} {Sb : Nat} {cs : Array Value} {W : World} (h : KW w Sb cs W) : KW w Sb cs W.drew := ⟨⟨h.out.1.os,h.out.1.tape,h.out.1.output,h.out.1.size,h.out.1.block⟩,h.out.2⟩
theorem KW.next {w : World} {Sb : Nat} {cs : Array Value} {W W' : World} (h : KW w Sb cs W) (hb : Below W.heap.size W W') : KW w Sb cs W' := ⟨bnx h.out.1 hb,blk_next h.out.2 hb⟩
end Go.Proofs.YtncglkbfnfiekaaGreatDoor
