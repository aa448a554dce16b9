import Derived.Test.YtfljcdccepnidaaGreatDoorWzD
import Derived.Test.YtfljcdccepnidaaGreatDoorWtI
namespace Go.Proofs.YtfljcdccepnidaaGreatDoor
open Go.ChangeShapes Go.WideShapes Go.ChangeAt Go.RowKit Go.Lib

def rnB (a b : ByteArray) (Bs : List (List Sd)) : List (List Sd) := Bs.map (fun S => S.map (rnS a b))
theorem rnB_len {a b : ByteArray} (Bs : List (List Sd)) : (rnB a b Bs).length = Bs.length := by simp [rnB]
theorem rnB_flat {a b : ByteArray} (Bs : List (List Sd)) : (rnB a b Bs).flatten = Bs.flatten.map (rnS a b) := by simp only [rnB,List.map_flatten]
theorem getD_rnB {a b : ByteArray} (Bs : List (List Sd)) (j : Nat) : (rnB a b Bs).getD j [] = (Bs.getD j []).map (rnS a b) := by
  unfold rnB; rw [List.getD_eq_getElem?_getD,List.getD_eq_getElem?_getD,List.getElem?_map]; cases Bs[j]? with
  | none => rfl
  | some x => rfl
set_option maxHeartbeats 16000000 in
set_option maxRecDepth 100000 in
theorem cbody_any (a b : ByteArray) (N : Nat) : ∀ (n : Nat) (Bs : List (List Sd)) (v : Value) (w : World) (P : Nat -> Prop),RB w P N n Bs v -> (∀ j,P j -> j < w.heap.size) -> wtS Bs.flatten <= 1048576 ->
    Calls Tryz.prog 9 #[v,.string a,.string b] w fun e w' => ∃ v',e = .returned v' /\ Below w.heap.size w w' /\ RB w' (fun b => w.heap.size <= b /\ b < w'.heap.size) N n (rnB a b Bs) v' := by
  intro n
  induction n with
  | zero => intro Bs v w P h; exact h.elim
  | succ n ih =>
    intro Bs v w P h hB hwt; have hbl := h.len; obtain ⟨ad,cap,rfl,hS⟩ := h; have HS : Hid (∀ X,Below w.heap.size w X -> RBs X P N (RB X P N n) Bs (.slice ad Bs.length cap)) := fun X hX => by
      have h5 := RB.keep (w' := X) (n := n + 1) (fun j hj => hX.block j (hB j hj)) (show RB w P N (n + 1) Bs (.slice ad Bs.length cap) from ⟨ad,cap,rfl,hS⟩); exact h5
    have HI : Hid (∀ Bs v X,Below w.heap.size w X -> RB X P N n Bs v -> wtS Bs.flatten <= 1048576 -> Calls Tryz.prog 9 #[v,.string a,.string b] X fun e w' => ∃ v',e = .returned v' /\ Below X.heap.size X w' /\ RB w' (fun b => X.heap.size <= b /\ b < w'.heap.size) N n (rnB a b Bs) v') := fun Bs v X hX h h2 => ih Bs v X P h (fun j hj => Nat.lt_of_lt_of_le (hB j hj) hX.size) h2
    have HCp : Hid (∀ L cs X,Below w.heap.size w X -> RE X P N L cs -> L.length <= 1048576 -> Calls Tryz.prog 19 #[.agg cs.toArray,.string a,.string b] X fun e w' => ∃ cs',e = .returned (.agg cs'.toArray) /\ Below X.heap.size X w' /\ RE w' (fun b => X.heap.size <= b /\ b < w'.heap.size) N (L.map (rnN a b)) cs') := fun L cs X hX h h2 => called_any a b N L cs X P h (fun j hj => Nat.lt_of_lt_of_le (hB j hj) hX.size) h2
    have HBP : Hid (∀ j,P j -> j < w.heap.size) := hB; clear hS ih hB; obtain ⟨m,hm⟩ : ∃ m,Bs.length = m := ⟨_,rfl⟩; have HM : Hid (Bs.length = m) := hm; obtain ⟨Ms,hMs⟩ : ∃ Ms,rnB a b Bs = Ms := ⟨_,rfl⟩; have HMs : Hid (∀ j,Ms.getD j [] = (Bs.getD j []).map (rnS a b)) := fun j => by rw [<- hMs]; exact getD_rnB Bs j
    have HMl : Hid (Ms.length = m) := by show _ = _; rw [<- hMs,<- hm]; simp [rnB]
    rw [hMs]; clear hMs; have HT : Hid (∀ j,wtS (Bs.take j).flatten <= wtS Bs.flatten) := fun j => btake_le Bs j
    rw [hm] at hbl HS; rw [hm]; have hmm : m <= 1048576 := by omega
    clear hm; obtain ⟨i0,hi0,hz0,hz1,hz2⟩ := info_parts (P := Tryz.prog) (e := 46) (z := .agg #[.int .i64 0,.string ⟨#[]⟩,.int .i64 0,.int .u64 0,.string ⟨#[]⟩,.slice none 0 0,.int .i64 0,.int .u64 0,.string ⟨#[]⟩,.slice none 0 0,.int .u64 0,.int .u64 0,.slice none 0 0,.slice none 0 0]) (size := 14) (bytes := 200) (by kernel_rfl)
    go_enter Tryz.func9,Tryz.ntmps9
    go_wp2_with fail
    go_loopg [7,8] m (fun gk v7 v8 wr => ∃ j : Nat,v8 = .int .i64 (j : Int) /\ j + gk = m /\ Aside (KS w wr N n (Ms.take j) v7))
    case atStart => exact ⟨0,rfl,by omega,KS.nil w N n⟩
    case round =>
      obtain ⟨j,rfl,hj,HR⟩ := hrel; obtain ⟨css,hkr⟩ := HR.out; have HKR : Hid (KSc w wr N n (Ms.take j) u7 css) := hkr; obtain ⟨_,_,hrow2,hbel,_⟩ := hkr; have hlt2 : (Ms.take j).length = j := by rw [List.length_take,HMl.out]; omega
      rw [hlt2] at hrow2; obtain ⟨aK,cK,rfl,hcK⟩ : ∃ a c,u7 = .slice a j c /\ j <= c := by
        rcases hrow2.2 with ⟨e,e0⟩ | ⟨g,cap,cur,e,_,_,h3,_⟩
        · exact ⟨none,0,by rw [e,e0],by omega⟩
        exact ⟨_,cap,e,h3⟩
      have HBl : Hid (Below w.heap.size w wr) := hbel; have HLt : Hid ((Ms.take j).length = j) := hlt2
      by_cases hlt : j < m
      rotate_left
      · obtain rfl : m = j := by omega
        have q1 : ¬ (m : Int) < (m : Int) := by omega
        have HZ : Hid (RB wr (fun b => w.heap.size <= b /\ b < wr.heap.size) N (n + 1) Ms (.slice aK m cK)) := by
          have h5 := HR.out; rw [List.take_of_length_le (by rw [HMl.out]; exact Nat.le_refl _)] at h5; have h6 := HMl.out; rw [<- h6] at h5; have h7 := KS.rb h5; rw [h6] at h7; exact h7
        clear HR HKR hrow2
        go_wp2_with fail
        go_ret
        exact ⟨_,rfl,HBl.out,HZ.out⟩
      have q1 : (j : Int) < (m : Int) := by omega
      have hw1 := btake_wt (Bs := Bs) (j := j) (by rw [HM.out]; exact hlt); have hw2 := HT.out (j + 1); obtain ⟨ad2,cap2,e2,h5⟩ := HS.out wr hbel; cases e2; obtain ⟨bS,oS,rfl,⟨hPb,-⟩,hc⟩ := h5 (by rw [HM.out]; omega); obtain ⟨vs,hl,c0,hE⟩ := hc j (by rw [HM.out]; exact hlt); obtain ⟨k,s,a0,a1,a2,a3,e0,e1,e2,e3,lo,hi,t1,t2,LA,LE,BT,BE,hSe,rfl,hA,hEE,hT,hEl⟩ := hE; have hws : wtS (Bs.getD j []) = 1 + LA.length + LE.length + (wtS BT.flatten + wtS BE.flatten) := by rw [hSe]; simp only [wtS,wtS_app]
      obtain ⟨ka,xa,sa,da,ma,ca,hea⟩ := hA.shape; obtain ⟨ke,xe,se,de,me,ce,hee⟩ := hEE.shape; obtain ⟨aT,cT,rfl⟩ := hT.form; obtain ⟨aL,cL,rfl⟩ := hEl.form; cases hea; cases hee; have d0 := c0 0 (by omega); have d1 := c0 1 (by omega); have d2 := c0 2 (by omega); have d3 := c0 3 (by omega); have d4 := c0 4 (by omega); have d5 := c0 5 (by omega); have d6 := c0 6 (by omega); have d7 := c0 7 (by omega); have d8 := c0 8 (by omega); have d9 := c0 9 (by omega); have d10 := c0 10 (by omega); have d11 := c0 11 (by omega); have d12 := c0 12 (by omega); have d13 := c0 13 (by omega); simp only [List.getD_cons_zero,List.getD_cons_succ,Nat.add_zero] at d0 d1 d2 d3 d4 d5 d6 d7 d8 d9 d10 d11 d12 d13; clear c0 hc; obtain ⟨sn,hsn⟩ : ∃ sn,rn a b s = sn := ⟨_,rfl⟩; obtain ⟨W0,hW0⟩ : ∃ W0,wr.alloc (.cells #[.int .i64 k,.string s,.int .i64 ka,.int .u64 xa,.string sa,.slice da ma ca,.int .i64 ke,.int .u64 xe,.string se,.slice de me ce,.int .u64 lo,.int .u64 hi,.slice aT BT.length cT,.slice aL BE.length cL] 46) = W0 := ⟨_,rfl⟩; obtain ⟨Sb,hSb⟩ : ∃ Sb,wr.heap.size = Sb := ⟨_,rfl⟩; have HW0 : Hid (wr.alloc (.cells #[.int .i64 k,.string s,.int .i64 ka,.int .u64 xa,.string sa,.slice da ma ca,.int .i64 ke,.int .u64 xe,.string se,.slice de me ce,.int .u64 lo,.int .u64 hi,.slice aT BT.length cT,.slice aL BE.length cL] 46) = W0 /\ wr.heap.size = Sb) := ⟨hW0,hSb⟩; have kz : W0.heap[Sb]? = some (.cells #[.int .i64 k,.string s,.int .i64 ka,.int .u64 xa,.string sa,.slice da ma ca,.int .i64 ke,.int .u64 xe,.string se,.slice de me ce,.int .u64 lo,.int .u64 hi,.slice aT BT.length cT,.slice aL BE.length cL] 46 (0,0)) := by rw [<- hW0,<- hSb]; exact heap_alloc_new _ _
      have hbz : Below wr.heap.size wr W0 := by rw [<- hW0]; exact bel1 _ _
      have hsz0 : W0.heap.size = Sb + 1 := by rw [<- hW0,<- hSb]; simp
      obtain ⟨W1,hW1⟩ : ∃ W1,(if (s.toList == a.toList) = true then W0.setCell ⟨Sb,1,none⟩ (.string b) else W0) = W1 := ⟨_,rfl⟩; have H0 : Hid (Below wr.heap.size wr W1 /\ W1.heap[Sb]? = some (.cells #[.int .i64 k,.string sn,.int .i64 ka,.int .u64 xa,.string sa,.slice da ma ca,.int .i64 ke,.int .u64 xe,.string se,.slice de me ce,.int .u64 lo,.int .u64 hi,.slice aT BT.length cT,.slice aL BE.length cL] 46 (0,0)) /\ W1.heap.size = Sb + 1 /\ w.heap.size <= Sb /\ wr.heap.size = Sb) := by
        unfold rn at hsn; rw [<- hW1]
        by_cases hx : (s.toList == a.toList) = true
        · rw [if_pos hx] at hsn ⊢
          subst hsn; refine ⟨hbz.setCell (p := ⟨Sb,1,none⟩) (by show _ <= Sb; omega) _,?_,by simp [hsz0],by rw [<- hSb]; exact hbel.size,hSb⟩; rw [heap_setCell_same _ _ 1 _ _ _ kz]
          rfl
        rw [if_neg hx] at hsn ⊢; subst hsn; exact ⟨hbz,kz,hsz0,by rw [<- hSb]; exact hbel.size,hSb⟩
      have HKp : Hid (∀ X,OTH Sb W1 X -> Below w.heap.size w X /\ (RE X P N LA [.int .i64 ka,.int .u64 xa,.string sa,.slice da ma ca] /\ RE X P N LE [.int .i64 ke,.int .u64 xe,.string se,.slice de me ce]) /\ RB X P N n BT (.slice aT BT.length cT) /\ RB X P N n BE (.slice aL BE.length cL)) := fun X hX => by
        have hb9 : Below w.heap.size wr X := (H0.out.1.mono hbel.size).trans (hX.below (by have := H0.out.2.2; omega) H0.out.2.2.2.1); have hk : ∀ q,P q -> X.heap[q]? = wr.heap[q]? := fun q hq => hb9.block q (HBP.out q hq)
        exact ⟨hbel.trans hb9,⟨hA.keep hk,hEE.keep hk⟩,hT.keep hk,hEl.keep hk⟩
      have hbd : LA.length <= 1048576 /\ LE.length <= 1048576 /\ wtS BT.flatten <= 1048576 /\ wtS BE.flatten <= 1048576 := by omega
      have HSe : Hid (Ms.getD j [] = ⟨k,sn,LA.map (rnN a b),LE.map (rnN a b),lo,hi,(rnB a b BT).length,(rnB a b BE).length⟩ :: ((rnB a b BT).flatten ++ (rnB a b BE).flatten)) := by
        show _ = _
        rw [HMs.out j,hSe,List.map_cons,List.map_append,rnB_flat,rnB_flat,rnB_len,rnB_len]; unfold rnS; rw [hsn]
      have HTk : Hid (Ms.take (j + 1) = Ms.take j ++ [Ms.getD j []]) := by
        show _ = _
        rw [List.take_succ_eq_append_getElem (by rw [HMl.out]; exact hlt),List.getD_eq_getElem?_getD,List.getElem?_eq_getElem (by rw [HMl.out]; exact hlt)]
        rfl
      have f1z := fz_of kz 1; have c1z := cell_of kz 1; clear hW0 hSb hA hEE hT hEl hSe hws hw1 hw2 h5 hrow2 hbz hsz0; cases hx : (s.toList == a.toList)
      case' true =>
        rw [hx,if_pos rfl] at hW1; have HW1 : Hid (W0.setCell ⟨Sb,1,none⟩ (.string b) = W1) := hW1; clear hW1 kz
        go_upto_region 6 with fail
        rw [HW0.out.1,HW0.out.2]; clear d0 d1 d2 d3 d4 d5 d6 d7 d8 d9 d10 d11 d12 d13
        go_upto_region 8 with fail
        rw [HW1.out]; clear f1z c1z HW0 HW1
      case' false =>
        rw [hx,if_neg (by simp)] at hW1; have HW1 : Hid (W0 = W1) := hW1; clear hW1 kz
        go_upto_region 6 with fail
        rw [HW0.out.1,HW0.out.2]; clear d0 d1 d2 d3 d4 d5 d6 d7 d8 d9 d10 d11 d12 d13
        go_upto_region 8 with fail
        rw [HW1.out]; clear f1z c1z HW0 HW1
      all_goals
        have hkp1 := HKp.out W1 (OTH.refl Sb W1); have HC1 : Hid (Calls Tryz.prog 19 #[.agg #[.int .i64 ka,.int .u64 xa,.string sa,.slice da ma ca],.string a,.string b] W1 fun e w' => ∃ cs',e = .returned (.agg cs'.toArray) /\ Below W1.heap.size W1 w' /\ RE w' (fun b => W1.heap.size <= b /\ b < w'.heap.size) N (LA.map (rnN a b)) cs') := HCp.out LA [.int .i64 ka,.int .u64 xa,.string sa,.slice da ma ca] W1 hkp1.1 hkp1.2.1.1 hbd.1; clear hkp1; have p1_2 := cell_of H0.out.2.1 2; have fp1_2 := fz_of H0.out.2.1 2; have p1_3 := cell_of H0.out.2.1 3; have fp1_3 := fz_of H0.out.2.1 3; have p1_4 := cell_of H0.out.2.1 4; have fp1_4 := fz_of H0.out.2.1 4; have p1_5 := cell_of H0.out.2.1 5; have fp1_5 := fz_of H0.out.2.1 5
        go_wp2_with fail
        refine HC1.out.mono ?_; rintro e w1 ⟨cs1,rfl,hb1,hE1⟩; obtain ⟨k1,y1,s1,z1,m1,c1,rfl⟩ := hE1.shape; have hbx1 := blk_next H0.out.2.1 hb1; obtain ⟨x1,hx1⟩ : ∃ x1,((((w1.setCell ⟨Sb,2,none⟩ (.int .i64 k1)).setCell ⟨Sb,3,none⟩ (.int .u64 y1)).setCell ⟨Sb,4,none⟩ (.string s1)).setCell ⟨Sb,5,none⟩ (.slice z1 m1 c1)) = x1 := ⟨_,rfl⟩; have H1 : Hid (OTH Sb W1 x1 /\ x1.heap[Sb]? = some (.cells #[.int .i64 k,.string sn,.int .i64 k1,.int .u64 y1,.string s1,.slice z1 m1 c1,.int .i64 ke,.int .u64 xe,.string se,.slice de me ce,.int .u64 lo,.int .u64 hi,.slice aT BT.length cT,.slice aL BE.length cL] 46 (0,0)) /\ RE x1 (fun b => W1.heap.size <= b /\ b < x1.heap.size) N (LA.map (rnN a b)) [.int .i64 k1,.int .u64 y1,.string s1,.slice z1 m1 c1]) := by
          have hs0 := H0.out.2.2.1; have ho : ∀ q,q ≠ Sb -> x1.heap[q]? = w1.heap[q]? := fun q hq => by rw [<- hx1,heap_setCell_other _ _ _ _ hq,heap_setCell_other _ _ _ _ hq,heap_setCell_other _ _ _ _ hq,heap_setCell_other _ _ _ _ hq]
          have hz : x1.heap.size = w1.heap.size /\ x1.os = w1.os /\ x1.tape = w1.tape /\ x1.output = w1.output := by rw [<- hx1]; exact ⟨by simp,rfl,rfl,rfl⟩
          have hso : OTH Sb W1 x1 := ⟨hz.2.1.trans hb1.os,hz.2.2.1.trans hb1.tape,hz.2.2.2.trans hb1.output,by rw [hz.1]; exact hb1.size,fun q hq hn => (ho q hn).trans (hb1.block q hq)⟩; have hsz := hso.size; have hsz0 := (OTH.refl Sb W1 : OTH Sb W1 W1).size; refine ⟨(OTH.refl Sb W1 : OTH Sb W1 W1).trans hso,?_,?_⟩
          · rw [<- hx1,(heap_setCell_same _ _ 5 _ _ _ (heap_setCell_same _ _ 4 _ _ _ (heap_setCell_same _ _ 3 _ _ _ (heap_setCell_same _ _ 2 _ _ _ hbx1))))]; simp
          exact (hE1.keep (w' := x1) (fun b hb => ho b (by omega))).mono (fun b hb => ⟨by omega,by rw [hz.1]; exact hb.2⟩)
        have HX1 : Hid (((((w1.setCell ⟨Sb,2,none⟩ (.int .i64 k1)).setCell ⟨Sb,3,none⟩ (.int .u64 y1)).setCell ⟨Sb,4,none⟩ (.string s1)).setCell ⟨Sb,5,none⟩ (.slice z1 m1 c1)) = x1) := hx1; clear p1_2 fp1_2 p1_3 fp1_3 p1_4 fp1_4 p1_5 fp1_5; have r1_2 := cell_of hbx1 2; have fr1_2 := fz_of hbx1 2; have r1_3 := cell_of hbx1 3; have fr1_3 := fz_of hbx1 3; have r1_4 := cell_of hbx1 4; have fr1_4 := fz_of hbx1 4; have r1_5 := cell_of hbx1 5; have fr1_5 := fz_of hbx1 5; clear hE1 hb1 hx1 hbx1 HC1
        go_upto_region 9 with fail
        rw [HX1.out]; clear r1_2 fr1_2 r1_3 fr1_3 r1_4 fr1_4 r1_5 fr1_5; clear HX1
        have hkp2 := HKp.out x1 (H1.out.1); have HC2 : Hid (Calls Tryz.prog 19 #[.agg #[.int .i64 ke,.int .u64 xe,.string se,.slice de me ce],.string a,.string b] x1 fun e w' => ∃ cs',e = .returned (.agg cs'.toArray) /\ Below x1.heap.size x1 w' /\ RE w' (fun b => x1.heap.size <= b /\ b < w'.heap.size) N (LE.map (rnN a b)) cs') := HCp.out LE [.int .i64 ke,.int .u64 xe,.string se,.slice de me ce] x1 hkp2.1 hkp2.2.1.2 hbd.2.1; clear hkp2; have p2_6 := cell_of H1.out.2.1 6; have fp2_6 := fz_of H1.out.2.1 6; have p2_7 := cell_of H1.out.2.1 7; have fp2_7 := fz_of H1.out.2.1 7; have p2_8 := cell_of H1.out.2.1 8; have fp2_8 := fz_of H1.out.2.1 8; have p2_9 := cell_of H1.out.2.1 9; have fp2_9 := fz_of H1.out.2.1 9
        go_wp2_with fail
        refine HC2.out.mono ?_; rintro e w2 ⟨cs2,rfl,hb2,hE2⟩; obtain ⟨k2,y2,s2,z2,m2,c2,rfl⟩ := hE2.shape; have hbx2 := blk_next H1.out.2.1 hb2; obtain ⟨x2,hx2⟩ : ∃ x2,((((w2.setCell ⟨Sb,6,none⟩ (.int .i64 k2)).setCell ⟨Sb,7,none⟩ (.int .u64 y2)).setCell ⟨Sb,8,none⟩ (.string s2)).setCell ⟨Sb,9,none⟩ (.slice z2 m2 c2)) = x2 := ⟨_,rfl⟩; have H2 : Hid (OTH Sb W1 x2 /\ x2.heap[Sb]? = some (.cells #[.int .i64 k,.string sn,.int .i64 k1,.int .u64 y1,.string s1,.slice z1 m1 c1,.int .i64 k2,.int .u64 y2,.string s2,.slice z2 m2 c2,.int .u64 lo,.int .u64 hi,.slice aT BT.length cT,.slice aL BE.length cL] 46 (0,0)) /\ RE x2 (fun b => W1.heap.size <= b /\ b < x2.heap.size) N (LA.map (rnN a b)) [.int .i64 k1,.int .u64 y1,.string s1,.slice z1 m1 c1] /\ RE x2 (fun b => W1.heap.size <= b /\ b < x2.heap.size) N (LE.map (rnN a b)) [.int .i64 k2,.int .u64 y2,.string s2,.slice z2 m2 c2]) := by
          have hs0 := H0.out.2.2.1; have ho : ∀ q,q ≠ Sb -> x2.heap[q]? = w2.heap[q]? := fun q hq => by rw [<- hx2,heap_setCell_other _ _ _ _ hq,heap_setCell_other _ _ _ _ hq,heap_setCell_other _ _ _ _ hq,heap_setCell_other _ _ _ _ hq]
          have hz : x2.heap.size = w2.heap.size /\ x2.os = w2.os /\ x2.tape = w2.tape /\ x2.output = w2.output := by rw [<- hx2]; exact ⟨by simp,rfl,rfl,rfl⟩
          have hso : OTH Sb x1 x2 := ⟨hz.2.1.trans hb2.os,hz.2.2.1.trans hb2.tape,hz.2.2.2.trans hb2.output,by rw [hz.1]; exact hb2.size,fun q hq hn => (ho q hn).trans (hb2.block q hq)⟩; have hsz := hso.size; have hsz0 := (H1.out.1 : OTH Sb W1 x1).size; refine ⟨(H1.out.1 : OTH Sb W1 x1).trans hso,?_,?_,?_⟩
          · rw [<- hx2,(heap_setCell_same _ _ 9 _ _ _ (heap_setCell_same _ _ 8 _ _ _ (heap_setCell_same _ _ 7 _ _ _ (heap_setCell_same _ _ 6 _ _ _ hbx2))))]; simp
          · exact ((H1.out.2.2).keep (w' := x2) (fun b hb => hso.block b (by omega) (by omega))).mono (fun b hb => ⟨hb.1,by omega⟩)
          exact (hE2.keep (w' := x2) (fun b hb => ho b (by omega))).mono (fun b hb => ⟨by omega,by rw [hz.1]; exact hb.2⟩)
        have HX2 : Hid (((((w2.setCell ⟨Sb,6,none⟩ (.int .i64 k2)).setCell ⟨Sb,7,none⟩ (.int .u64 y2)).setCell ⟨Sb,8,none⟩ (.string s2)).setCell ⟨Sb,9,none⟩ (.slice z2 m2 c2)) = x2) := hx2; clear p2_6 fp2_6 p2_7 fp2_7 p2_8 fp2_8 p2_9 fp2_9; have r2_6 := cell_of hbx2 6; have fr2_6 := fz_of hbx2 6; have r2_7 := cell_of hbx2 7; have fr2_7 := fz_of hbx2 7; have r2_8 := cell_of hbx2 8; have fr2_8 := fz_of hbx2 8; have r2_9 := cell_of hbx2 9; have fr2_9 := fz_of hbx2 9; clear hE2 hb2 hx2 hbx2 HC2; clear H1
        go_upto_region 10 with fail
        rw [HX2.out]; clear r2_6 fr2_6 r2_7 fr2_7 r2_8 fr2_8 r2_9 fr2_9; clear HX2
        have hkp3 := HKp.out x2 (H2.out.1); have HC3 : Hid (Calls Tryz.prog 9 #[.slice aT BT.length cT,.string a,.string b] x2 fun e w' => ∃ v',e = .returned v' /\ Below x2.heap.size x2 w' /\ RB w' (fun b => x2.heap.size <= b /\ b < w'.heap.size) N n (rnB a b BT) v') := HI.out BT _ x2 hkp3.1 hkp3.2.2.1 hbd.2.2.1; clear hkp3; have p3_12 := cell_of H2.out.2.1 12; have fp3_12 := fz_of H2.out.2.1 12
        go_wp2_with fail
        refine HC3.out.mono ?_; rintro e w3 ⟨v3,rfl,hb3,hE3⟩; obtain ⟨z3,c3,rfl⟩ := hE3.form; have hbx3 := blk_next H2.out.2.1 hb3; obtain ⟨x3,hx3⟩ : ∃ x3,(w3.setCell ⟨Sb,12,none⟩ (.slice z3 (rnB a b BT).length c3)) = x3 := ⟨_,rfl⟩; have H3 : Hid (OTH Sb W1 x3 /\ x3.heap[Sb]? = some (.cells #[.int .i64 k,.string sn,.int .i64 k1,.int .u64 y1,.string s1,.slice z1 m1 c1,.int .i64 k2,.int .u64 y2,.string s2,.slice z2 m2 c2,.int .u64 lo,.int .u64 hi,.slice z3 (rnB a b BT).length c3,.slice aL BE.length cL] 46 (0,0)) /\ RE x3 (fun b => W1.heap.size <= b /\ b < x3.heap.size) N (LA.map (rnN a b)) [.int .i64 k1,.int .u64 y1,.string s1,.slice z1 m1 c1] /\ RE x3 (fun b => W1.heap.size <= b /\ b < x3.heap.size) N (LE.map (rnN a b)) [.int .i64 k2,.int .u64 y2,.string s2,.slice z2 m2 c2] /\ RB x3 (fun b => W1.heap.size <= b /\ b < x3.heap.size) N n (rnB a b BT) (.slice z3 (rnB a b BT).length c3)) := by
          have hs0 := H0.out.2.2.1; have ho : ∀ q,q ≠ Sb -> x3.heap[q]? = w3.heap[q]? := fun q hq => by rw [<- hx3,heap_setCell_other _ _ _ _ hq]
          have hz : x3.heap.size = w3.heap.size /\ x3.os = w3.os /\ x3.tape = w3.tape /\ x3.output = w3.output := by rw [<- hx3]; exact ⟨by simp,rfl,rfl,rfl⟩
          have hso : OTH Sb x2 x3 := ⟨hz.2.1.trans hb3.os,hz.2.2.1.trans hb3.tape,hz.2.2.2.trans hb3.output,by rw [hz.1]; exact hb3.size,fun q hq hn => (ho q hn).trans (hb3.block q hq)⟩; have hsz := hso.size; have hsz0 := (H2.out.1 : OTH Sb W1 x2).size; refine ⟨(H2.out.1 : OTH Sb W1 x2).trans hso,?_,?_,?_,?_⟩
          · rw [<- hx3,(heap_setCell_same _ _ 12 _ _ _ hbx3)]; simp
          · exact ((H2.out.2.2.1).keep (w' := x3) (fun b hb => hso.block b (by omega) (by omega))).mono (fun b hb => ⟨hb.1,by omega⟩)
          · exact ((H2.out.2.2.2).keep (w' := x3) (fun b hb => hso.block b (by omega) (by omega))).mono (fun b hb => ⟨hb.1,by omega⟩)
          exact (hE3.keep (w' := x3) (fun b hb => ho b (by omega))).mono (fun b hb => ⟨by omega,by rw [hz.1]; exact hb.2⟩)
        have HX3 : Hid ((w3.setCell ⟨Sb,12,none⟩ (.slice z3 (rnB a b BT).length c3)) = x3) := hx3; clear p3_12 fp3_12; have r3_12 := cell_of hbx3 12; have fr3_12 := fz_of hbx3 12; clear hE3 hb3 hx3 hbx3 HC3; clear H2
        go_upto_region 11 with fail
        rw [HX3.out]; clear r3_12 fr3_12; clear HX3
        have hkp4 := HKp.out x3 (H3.out.1); have HC4 : Hid (Calls Tryz.prog 9 #[.slice aL BE.length cL,.string a,.string b] x3 fun e w' => ∃ v',e = .returned v' /\ Below x3.heap.size x3 w' /\ RB w' (fun b => x3.heap.size <= b /\ b < w'.heap.size) N n (rnB a b BE) v') := HI.out BE _ x3 hkp4.1 hkp4.2.2.2 hbd.2.2.2; clear hkp4; have p4_13 := cell_of H3.out.2.1 13; have fp4_13 := fz_of H3.out.2.1 13
        go_wp2_with fail
        refine HC4.out.mono ?_; rintro e w4 ⟨v4,rfl,hb4,hE4⟩; obtain ⟨z4,c4,rfl⟩ := hE4.form; have hbx4 := blk_next H3.out.2.1 hb4; obtain ⟨x4,hx4⟩ : ∃ x4,(w4.setCell ⟨Sb,13,none⟩ (.slice z4 (rnB a b BE).length c4)) = x4 := ⟨_,rfl⟩; have H4 : Hid (OTH Sb W1 x4 /\ x4.heap[Sb]? = some (.cells #[.int .i64 k,.string sn,.int .i64 k1,.int .u64 y1,.string s1,.slice z1 m1 c1,.int .i64 k2,.int .u64 y2,.string s2,.slice z2 m2 c2,.int .u64 lo,.int .u64 hi,.slice z3 (rnB a b BT).length c3,.slice z4 (rnB a b BE).length c4] 46 (0,0)) /\ RE x4 (fun b => W1.heap.size <= b /\ b < x4.heap.size) N (LA.map (rnN a b)) [.int .i64 k1,.int .u64 y1,.string s1,.slice z1 m1 c1] /\ RE x4 (fun b => W1.heap.size <= b /\ b < x4.heap.size) N (LE.map (rnN a b)) [.int .i64 k2,.int .u64 y2,.string s2,.slice z2 m2 c2] /\ RB x4 (fun b => W1.heap.size <= b /\ b < x4.heap.size) N n (rnB a b BT) (.slice z3 (rnB a b BT).length c3) /\ RB x4 (fun b => W1.heap.size <= b /\ b < x4.heap.size) N n (rnB a b BE) (.slice z4 (rnB a b BE).length c4)) := by
          have hs0 := H0.out.2.2.1; have ho : ∀ q,q ≠ Sb -> x4.heap[q]? = w4.heap[q]? := fun q hq => by rw [<- hx4,heap_setCell_other _ _ _ _ hq]
          have hz : x4.heap.size = w4.heap.size /\ x4.os = w4.os /\ x4.tape = w4.tape /\ x4.output = w4.output := by rw [<- hx4]; exact ⟨by simp,rfl,rfl,rfl⟩
          have hso : OTH Sb x3 x4 := ⟨hz.2.1.trans hb4.os,hz.2.2.1.trans hb4.tape,hz.2.2.2.trans hb4.output,by rw [hz.1]; exact hb4.size,fun q hq hn => (ho q hn).trans (hb4.block q hq)⟩; have hsz := hso.size; have hsz0 := (H3.out.1 : OTH Sb W1 x3).size; refine ⟨(H3.out.1 : OTH Sb W1 x3).trans hso,?_,?_,?_,?_,?_⟩
          · rw [<- hx4,(heap_setCell_same _ _ 13 _ _ _ hbx4)]; simp
          · exact ((H3.out.2.2.1).keep (w' := x4) (fun b hb => hso.block b (by omega) (by omega))).mono (fun b hb => ⟨hb.1,by omega⟩)
          · exact ((H3.out.2.2.2.1).keep (w' := x4) (fun b hb => hso.block b (by omega) (by omega))).mono (fun b hb => ⟨hb.1,by omega⟩)
          · exact ((H3.out.2.2.2.2).keep (w' := x4) (fun b hb => hso.block b (by omega) (by omega))).mono (fun b hb => ⟨hb.1,by omega⟩)
          exact (hE4.keep (w' := x4) (fun b hb => ho b (by omega))).mono (fun b hb => ⟨by omega,by rw [hz.1]; exact hb.2⟩)
        have HX4 : Hid ((w4.setCell ⟨Sb,13,none⟩ (.slice z4 (rnB a b BE).length c4)) = x4) := hx4; clear p4_13 fp4_13; have r4_13 := cell_of hbx4 13; have fr4_13 := fz_of hbx4 13; clear hE4 hb4 hx4 hbx4 HC4; clear H3
        go_upto_region 12 with fail
        rw [HX4.out]; clear r4_13 fr4_13; clear HX4; have gq0 := cell_of H4.out.2.1 0; have fgq0 := fz_of H4.out.2.1 0; have gq1 := cell_of H4.out.2.1 1; have fgq1 := fz_of H4.out.2.1 1; have gq2 := cell_of H4.out.2.1 2; have fgq2 := fz_of H4.out.2.1 2; have gq3 := cell_of H4.out.2.1 3; have fgq3 := fz_of H4.out.2.1 3; have gq4 := cell_of H4.out.2.1 4; have fgq4 := fz_of H4.out.2.1 4; have gq5 := cell_of H4.out.2.1 5; have fgq5 := fz_of H4.out.2.1 5; have gq6 := cell_of H4.out.2.1 6; have fgq6 := fz_of H4.out.2.1 6; have gq7 := cell_of H4.out.2.1 7; have fgq7 := fz_of H4.out.2.1 7; have gq8 := cell_of H4.out.2.1 8; have fgq8 := fz_of H4.out.2.1 8; have gq9 := cell_of H4.out.2.1 9; have fgq9 := fz_of H4.out.2.1 9; have gq10 := cell_of H4.out.2.1 10; have fgq10 := fz_of H4.out.2.1 10; have gq11 := cell_of H4.out.2.1 11; have fgq11 := fz_of H4.out.2.1 11; have gq12 := cell_of H4.out.2.1 12; have fgq12 := fz_of H4.out.2.1 12; have gq13 := cell_of H4.out.2.1 13; have fgq13 := fz_of H4.out.2.1 13; clear fgq0 fgq1 fgq2 fgq3 fgq4 fgq5 fgq6 fgq7 fgq8 fgq9 fgq10 fgq11 fgq12 fgq13; have HRT : Hid (RT x4 (fun b => wr.heap.size <= b /\ b < x4.heap.size) N (RB x4 (fun b => wr.heap.size <= b /\ b < x4.heap.size) N n) (Ms.getD j []) [.int .i64 k,.string sn,.int .i64 k1,.int .u64 y1,.string s1,.slice z1 m1 c1,.int .i64 k2,.int .u64 y2,.string s2,.slice z2 m2 c2,.int .u64 lo,.int .u64 hi,.slice z3 (rnB a b BT).length c3,.slice z4 (rnB a b BE).length c4] /\ Below wr.heap.size wr x4) := by
          have hs0 := H0.out.2.2; refine ⟨?_,(H0.out.1).trans (H4.out.1.below (by omega) (by omega))⟩; rw [HSe.out]; refine ⟨k,sn,_,_,_,_,_,_,_,_,lo,hi,_,_,LA.map (rnN a b),LE.map (rnN a b),rnB a b BT,rnB a b BE,rfl,rfl,?_,?_,?_,?_⟩
          · exact (H4.out.2.2.1).mono (fun b hb => ⟨by omega,hb.2⟩)
          · exact (H4.out.2.2.2.1).mono (fun b hb => ⟨by omega,hb.2⟩)
          · exact (H4.out.2.2.2.2.1).mono (fun b hb => ⟨by omega,hb.2⟩)
          exact (H4.out.2.2.2.2.2).mono (fun b hb => ⟨by omega,hb.2⟩)
        have HRw : Hid (x4.ownsRow w.heap.size 46 14 (.slice aK j cK) j css.flatten) := by
          have h5 := HKR.out.2.2.1; rw [HLt.out] at h5; exact row_below h5 HRT.out.2
        have hw5 : w.heap.size <= x4.heap.size := Nat.le_trans HBl.out.size HRT.out.2.size; clear H4 HKp HSe
        go_wp2_with (at_builtin; refine wpList_append_lies _ rfl _ _ 23 rfl w.heap.size 46 i0 _ 14 200 Tryz.underlying23 hi0 hz0 hz1 hz2 rfl (by decide) _ _ _ rfl (HRw.out.alloc _) ⟨x4.heap.size,0,none⟩ 1 1 [.int .i64 k,.string sn,.int .i64 k1,.int .u64 y1,.string s1,.slice z1 m1 c1,.int .i64 k2,.int .u64 y2,.string s2,.slice z2 m2 c2,.int .u64 lo,.int .u64 hi,.slice z3 (rnB a b BT).length c3,.slice z4 (rnB a b BE).length c4] rfl rfl (new_row _ _ _) (by intro u hu; simp only [List.mem_cons,List.not_mem_nil,or_false] at hu; rcases hu with rfl | rfl | rfl | rfl | rfl | rfl | rfl | rfl | rfl | rfl | rfl | rfl | rfl | rfl <;> rfl) (by omega) (by unfold maxLen; omega) (by omega) (by simp; omega) (x4.heap.size + 1) (by simp) ?_; intro g6 cap6 w6 hown6 hgrow6 hat6 hlt6; have HS6 : Hid (KS w w6 N n (Ms.take (j + 1)) (.slice (some ⟨g6,0,none⟩) (j + 1) cap6)) := (by rw [HTk.out]; exact KS.push HLt.out HKR.out HRT.out.2 HRT.out.1 hown6 hgrow6 hat6); clear hown6 hgrow6 hat6 hlt6; refine Hid.out ?_)
        refine Lib.hid ?_; clear HR HKR HRT HRw HTk HLt HBl gq0 gq1 gq2 gq3 gq4 gq5 gq6 gq7 gq8 gq9 gq10 gq11 gq12 gq13
        go_wp2_with fail
        go_roundg (Bs.length - (j + 1))
        case measure => omega
        case rel => exact ⟨j + 1,by simp,by omega,HS6.out⟩
end Go.Proofs.YtfljcdccepnidaaGreatDoor
