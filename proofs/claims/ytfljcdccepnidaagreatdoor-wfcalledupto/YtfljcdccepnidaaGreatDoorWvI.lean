import Derived.Test.YtfljcdccepnidaaGreatDoorSqA
import Derived.Test.YtfljcdccepnidaaGreatDoorWvH
import Derived.Deep.AppendLies
import Derived.Deep.Cut
import Derived.Deep.DeepCutAuto
namespace Go.Proofs.YtfljcdccepnidaaGreatDoor
open Go.ChangeShapes Go.WideShapes Go.ChangeAt Go.RowKit Go.Lib

set_option maxRecDepth 100000 in
set_option maxHeartbeats 32000000 in
theorem dstmts_any (N : Nat) : ∀ (n : Nat) (Bs : List (List Sd)) (v : Value) (B : Nat) (w0 w : World) (P : Nat -> Prop) (Ts : List Th) (vK : Value) (dp : Nat) (lp : List ByteArray) (lv : Value),RB w P N n Bs v -> B <= w0.heap.size -> (∀ j,P j -> j < B) -> KT B w0 w Ts vK -> LR w (NO w vK) lp.reverse lv -> wtS Bs.flatten <= 1048576 -> Ts.length + wtS Bs.flatten <= 10000000 -> dp + wtS Bs.flatten <= 100000000 -> lp.length + wtS Bs.flatten <= 1048576 ->
    Calls Tryz.prog 55 #[vK,v,.int .i64 (dp : Int),lv] w fun e w' => ∃ vK',e = .returned vK' /\ KT B w0 w' (Ts ++ dL Bs dp lp) vK' /\ KPN w vK w' vK' := by
  intro n
  induction n with
  | zero => intro Bs v B w0 w P Ts vK dp lp lv h; exact h.elim
  | succ n ih =>
    intro Bs v B w0 w P Ts vK dp lp lv h hB hP hK hlr hwt hTL hdp hlp; have h0 := h; obtain ⟨aB,cB,rfl,-⟩ := h; have hBw : B <= w.heap.size := hK.size hB; obtain ⟨aL,cL,rfl,hlr3⟩ := hlr; have hlr : LR w (NO w vK) lp.reverse (.slice aL lp.reverse.length cL) := ⟨aL,cL,rfl,hlr3⟩; clear hlr3; obtain ⟨nLp,hnl⟩ : ∃ nLp,lp.reverse.length = nLp := ⟨_,rfl⟩; rw [hnl] at hlr; rw [hnl]; have hnl2 : nLp = lp.length := by rw [<- hnl,List.length_reverse]
    obtain ⟨m,hm⟩ : ∃ m,Bs.length = m := ⟨_,rfl⟩; have HM : Hid (Bs.length = m) := hm; have hlen := h0.len; have HS : Hid (∀ X v,KPN w vK X v -> RB X P N (n + 1) Bs (.slice aB m cB)) := fun X v hX => by rw [<- hm]; exact h0.keep (fun j hj => (hX j (hK.no hBw (hP j hj))).1)
    have HKP : Hid (∀ X v,KPN w vK X v -> ∀ j,P j -> X.heap[j]? = w.heap[j]?) := fun X v hX j hj => (hX j (hK.no hBw (hP j hj))).1
    have HLr : Hid (∀ X v,KPN w vK X v -> LR X (NO X v) lp.reverse (.slice aL nLp cL)) := fun X v hX => KPN.lr hX hlr
    have HI : Hid (∀ Bs t X v Ts dp lp lv,RB X P N n Bs t -> KT B w0 X Ts v -> LR X (NO X v) lp.reverse lv -> wtS Bs.flatten <= 1048576 -> Ts.length + wtS Bs.flatten <= 10000000 -> dp + wtS Bs.flatten <= 100000000 -> lp.length + wtS Bs.flatten <= 1048576 -> Calls Tryz.prog 55 #[v,t,.int .i64 ((dp : Nat) : Int),lv] X fun e w' => ∃ vK',e = .returned vK' /\ KT B w0 w' (Ts ++ dL Bs dp lp) vK' /\ KPN X v w' vK') := fun Bs t X v Ts dp lp lv h1 h2 h3 h4 h5 h6 h7 => ih Bs t B w0 X P Ts v dp lp lv h1 hB hP h2 h3 h4 h5 h6 h7
    have HX : Hid (∀ L cs X v Ts,RE X P N L cs -> KT B w0 X Ts v -> LR X (NO X v) lp.reverse (.slice aL nLp cL) -> L.length <= 1048576 -> Ts.length + L.length <= 10000000 -> Calls Tryz.prog 74 #[v,.agg cs.toArray,.slice aL nLp cL] X fun e w' => ∃ vK',e = .returned vK' /\ KT B w0 w' (Ts ++ L.map (thX false lp)) vK' /\ KPN X v w' vK') := fun L cs X v Ts h1 h2 h3 h4 h5 => exprs_any N L cs B w0 X P Ts v lp _ h1 hB hP h2 h3 h4 h5
    have HT : Hid (∀ j,wtS (Bs.take j).flatten <= wtS Bs.flatten /\ (Bs.take m) = Bs) := fun j => ⟨btake_le Bs j,by rw [<- hm,List.take_length]⟩
    have HK0 : Hid (KT B w0 w Ts vK) := hK; have HBs : Hid (∀ X (Ts : List Th) v,KT B w0 X Ts v -> B <= X.heap.size) := fun X Ts v hX => hX.size hB
    have HDl : Hid (∀ j,(dL (Bs.take j) dp lp).length <= wtS (Bs.take j).flatten) := fun j => by
      by_cases hj : j <= Bs.length
      · obtain ⟨ad,cap,_,h3⟩ := h0
        have h5 : RB w P N (n + 1) (Bs.take j) (.slice ad (Bs.take j).length (Bs.take j).length) := by
          refine ⟨ad,_,rfl,fun hz => ?_⟩; have hl : (Bs.take j).length = j := by rw [List.length_take]; omega
          obtain ⟨b,o,e,hlt,hc⟩ := h3 (by omega); refine ⟨b,o,e,⟨hlt.1,Nat.le_refl _⟩,fun i hi => ?_⟩; obtain ⟨vs,g1,g2,g3⟩ := hc i (by omega); refine ⟨vs,g1,g2,?_⟩; rw [List.getD_eq_getElem?_getD,List.getElem?_take_of_lt (by omega),<- List.getD_eq_getElem?_getD]; exact g3
        exact h5.dlen dp lp
      rw [List.take_of_length_le (by omega)]; exact h0.dlen dp lp
    obtain ⟨i0,hi0,hz0,hz1,hz2⟩ := info_parts (P := Tryz.prog) (e := 80) (z := .agg #[.int .i64 0,.int .i64 0,.int .i64 0,.string ⟨#[]⟩,.int .i64 0,.int .u64 0,.string ⟨#[]⟩,.slice none 0 0,.int .i64 0,.int .u64 0,.string ⟨#[]⟩,.slice none 0 0,.int .u64 0,.int .u64 0,.slice none 0 0,.slice none 0 0,.int .i64 0,.int .u64 0,.string ⟨#[]⟩,.slice none 0 0,.int .i64 0,.slice none 0 0]) (size := 22) (bytes := 304) (by kernel_rfl); have HI0 : Hid (Tryz.prog.info? 80 = some i0 /\ i0.zero = some (.agg #[.int .i64 0,.int .i64 0,.int .i64 0,.string ⟨#[]⟩,.int .i64 0,.int .u64 0,.string ⟨#[]⟩,.slice none 0 0,.int .i64 0,.int .u64 0,.string ⟨#[]⟩,.slice none 0 0,.int .u64 0,.int .u64 0,.slice none 0 0,.slice none 0 0,.int .i64 0,.int .u64 0,.string ⟨#[]⟩,.slice none 0 0,.int .i64 0,.slice none 0 0]) /\ i0.size = 22 /\ i0.bytes = 304) := ⟨hi0,hz0,hz1,hz2⟩; have HBd : Hid (wtS Bs.flatten <= 1048576 /\ Ts.length + wtS Bs.flatten <= 10000000 /\ dp + wtS Bs.flatten <= 100000000 /\ lp.length + wtS Bs.flatten <= 1048576 /\ nLp = lp.length) := ⟨hwt,hTL,hdp,hlp,hnl2⟩; have hmm : m <= 1048576 := by omega
    have a1 : IntKind.i64.wrap ((dp : Int) + 1) = (dp : Int) + 1 := by rw [IntKind.wrap_i64]; omega
    rw [hm]; clear hm hK hlr h0 ih hP hBw hlen hwt hTL hdp hlp hi0 hz0 hz1 hz2 hnl hnl2
    go_enter Tryz.func55,Tryz.ntmps55
    go_wp2_with fail
    go_loopg [0,9] m (fun gk v0 v9 wr => ∃ j : Nat,v9 = .int .i64 (j : Int) /\ j + gk = m /\ Aside (KT B w0 wr (Ts ++ dL (Bs.take j) dp lp) v0 /\ KPN w vK wr v0))
    case atStart => exact ⟨0,rfl,by omega,by simpa [dL] using HK0.out,fun j hj => ⟨rfl,hj⟩⟩
    case round =>
      obtain ⟨j,rfl,hj,HR⟩ := hrel
      by_cases hlt : j < m
      rotate_left
      · obtain rfl : m = j := by omega
        have q1 : ¬ (m : Int) < (m : Int) := by omega
        have HZ : Hid (KT B w0 wr (Ts ++ dL Bs dp lp) u0 /\ KPN w vK wr u0) := by
          have h5 := HR.out; rw [(HT.out 0).2] at h5; exact h5
        clear HR
        go_wp2_with fail
        go_ret
        exact ⟨_,rfl,HZ.out⟩
      have q1 : (j : Int) < (m : Int) := by omega
      have hw1 := btake_wt (Bs := Bs) (j := j) (by rw [HM.out]; exact hlt); have hw2 := (HT.out (j + 1)).1; obtain ⟨ad2,cap2,e2,h5⟩ := HS.out wr u0 HR.out.2; rw [HM.out] at e2; cases e2; obtain ⟨b,o,rfl,⟨hPb,-⟩,hc⟩ := h5 (by rw [HM.out]; omega); obtain ⟨vs,hl,c0,hE⟩ := hc j (by rw [HM.out]; exact hlt); obtain ⟨k,s,a0,a1',a2,a3,e0,e1,e2,e3,lo,hi,t1,t2,LA,LE,BT,BE,hSe,rfl,hA,hEE,hT,hEl⟩ := hE; have hws : wtS (Bs.getD j []) = 1 + LA.length + LE.length + (wtS BT.flatten + wtS BE.flatten) := by rw [hSe]; simp only [wtS,wtS_app]
      obtain ⟨ka,xa,sa,da,ma,ca,hea⟩ := hA.shape; obtain ⟨ke,xe,se,de,me,ce,hee⟩ := hEE.shape; obtain ⟨aT,cT,rfl⟩ := hT.form; obtain ⟨aE,cE,rfl⟩ := hEl.form; cases hea; cases hee; obtain ⟨nBT,hnBT⟩ : ∃ z,BT.length = z := ⟨_,rfl⟩; obtain ⟨nBE,hnBE⟩ : ∃ z,BE.length = z := ⟨_,rfl⟩; rw [hnBT] at c0 hT; rw [hnBE] at c0 hEl; obtain ⟨d,hd⟩ : ∃ d,(⟨k,s,LA,LE,lo,hi,BT.length,BE.length⟩ : Sd) = d := ⟨_,rfl⟩; have d0 := c0 0 (by omega); have d1 := c0 1 (by omega); have d2 := c0 2 (by omega); have d3 := c0 3 (by omega); have d4 := c0 4 (by omega); have d5 := c0 5 (by omega); have d6 := c0 6 (by omega); have d7 := c0 7 (by omega); have d8 := c0 8 (by omega); have d9 := c0 9 (by omega); have d10 := c0 10 (by omega); have d11 := c0 11 (by omega); have d12 := c0 12 (by omega); have d13 := c0 13 (by omega); simp only [List.getD_cons_zero,List.getD_cons_succ,Nat.add_zero] at d0 d1 d2 d3 d4 d5 d6 d7 d8 d9 d10 d11 d12 d13; clear c0 hc h5; obtain ⟨aK,cK,rfl⟩ := HR.out.1.slice; obtain ⟨L0,hL0⟩ : ∃ L0,Ts ++ dL (Bs.take j) dp lp = L0 := ⟨_,rfl⟩; obtain ⟨nT,hnT⟩ : ∃ nT,(Ts ++ dL (Bs.take j) dp lp).length = nT := ⟨_,rfl⟩; rw [hnT] at HR; rw [hnT]; rw [hL0] at HR; have hdl := HDl.out j; have hnTb : nT + wtS (Bs.getD j []) <= 10000000 := by
        have := HBd.out; rw [<- hnT,List.length_append]
        omega
      rw [hL0] at hnT; have HFin : Hid (∀ X v,KT B w0 X ((L0 ++ [thT dp lp d]) ++ (eR lp d ++ (dL BT (dp + 1) (lpI d lp) ++ dL BE (dp + 1) (lpI d lp)))) v -> KT B w0 X (Ts ++ dL (Bs.take (j + 1)) dp lp) v) := fun X v h => by
        rw [dL_take (by rw [HM.out]; exact hlt),hSe,hd]; have e5 := oneD_is (d := d) hT.ds hEl.ds (by rw [<- hd]) (by rw [<- hd]) dp lp; rw [e5,<- List.append_assoc,hL0]; rw [List.append_assoc] at h; exact h
      have HDd : Hid ((⟨k,s,LA,LE,lo,hi,BT.length,BE.length⟩ : Sd) = d) := hd; have HTC : Hid (∀ W v,LR W (NO W v) lp.reverse (.slice aL nLp cL) -> TC W (NO W v) (thT dp lp d) [.int .i64 1,.int .i64 0,.int .i64 k,.string s,.int .i64 ka,.int .u64 xa,.string sa,.slice da ma ca,.int .i64 ke,.int .u64 xe,.string se,.slice de me ce,.int .u64 lo,.int .u64 hi,.slice aT nBT cT,.slice aE nBE cE,.int .i64 0,.int .u64 0,.string ⟨#[]⟩,.slice none 0 0,.int .i64 (dp : Int),.slice aL nLp cL]) := fun W v hl => by
        rw [<- hd]; exact ⟨1,0,k,s,_,_,_,_,_,_,_,_,lo,hi,_,_,0,0,⟨#[]⟩,_,(dp : Int),_,rfl,rfl,rfl,hl,Or.inr (Or.inl ⟨rfl,rfl,rfl,rfl,rfl⟩)⟩
      obtain ⟨x1,hx1⟩ : ∃ x1,wr.alloc (.cells #[.int .i64 k,.string s,.int .i64 ka,.int .u64 xa,.string sa,.slice da ma ca,.int .i64 ke,.int .u64 xe,.string se,.slice de me ce,.int .u64 lo,.int .u64 hi,.slice aT nBT cT,.slice aE nBE cE] 46) = x1 := ⟨_,rfl⟩; obtain ⟨Sb,hSb⟩ : ∃ Sb,wr.heap.size = Sb := ⟨_,rfl⟩; have hbx1 : Below wr.heap.size wr x1 := by rw [<- hx1]; exact bel1 _ _
      have hbxs : x1.heap[Sb]? = some (.cells #[.int .i64 k,.string s,.int .i64 ka,.int .u64 xa,.string sa,.slice da ma ca,.int .i64 ke,.int .u64 xe,.string se,.slice de me ce,.int .u64 lo,.int .u64 hi,.slice aT nBT cT,.slice aE nBE cE] 46 (0,0)) := by rw [<- hx1,<- hSb]; exact heap_alloc_new _ _
      have HE1 : Hid (wr.alloc (.cells #[.int .i64 k,.string s,.int .i64 ka,.int .u64 xa,.string sa,.slice da ma ca,.int .i64 ke,.int .u64 xe,.string se,.slice de me ce,.int .u64 lo,.int .u64 hi,.slice aT nBT cT,.slice aE nBE cE] 46) = x1 /\ wr.heap.size = Sb) := ⟨hx1,hSb⟩; have HNs : NO x1 (.slice aK nT cK) Sb := ⟨(Array.getElem?_eq_some_iff.1 hbxs).1,fun e => by
        obtain ⟨css,_,_,hrow,_,_⟩ := HR.out.1; have := (hrow.lt Sb e).2
        omega⟩
      have H1 : Hid (KT B w0 x1 L0 (.slice aK nT cK) /\ KPN w vK x1 (.slice aK nT cK) /\ NO x1 (.slice aK nT cK) Sb /\ B <= x1.heap.size /\ x1.heap[Sb]? = some (.cells #[.int .i64 k,.string s,.int .i64 ka,.int .u64 xa,.string sa,.slice da ma ca,.int .i64 ke,.int .u64 xe,.string se,.slice de me ce,.int .u64 lo,.int .u64 hi,.slice aT nBT cT,.slice aE nBE cE] 46 (0,0))) := ⟨HR.out.1.next (HBs.out _ _ _ HR.out.1) hbx1,HR.out.2.trans (KPN.below _ hbx1),HNs,Nat.le_trans (HBs.out _ _ _ HR.out.1) hbx1.size,hbxs⟩; have hkq : ∀ X v,KPN w vK X v -> ∀ q,P q -> X.heap[q]? = wr.heap[q]? := fun X v hX q hq => (HKP.out X v hX q hq).trans (HKP.out wr _ HR.out.2 q hq).symm
      have HXA : Hid (∀ X v Ts,KPN w vK X v -> KT B w0 X Ts v -> Ts.length + LA.length <= 10000000 -> Calls Tryz.prog 74 #[v,.agg #[.int .i64 ka,.int .u64 xa,.string sa,.slice da ma ca],.slice aL nLp cL] X fun e w' => ∃ vK',e = .returned vK' /\ KT B w0 w' (Ts ++ LA.map (thX false lp)) vK' /\ KPN X v w' vK') := fun X v Ts h1 h2 h3 => HX.out LA _ X v Ts (hA.keep (hkq X v h1)) h2 (HLr.out X v h1) (by have := HBd.out; omega) h3
      have HXE : Hid (∀ X v Ts,KPN w vK X v -> KT B w0 X Ts v -> Ts.length + LE.length <= 10000000 -> Calls Tryz.prog 74 #[v,.agg #[.int .i64 ke,.int .u64 xe,.string se,.slice de me ce],.slice aL nLp cL] X fun e w' => ∃ vK',e = .returned vK' /\ KT B w0 w' (Ts ++ LE.map (thX false lp)) vK' /\ KPN X v w' vK') := fun X v Ts h1 h2 h3 => HX.out LE _ X v Ts (hEE.keep (hkq X v h1)) h2 (HLr.out X v h1) (by have := HBd.out; omega) h3
      have HST : Hid (∀ X v Ts lp2 lv,KPN w vK X v -> KT B w0 X Ts v -> LR X (NO X v) lp2.reverse lv -> lp2.length <= lp.length + 1 -> Ts.length + wtS BT.flatten <= 10000000 -> Calls Tryz.prog 55 #[v,.slice aT nBT cT,.int .i64 ((dp : Int) + 1),lv] X fun e w' => ∃ vK',e = .returned vK' /\ KT B w0 w' (Ts ++ dL BT (dp + 1) lp2) vK' /\ KPN X v w' vK') := fun X v Ts lp2 lv h1 h2 h3 h4 h5 => HI.out BT _ X v Ts (dp + 1) lp2 lv (hT.keep (hkq X v h1)) h2 h3 (by have := HBd.out; omega) h5 (by have := HBd.out; omega) (by have := HBd.out; omega)
      have HSL : Hid (∀ X v Ts lp2 lv,KPN w vK X v -> KT B w0 X Ts v -> LR X (NO X v) lp2.reverse lv -> lp2.length <= lp.length + 1 -> Ts.length + wtS BE.flatten <= 10000000 -> Calls Tryz.prog 55 #[v,.slice aE nBE cE,.int .i64 ((dp : Int) + 1),lv] X fun e w' => ∃ vK',e = .returned vK' /\ KT B w0 w' (Ts ++ dL BE (dp + 1) lp2) vK' /\ KPN X v w' vK') := fun X v Ts lp2 lv h1 h2 h3 h4 h5 => HI.out BE _ X v Ts (dp + 1) lp2 lv (hEl.keep (hkq X v h1)) h2 h3 (by have := HBd.out; omega) h5 (by have := HBd.out; omega) (by have := HBd.out; omega)
      have hdT := hT.dlen (dp + 1) (lpI d lp); have HNt : Hid (L0.length = nT /\ nT + (1 + LA.length + LE.length + (wtS BT.flatten + wtS BE.flatten)) <= 10000000 /\ (dL BT (dp + 1) (lpI d lp)).length <= wtS BT.flatten) := ⟨hnT,by rw [<- hws]; exact hnTb,hdT⟩; clear hx1 hSb hA hEE hT hEl hSe hws hw1 hw2 hd hbx1 hbxs HNs hkq hL0 hnT hdl hnTb HR hdT HX HI
      go_upto_region 5 with fail
      rw [HE1.out.1,HE1.out.2]; clear d0 d1 d2 d3 d4 d5 d6 d7 d8 d9 d10 d11 d12 d13; refine wp_region_lit ?_
      iterate 1 (refine pl_op (v := ?_) (by rfl) ?_ ?_; rotate_left; (focus (go_simp <;> with_reducible rfl)); simp only [Act.put,z0,z1,z2])
      refine pl_op (by rfl) (exec_row _ _ rfl Sb rfl _ _ _ _ H1.out.2.2.2.2 Tryz.underlying46 rfl (by kernel_rfl)) ?_; simp only [Act.put,z0,z1,z2]
      iterate 2 (refine pl_op (v := ?_) (by rfl) ?_ ?_; rotate_left; (focus (go_simp <;> with_reducible rfl)); simp only [Act.put,z0,z1,z2])
      refine pl_op (by rfl) (exec_build _ _ rfl #[.int .i64 1,.int .i64 0,.int .i64 k,.string s,.int .i64 ka,.int .u64 xa,.string sa,.slice da ma ca,.int .i64 ke,.int .u64 xe,.string se,.slice de me ce,.int .u64 lo,.int .u64 hi,.slice aT nBT cT,.slice aE nBE cE,.int .i64 0,.int .u64 0,.string ⟨#[]⟩,.slice none 0 0,.int .i64 (dp : Int),.slice aL nLp cL] (by kernel_rfl)) ?_; simp only [Act.put,z0,z1,z2]; obtain ⟨css,hcss⟩ := H1.out.1; have HC : Hid (KTc B w0 x1 L0 (.slice aK nT cK) css) := hcss; have HRw : Hid (x1.ownsRow B 80 22 (.slice aK nT cK) nT css.flatten) := by
        have h5 := HC.out.2.2.1; rw [HNt.out.1] at h5; exact h5
      clear hcss; refine pl_do (by rfl) (fun K hK => ?_)
      go_simp
      refine hK.out _ _ ?_; clear hK K
      try simp only [Act.put,z0,z1,z2]
      refine pl_do (by rfl) (fun K hK => ?_)
      refine wp_append_lies _ _ _ 75 rfl B 80 i0 _ 22 304 Tryz.underlying75 HI0.out.1 HI0.out.2.1 HI0.out.2.2.1 HI0.out.2.2.2 rfl (by omega) (.slice aK nT cK) nT css.flatten (by rfl) (HRw.out.alloc _) ⟨x1.heap.size,0,none⟩ 1 1 [.int .i64 1,.int .i64 0,.int .i64 k,.string s,.int .i64 ka,.int .u64 xa,.string sa,.slice da ma ca,.int .i64 ke,.int .u64 xe,.string se,.slice de me ce,.int .u64 lo,.int .u64 hi,.slice aT nBT cT,.slice aE nBE cE,.int .i64 0,.int .u64 0,.string ⟨#[]⟩,.slice none 0 0,.int .i64 (dp : Int),.slice aL nLp cL] (by rfl) (by rfl) (cells_new x1 [.int .i64 1,.int .i64 0,.int .i64 k,.string s,.int .i64 ka,.int .u64 xa,.string sa,.slice da ma ca,.int .i64 ke,.int .u64 xe,.string se,.slice de me ce,.int .u64 lo,.int .u64 hi,.slice aT nBT cT,.slice aE nBE cE,.int .i64 0,.int .u64 0,.string ⟨#[]⟩,.slice none 0 0,.int .i64 (dp : Int),.slice aL nLp cL] 80) (by intro u hu; simp only [List.mem_cons,List.not_mem_nil,or_false] at hu; rcases hu with rfl | rfl | rfl | rfl | rfl | rfl | rfl | rfl | rfl | rfl | rfl | rfl | rfl | rfl | rfl | rfl | rfl | rfl | rfl | rfl | rfl | rfl <;> rfl) (by omega) (by have := HNt.out; unfold maxLen; omega) (by have := HNt.out; omega) (by have := H1.out.2.2.2.1; simp; omega) (x1.heap.size + 1) (by simp) ?_; intro g6 cap6 w6 hown6 hgrow6 hat6 hlt6; have H6a := KT.push HNt.out.1 H1.out.2.2.2.1 HC.out (HTC.out x1 _ (HLr.out x1 _ H1.out.2.1)) hown6 hgrow6 hat6; have H6 : Hid (KT B w0 w6 (L0 ++ [thT dp lp d]) (.slice (some ⟨g6,0,none⟩) (nT + 1) cap6) /\ KPN w vK w6 (.slice (some ⟨g6,0,none⟩) (nT + 1) cap6) /\ NO w6 (.slice (some ⟨g6,0,none⟩) (nT + 1) cap6) Sb /\ w6.heap[Sb]? = some (.cells #[.int .i64 k,.string s,.int .i64 ka,.int .u64 xa,.string sa,.slice da ma ca,.int .i64 ke,.int .u64 xe,.string se,.slice de me ce,.int .u64 lo,.int .u64 hi,.slice aT nBT cT,.slice aE nBE cE] 46 (0,0))) := ⟨H6a.1,H1.out.2.1.trans H6a.2,(H6a.2 Sb H1.out.2.2.1).2,(H6a.2 Sb H1.out.2.2.1).1.trans H1.out.2.2.2.2⟩; clear hown6 hgrow6 hat6 hlt6 H6a; refine hK.out _ _ ?_; clear hK K
      try simp only [Act.put,z0,z1,z2]
      clear HC HRw H1 HTC HE1; obtain ⟨v6,hv6⟩ : ∃ v6,Value.slice (some ⟨g6,0,none⟩) (nT + 1) cap6 = v6 := ⟨_,rfl⟩; rw [hv6] at H6; rw [hv6]; clear hv6
      by_cases k1 : k = 1
      · subst k1
        have HEr : Hid (eR lp d = LE.map (thX false lp)) := by show _ = _; rw [<- HDd.out]; unfold eR; rw [if_pos (by dsimp only; omega)]
        have HLp : Hid (lpI d lp = lp) := by show _ = _; rw [<- HDd.out]; unfold lpI; rw [if_neg (by dsimp only; omega)]
        have hx := HXE.out w6 v6 (L0 ++ [thT dp lp d]) H6.out.2.1 H6.out.1 (by have := HNt.out; simp only [List.length_append,List.length_singleton]; omega); have HX1 : Hid (Calls Tryz.prog 74 #[v6,.agg #[.int .i64 ke,.int .u64 xe,.string se,.slice de me ce],.slice aL nLp cL] w6 fun e w' => ∃ vK',e = .returned vK' /\ KT B w0 w' ((L0 ++ [thT dp lp d]) ++ LE.map (thX false lp)) vK' /\ KPN w6 v6 w' vK') := hx; clear hx; have z0 : w6.cell? ⟨Sb,0,none⟩ = some (.int .i64 1) := cell_of H6.out.2.2.2 0; have z6 : w6.cell? ⟨Sb,6,none⟩ = some (.int .i64 ke) := cell_of H6.out.2.2.2 6; have z7 : w6.cell? ⟨Sb,7,none⟩ = some (.int .u64 xe) := cell_of H6.out.2.2.2 7; have z8 : w6.cell? ⟨Sb,8,none⟩ = some (.string se) := cell_of H6.out.2.2.2 8; have z9 : w6.cell? ⟨Sb,9,none⟩ = some (.slice de me ce) := cell_of H6.out.2.2.2 9
        go_wp2_with fail
        refine HX1.out.mono ?_; rintro e w9 ⟨v9,rfl,hkx,hpx⟩; have H9 : Hid (KT B w0 w9 ((L0 ++ [thT dp lp d]) ++ LE.map (thX false lp)) v9 /\ KPN w vK w9 v9 /\ NO w9 v9 Sb /\ w9.heap[Sb]? = some (.cells #[.int .i64 1,.string s,.int .i64 ka,.int .u64 xa,.string sa,.slice da ma ca,.int .i64 ke,.int .u64 xe,.string se,.slice de me ce,.int .u64 lo,.int .u64 hi,.slice aT nBT cT,.slice aE nBE cE] 46 (0,0))) := ⟨hkx,H6.out.2.1.trans hpx,(hpx Sb H6.out.2.2.1).2,(hpx Sb H6.out.2.2.1).1.trans H6.out.2.2.2⟩; clear hkx hpx HX1 z0 z6 z7 z8 z9; obtain ⟨LQ,hLQ⟩ : ∃ LQ,(L0 ++ [thT dp lp d]) ++ LE.map (thX false lp) = LQ := ⟨_,rfl⟩; have HLQ : Hid ((L0 ++ [thT dp lp d]) ++ LE.map (thX false lp) = LQ) := hLQ; rw [hLQ] at H9; clear hLQ; have HEl : Hid (LQ.length = nT + 1 + LE.length) := by show _ = _; rw [<- HLQ.out]; have := HNt.out.1; simp only [List.length_append,List.length_singleton,List.length_map]; omega
        have z0 : w9.cell? ⟨Sb,0,none⟩ = some (.int .i64 1) := cell_of H9.out.2.2.2 0; have hT1 := HST.out w9 v9 LQ lp (.slice aL nLp cL) H9.out.2.1 H9.out.1 (HLr.out w9 v9 H9.out.2.1) (by omega) (by have := HNt.out; have := HEl.out; omega); have HT1 : Hid (Calls Tryz.prog 55 #[v9,.slice aT nBT cT,.int .i64 ((dp : Int) + 1),.slice aL nLp cL] w9 fun e w' => ∃ vK',e = .returned vK' /\ KT B w0 w' (LQ ++ dL BT (dp + 1) lp) vK' /\ KPN w9 v9 w' vK') := hT1; clear hT1; have z12 : w9.cell? ⟨Sb,12,none⟩ = some (.slice aT nBT cT) := cell_of H9.out.2.2.2 12
        go_wp2_with fail
        refine HT1.out.mono ?_; rintro e w7 ⟨v7,rfl,hk7,hp7⟩; have H7 : Hid (KT B w0 w7 (LQ ++ dL BT (dp + 1) lp) v7 /\ KPN w vK w7 v7 /\ w7.heap[Sb]? = some (.cells #[.int .i64 1,.string s,.int .i64 ka,.int .u64 xa,.string sa,.slice da ma ca,.int .i64 ke,.int .u64 xe,.string se,.slice de me ce,.int .u64 lo,.int .u64 hi,.slice aT nBT cT,.slice aE nBE cE] 46 (0,0)) /\ LR w7 (NO w7 v7) (lp).reverse (.slice aL nLp cL)) := ⟨hk7,H9.out.2.1.trans hp7,(hp7 Sb H9.out.2.2.1).1.trans H9.out.2.2.2,hp7.lr (HLr.out w9 v9 H9.out.2.1)⟩; clear hk7 hp7 HT1 z12; have hL1 := HSL.out w7 v7 (LQ ++ dL BT (dp + 1) lp) lp (.slice aL nLp cL) H7.out.2.1 H7.out.1 H7.out.2.2.2 (by omega) (by have h9 := HNt.out; have := HEl.out; rw [HLp.out] at h9; simp only [List.length_append]; omega); have HL1 : Hid (Calls Tryz.prog 55 #[v7,.slice aE nBE cE,.int .i64 ((dp : Int) + 1),.slice aL nLp cL] w7 fun e w' => ∃ vK',e = .returned vK' /\ KT B w0 w' ((LQ ++ dL BT (dp + 1) lp) ++ dL BE (dp + 1) lp) vK' /\ KPN w7 v7 w' vK') := hL1; clear hL1; have z13 : w7.cell? ⟨Sb,13,none⟩ = some (.slice aE nBE cE) := cell_of H7.out.2.2.1 13
        go_wp2_with fail
        refine HL1.out.mono ?_; rintro e w8 ⟨v8,rfl,hk8,hp8⟩; have H8 : Hid (KT B w0 w8 (Ts ++ dL (Bs.take (j + 1)) dp lp) v8 /\ KPN w vK w8 v8) := by
          refine ⟨HFin.out w8 v8 ?_,H7.out.2.1.trans hp8⟩; rw [HLp.out,HEr.out]; have e9 : (L0 ++ [thT dp lp d]) ++ (LE.map (thX false lp) ++ (dL BT (dp + 1) lp ++ dL BE (dp + 1) lp)) = (((L0 ++ [thT dp lp d]) ++ LE.map (thX false lp)) ++ dL BT (dp + 1) lp) ++ dL BE (dp + 1) lp := by simp only [List.append_assoc]
          rw [e9,HLQ.out]; exact hk8
        clear hk8 hp8 HL1 z13 H7
        go_wp2_with fail
        go_roundg (m - (j + 1))
        case measure => omega
        case rel => exact ⟨j + 1,by simp,by omega,H8.out⟩
      by_cases k3 : k = 3
      · subst k3
        have HEr : Hid (eR lp d = LE.map (thX false lp)) := by show _ = _; rw [<- HDd.out]; unfold eR; rw [if_pos (by dsimp only; omega)]
        have HLp : Hid (lpI d lp = lp) := by show _ = _; rw [<- HDd.out]; unfold lpI; rw [if_neg (by dsimp only; omega)]
        have hx := HXE.out w6 v6 (L0 ++ [thT dp lp d]) H6.out.2.1 H6.out.1 (by have := HNt.out; simp only [List.length_append,List.length_singleton]; omega); have HX1 : Hid (Calls Tryz.prog 74 #[v6,.agg #[.int .i64 ke,.int .u64 xe,.string se,.slice de me ce],.slice aL nLp cL] w6 fun e w' => ∃ vK',e = .returned vK' /\ KT B w0 w' ((L0 ++ [thT dp lp d]) ++ LE.map (thX false lp)) vK' /\ KPN w6 v6 w' vK') := hx; clear hx; have z0 : w6.cell? ⟨Sb,0,none⟩ = some (.int .i64 3) := cell_of H6.out.2.2.2 0; have z6 : w6.cell? ⟨Sb,6,none⟩ = some (.int .i64 ke) := cell_of H6.out.2.2.2 6; have z7 : w6.cell? ⟨Sb,7,none⟩ = some (.int .u64 xe) := cell_of H6.out.2.2.2 7; have z8 : w6.cell? ⟨Sb,8,none⟩ = some (.string se) := cell_of H6.out.2.2.2 8; have z9 : w6.cell? ⟨Sb,9,none⟩ = some (.slice de me ce) := cell_of H6.out.2.2.2 9
        go_wp2_with fail
        refine HX1.out.mono ?_; rintro e w9 ⟨v9,rfl,hkx,hpx⟩; have H9 : Hid (KT B w0 w9 ((L0 ++ [thT dp lp d]) ++ LE.map (thX false lp)) v9 /\ KPN w vK w9 v9 /\ NO w9 v9 Sb /\ w9.heap[Sb]? = some (.cells #[.int .i64 3,.string s,.int .i64 ka,.int .u64 xa,.string sa,.slice da ma ca,.int .i64 ke,.int .u64 xe,.string se,.slice de me ce,.int .u64 lo,.int .u64 hi,.slice aT nBT cT,.slice aE nBE cE] 46 (0,0))) := ⟨hkx,H6.out.2.1.trans hpx,(hpx Sb H6.out.2.2.1).2,(hpx Sb H6.out.2.2.1).1.trans H6.out.2.2.2⟩; clear hkx hpx HX1 z0 z6 z7 z8 z9; obtain ⟨LQ,hLQ⟩ : ∃ LQ,(L0 ++ [thT dp lp d]) ++ LE.map (thX false lp) = LQ := ⟨_,rfl⟩; have HLQ : Hid ((L0 ++ [thT dp lp d]) ++ LE.map (thX false lp) = LQ) := hLQ; rw [hLQ] at H9; clear hLQ; have HEl : Hid (LQ.length = nT + 1 + LE.length) := by show _ = _; rw [<- HLQ.out]; have := HNt.out.1; simp only [List.length_append,List.length_singleton,List.length_map]; omega
        have z0 : w9.cell? ⟨Sb,0,none⟩ = some (.int .i64 3) := cell_of H9.out.2.2.2 0; have hT1 := HST.out w9 v9 LQ lp (.slice aL nLp cL) H9.out.2.1 H9.out.1 (HLr.out w9 v9 H9.out.2.1) (by omega) (by have := HNt.out; have := HEl.out; omega); have HT1 : Hid (Calls Tryz.prog 55 #[v9,.slice aT nBT cT,.int .i64 ((dp : Int) + 1),.slice aL nLp cL] w9 fun e w' => ∃ vK',e = .returned vK' /\ KT B w0 w' (LQ ++ dL BT (dp + 1) lp) vK' /\ KPN w9 v9 w' vK') := hT1; clear hT1; have z12 : w9.cell? ⟨Sb,12,none⟩ = some (.slice aT nBT cT) := cell_of H9.out.2.2.2 12
        go_wp2_with fail
        refine HT1.out.mono ?_; rintro e w7 ⟨v7,rfl,hk7,hp7⟩; have H7 : Hid (KT B w0 w7 (LQ ++ dL BT (dp + 1) lp) v7 /\ KPN w vK w7 v7 /\ w7.heap[Sb]? = some (.cells #[.int .i64 3,.string s,.int .i64 ka,.int .u64 xa,.string sa,.slice da ma ca,.int .i64 ke,.int .u64 xe,.string se,.slice de me ce,.int .u64 lo,.int .u64 hi,.slice aT nBT cT,.slice aE nBE cE] 46 (0,0)) /\ LR w7 (NO w7 v7) (lp).reverse (.slice aL nLp cL)) := ⟨hk7,H9.out.2.1.trans hp7,(hp7 Sb H9.out.2.2.1).1.trans H9.out.2.2.2,hp7.lr (HLr.out w9 v9 H9.out.2.1)⟩; clear hk7 hp7 HT1 z12; have hL1 := HSL.out w7 v7 (LQ ++ dL BT (dp + 1) lp) lp (.slice aL nLp cL) H7.out.2.1 H7.out.1 H7.out.2.2.2 (by omega) (by have h9 := HNt.out; have := HEl.out; rw [HLp.out] at h9; simp only [List.length_append]; omega); have HL1 : Hid (Calls Tryz.prog 55 #[v7,.slice aE nBE cE,.int .i64 ((dp : Int) + 1),.slice aL nLp cL] w7 fun e w' => ∃ vK',e = .returned vK' /\ KT B w0 w' ((LQ ++ dL BT (dp + 1) lp) ++ dL BE (dp + 1) lp) vK' /\ KPN w7 v7 w' vK') := hL1; clear hL1; have z13 : w7.cell? ⟨Sb,13,none⟩ = some (.slice aE nBE cE) := cell_of H7.out.2.2.1 13
        go_wp2_with fail
        refine HL1.out.mono ?_; rintro e w8 ⟨v8,rfl,hk8,hp8⟩; have H8 : Hid (KT B w0 w8 (Ts ++ dL (Bs.take (j + 1)) dp lp) v8 /\ KPN w vK w8 v8) := by
          refine ⟨HFin.out w8 v8 ?_,H7.out.2.1.trans hp8⟩; rw [HLp.out,HEr.out]; have e9 : (L0 ++ [thT dp lp d]) ++ (LE.map (thX false lp) ++ (dL BT (dp + 1) lp ++ dL BE (dp + 1) lp)) = (((L0 ++ [thT dp lp d]) ++ LE.map (thX false lp)) ++ dL BT (dp + 1) lp) ++ dL BE (dp + 1) lp := by simp only [List.append_assoc]
          rw [e9,HLQ.out]; exact hk8
        clear hk8 hp8 HL1 z13 H7
        go_wp2_with fail
        go_roundg (m - (j + 1))
        case measure => omega
        case rel => exact ⟨j + 1,by simp,by omega,H8.out⟩
      by_cases k2 : k = 2
      · subst k2
        have HEr : Hid (eR lp d = LA.map (thX false lp) ++ LE.map (thX false lp)) := by show _ = _; rw [<- HDd.out]; unfold eR; rw [if_neg (by dsimp only; omega),if_pos rfl]
        have HLp : Hid (lpI d lp = lp) := by show _ = _; rw [<- HDd.out]; unfold lpI; rw [if_neg (by dsimp only; omega)]
        have hx := HXA.out w6 v6 (L0 ++ [thT dp lp d]) H6.out.2.1 H6.out.1 (by have := HNt.out; simp only [List.length_append,List.length_singleton]; omega); have HX1 : Hid (Calls Tryz.prog 74 #[v6,.agg #[.int .i64 ka,.int .u64 xa,.string sa,.slice da ma ca],.slice aL nLp cL] w6 fun e w' => ∃ vK',e = .returned vK' /\ KT B w0 w' ((L0 ++ [thT dp lp d]) ++ LA.map (thX false lp)) vK' /\ KPN w6 v6 w' vK') := hx; clear hx; have z0 : w6.cell? ⟨Sb,0,none⟩ = some (.int .i64 2) := cell_of H6.out.2.2.2 0; have z2 : w6.cell? ⟨Sb,2,none⟩ = some (.int .i64 ka) := cell_of H6.out.2.2.2 2; have z3 : w6.cell? ⟨Sb,3,none⟩ = some (.int .u64 xa) := cell_of H6.out.2.2.2 3; have z4 : w6.cell? ⟨Sb,4,none⟩ = some (.string sa) := cell_of H6.out.2.2.2 4; have z5 : w6.cell? ⟨Sb,5,none⟩ = some (.slice da ma ca) := cell_of H6.out.2.2.2 5
        go_wp2_with fail
        refine HX1.out.mono ?_; rintro e wa ⟨va,rfl,hkx,hpx⟩; have Ha : Hid (KT B w0 wa ((L0 ++ [thT dp lp d]) ++ LA.map (thX false lp)) va /\ KPN w vK wa va /\ NO wa va Sb /\ wa.heap[Sb]? = some (.cells #[.int .i64 2,.string s,.int .i64 ka,.int .u64 xa,.string sa,.slice da ma ca,.int .i64 ke,.int .u64 xe,.string se,.slice de me ce,.int .u64 lo,.int .u64 hi,.slice aT nBT cT,.slice aE nBE cE] 46 (0,0))) := ⟨hkx,H6.out.2.1.trans hpx,(hpx Sb H6.out.2.2.1).2,(hpx Sb H6.out.2.2.1).1.trans H6.out.2.2.2⟩; clear hkx hpx HX1 z0 z2 z3 z4 z5; have hx := HXE.out wa va ((L0 ++ [thT dp lp d]) ++ LA.map (thX false lp)) Ha.out.2.1 Ha.out.1 (by have := HNt.out; simp only [List.length_append,List.length_singleton,List.length_map]; omega); have HX1 : Hid (Calls Tryz.prog 74 #[va,.agg #[.int .i64 ke,.int .u64 xe,.string se,.slice de me ce],.slice aL nLp cL] wa fun e w' => ∃ vK',e = .returned vK' /\ KT B w0 w' (((L0 ++ [thT dp lp d]) ++ LA.map (thX false lp)) ++ LE.map (thX false lp)) vK' /\ KPN wa va w' vK') := hx; clear hx; have z6 : wa.cell? ⟨Sb,6,none⟩ = some (.int .i64 ke) := cell_of Ha.out.2.2.2 6; have z7 : wa.cell? ⟨Sb,7,none⟩ = some (.int .u64 xe) := cell_of Ha.out.2.2.2 7; have z8 : wa.cell? ⟨Sb,8,none⟩ = some (.string se) := cell_of Ha.out.2.2.2 8; have z9 : wa.cell? ⟨Sb,9,none⟩ = some (.slice de me ce) := cell_of Ha.out.2.2.2 9
        go_wp2_with fail
        refine HX1.out.mono ?_; rintro e w9 ⟨v9,rfl,hkx,hpx⟩; have H9 : Hid (KT B w0 w9 (((L0 ++ [thT dp lp d]) ++ LA.map (thX false lp)) ++ LE.map (thX false lp)) v9 /\ KPN w vK w9 v9 /\ NO w9 v9 Sb /\ w9.heap[Sb]? = some (.cells #[.int .i64 2,.string s,.int .i64 ka,.int .u64 xa,.string sa,.slice da ma ca,.int .i64 ke,.int .u64 xe,.string se,.slice de me ce,.int .u64 lo,.int .u64 hi,.slice aT nBT cT,.slice aE nBE cE] 46 (0,0))) := ⟨hkx,Ha.out.2.1.trans hpx,(hpx Sb Ha.out.2.2.1).2,(hpx Sb Ha.out.2.2.1).1.trans Ha.out.2.2.2⟩; clear hkx hpx HX1 z6 z7 z8 z9; obtain ⟨LQ,hLQ⟩ : ∃ LQ,((L0 ++ [thT dp lp d]) ++ LA.map (thX false lp)) ++ LE.map (thX false lp) = LQ := ⟨_,rfl⟩; have HLQ : Hid (((L0 ++ [thT dp lp d]) ++ LA.map (thX false lp)) ++ LE.map (thX false lp) = LQ) := hLQ; rw [hLQ] at H9; clear hLQ; have HEl : Hid (LQ.length = nT + 1 + LA.length + LE.length) := by show _ = _; rw [<- HLQ.out]; have := HNt.out.1; simp only [List.length_append,List.length_singleton,List.length_map]; omega
        have z0 : w9.cell? ⟨Sb,0,none⟩ = some (.int .i64 2) := cell_of H9.out.2.2.2 0; have hT1 := HST.out w9 v9 LQ lp (.slice aL nLp cL) H9.out.2.1 H9.out.1 (HLr.out w9 v9 H9.out.2.1) (by omega) (by have := HNt.out; have := HEl.out; omega); have HT1 : Hid (Calls Tryz.prog 55 #[v9,.slice aT nBT cT,.int .i64 ((dp : Int) + 1),.slice aL nLp cL] w9 fun e w' => ∃ vK',e = .returned vK' /\ KT B w0 w' (LQ ++ dL BT (dp + 1) lp) vK' /\ KPN w9 v9 w' vK') := hT1; clear hT1; have z12 : w9.cell? ⟨Sb,12,none⟩ = some (.slice aT nBT cT) := cell_of H9.out.2.2.2 12
        go_wp2_with fail
        refine HT1.out.mono ?_; rintro e w7 ⟨v7,rfl,hk7,hp7⟩; have H7 : Hid (KT B w0 w7 (LQ ++ dL BT (dp + 1) lp) v7 /\ KPN w vK w7 v7 /\ w7.heap[Sb]? = some (.cells #[.int .i64 2,.string s,.int .i64 ka,.int .u64 xa,.string sa,.slice da ma ca,.int .i64 ke,.int .u64 xe,.string se,.slice de me ce,.int .u64 lo,.int .u64 hi,.slice aT nBT cT,.slice aE nBE cE] 46 (0,0)) /\ LR w7 (NO w7 v7) (lp).reverse (.slice aL nLp cL)) := ⟨hk7,H9.out.2.1.trans hp7,(hp7 Sb H9.out.2.2.1).1.trans H9.out.2.2.2,hp7.lr (HLr.out w9 v9 H9.out.2.1)⟩; clear hk7 hp7 HT1 z12; have hL1 := HSL.out w7 v7 (LQ ++ dL BT (dp + 1) lp) lp (.slice aL nLp cL) H7.out.2.1 H7.out.1 H7.out.2.2.2 (by omega) (by have h9 := HNt.out; have := HEl.out; rw [HLp.out] at h9; simp only [List.length_append]; omega); have HL1 : Hid (Calls Tryz.prog 55 #[v7,.slice aE nBE cE,.int .i64 ((dp : Int) + 1),.slice aL nLp cL] w7 fun e w' => ∃ vK',e = .returned vK' /\ KT B w0 w' ((LQ ++ dL BT (dp + 1) lp) ++ dL BE (dp + 1) lp) vK' /\ KPN w7 v7 w' vK') := hL1; clear hL1; have z13 : w7.cell? ⟨Sb,13,none⟩ = some (.slice aE nBE cE) := cell_of H7.out.2.2.1 13
        go_wp2_with fail
        refine HL1.out.mono ?_; rintro e w8 ⟨v8,rfl,hk8,hp8⟩; have H8 : Hid (KT B w0 w8 (Ts ++ dL (Bs.take (j + 1)) dp lp) v8 /\ KPN w vK w8 v8) := by
          refine ⟨HFin.out w8 v8 ?_,H7.out.2.1.trans hp8⟩; rw [HLp.out,HEr.out]; have e9 : (L0 ++ [thT dp lp d]) ++ ((LA.map (thX false lp) ++ LE.map (thX false lp)) ++ (dL BT (dp + 1) lp ++ dL BE (dp + 1) lp)) = ((((L0 ++ [thT dp lp d]) ++ LA.map (thX false lp)) ++ LE.map (thX false lp)) ++ dL BT (dp + 1) lp) ++ dL BE (dp + 1) lp := by simp only [List.append_assoc]
          rw [e9,HLQ.out]; exact hk8
        clear hk8 hp8 HL1 z13 H7
        go_wp2_with fail
        go_roundg (m - (j + 1))
        case measure => omega
        case rel => exact ⟨j + 1,by simp,by omega,H8.out⟩
      by_cases k4 : k = 4
      · subst k4
        have HEr : Hid (eR lp d = []) := by show _ = _; rw [<- HDd.out]; unfold eR; rw [if_neg (by dsimp only; omega),if_neg (by dsimp only; omega)]
        have HLp : Hid (lpI d lp = s :: lp) := by show _ = _; rw [<- HDd.out]; unfold lpI; rw [if_pos rfl]
        obtain ⟨LQ,hLQ⟩ : ∃ LQ,L0 ++ [thT dp lp d] = LQ := ⟨_,rfl⟩; have HLQ : Hid (L0 ++ [thT dp lp d] = LQ) := hLQ; rw [hLQ] at H6; clear hLQ; have HEl : Hid (LQ.length = nT + 1) := by show _ = _; rw [<- HLQ.out]; have := HNt.out.1; simp only [List.length_append,List.length_singleton]; omega
        have z0 : w6.cell? ⟨Sb,0,none⟩ = some (.int .i64 4) := cell_of H6.out.2.2.2 0; have z1 : w6.cell? ⟨Sb,1,none⟩ = some (.string s) := cell_of H6.out.2.2.2 1
        go_upto_region 15 with fail
        go_cut [11] (fun s11 wx => ∃ g c,s11 = .slice (some ⟨g,0,none⟩) (nLp + 1) c /\ Aside (LR wx (fun b => w6.heap.size <= b /\ b < wx.heap.size) (lp.reverse ++ [s]) (.slice (some ⟨g,0,none⟩) (nLp + 1) c) /\ Below w6.heap.size w6 wx))
        case first =>
          have HKp : Hid (∀ W,Below w6.heap.size w6 W -> Aside (Below w6.heap.size w6 W) /\ W.cell? ⟨Sb,1,none⟩ = some (.string s)) := fun W hW => ⟨hW,(hW.cell (p := ⟨Sb,1,none⟩) (cell_lt z1)).trans z1⟩
          have HLR : Hid (∀ W,Below w6.heap.size w6 W -> LR W (NO w6 v6) lp.reverse (.slice aL nLp cL)) := fun W hW => (HLr.out w6 v6 H6.out.2.1).keep (fun j hj => hW.block j hj.1)
          obtain ⟨j0,hj0,hj1,hj2,hj3⟩ := info_parts (P := Tryz.prog) (e := 9) (z := .string ⟨#[]⟩) (size := 1) (bytes := 16) (by kernel_rfl); refine wp_region_held_drew (S := (fun W => Aside (Below w6.heap.size w6 W) /\ W.cell? ⟨Sb,1,none⟩ = some (.string s))) (by kernel_rfl) (HKp.out _ (Below.refl _ _).drew) (fun hHeld => ?_); obtain ⟨wd,hwd⟩ : ∃ wd,w6.drew = wd := ⟨_,rfl⟩; rw [hwd] at hHeld ⊢; clear hwd z0 z1; refine sx_of [0,2,5,6] [1,3,4] (cFork 0 5 (cFork 2 5 (cSeq [0,2,5,6] [5,6,7]) (cSeq [0,2,5,6] [2,6,7])) (cSeq [0,2,5,6] [0,2,6,7])) 5 (by kernel_rfl) hHeld ?_
          repeat (refine sr_op (v := ?_) (by rfl) (by rfl) (by rfl) ?_ ?_; rotate_left; (focus (intro w hSw; (try dsimp only at hSw); go_simp <;> with_reducible rfl)); simp only [Act.put,z0,z1,z2])
          refine sr_end ?_; have HD0 : Hid (Below w6.heap.size w6 wd) := hHeld.1.out; clear hHeld; refine sx_fork (by rfl) (by rfl) (by rfl) (by rfl) (fun K hK => ?_) (fun K hK => ?_)
          · skip
            obtain ⟨gA,hgA⟩ : ∃ gA,wd.heap.size = gA := ⟨_,rfl⟩; obtain ⟨wA,hwA⟩ : ∃ wA,wd.alloc (.cells #[] 9) = wA := ⟨_,rfl⟩; have kA : wA.heap[gA]? = some (.cells #[] 9 (0,0)) := by rw [<- hwA,<- hgA]; exact heap_alloc_new _ _
            have bwA : Below wd.heap.size wd wA := by rw [<- hwA]; exact bel1 _ _
            have HA : Hid (Below w6.heap.size w6 wA /\ w6.heap.size <= gA /\ gA < wA.heap.size) := ⟨HD0.out.trans (bwA.mono HD0.out.size),by rw [<- hgA]; exact HD0.out.size,(Array.getElem?_eq_some_iff.1 kA).1⟩; have HWA : Hid (wd.alloc (.cells #[] 9) = wA /\ wd.heap.size = gA) := ⟨hwA,hgA⟩; clear hwA hgA; have HAx : Hid (Below w6.heap.size w6 wA) := HA.out.1
            go_simp
            rw [HWA.out.1,HWA.out.2]; refine hK.out _ _ (HKp.out _ HA.out.1) ?_; clear hK K
            try simp only [Act.put,z0,z1,z2]
            refine sx_fork (by rfl) (by rfl) (by rfl) (by rfl) (fun K hK => ?_) (fun K hK => ?_)
            · skip
              refine wp_copyS _ _ rfl w6.heap.size gA kA HA.out.2.1 _ lp.reverse aL nLp cL (HLR.out wA HAx.out) (by have := HBd.out; omega) (by rfl) (by rfl) ?_; intro gC cC wC hownC hgC hatC hltC; have HC : Hid (Below w6.heap.size w6 wC /\ wC.ownsRow w6.heap.size 9 1 (.slice (some ⟨gC,0,none⟩) nLp cC) nLp (lp.reverse.map Value.string)) := ⟨HAx.out.grown hgC HAx.out.size (fun k hk => by injection hk with hk; have := HA.out.2.1; omega),hownC⟩; clear hownC hgC hatC hltC; refine hK.out _ _ (HKp.out _ HC.out.1) ?_; clear hK K
              try simp only [Act.put,z0,z1,z2]
              refine sx_seq rfl ?_; refine sq_do (by rfl) (by rfl) (by rfl) (fun K hK => ?_)
              obtain ⟨gD,hgD⟩ : ∃ gD,wC.heap.size = gD := ⟨_,rfl⟩; obtain ⟨wD,hwD⟩ : ∃ wD,wC.alloc (.cells #[.string s] 9) = wD := ⟨_,rfl⟩; have kD : wD.heap[gD]? = some (.cells #[.string s] 9 (0,0)) := by rw [<- hwD,<- hgD]; exact heap_alloc_new _ _
              have bwD : Below wC.heap.size wC wD := by rw [<- hwD]; exact bel1 _ _
              have HD : Hid (Below w6.heap.size w6 wD /\ w6.heap.size <= gD /\ gD < wD.heap.size) := ⟨HC.out.1.trans (bwD.mono HC.out.1.size),by rw [<- hgD]; exact HC.out.1.size,(Array.getElem?_eq_some_iff.1 kD).1⟩; have HWD : Hid (wC.alloc (.cells #[.string s] 9) = wD /\ wC.heap.size = gD) := ⟨hwD,hgD⟩; clear hwD hgD; have HX : Hid (Below w6.heap.size w6 wD /\ wD.ownsRow w6.heap.size 9 1 (.slice (some ⟨gC,0,none⟩) nLp cC) nLp (lp.reverse.map Value.string) /\ wD.cell? ⟨gD,0,none⟩ = some (.string s)) := ⟨HD.out.1,row_below HC.out.2 bwD,cell_of kD 0⟩
              go_simp
              rw [HWD.out.1,HWD.out.2]; refine hK.out _ _ (HKp.out _ HD.out.1) (fun _ => ?_); clear hK K
              try simp only [Act.put,z0,z1,z2]
              refine sq_do (by rfl) (by rfl) (by rfl) (fun K hK => ?_)
              refine wp_append_lies _ _ _ 78 rfl w6.heap.size 9 j0 _ 1 16 Tryz.underlying78 hj0 hj1 hj2 hj3 rfl (by omega) (.slice (some ⟨gC,0,none⟩) nLp cC) nLp (lp.reverse.map Value.string) (by rfl) HX.out.2.1 ⟨gD,0,none⟩ 1 1 [.string s] (by rfl) (by rfl) (fun i u hu => by
                have hi0 : i = 0 := by have := (List.getElem?_eq_some_iff.1 hu).1; simp at this; exact this
                subst hi0; rw [Addr.add_lit,Nat.add_zero]; cases hu; exact HX.out.2.2) (by intro u hu; simp only [List.mem_cons,List.not_mem_nil,or_false] at hu; rcases hu with rfl; rfl) (by omega) (by have := HBd.out; unfold maxLen; omega) (by have := HBd.out; omega) HX.out.1.size wD.heap.size rfl ?_
              intro gF cF wF hownF hgF hatF hltF; have HF : Hid (LR wF (fun b => w6.heap.size <= b /\ b < wF.heap.size) (lp.reverse ++ [s]) (.slice (some ⟨gF,0,none⟩) (nLp + 1) cF) /\ Below w6.heap.size w6 wF) := by
                refine ⟨row_lr (by rw [List.map_append]; exact hownF),HX.out.1.grown hgF HX.out.1.size (fun k hk => (HX.out.2.1.lt k hk).1)⟩
              clear hownF hgF hatF hltF; refine hK.out _ _ (HKp.out _ HF.out.2) (fun _ => ?_); clear hK K
              try simp only [Act.put,z0,z1,z2]
              repeat (refine sq_op (v := ?_) (by rfl) (by rfl) (by rfl) ?_ ?_; rotate_left; (focus (intro w hSw; (try dsimp only at hSw); go_simp <;> with_reducible rfl)); simp only [Act.put,z0,z1,z2])
              refine sq_end (fun _ => ?_)
              try go_wp2_with fail
              go_meet
              exact ⟨gF,cF,rfl,HF.out⟩
            skip
            obtain ⟨gD,hgD⟩ : ∃ gD,wA.heap.size = gD := ⟨_,rfl⟩; obtain ⟨wD,hwD⟩ : ∃ wD,wA.alloc (.cells #[.string s] 9) = wD := ⟨_,rfl⟩; have kD : wD.heap[gD]? = some (.cells #[.string s] 9 (0,0)) := by rw [<- hwD,<- hgD]; exact heap_alloc_new _ _
            have bwD : Below wA.heap.size wA wD := by rw [<- hwD]; exact bel1 _ _
            have HD : Hid (Below w6.heap.size w6 wD /\ w6.heap.size <= gD /\ gD < wD.heap.size) := ⟨HA.out.1.trans (bwD.mono HA.out.1.size),by rw [<- hgD]; exact HA.out.1.size,(Array.getElem?_eq_some_iff.1 kD).1⟩; have HWD : Hid (wA.alloc (.cells #[.string s] 9) = wD /\ wA.heap.size = gD) := ⟨hwD,hgD⟩; clear hwD hgD; have kA2 := blk_next kA bwD; have HDx : Hid (Below w6.heap.size w6 wD) := HD.out.1; have HAd : Hid (Below w6.heap.size w6 wD /\ w6.heap.size <= gA /\ gA < wD.heap.size /\ gA ≠ gD) := ⟨HD.out.1,HA.out.2.1,Nat.lt_of_lt_of_le HA.out.2.2 bwD.size,by have := HA.out.2.2; have := HWD.out.2; omega⟩; have HAdx : Hid (Below w6.heap.size w6 wD) := HD.out.1
            go_simp
            rw [HWD.out.1,HWD.out.2]; refine hK.out _ _ (HKp.out _ HD.out.1) ?_; clear hK K
            try simp only [Act.put,z0,z1,z2]
            refine sx_seq rfl ?_; refine sq_do (by rfl) (by rfl) (by rfl) (fun K hK => ?_)
            refine wp_copyS _ _ rfl w6.heap.size gA kA2 HAd.out.2.1 _ lp.reverse aL nLp cL (HLR.out wD HAdx.out) (by have := HBd.out; omega) (by rfl) (by rfl) ?_; intro gC cC wC hownC hgC hatC hltC; have HC : Hid (Below w6.heap.size w6 wC /\ wC.ownsRow w6.heap.size 9 1 (.slice (some ⟨gC,0,none⟩) nLp cC) nLp (lp.reverse.map Value.string)) := ⟨HAdx.out.grown hgC HAdx.out.size (fun k hk => by injection hk with hk; have := HAd.out.2.1; omega),hownC⟩; have HX : Hid (Below w6.heap.size w6 wC /\ wC.ownsRow w6.heap.size 9 1 (.slice (some ⟨gC,0,none⟩) nLp cC) nLp (lp.reverse.map Value.string) /\ wC.cell? ⟨gD,0,none⟩ = some (.string s)) := ⟨HC.out.1,HC.out.2,by
              rw [cell_of ((hgC.block gD HD.out.2.2 (fun e => by injection e with e; exact HAd.out.2.2.2 e.symm)).trans kD)]
              rfl⟩
            clear hownC hgC hatC hltC; refine hK.out _ _ (HKp.out _ HC.out.1) (fun _ => ?_); clear hK K
            try simp only [Act.put,z0,z1,z2]
            refine sq_do (by rfl) (by rfl) (by rfl) (fun K hK => ?_)
            refine wp_append_lies _ _ _ 78 rfl w6.heap.size 9 j0 _ 1 16 Tryz.underlying78 hj0 hj1 hj2 hj3 rfl (by omega) (.slice (some ⟨gC,0,none⟩) nLp cC) nLp (lp.reverse.map Value.string) (by rfl) HX.out.2.1 ⟨gD,0,none⟩ 1 1 [.string s] (by rfl) (by rfl) (fun i u hu => by
              have hi0 : i = 0 := by have := (List.getElem?_eq_some_iff.1 hu).1; simp at this; exact this
              subst hi0; rw [Addr.add_lit,Nat.add_zero]; cases hu; exact HX.out.2.2) (by intro u hu; simp only [List.mem_cons,List.not_mem_nil,or_false] at hu; rcases hu with rfl; rfl) (by omega) (by have := HBd.out; unfold maxLen; omega) (by have := HBd.out; omega) HX.out.1.size wC.heap.size rfl ?_
            intro gF cF wF hownF hgF hatF hltF; have HF : Hid (LR wF (fun b => w6.heap.size <= b /\ b < wF.heap.size) (lp.reverse ++ [s]) (.slice (some ⟨gF,0,none⟩) (nLp + 1) cF) /\ Below w6.heap.size w6 wF) := by
              refine ⟨row_lr (by rw [List.map_append]; exact hownF),HX.out.1.grown hgF HX.out.1.size (fun k hk => (HX.out.2.1.lt k hk).1)⟩
            clear hownF hgF hatF hltF; refine hK.out _ _ (HKp.out _ HF.out.2) (fun _ => ?_); clear hK K
            try simp only [Act.put,z0,z1,z2]
            repeat (refine sq_op (v := ?_) (by rfl) (by rfl) (by rfl) ?_ ?_; rotate_left; (focus (intro w hSw; (try dsimp only at hSw); go_simp <;> with_reducible rfl)); simp only [Act.put,z0,z1,z2])
            refine sq_end (fun _ => ?_)
            try go_wp2_with fail
            go_meet
            exact ⟨gF,cF,rfl,HF.out⟩
          skip
          obtain ⟨gD,hgD⟩ : ∃ gD,wd.heap.size = gD := ⟨_,rfl⟩; obtain ⟨wD,hwD⟩ : ∃ wD,wd.alloc (.cells #[.string s] 9) = wD := ⟨_,rfl⟩; have kD : wD.heap[gD]? = some (.cells #[.string s] 9 (0,0)) := by rw [<- hwD,<- hgD]; exact heap_alloc_new _ _
          have bwD : Below wd.heap.size wd wD := by rw [<- hwD]; exact bel1 _ _
          have HD : Hid (Below w6.heap.size w6 wD /\ w6.heap.size <= gD /\ gD < wD.heap.size) := ⟨HD0.out.trans (bwD.mono HD0.out.size),by rw [<- hgD]; exact HD0.out.size,(Array.getElem?_eq_some_iff.1 kD).1⟩; have HWD : Hid (wd.alloc (.cells #[.string s] 9) = wD /\ wd.heap.size = gD) := ⟨hwD,hgD⟩; clear hwD hgD
          go_simp
          rw [HWD.out.1,HWD.out.2]; refine hK.out _ _ (HKp.out _ HD.out.1) ?_; clear hK K
          try simp only [Act.put,z0,z1,z2]
          refine sx_seq rfl ?_; refine sq_do (by rfl) (by rfl) (by rfl) (fun K hK => ?_)
          obtain ⟨gA,hgA⟩ : ∃ gA,wD.heap.size = gA := ⟨_,rfl⟩; obtain ⟨wA,hwA⟩ : ∃ wA,wD.alloc (.cells #[] 9) = wA := ⟨_,rfl⟩; have kA : wA.heap[gA]? = some (.cells #[] 9 (0,0)) := by rw [<- hwA,<- hgA]; exact heap_alloc_new _ _
          have bwA : Below wD.heap.size wD wA := by rw [<- hwA]; exact bel1 _ _
          have HA : Hid (Below w6.heap.size w6 wA /\ w6.heap.size <= gA /\ gA < wA.heap.size) := ⟨HD.out.1.trans (bwA.mono HD.out.1.size),by rw [<- hgA]; exact HD.out.1.size,(Array.getElem?_eq_some_iff.1 kA).1⟩; have HWA : Hid (wD.alloc (.cells #[] 9) = wA /\ wD.heap.size = gA) := ⟨hwA,hgA⟩; clear hwA hgA; have kD2 := blk_next kD bwA; have HAx : Hid (Below w6.heap.size w6 wA) := HA.out.1; have HNe : Hid (gA ≠ gD /\ gD < wA.heap.size) := ⟨by have := HD.out.2.2; have := HWA.out.2; omega,Nat.lt_of_lt_of_le HD.out.2.2 bwA.size⟩
          go_simp
          rw [HWA.out.1,HWA.out.2]; refine hK.out _ _ (HKp.out _ HA.out.1) (fun _ => ?_); clear hK K
          try simp only [Act.put,z0,z1,z2]
          refine sq_do (by rfl) (by rfl) (by rfl) (fun K hK => ?_)
          refine wp_copyS _ _ rfl w6.heap.size gA kA HA.out.2.1 _ lp.reverse aL nLp cL (HLR.out wA HAx.out) (by have := HBd.out; omega) (by rfl) (by rfl) ?_; intro gC cC wC hownC hgC hatC hltC; have HC : Hid (Below w6.heap.size w6 wC /\ wC.ownsRow w6.heap.size 9 1 (.slice (some ⟨gC,0,none⟩) nLp cC) nLp (lp.reverse.map Value.string)) := ⟨HAx.out.grown hgC HAx.out.size (fun k hk => by injection hk with hk; have := HA.out.2.1; omega),hownC⟩; have HX : Hid (Below w6.heap.size w6 wC /\ wC.ownsRow w6.heap.size 9 1 (.slice (some ⟨gC,0,none⟩) nLp cC) nLp (lp.reverse.map Value.string) /\ wC.cell? ⟨gD,0,none⟩ = some (.string s)) := ⟨HC.out.1,HC.out.2,by
            rw [cell_of ((hgC.block gD HNe.out.2 (fun e => by injection e with e; exact HNe.out.1 e.symm)).trans kD2)]
            rfl⟩
          clear hownC hgC hatC hltC; refine hK.out _ _ (HKp.out _ HC.out.1) (fun _ => ?_); clear hK K
          try simp only [Act.put,z0,z1,z2]
          refine sq_do (by rfl) (by rfl) (by rfl) (fun K hK => ?_)
          refine wp_append_lies _ _ _ 78 rfl w6.heap.size 9 j0 _ 1 16 Tryz.underlying78 hj0 hj1 hj2 hj3 rfl (by omega) (.slice (some ⟨gC,0,none⟩) nLp cC) nLp (lp.reverse.map Value.string) (by rfl) HX.out.2.1 ⟨gD,0,none⟩ 1 1 [.string s] (by rfl) (by rfl) (fun i u hu => by
            have hi0 : i = 0 := by have := (List.getElem?_eq_some_iff.1 hu).1; simp at this; exact this
            subst hi0; rw [Addr.add_lit,Nat.add_zero]; cases hu; exact HX.out.2.2) (by intro u hu; simp only [List.mem_cons,List.not_mem_nil,or_false] at hu; rcases hu with rfl; rfl) (by omega) (by have := HBd.out; unfold maxLen; omega) (by have := HBd.out; omega) HX.out.1.size wC.heap.size rfl ?_
          intro gF cF wF hownF hgF hatF hltF; have HF : Hid (LR wF (fun b => w6.heap.size <= b /\ b < wF.heap.size) (lp.reverse ++ [s]) (.slice (some ⟨gF,0,none⟩) (nLp + 1) cF) /\ Below w6.heap.size w6 wF) := by
            refine ⟨row_lr (by rw [List.map_append]; exact hownF),HX.out.1.grown hgF HX.out.1.size (fun k hk => (HX.out.2.1.lt k hk).1)⟩
          clear hownF hgF hatF hltF; refine hK.out _ _ (HKp.out _ HF.out.2) (fun _ => ?_); clear hK K
          try simp only [Act.put,z0,z1,z2]
          repeat (refine sq_op (v := ?_) (by rfl) (by rfl) (by rfl) ?_ ?_; rotate_left; (focus (intro w hSw; (try dsimp only at hSw); go_simp <;> with_reducible rfl)); simp only [Act.put,z0,z1,z2])
          refine sq_end (fun _ => ?_)
          try go_wp2_with fail
          go_meet
          exact ⟨gF,cF,rfl,HF.out⟩
        case rest =>
          obtain ⟨gs,cs9,rfl,hlrx,hbx⟩ := hcut; have H9 : Hid (KT B w0 wc LQ v6 /\ KPN w vK wc v6 /\ NO wc v6 Sb /\ wc.heap[Sb]? = some (.cells #[.int .i64 4,.string s,.int .i64 ka,.int .u64 xa,.string sa,.slice da ma ca,.int .i64 ke,.int .u64 xe,.string se,.slice de me ce,.int .u64 lo,.int .u64 hi,.slice aT nBT cT,.slice aE nBE cE] 46 (0,0))) := by
            have hkb := KPN.below v6 hbx; exact ⟨H6.out.1.next (HBs.out _ _ _ H6.out.1) hbx,H6.out.2.1.trans hkb,(hkb Sb H6.out.2.2.1).2,(hkb Sb H6.out.2.2.1).1.trans H6.out.2.2.2⟩
          have HLn : Hid (LR wc (NO wc v6) (s :: lp).reverse (.slice (some ⟨gs,0,none⟩) (nLp + 1) cs9)) := by
            rw [List.reverse_cons]; refine hlrx.mono (fun b hb => ⟨hb.2,fun e => ?_⟩); obtain ⟨css,_,_,hrow,_,_⟩ := H6.out.1; have := (hrow.lt b e).2
            omega
          clear hlrx hbx z0 z1 H6; have hT1 := HST.out wc v6 LQ (s :: lp) (.slice (some ⟨gs,0,none⟩) (nLp + 1) cs9) H9.out.2.1 H9.out.1 (HLn.out) (by simp) (by have := HNt.out; have := HEl.out; omega); have HT1 : Hid (Calls Tryz.prog 55 #[v6,.slice aT nBT cT,.int .i64 ((dp : Int) + 1),.slice (some ⟨gs,0,none⟩) (nLp + 1) cs9] wc fun e w' => ∃ vK',e = .returned vK' /\ KT B w0 w' (LQ ++ dL BT (dp + 1) (s :: lp)) vK' /\ KPN wc v6 w' vK') := hT1; clear hT1; have z12 : wc.cell? ⟨Sb,12,none⟩ = some (.slice aT nBT cT) := cell_of H9.out.2.2.2 12
          go_wp2_with fail
          refine HT1.out.mono ?_; rintro e w7 ⟨v7,rfl,hk7,hp7⟩; have H7 : Hid (KT B w0 w7 (LQ ++ dL BT (dp + 1) (s :: lp)) v7 /\ KPN w vK w7 v7 /\ w7.heap[Sb]? = some (.cells #[.int .i64 4,.string s,.int .i64 ka,.int .u64 xa,.string sa,.slice da ma ca,.int .i64 ke,.int .u64 xe,.string se,.slice de me ce,.int .u64 lo,.int .u64 hi,.slice aT nBT cT,.slice aE nBE cE] 46 (0,0)) /\ LR w7 (NO w7 v7) ((s :: lp)).reverse (.slice (some ⟨gs,0,none⟩) (nLp + 1) cs9)) := ⟨hk7,H9.out.2.1.trans hp7,(hp7 Sb H9.out.2.2.1).1.trans H9.out.2.2.2,hp7.lr (HLn.out)⟩; clear hk7 hp7 HT1 z12; have hL1 := HSL.out w7 v7 (LQ ++ dL BT (dp + 1) (s :: lp)) (s :: lp) (.slice (some ⟨gs,0,none⟩) (nLp + 1) cs9) H7.out.2.1 H7.out.1 H7.out.2.2.2 (by simp) (by have h9 := HNt.out; have := HEl.out; rw [HLp.out] at h9; simp only [List.length_append]; omega); have HL1 : Hid (Calls Tryz.prog 55 #[v7,.slice aE nBE cE,.int .i64 ((dp : Int) + 1),.slice (some ⟨gs,0,none⟩) (nLp + 1) cs9] w7 fun e w' => ∃ vK',e = .returned vK' /\ KT B w0 w' ((LQ ++ dL BT (dp + 1) (s :: lp)) ++ dL BE (dp + 1) (s :: lp)) vK' /\ KPN w7 v7 w' vK') := hL1; clear hL1; have z13 : w7.cell? ⟨Sb,13,none⟩ = some (.slice aE nBE cE) := cell_of H7.out.2.2.1 13
          go_wp2_with fail
          refine HL1.out.mono ?_; rintro e w8 ⟨v8,rfl,hk8,hp8⟩; have H8 : Hid (KT B w0 w8 (Ts ++ dL (Bs.take (j + 1)) dp lp) v8 /\ KPN w vK w8 v8) := by
            refine ⟨HFin.out w8 v8 ?_,H7.out.2.1.trans hp8⟩; rw [HLp.out,HEr.out]; have e9 : (L0 ++ [thT dp lp d]) ++ ([] ++ (dL BT (dp + 1) (s :: lp) ++ dL BE (dp + 1) (s :: lp))) = ((L0 ++ [thT dp lp d]) ++ dL BT (dp + 1) (s :: lp)) ++ dL BE (dp + 1) (s :: lp) := by simp only [List.append_assoc,List.nil_append]
            rw [e9,HLQ.out]; exact hk8
          clear hk8 hp8 HL1 z13 H7
          go_wp2_with fail
          go_roundg (m - (j + 1))
          case measure => omega
          case rel => exact ⟨j + 1,by simp,by omega,H8.out⟩
      have q11 : (k == 1) = false := by simp [k1]
      have q13 : (k == 3) = false := by simp [k3]
      have q12 : (k == 2) = false := by simp [k2]
      have q14 : (k == 4) = false := by simp [k4]
      have HEr : Hid (eR lp d = []) := by show _ = _; rw [<- HDd.out]; unfold eR; rw [if_neg (by dsimp only; omega),if_neg (by dsimp only; omega)]
      have HLp : Hid (lpI d lp = lp) := by show _ = _; rw [<- HDd.out]; unfold lpI; rw [if_neg (by dsimp only; omega)]
      obtain ⟨LQ,hLQ⟩ : ∃ LQ,L0 ++ [thT dp lp d] = LQ := ⟨_,rfl⟩; have HLQ : Hid (L0 ++ [thT dp lp d] = LQ) := hLQ; rw [hLQ] at H6; clear hLQ; have HEl : Hid (LQ.length = nT + 1) := by show _ = _; rw [<- HLQ.out]; have := HNt.out.1; simp only [List.length_append,List.length_singleton]; omega
      have z0 : w6.cell? ⟨Sb,0,none⟩ = some (.int .i64 k) := cell_of H6.out.2.2.2 0; have hT1 := HST.out w6 v6 LQ lp (.slice aL nLp cL) H6.out.2.1 H6.out.1 (HLr.out w6 v6 H6.out.2.1) (by omega) (by have := HNt.out; have := HEl.out; omega); have HT1 : Hid (Calls Tryz.prog 55 #[v6,.slice aT nBT cT,.int .i64 ((dp : Int) + 1),.slice aL nLp cL] w6 fun e w' => ∃ vK',e = .returned vK' /\ KT B w0 w' (LQ ++ dL BT (dp + 1) lp) vK' /\ KPN w6 v6 w' vK') := hT1; clear hT1; have z12 : w6.cell? ⟨Sb,12,none⟩ = some (.slice aT nBT cT) := cell_of H6.out.2.2.2 12
      go_wp2_with fail
      refine HT1.out.mono ?_; rintro e w7 ⟨v7,rfl,hk7,hp7⟩; have H7 : Hid (KT B w0 w7 (LQ ++ dL BT (dp + 1) lp) v7 /\ KPN w vK w7 v7 /\ w7.heap[Sb]? = some (.cells #[.int .i64 k,.string s,.int .i64 ka,.int .u64 xa,.string sa,.slice da ma ca,.int .i64 ke,.int .u64 xe,.string se,.slice de me ce,.int .u64 lo,.int .u64 hi,.slice aT nBT cT,.slice aE nBE cE] 46 (0,0)) /\ LR w7 (NO w7 v7) (lp).reverse (.slice aL nLp cL)) := ⟨hk7,H6.out.2.1.trans hp7,(hp7 Sb H6.out.2.2.1).1.trans H6.out.2.2.2,hp7.lr (HLr.out w6 v6 H6.out.2.1)⟩; clear hk7 hp7 HT1 z12; have hL1 := HSL.out w7 v7 (LQ ++ dL BT (dp + 1) lp) lp (.slice aL nLp cL) H7.out.2.1 H7.out.1 H7.out.2.2.2 (by omega) (by have h9 := HNt.out; have := HEl.out; rw [HLp.out] at h9; simp only [List.length_append]; omega); have HL1 : Hid (Calls Tryz.prog 55 #[v7,.slice aE nBE cE,.int .i64 ((dp : Int) + 1),.slice aL nLp cL] w7 fun e w' => ∃ vK',e = .returned vK' /\ KT B w0 w' ((LQ ++ dL BT (dp + 1) lp) ++ dL BE (dp + 1) lp) vK' /\ KPN w7 v7 w' vK') := hL1; clear hL1; have z13 : w7.cell? ⟨Sb,13,none⟩ = some (.slice aE nBE cE) := cell_of H7.out.2.2.1 13
      go_wp2_with fail
      refine HL1.out.mono ?_; rintro e w8 ⟨v8,rfl,hk8,hp8⟩; have H8 : Hid (KT B w0 w8 (Ts ++ dL (Bs.take (j + 1)) dp lp) v8 /\ KPN w vK w8 v8) := by
        refine ⟨HFin.out w8 v8 ?_,H7.out.2.1.trans hp8⟩; rw [HLp.out,HEr.out]; have e9 : (L0 ++ [thT dp lp d]) ++ ([] ++ (dL BT (dp + 1) lp ++ dL BE (dp + 1) lp)) = ((L0 ++ [thT dp lp d]) ++ dL BT (dp + 1) lp) ++ dL BE (dp + 1) lp := by simp only [List.append_assoc,List.nil_append]
        rw [e9,HLQ.out]; exact hk8
      clear hk8 hp8 HL1 z13 H7
      go_wp2_with fail
      go_roundg (m - (j + 1))
      case measure => omega
      case rel => exact ⟨j + 1,by simp,by omega,H8.out⟩
end Go.Proofs.YtfljcdccepnidaaGreatDoor
