import Derived.Test.YtfljcdccepnidaaGreatDoorWuG
namespace Go.Proofs.YtfljcdccepnidaaGreatDoor
open Go.ChangeShapes Go.WideShapes Go.ChangeAt Go.RowKit Go.Lib

theorem SA.open {w : World} {P : Nat -> Prop} {N : Nat} {S : List Sd} {b o : Nat} (h : SA w P N S b o) : ∃ (d : Sd) (BT BE : List (List Sd)) (n : Nat) (t1 t2 : Value),S = d :: (BT.flatten ++ BE.flatten) /\ d.mT = BT.length /\ d.mE = BE.length /\ P b /\ w.cell? ⟨b,o,none⟩ = some (.int .i64 d.k) /\ w.cell? ⟨b,o + 1,none⟩ = some (.string d.s) /\ w.cell? ⟨b,o + 10,none⟩ = some (.int .u64 d.lo) /\ w.cell? ⟨b,o + 11,none⟩ = some (.int .u64 d.hi) /\ w.cell? ⟨b,o + 12,none⟩ = some t1 /\ w.cell? ⟨b,o + 13,none⟩ = some t2 /\ EA w P d.A b (o + 2) /\ EA w P d.E b (o + 6) /\ RB w P N n BT t1 /\ RB w P N n BE t2 := by
  obtain ⟨n,vs,hP,hl,hc,k,s,a0,a1,a2,a3,e0,e1,e2,e3,lo,hi,t1,t2,LA,LE,BT,BE,rfl,rfl,hA,hE,hT,hEl⟩ := h; refine ⟨⟨k,s,LA,LE,lo,hi,BT.length,BE.length⟩,BT,BE,n,t1,t2,rfl,rfl,rfl,hP,hc 0 (by omega),hc 1 (by omega),hc 10 (by omega),hc 11 (by omega),hc 12 (by omega),hc 13 (by omega),⟨N,a0,a1,a2,a3,hP,hc 2 (by omega),?_,?_,?_,hA⟩,⟨N,e0,e1,e2,e3,hP,hc 6 (by omega),?_,?_,?_,hE⟩,hT,hEl⟩
  · exact hc 3 (by omega)
  · exact hc 4 (by omega)
  · exact hc 5 (by omega)
  · exact hc 7 (by omega)
  · exact hc 8 (by omega)
  exact hc 9 (by omega)
theorem ent_len (Bs : List (List Sd)) (dp : Nat) (lp : List ByteArray) (BL : List BEnt) : (ent Bs dp lp BL).length <= BL.length + 1 := by
  unfold ent
  split <;> simp
set_option maxHeartbeats 8000000 in
set_option maxRecDepth 100000 in
theorem step_any {H0 X : Nat} {W0 : World} {J : World -> Prop} {P : Nat -> Prop} (hc : WC H0 X W0 J P) {vio : Nat -> Th -> Bool} {w : World} {N Wb hb xb pl : Nat} (hve : VE H0 X W0 J P hb xb vio) (hvs : VS H0 X W0 J P N hb xb vio) {S : List Sd} {Bs : List (List Sd)} {dp : Nat} {lp : List ByteArray} {BL : List BEnt} (h : WS H0 X W0 w J P N Wb hb xb pl (⟨S :: Bs,dp,lp⟩ :: BL)) (hn : BL.length <= 10000000) (hm : Bs.length <= 10000000) (hS : wtS S <= 1048576) (hpl : pl <= 10000000) (hdp : dp <= 10000000) (hnm : ∀ d ∈ S,NB d.s /\ NMx d.A /\ NMx d.E) :
    Calls Tryz.prog 63 #[.pointer (some ⟨Wb,0,none⟩)] w fun e w' => ∃ d BT BE,S = d :: (List.flatten BT ++ List.flatten BE) /\ d.mT = BT.length /\ d.mE = BE.length /\ OUT vio pl (sth dp lp d) e (WS H0 X W0 w' J P N Wb hb xb (pl + (sth dp lp d).length) (ent BT (dp + 1) (lpI d lp) (ent BE (dp + 1) lp (ent Bs dp lp BL)))) /\ FRM H0 X w w' /\ J w' := by
  have HNx : Hid (Calls Tryz.prog 75 #[.pointer (some ⟨Wb,0,none⟩)] w fun e w' => ∃ b o lpp,e = .returned (.tuple #[.pointer (some ⟨b,o,none⟩),.int .i64 (dp : Int),.pointer lpp]) /\ FRM H0 X w w' /\ SA W0 P N S b o /\ LPS w' lp lpp /\ WS H0 X W0 w' J P N Wb hb xb pl (ent Bs dp lp BL)) := next_any hc h (by omega) (by omega); have HWC : Hid (WC H0 X W0 J P) := hc; have HVE : Hid (VE H0 X W0 J P hb xb vio) := hve; have HVS : Hid (VS H0 X W0 J P N hb xb vio) := hvs; have hfr0 : FRM H0 X W0 w := by obtain ⟨_,_,_,h1,_⟩ := h; exact h1.fr
  have HF0 : Hid (FRM H0 X W0 w) := hfr0; have HPk : Hid (∀ w',FRM H0 X w w' -> ∀ j,P j -> w'.heap[j]? = W0.heap[j]?) := fun w' h' => (hfr0.trans h').keepP hc.p
  generalize hPP : (fun (e : Ending) (w' : World) => ∃ d BT BE,S = d :: (List.flatten BT ++ List.flatten BE) /\ d.mT = BT.length /\ d.mE = BE.length /\ OUT vio pl (sth dp lp d) e (WS H0 X W0 w' J P N Wb hb xb (pl + (sth dp lp d).length) (ent BT (dp + 1) (lpI d lp) (ent BE (dp + 1) lp (ent Bs dp lp BL)))) /\ FRM H0 X w w' /\ J w') = PP
  have HP0 : Hid (∀ e w' d BT BE,S = d :: (List.flatten BT ++ List.flatten BE) -> d.mT = BT.length -> d.mE = BE.length -> OUT vio pl (sth dp lp d) e (WS H0 X W0 w' J P N Wb hb xb (pl + (sth dp lp d).length) (ent BT (dp + 1) (lpI d lp) (ent BE (dp + 1) lp (ent Bs dp lp BL)))) -> FRM H0 X w w' -> J w' -> PP e w') := fun e w' d BT BE h1 h2 h3 h4 h5 h6 => by rw [<- hPP]; exact ⟨d,BT,BE,h1,h2,h3,h4,h5,h6⟩
  clear hPP h hc hve hvs hfr0; have q0 : IntKind.i64.wrap ((dp : Int) + 1) = ((dp + 1 : Nat) : Int) := by rw [IntKind.wrap_i64]; omega
  have hq0 : Hid (IntKind.i64.wrap ((dp : Int) + 1) = ((dp + 1 : Nat) : Int)) := q0; obtain ⟨dq,hdq⟩ : ∃ dq,dp + 1 = dq := ⟨_,rfl⟩; rw [hdq] at q0 HP0; have HDq : Hid (dp + 1 = dq) := hdq; clear hq0 hdq
  go_enter Tryz.func63,Tryz.ntmps63
  go_wp2_with fail
  refine HNx.out.mono ?_; rintro e w1 ⟨b,o,lpp,rfl,hf1,hsa,hlp1,hw1⟩; obtain ⟨d,BT,BE,n,t1,t2,rfl,hmT,hmE,hPb,c0,c1,c10,c11,c12,c13,hA,hEE,hBT,hBE⟩ := hsa.open; obtain ⟨aT,cT,rfl⟩ := hBT.form; obtain ⟨aE,cE,rfl⟩ := hBE.form; have HP : Hid (∀ e w',OUT vio pl (sth dp lp d) e (WS H0 X W0 w' J P N Wb hb xb (pl + (sth dp lp d).length) (ent BT dq (lpI d lp) (ent BE dq lp (ent Bs dp lp BL)))) -> FRM H0 X w w' -> J w' -> PP e w') := fun e w' h4 h5 h6 => HP0.out e w' d BT BE rfl hmT hmE h4 h5 h6
  simp only [wtS,wtS_app] at hS; have HCl : Hid (∀ w',FRM H0 X w w' -> w'.cell? ⟨b,o,none⟩ = some (.int .i64 d.k) /\ w'.cell? ⟨b,o + 1,none⟩ = some (.string d.s) /\ w'.cell? ⟨b,o + 12,none⟩ = some (.slice aT BT.length cT) /\ w'.cell? ⟨b,o + 13,none⟩ = some (.slice aE BE.length cE)) := fun w' h' => by
    have hc' : ∀ i,w'.cell? ⟨b,i,none⟩ = W0.cell? ⟨b,i,none⟩ := fun i => World.cell?_of_block (a := ⟨b,i,none⟩) (HPk.out w' h' b hPb)
    exact ⟨(hc' _).trans c0,(hc' _).trans c1,(hc' _).trans c12,(hc' _).trans c13⟩
  have HT1 := tellS_any HWC.out HVS.out hw1 dp hsa hlp1 (by omega) (hnm d (by simp)).1; replace HT1 : Hid (Calls Tryz.prog 76 #[.pointer (some ⟨Wb,0,none⟩),.agg (tcs 0 none (some ⟨b,o,none⟩) none (dp : Int) false lpp)] w1 fun e w' => e = vans (vio pl (thT dp lp d)) (tcs (pl : Int) none (some ⟨b,o,none⟩) none (dp : Int) false lpp) /\ WS H0 X W0 w' J P N Wb hb xb (pl + 1) (ent Bs dp lp BL) /\ FRM H0 X w1 w') := HT1; have HNm : Hid (NMx d.A /\ NMx d.E) := (hnm d (by simp)).2; have HA : Hid (EA W0 P d.A b (o + 2) /\ EA W0 P d.E b (o + 6) /\ RB W0 P N n BT (.slice aT BT.length cT) /\ RB W0 P N n BE (.slice aE BE.length cE)) := ⟨hA,hEE,hBT,hBE⟩; have HW1 : Hid (FRM H0 X w w1 /\ LPS w1 lp lpp /\ J w1) := ⟨hf1,hlp1,hw1.j⟩; have hel := ent_len Bs dp lp BL; have hel2 := ent_len BE dq lp (ent Bs dp lp BL); clear hnm HP0 hsa hA hEE hBT hBE hw1 hf1 hlp1 c0 c1 c10 c11 c12 c13 hPb HNx HPk; obtain ⟨nT,hnT⟩ : ∃ nT,BT.length = nT := ⟨_,rfl⟩; obtain ⟨nE,hnE⟩ : ∃ nE,BE.length = nE := ⟨_,rfl⟩; rw [hnT,hnE] at HCl HA; clear hnT hnE hmT hmE
  go_wp2_with fail
  refine HT1.out.mono ?_; rintro e w2 ⟨rfl,hw2,hf2⟩
  by_cases hvi : vio pl (thT dp lp d) = true
  · have HZ : Hid (PP (.panicked [{ v := .iface 87 (.agg (tcs (pl : Int) none (some ⟨b,o,none⟩) none (dp : Int) false lpp)),recovered := false }]) w2) := HP.out _ _ (OUT.left (A := [thT dp lp d]) _ _ (by simp [fv,hvi]) rfl) (HW1.out.1.trans hf2) hw2.j
    rw [hvi]; clear hw2 hf2
    dsimp only [vans]
    go_wp2_with fail
    exact ⟨rfl,HZ.out⟩
  have hvf : vio pl (thT dp lp d) = false := by simpa using hvi
  rw [hvf]; have HV1 : Hid (fv vio pl [thT dp lp d] = none) := by show _ = _; simp [fv,hvf]
  have HW2 : Hid (FRM H0 X w w2 /\ LPS w2 lp lpp /\ WS H0 X W0 w2 J P N Wb hb xb (pl + 1) (ent Bs dp lp BL)) := ⟨HW1.out.1.trans hf2,WM.lps HWC.out HW1.out.2.2 hf2 HW1.out.2.1,hw2⟩; clear hw2 hf2 hvi hvf HW1 HT1
  dsimp only [vans]
  have HX1 := wexpr0_any HWC.out HVE.out HW2.out.2.2 HA.out.1 HW2.out.2.1 (by omega) HNm.out.1 (by omega); replace HX1 : Hid (Calls Tryz.prog 77 #[.pointer (some ⟨Wb,0,none⟩),.pointer (some ⟨b,o + 2,none⟩),.pointer lpp] w2 fun e w' => OUT vio (pl + 1) (oE lp d.A) e (WS H0 X W0 w' J P N Wb hb xb (pl + 1 + (oE lp d.A).length) (ent Bs dp lp BL)) /\ FRM H0 X w2 w' /\ J w') := HX1
  go_wp2_with fail
  refine HX1.out.mono ?_; rintro e w3 ⟨ho3,hf3,hj3⟩
  rcases ho3 with ⟨hv3,rfl,hw3⟩ | ⟨j,a1,a2,a3,dpj,tp,a6,hv3,rfl⟩
  rotate_left
  · have HZ : Hid (PP (.panicked [{ v := .iface 87 (.agg (tcs (j : Int) a1 a2 a3 dpj tp a6)),recovered := false }]) w3) := HP.out _ _ (OUT.next (A := [thT dp lp d]) HV1.out rfl (OUT.left _ _ hv3 rfl)) (HW2.out.1.trans hf3) hj3
    clear hf3 hj3 hv3
    go_wp2_with fail
    exact ⟨rfl,HZ.out⟩
  have hoA := oE_len lp d.A; have HW3 : Hid (FRM H0 X w w3 /\ LPS w3 lp lpp /\ WS H0 X W0 w3 J P N Wb hb xb (pl + 1 + (oE lp d.A).length) (ent Bs dp lp BL)) := ⟨HW2.out.1.trans hf3,WM.lps HWC.out HW2.out.2.2.j hf3 HW2.out.2.1,hw3⟩; have HV3 : Hid (fv vio (pl + 1) (oE lp d.A) = none) := hv3; clear hf3 hj3 hv3 hw3 HW2 HX1; have HX2 := wexpr0_any HWC.out HVE.out HW3.out.2.2 HA.out.2.1 HW3.out.2.1 (by omega) HNm.out.2 (by omega); replace HX2 : Hid (Calls Tryz.prog 77 #[.pointer (some ⟨Wb,0,none⟩),.pointer (some ⟨b,o + 6,none⟩),.pointer lpp] w3 fun e w' => OUT vio (pl + 1 + (oE lp d.A).length) (oE lp d.E) e (WS H0 X W0 w' J P N Wb hb xb (pl + 1 + (oE lp d.A).length + (oE lp d.E).length) (ent Bs dp lp BL)) /\ FRM H0 X w3 w' /\ J w') := HX2
  go_wp2_with fail
  refine HX2.out.mono ?_; rintro e w4 ⟨ho4,hf4,hj4⟩
  rcases ho4 with ⟨hv4,rfl,hw4⟩ | ⟨j,a1,a2,a3,dpj,tp,a6,hv4,rfl⟩
  rotate_left
  · have HZ : Hid (PP (.panicked [{ v := .iface 87 (.agg (tcs (j : Int) a1 a2 a3 dpj tp a6)),recovered := false }]) w4) := HP.out _ _ (OUT.next (A := [thT dp lp d]) HV1.out rfl (OUT.next HV3.out rfl (Or.inr ⟨j,_,_,_,_,_,_,hv4,rfl⟩))) (HW3.out.1.trans hf4) hj4
    clear hf4 hj4 hv4
    go_wp2_with fail
    exact ⟨rfl,HZ.out⟩
  have HVA : Hid (fv vio pl (sth dp lp d) = none) := by
    show _ = _
    unfold sth; have e1 : thT dp lp d :: (oE lp d.A ++ oE lp d.E) = [thT dp lp d] ++ (oE lp d.A ++ oE lp d.E) := rfl; rw [e1,fv_app,HV1.out,fv_app]; simp only [List.length_singleton]; rw [HV3.out]; exact hv4
  have hsl : (sth dp lp d).length = 1 + (oE lp d.A).length + (oE lp d.E).length := by simp [sth]; omega
  have HW4 : Hid (FRM H0 X w w4 /\ LPS w4 lp lpp /\ WS H0 X W0 w4 J P N Wb hb xb (pl + (sth dp lp d).length) (ent Bs dp lp BL)) := ⟨HW3.out.1.trans hf4,WM.lps HWC.out HW3.out.2.2.j hf4 HW3.out.2.1,by rw [hsl,<- Nat.add_assoc,<- Nat.add_assoc]; exact hw4⟩; clear hf4 hj4 hv4 hw4 HW3 HX2 HV3 HV1 hsl; have HE5 := enter_any HWC.out HW4.out.2.2 HA.out.2.2.2 dq HW4.out.2.1 (by omega); replace HE5 : Hid (Calls Tryz.prog 62 #[.pointer (some ⟨Wb,0,none⟩),.agg #[.slice aE nE cE,.int .i64 (dq : Int),.pointer lpp]] w4 fun e w' => e = .returned (.tuple #[]) /\ FRM H0 X w4 w' /\ WS H0 X W0 w' J P N Wb hb xb (pl + (sth dp lp d).length) (ent BE dq lp (ent Bs dp lp BL))) := HE5; have y13 := (HCl.out w4 HW4.out.1).2.2.2
  go_wp2_with fail
  refine HE5.out.mono ?_; rintro e w5 ⟨rfl,hf5,hw5⟩; have HW5 : Hid (FRM H0 X w w5 /\ LPS w5 lp lpp /\ WS H0 X W0 w5 J P N Wb hb xb (pl + (sth dp lp d).length) (ent BE dq lp (ent Bs dp lp BL))) := ⟨HW4.out.1.trans hf5,WM.lps HWC.out HW4.out.2.2.j hf5 HW4.out.2.1,hw5⟩; clear hf5 hw5 HE5 y13 HW4; have y0 := (HCl.out w5 HW5.out.1).1; have y1 := (HCl.out w5 HW5.out.1).2.1
  by_cases hk4 : d.k = 4
  · have r1 : (d.k == 4) = true := by simp [hk4]
    obtain ⟨w6,hw6⟩ : ∃ w6,w5.alloc (.cells #[.string d.s,.pointer lpp] 124) = w6 := ⟨_,rfl⟩; have hb6 : Below w5.heap.size w5 w6 := by rw [<- hw6]; exact bel1 _ _
    have hl6 : LPS w6 (lpI d lp) (some ⟨w5.heap.size,0,none⟩) := by
      unfold lpI; rw [if_pos hk4]; exact ⟨_,lpp,rfl,by rw [<- hw6]; exact heap_alloc_new _ _,WM.lps HWC.out HW5.out.2.2.j (FRM.of hb6) HW5.out.2.1⟩
    have hws6 : WS H0 X W0 w6 J P N Wb hb xb (pl + (sth dp lp d).length) (ent BE dq lp (ent Bs dp lp BL)) := by
      obtain ⟨cb,vB,vE,h1,h2⟩ := HW5.out.2.2; exact ⟨cb,vB,vE,h1.over HWC.out hb6,h2.keep (fun lp lpp h5 => WM.lps HWC.out h1.j (FRM.of hb6) h5)⟩
    have HE6 := enter_any HWC.out hws6 HA.out.2.2.1 dq hl6 (by omega); obtain ⟨B6,hB6⟩ : ∃ B6,w5.heap.size = B6 := ⟨_,rfl⟩; rw [hB6] at HE6; replace HE6 : Hid (Calls Tryz.prog 62 #[.pointer (some ⟨Wb,0,none⟩),.agg #[.slice aT nT cT,.int .i64 (dq : Int),.pointer (some ⟨B6,0,none⟩)]] w6 fun e w' => e = .returned (.tuple #[]) /\ FRM H0 X w6 w' /\ WS H0 X W0 w' J P N Wb hb xb (pl + (sth dp lp d).length) (ent BT dq (lpI d lp) (ent BE dq lp (ent Bs dp lp BL)))) := HE6; have HF6 : Hid (FRM H0 X w w6) := HW5.out.1.trans (FRM.of hb6); have y12 := (HCl.out w6 HF6.out).2.2.1; have HW6 : Hid (w5.alloc (.cells #[.string d.s,.pointer lpp] 124) = w6 /\ w5.heap.size = B6) := ⟨hw6,hB6⟩; clear hw6 hb6 hl6 hws6 hB6 hk4
    go_upto_region 7 with fail
    rw [HW6.out.1,HW6.out.2]
    go_wp2_with fail
    refine HE6.out.mono ?_; rintro e w7 ⟨rfl,hf7,hw7⟩; have HZ : Hid (PP (.returned (.tuple #[])) w7) := HP.out _ _ (Or.inl ⟨HVA.out,rfl,hw7⟩) (HF6.out.trans hf7) hw7.j; clear hf7 hw7
    go_wp2_with fail
    go_end0
    exact HZ.out
  have r1 : (d.k == 4) = false := by simp [hk4]
  have HE6 := enter_any HWC.out HW5.out.2.2 HA.out.2.2.1 dq (show LPS w5 (lpI d lp) lpp by unfold lpI; rw [if_neg hk4]; exact HW5.out.2.1) (by omega); replace HE6 : Hid (Calls Tryz.prog 62 #[.pointer (some ⟨Wb,0,none⟩),.agg #[.slice aT nT cT,.int .i64 (dq : Int),.pointer lpp]] w5 fun e w' => e = .returned (.tuple #[]) /\ FRM H0 X w5 w' /\ WS H0 X W0 w' J P N Wb hb xb (pl + (sth dp lp d).length) (ent BT dq (lpI d lp) (ent BE dq lp (ent Bs dp lp BL)))) := HE6; have y12 := (HCl.out w5 HW5.out.1).2.2.1; clear hk4
  go_wp2_with fail
  refine HE6.out.mono ?_; rintro e w7 ⟨rfl,hf7,hw7⟩; have HZ : Hid (PP (.returned (.tuple #[])) w7) := HP.out _ _ (Or.inl ⟨HVA.out,rfl,hw7⟩) (HW5.out.1.trans hf7) hw7.j; clear hf7 hw7
  go_wp2_with fail
  go_end0
  exact HZ.out
end Go.Proofs.YtfljcdccepnidaaGreatDoor
namespace Go.Proofs.YtfljcdccepnidaaGreatDoor
open Go.ChangeShapes Go.WideShapes Go.ChangeAt Go.RowKit Go.Lib

def thD (d : Dd) : Th := ⟨0,d.k,d.s,0,0,0,0,false,[]⟩
def DA (w : World) (P : Nat -> Prop) (d : Dd) (b o : Nat) : Prop := ∃ v0 v1 v2 v3,P b /\ w.cell? ⟨b,o,none⟩ = some v0 /\ w.cell? ⟨b,o + 1,none⟩ = some v1 /\ w.cell? ⟨b,o + 2,none⟩ = some v2 /\ w.cell? ⟨b,o + 3,none⟩ = some v3 /\ RD w P d [v0,v1,v2,v3]
theorem DA.keep {w w' : World} {P : Nat -> Prop} (hb : ∀ j,P j -> w'.heap[j]? = w.heap[j]?) {d : Dd} {b o : Nat} (h : DA w P d b o) : DA w' P d b o := by
  obtain ⟨v0,v1,v2,v3,hP,c0,c1,c2,c3,hE⟩ := h; have hc' : ∀ i,w'.cell? ⟨b,i,none⟩ = w.cell? ⟨b,i,none⟩ := fun i => World.cell?_of_block (a := ⟨b,i,none⟩) (hb b hP)
  exact ⟨v0,v1,v2,v3,hP,(hc' _).trans c0,(hc' _).trans c1,(hc' _).trans c2,(hc' _).trans c3,hE.keep hb⟩
def VD (H0 X : Nat) (W0 : World) (J : World -> Prop) (P : Nat -> Prop) (hb xb : Nat) (Ds : List Dd) (vio : Nat -> Th -> Bool) : Prop := ∀ (w : World) (i b o : Nat),i < Ds.length -> FRM H0 X W0 w -> J w -> DA w P (Ds.getD i dd0) b o -> Calls Tryz.prog 50 #[.agg (tcs (i : Int) (some ⟨b,o,none⟩) none none 0 false none),.pointer (some ⟨hb,0,none⟩),.pointer (some ⟨xb,0,none⟩)] w fun e w' => e = vans (vio i (thD (Ds.getD i dd0))) (tcs (i : Int) (some ⟨b,o,none⟩) none none 0 false none) /\ OTH X w w' /\ J w'
structure PC (H0 X Pb : Nat) (W0 : World) (J : World -> Prop) (P : Nat -> Prop) (N n : Nat) (p : Pg) (vD vB : Value) : Prop where
  wc : WC H0 X W0 J P
  lt : Pb < H0
  ne : Pb ≠ X
  box : W0.heap[Pb]? = some (.cells #[.string p.s,.int .i64 p.wd,.int .i64 p.ln,vD,vB] 25 (0,0))
  ds : RDs W0 P p.Ds vD
  bs : RB W0 P N n p.Bs vB
  jb : ∀ w,J w -> ∃ mv,w.heap[X]? = some (.cells #[.pointer (some ⟨Pb,0,none⟩),mv] 57 (0,0))
theorem PC.at {H0 X Pb : Nat} {W0 w : World} {J : World -> Prop} {P : Nat -> Prop} {N n : Nat} {p : Pg} {vD vB : Value} (h : PC H0 X Pb W0 J P N n p vD vB) (hf : FRM H0 X W0 w) (hj : J w) : w.cell? ⟨X,0,none⟩ = some (.pointer (some ⟨Pb,0,none⟩)) /\ w.heap[Pb]? = some (.cells #[.string p.s,.int .i64 p.wd,.int .i64 p.ln,vD,vB] 25 (0,0)) := by
  obtain ⟨mv,h1⟩ := h.jb w hj; exact ⟨cell_of h1 0,hf.blk Pb _ h.box h.ne (Or.inl h.lt)⟩
theorem drop_map {α β : Type} (f : α -> β) (l : List α) {j : Nat} (d : α) (h : j < l.length) : (l.drop j).map f = f (l.getD j d) :: (l.drop (j + 1)).map f := by
  rw [List.drop_eq_getElem_cons h,List.map_cons,List.getD_eq_getElem?_getD,List.getElem?_eq_getElem h]
  rfl
set_option maxHeartbeats 8000000 in
set_option maxRecDepth 100000 in
theorem decls_any {H0 X Pb : Nat} {W0 : World} {J : World -> Prop} {P : Nat -> Prop} {N n : Nat} {p : Pg} {vD vB : Value} (hp : PC H0 X Pb W0 J P N n p vD vB) {hb xb : Nat} {vio : Nat -> Th -> Bool} (hv : VD H0 X W0 J P hb xb p.Ds vio) {w : World} (hf : FRM H0 X W0 w) (hj : J w) (hD : p.Ds.length <= 1048576) :
    Calls Tryz.prog 31 #[.pointer (some ⟨X,0,none⟩),.func (.func 50) #[] #[.pointer (some ⟨hb,0,none⟩),.pointer (some ⟨xb,0,none⟩)]] w fun e w' => OUT vio 0 (p.Ds.map thD) e True /\ FRM H0 X w w' /\ J w' := by
  obtain ⟨x0,xP⟩ := hp.at hf hj; obtain ⟨aD,cD,rfl,hds⟩ := hp.ds; obtain ⟨m,hm⟩ : ∃ m,p.Ds.length = m := ⟨_,rfl⟩; have HM : Hid (p.Ds.length = m) := hm; rw [hm] at xP hD; have p3 : w.cell? ⟨Pb,3,none⟩ = some (.slice aD m cD) := cell_of xP 3; have HDs : Hid (0 < m -> ∃ b o,aD = some ⟨b,o,none⟩ /\ ∀ j,j < m -> DA W0 P (p.Ds.getD j dd0) b (o + j * 4)) := fun h0 => by
    obtain ⟨b,o,e,hP,hcc⟩ := hds (by omega); refine ⟨b,o,e,fun j hj => ?_⟩; obtain ⟨v0,v1,v2,v3,d0,d1,d2,d3,hE⟩ := hcc j (by omega); exact ⟨v0,v1,v2,v3,hP,d0,d1,d2,d3,hE⟩
  have HV : Hid (VD H0 X W0 J P hb xb p.Ds vio) := hv; have HF : Hid (FRM H0 X W0 w /\ J w) := ⟨hf,hj⟩; have HKP : Hid (∀ w',FRM H0 X W0 w' -> ∀ j,P j -> w'.heap[j]? = W0.heap[j]?) := fun w' h' => h'.keepP hp.wc.p
  generalize hPP : (fun (e : Ending) (w' : World) => OUT vio 0 (p.Ds.map thD) e True /\ FRM H0 X w w' /\ J w') = PP
  have HP : Hid (∀ e w',OUT vio 0 (p.Ds.map thD) e True -> FRM H0 X w w' -> J w' -> PP e w') := fun e w' h1 h2 h3 => by rw [<- hPP]; exact ⟨h1,h2,h3⟩
  clear hPP hp hv hf hj xP hds hm
  go_enter Tryz.func31,Tryz.ntmps31
  go_wp2_with fail
  go_loopg [5,15] m (fun gk v5 v15 wr => ∃ j : Nat,v15 = .int .i64 (j : Int) /\ j + gk = m /\ Aside (FRM H0 X w wr /\ J wr /\ fv vio 0 (p.Ds.map thD) = fv vio j ((p.Ds.drop j).map thD)))
  case atStart => exact ⟨0,rfl,by omega,FRM.refl _ _ _,HF.out.2,by simp⟩
  case round =>
    obtain ⟨j,rfl,hjg,HR⟩ := hrel
    by_cases hlt : j < m
    · have q1 : (j : Int) < (m : Int) := by omega
      obtain ⟨b,o,rfl,hda⟩ := HDs.out (by omega); have hfw := HF.out.1.trans HR.out.1; have HC := HV.out wr j b (o + j * 4) (by rw [HM.out]; exact hlt) hfw HR.out.2.1 ((hda j hlt).keep (HKP.out wr hfw)); replace HC : Hid (Calls Tryz.prog 50 #[.agg (tcs (j : Int) (some ⟨b,o + j * 4,none⟩) none none 0 false none),.pointer (some ⟨hb,0,none⟩),.pointer (some ⟨xb,0,none⟩)] wr fun e w' => e = vans (vio j (thD (p.Ds.getD j dd0))) (tcs (j : Int) (some ⟨b,o + j * 4,none⟩) none none 0 false none) /\ OTH X wr w' /\ J w') := HC; have hdm := drop_map thD p.Ds dd0 (by rw [HM.out]; exact hlt); have HE : Hid (fv vio 0 (p.Ds.map thD) = fv vio j (thD (p.Ds.getD j dd0) :: (p.Ds.drop (j + 1)).map thD)) := by show _ = _; rw [HR.out.2.2,hdm]
      have HR1 : Hid (FRM H0 X w wr) := HR.out.1; clear hda hfw HR hdm
      go_wp2_with fail
      refine HC.out.mono ?_; rintro e w2 ⟨rfl,ho2,hj2⟩
      by_cases hvi : vio j (thD (p.Ds.getD j dd0)) = true
      · have HZ : Hid (PP (.panicked [{ v := .iface 87 (.agg (tcs (j : Int) (some ⟨b,o + j * 4,none⟩) none none 0 false none)),recovered := false }]) w2) := HP.out _ _ (Or.inr ⟨j,_,_,_,_,_,_,by rw [HE.out]; simp only [fv]; rw [if_pos hvi],rfl⟩) (HR1.out.trans (FRM.oth ho2)) hj2
        rw [hvi]; clear ho2 hj2
        dsimp only [vans]
        go_wp2_with fail
        exact ⟨rfl,HZ.out⟩
      have hvf : vio j (thD (p.Ds.getD j dd0)) = false := by simpa using hvi
      rw [hvf]; have H2 : Hid (FRM H0 X w w2 /\ J w2 /\ fv vio 0 (p.Ds.map thD) = fv vio (j + 1) ((p.Ds.drop (j + 1)).map thD)) := ⟨HR1.out.trans (FRM.oth ho2),hj2,by rw [HE.out]; simp only [fv]; rw [if_neg hvi]⟩; clear ho2 hj2 hvi hvf HE HC
      dsimp only [vans]
      go_wp2_with fail
      go_roundg (m - (j + 1))
      case measure => omega
      case rel => exact ⟨j + 1,by simp,by omega,H2.out.1,H2.out.2.1,H2.out.2.2⟩
    have q1 : ¬ (j : Int) < (m : Int) := by omega
    have HZ : Hid (PP (.returned (.tuple #[])) wr) := HP.out _ _ (Or.inl ⟨by rw [HR.out.2.2,List.drop_of_length_le (by rw [HM.out]; omega)]; rfl,rfl,trivial⟩) HR.out.1 HR.out.2.1; clear HR
    go_wp2_with fail
    go_end0
    exact HZ.out
def thP (p : Pg) : List Th := p.Ds.map thD ++ remT (ent p.Bs 1 [] [])
theorem BR.wt {W0 : World} {P : Nat -> Prop} {N : Nat} {w : World} : ∀ {BL : List BEnt} {cs : List (List Value)},BR W0 P N w BL cs -> BL.length <= wtS (bflat BL) /\ ∀ e ∈ BL,e.Bs.length <= wtS e.Bs.flatten
  | [],_,_ => by simp [bflat,wtS]
  | e :: r,cs,h1 => by
    obtain ⟨c,cr,e1,⟨v,lpp,n,_,h2,h3,_⟩,h5⟩ := h1; have h6 := BR.wt h5; have h7 := h2.len; refine ⟨?_,fun x hx => ?_⟩
    · have e8 : bflat (e :: r) = e.Bs.flatten ++ bflat r := rfl
      rw [e8,wtS_app,List.length_cons]
      omega
    rcases List.mem_cons.1 hx with rfl | hx
    · exact h7
    exact h6.2 x hx
theorem ent_mem {Bs : List (List Sd)} {dp : Nat} {lp : List ByteArray} {BL : List BEnt} {e : BEnt} (h : e ∈ ent Bs dp lp BL) : e.dp = dp ∨ e ∈ BL := by
  unfold ent at h
  split at h
  · exact Or.inr h
  rcases List.mem_cons.1 h with rfl | h
  · exact Or.inl rfl
  exact Or.inr h
end Go.Proofs.YtfljcdccepnidaaGreatDoor
