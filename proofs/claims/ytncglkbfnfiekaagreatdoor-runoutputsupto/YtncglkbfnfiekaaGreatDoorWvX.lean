import Derived.Test.YtncglkbfnfiekaaGreatDoorSqA
import Derived.Test.YtncglkbfnfiekaaGreatDoorWvW
namespace Go.Proofs.YtncglkbfnfiekaaGreatDoor
open Go.ChangeShapes Go.WideShapes Go.ChangeAt Go.RowKit Go.Lib

set_option maxHeartbeats 16000000 in
set_option maxRecDepth 100000 in
/-- the program's Outputs -/
theorem outs_any {w : World} {P : Nat -> Prop} {N n : Nat} {p : Pg} {vD vB vS vT : Value} {Ss : List (List Int)} (fb : Bool) (hfb : fb = true ↔ okPf p) (hg : RG p) (hDs : RDs w P p.Ds vD) (hBs : RB w P (N + 1) (n + 1) p.Bs vB) (hSs : RSt w P Ss vS) (hP : ∀ j,P j -> j < w.heap.size) (h0 : P 0) (h1 : P 1) (hT : Lf.TBL 1 w) (hF : Lf.TBF 0 w) :
    Calls Tryz.prog 10 #[.agg #[.string p.s,.int .i64 p.wd,.int .i64 p.ln,vD,vB],.agg #[vS,vT]] w fun e w' => ∃ er L a c,e = .returned (.tuple #[.slice a L.length c,.int .i64 er]) /\ OAns fb p Ss er L /\ U6 w' (fun b => w.heap.size <= b /\ b < w'.heap.size) L a /\ L.length <= 65536 /\ Below w.heap.size w w' := by
  obtain ⟨aD,m,cD,rfl,hm⟩ : ∃ aD m cD,vD = .slice aD m cD /\ p.Ds.length = m := by
    obtain ⟨aD,cD,rfl,-⟩ := hDs; exact ⟨aD,_,cD,rfl,rfl⟩
  obtain ⟨aS,nS,cS,rfl,hnS⟩ : ∃ aS nS cS,vS = .slice aS nS cS /\ Ss.length = nS := by
    obtain ⟨aS,cS,rfl,-⟩ := hSs; exact ⟨aS,_,cS,rfl,rfl⟩
  obtain ⟨W1,hW1⟩ : ∃ W1,(w.alloc (.cells #[.string p.s,.int .i64 p.wd,.int .i64 p.ln,.slice aD m cD,vB] 25)).alloc (.cells #[.slice aS nS cS,vT] 37) = W1 := ⟨_,rfl⟩; obtain ⟨Eb,hEb⟩ : ∃ Eb,w.heap.size = Eb := ⟨_,rfl⟩; have hb1 : Below w.heap.size w W1 := by rw [<- hW1]; exact bnx (bel1 _ _) (bel1 _ _)
  have hbx : W1.heap[Eb]? = some (.cells #[.string p.s,.int .i64 p.wd,.int .i64 p.ln,.slice aD m cD,vB] 25 (0,0)) := by rw [<- hW1,<- hEb]; exact blk_next (heap_alloc_new _ _) (bel1 _ _)
  have hby : W1.heap[Eb + 1]? = some (.cells #[.slice aS nS cS,vT] 37 (0,0)) := by
    rw [<- hW1,<- hEb]; have h5 := heap_alloc_new (w.alloc (.cells #[.string p.s,.int .i64 p.wd,.int .i64 p.ln,.slice aD m cD,vB] 25)) (.cells #[.slice aS nS cS,vT] 37)
    simpa using h5
  have HW1 : Hid ((w.alloc (.cells #[.string p.s,.int .i64 p.wd,.int .i64 p.ln,.slice aD m cD,vB] 25)).alloc (.cells #[.slice aS nS cS,vT] 37) = W1 /\ w.heap.size = Eb) := ⟨hW1,hEb⟩; have HBx : Hid (∀ W,Below W1.heap.size W1 W -> W.cell? ⟨Eb,0,none⟩ = some (.string p.s) /\ W.cell? ⟨Eb,1,none⟩ = some (.int .i64 p.wd) /\ W.cell? ⟨Eb,2,none⟩ = some (.int .i64 p.ln) /\ W.cell? ⟨Eb,3,none⟩ = some (.slice aD m cD) /\ W.cell? ⟨Eb,4,none⟩ = some (vB) /\ W.cell? ⟨Eb + 1,0,none⟩ = some (.slice aS nS cS)) := fun W h => by
    have h2 := blk_next hbx h; have h3 := blk_next hby h; exact ⟨cell_of h2 0,cell_of h2 1,cell_of h2 2,cell_of h2 3,cell_of h2 4,cell_of h3 0⟩
  have hR : ∀ W,Below W1.heap.size W1 W -> RDs W P p.Ds (.slice aD m cD) /\ RB W P (N + 1) (n + 1) p.Bs vB /\ RSt W P Ss (.slice aS nS cS) /\ ∀ j,P j -> j < W.heap.size := fun W h => ⟨hDs.keep (fun j hj => (bnx hb1 h).block j (hP j hj)),hBs.keep (fun j hj => (bnx hb1 h).block j (hP j hj)),hSs.keep (fun j hj => (bnx hb1 h).block j (hP j hj)),fun j hj => Nat.lt_of_lt_of_le (hP j hj) (bnx hb1 h).size⟩
  have HD : Hid (∀ W,Below W1.heap.size W1 W -> ∀ j,j < m -> DC p aD W j) := fun W h j hj => dc_of (hR W h).1 (hR W h).2.2.2 (by omega)
  have HS : Hid (∀ W,Below W1.heap.size W1 W -> 0 < nS -> ∃ b o,aS = some ⟨b,o,none⟩ /\ ∀ j,j < nS -> ∃ aR cR,W.cell? ⟨b,o + j,none⟩ = some (.slice aR (Ss.getD j []).length cR) /\ U6 W P (Ss.getD j []) aR) := fun W h h0 => by
    obtain ⟨ad,cap,e,_,h3⟩ := (hR W h).2.2.1; cases e; obtain ⟨b,o,e2,_,hc⟩ := h3 h0; exact ⟨b,o,e2,hc⟩
  have hcS : nS <= cS := by
    obtain ⟨ad,cap,e,hca,_⟩ := hSs; cases e; exact hca
  have HM : Hid (p.Ds.length = m /\ Ss.length = nS) := ⟨hm,hnS⟩; have HRS : Hid (∀ c a,FAns fb p c a 0 -> m <= 256 /\ ∀ j,j < m -> 0 <= (p.Ds.getD j dd0).z /\ (p.Ds.getD j dd0).z <= 256) := fun c a h => by
    have := right_small h (fun hok j hj => (hok.2.2.2.1 _ (getD_memD hj)).2.2.1) hfb; rw [hm] at this; exact this
  have HC : Hid (Calls Tryz.prog 15 #[.agg #[.string p.s,.int .i64 p.wd,.int .i64 p.ln,.slice aD m cD,vB]] W1 fun e w' => ∃ c a er,e = .returned (.int .i64 er) /\ FAns fb p c a er /\ Below W1.heap.size W1 w') := check_any fb hfb hg (hR W1 (Below.refl _ _)).1 (hR W1 (Below.refl _ _)).2.1 (hR W1 (Below.refl _ _)).2.2.2 h0 h1 (Lf.TBL.up hT hb1 (hP 1 h1)) (Lf.TBF.up hF hb1 (hP 0 h0)); obtain ⟨PP,hPP⟩ : ∃ PP : Int -> List Int -> Option Addr -> World -> Prop,PP = fun er L a w' => OAns fb p Ss er L /\ U6 w' (fun b => w.heap.size <= b /\ b < w'.heap.size) L a /\ L.length <= 65536 /\ Below w.heap.size w w' := ⟨_,rfl⟩
  have HPP : Hid (∀ er L a w',OAns fb p Ss er L -> U6 w' (fun b => W1.heap.size <= b /\ b < w'.heap.size) L a -> L.length <= 65536 -> Below W1.heap.size W1 w' -> PP er L a w') := fun er L a w' h1 h2 h3 h4 => by
    rw [hPP]; refine ⟨h1,fun h0 => ?_,h3,bnx hb1 h4⟩; obtain ⟨b,o,e,hb,hc⟩ := h2 h0; exact ⟨b,o,e,⟨Nat.le_trans hb1.size hb.1,hb.2⟩,hc⟩
  have HGo : Hid (∀ (e : Ending) (w' : World),(∃ (er : Int) (L : List Int) (a : Option Addr) (c : Nat),e = Ending.returned (.tuple #[.slice a L.length c,.int .i64 er]) /\ PP er L a w') -> ∃ (er : Int) (L : List Int) (a : Option Addr) (c : Nat),e = Ending.returned (.tuple #[.slice a L.length c,.int .i64 er]) /\ OAns fb p Ss er L /\ U6 w' (fun b => w.heap.size <= b /\ b < w'.heap.size) L a /\ L.length <= 65536 /\ Below w.heap.size w w') := fun e w' h => by rw [hPP] at h; exact h
  refine Calls.mono (R := fun (e : Ending) (w' : World) => ∃ (er : Int) (L : List Int) (a : Option Addr) (c : Nat),e = Ending.returned (.tuple #[.slice a L.length c,.int .i64 er]) /\ PP er L a w') ?_ (fun e w' h => HGo.out e w' h); have HNil : Hid (∀ w',U6 w' (fun b => W1.heap.size <= b /\ b < w'.heap.size) [] none) := fun w' h0 => absurd h0 (by simp)
  obtain ⟨i0,hi0,hz0,hz1,hz2⟩ := info_parts (P := Tryz.prog) (e := 51) (z := .int .u64 0) (size := 1) (bytes := 8) (by kernel_rfl); have HI0 : Hid (Tryz.prog.info? 51 = some i0 /\ i0.zero = some (.int .u64 0) /\ i0.size = 1 /\ i0.bytes = 8) := ⟨hi0,hz0,hz1,hz2⟩; obtain ⟨b0,b1,b2,b3,b4,b5⟩ := HBx.out W1 (Below.refl _ _); clear hW1 hEb hb1 hbx hby hR hDs hBs hSs hP hg hfb hm hnS hPP HGo hi0 hz0 hz1 hz2 h0 h1 hT hF
  go_enter Tryz.func10,Tryz.ntmps10
  go_upto_region 1 with fail
  rw [HW1.out.1,HW1.out.2]
  go_wp2_with fail
  refine HC.out.mono ?_; rintro e w2 ⟨c,a,er,rfl,hF,h2⟩; have H2 : Hid (Below W1.heap.size W1 w2) := h2; clear b0 b1 b2 b3 b4 b5 h2 HC; obtain ⟨c0,c1,c2,c3,c4,c5⟩ := HBx.out w2 H2.out
  by_cases he : er = 0
  rotate_left
  · have q1 : (er != 0) = true := by simpa using he
    have HZ : Hid (PP er [] none w2) := HPP.out _ _ _ _ ⟨c,a,er,hF,Or.inl ⟨he,rfl,rfl⟩⟩ (HNil.out _) (by simp) H2.out; clear he hF
    go_wp2_with fail
    exact ⟨rfl,_,by simp [results,Tryz.results10,go_sem],_,[],none,0,rfl,HZ.out⟩
  subst he; obtain ⟨hm3,hz3⟩ := HRS.out c a hF; have HZr : Hid (∀ j,j < m -> 0 <= (p.Ds.getD j dd0).z /\ (p.Ds.getD j dd0).z <= 256) := hz3; have HF : Hid (FAns fb p c a 0) := hF; have HBad : Hid (∀ W,outF p.Ds Ss = none -> Below W1.heap.size W1 W -> PP 1 [] none W) := fun W h1 h2 => HPP.out _ _ _ _ ⟨c,a,0,HF.out,Or.inr ⟨rfl,Or.inl ⟨h1,rfl,rfl⟩⟩⟩ (HNil.out _) (by simp) h2
  have HE2 : Hid (∀ W,Below w2.heap.size w2 W -> Below W1.heap.size W1 W) := fun W h => bnx H2.out h
  have HGd : Hid (∀ W L a cc,W.ownsRow w2.heap.size 51 1 (.slice a L.length cc) L.length (u6V L) -> outF p.Ds Ss = some L -> L.length <= 65536 -> Below w2.heap.size w2 W -> PP 0 L a W) := fun W L a cc h1 h2 h3 h4 => HPP.out _ _ _ _ ⟨c,_,0,HF.out,Or.inr ⟨rfl,Or.inr ⟨h2,rfl⟩⟩⟩ (fun h0 => by
    obtain ⟨b,o,e,hb,hc⟩ := (row_u6 h1).2 h0; exact ⟨b,o,e,⟨Nat.le_trans H2.out.size hb.1,hb.2⟩,hc⟩) h3 (HE2.out _ h4)
  clear hF hz3 HRS
  go_wp2_with fail
  clear c0 c1 c2 c3 c4 c5
  go_loopg [7,8,21] m (fun gk v7 v8 v21 wr => ∃ (j k nL lO cL cO : Nat) (aL aO : Option Addr),v21 = .int .i64 (j : Int) /\ v8 = .slice aL nL cL /\ v7 = .slice aO lO cO /\ j + gk = m /\ nL <= cL /\ Aside (Below w2.heap.size w2 wr /\ nL + k = nS /\ (0 < nL -> ∃ b o,aS = some ⟨b,o,none⟩ /\ aL = some ⟨b,o + k,none⟩) /\ ∃ L : List Int,lO = L.length /\ wr.ownsRow w2.heap.size 51 1 (.slice aO lO cO) lO (u6V L) /\ OI p Ss j k L))
  case atStart => exact ⟨0,0,nS,0,cS,0,aS,none,rfl,rfl,rfl,by omega,hcS,Below.refl _ _,by omega,fun h => by
    obtain ⟨b,o,e,_⟩ := HS.out w2 H2.out h; exact ⟨b,o,e,e⟩,[],rfl,World.ownsRow_nil _ _ _ _,OI.zero p Ss⟩
  case round =>
    obtain ⟨j,k,nL,lO,cL,cO,aL,aO,rfl,rfl,rfl,hj,hcL,HR⟩ := hrel; obtain ⟨c0,c1,c2,c3,c4,c5⟩ := HBx.out wr (HE2.out _ HR.out.1)
    by_cases hlt : j < m
    · have q1 : (j : Int) < (m : Int) := by omega
      obtain ⟨b,o,dk,ds,dz,nv,aV,cV,rfl,HE0,d0,d1,d2,d3,-,-⟩ := HD.out wr (HE2.out _ HR.out.1) j hlt; have HE : Hid (dk = (p.Ds.getD j dd0).k /\ ds = (p.Ds.getD j dd0).s /\ dz = (p.Ds.getD j dd0).z /\ nv = (p.Ds.getD j dd0).vs.length) := HE0; have hjD : j < p.Ds.length := by rw [HM.out.1]; exact hlt
      have HjD : Hid (j < p.Ds.length) := hjD; clear HE0 d1 d3 c0 c1 c2 c4 hjD
      by_cases k3 : dk = 3
      · subst k3
        have HRn : Hid (∃ L : List Int,lO = L.length /\ wr.ownsRow w2.heap.size 51 1 (.slice aO lO cO) lO (u6V L) /\ OI p Ss (j + 1) k L) := by
          obtain ⟨L,e,h1,h2⟩ := HR.out.2.2.2; exact ⟨L,e,h1,h2.skip HjD.out HE.out.1.symm⟩
        go_wp2_with fail
        go_roundg (m - (j + 1))
        case measure => omega
        case rel => exact ⟨j + 1,k,nL,lO,cL,cO,aL,aO,by simp,rfl,rfl,by omega,hcL,HR.out.1,HR.out.2.1,HR.out.2.2.1,HRn.out⟩
      have k3' : (dk == 3) = false := by simp [k3]
      by_cases hn0 : nL = 0
      · subst hn0
        have HZ : Hid (PP 1 [] none wr.drew) := HBad.out _ (by
          obtain ⟨L,e,h1,h2⟩ := HR.out.2.2.2; exact h2.short HjD.out (by rw [<- HE.out.1]; exact k3) (by rw [HM.out.2]; have := HR.out.2.1; omega)) (HE2.out _ ⟨HR.out.1.os,HR.out.1.tape,HR.out.1.output,HR.out.1.size,HR.out.1.block⟩)
        go_upto_region 11 with fail
        refine wp_region_held_drew (S := (fun _ => True)) (by kernel_rfl) trivial (fun hHeld => ?_); refine sq_of [] [0,1,2,3,4,5,6,7,8,9,10,11] (by kernel_rfl) hHeld ?_
        repeat (first | (refine sq_skip (by rfl) (by rfl) ?_; simp only [Act.put,z0,z1,z2]) | (refine sq_op (v := ?_) (by rfl) (by rfl) (by rfl) ?_ ?_; rotate_left; (focus (intro w hSw; (try dsimp only at hSw); go_simp <;> with_reducible rfl)); simp only [Act.put,z0,z1,z2]))
        refine sq_end (fun _ => ?_); clear hHeld
        go_wp2_with fail
        exact ⟨rfl,_,by simp [results,Tryz.results10,go_sem],_,[],none,0,rfl,HZ.out⟩
      have hkS : k < nS := by have := HR.out.2.1; omega
      obtain ⟨bS,oS,e1,e2⟩ := HR.out.2.2.1 (by omega); obtain ⟨b',o',e1',hcs⟩ := HS.out wr (HE2.out _ HR.out.1) (by omega); rw [e1] at e1'; cases e1'; obtain ⟨aR,cR,r0,hU⟩ := hcs k hkS; obtain ⟨nR,hnR⟩ : ∃ nR,(Ss.getD k []).length = nR := ⟨_,rfl⟩; rw [hnR] at r0; subst e2; have HU : Hid (U6 wr P (Ss.getD k []) aR /\ (Ss.getD k []).length = nR) := ⟨hU,hnR⟩; have HkS : Hid (k < Ss.length) := by rw [HM.out.2]; exact hkS
      have HaS : Hid (aS = some ⟨bS,oS,none⟩) := e1; have qn : ((nL : Int) == 0) = false := by simp [hn0]
      have qp : 0 < nL := by omega
      clear hcs hU hnR e1 hn0; obtain ⟨V,hV⟩ : ∃ V : Int,max dz 1 = V := ⟨_,rfl⟩; have HV : Hid (max (p.Ds.getD j dd0).z 1 = V) := by show _ = _; rw [<- HE.out.2.2.1]; exact hV
      have h5 := wordsOf_any b (o + j * 4) dz wr.drew d2; rw [hV] at h5; have HC : Hid (Calls Tryz.prog 18 #[.pointer (some ⟨b,o + j * 4,none⟩)] wr.drew fun e w' => e = .returned (.int .i64 V) /\ w' = wr.drew) := h5; have HRd : Hid (Below w2.heap.size w2 wr.drew) := ⟨HR.out.1.os,HR.out.1.tape,HR.out.1.output,HR.out.1.size,HR.out.1.block⟩; clear h5 hV d2
      go_upto_region 11 with fail
      refine wp_region_held_drew (S := (fun W => W.cell? ⟨bS,oS + k,none⟩ = some (.slice aR nR cR))) (by kernel_rfl) r0 (fun hHeld => ?_); refine sq_of [9] [0,1,2,3,4,5,6,7,8,9,10,11] (by kernel_rfl) hHeld ?_
      repeat (first | (refine sq_skip (by rfl) (by rfl) ?_; simp only [Act.put,z0,z1,z2]) | (refine sq_op (v := ?_) (by rfl) (by rfl) (by rfl) ?_ ?_; rotate_left; (focus (intro w hSw; (try dsimp only at hSw); go_simp <;> with_reducible rfl)); simp only [Act.put,z0,z1,z2]))
      refine sq_do (by rfl) (by rfl) (by rfl) (fun K hK => ?_)
      go_simp
      go_at_call 18
      refine HC.out.mono ?_; rintro e w' ⟨rfl,hw'⟩; subst w'; refine hK.out _ _ hHeld (fun _ => ?_); clear hK K hHeld HC
      try simp only [Act.put,z0,z1,z2]
      by_cases hnv : (nR : Int) = V
      rotate_left
      · have qv : ((nR : Int) != V) = true := by simp [hnv]
        have HZ : Hid (PP 1 [] none wr.drew) := HBad.out _ (by
          obtain ⟨L,e,h1,h2⟩ := HR.out.2.2.2; exact h2.bad HjD.out (by rw [<- HE.out.1]; exact k3) HkS.out (by rw [HV.out,HU.out.2]; exact hnv)) (HE2.out _ HRd.out)
        clear hnv
        repeat (first | (refine sq_skip (by rfl) (by rfl) ?_; simp only [Act.put,z0,z1,z2]) | (refine sq_op (v := ?_) (by rfl) (by rfl) (by rfl) ?_ ?_; rotate_left; (focus (intro w hSw; (try dsimp only at hSw); go_simp <;> with_reducible rfl)); simp only [Act.put,z0,z1,z2]))
        refine sq_end (fun _ => ?_)
        go_wp2_with fail
        exact ⟨rfl,_,by simp [results,Tryz.results10,go_sem],_,[],none,0,rfl,HZ.out⟩
      have qv : ((nR : Int) != V) = false := by simp [hnv]
      have HnV : Hid ((nR : Int) = V) := hnv; clear hnv
      repeat (first | (refine sq_skip (by rfl) (by rfl) ?_; simp only [Act.put,z0,z1,z2]) | (refine sq_op (v := ?_) (by rfl) (by rfl) (by rfl) ?_ ?_; rotate_left; (focus (intro w hSw; (try dsimp only at hSw); go_simp <;> with_reducible rfl)); simp only [Act.put,z0,z1,z2]))
      refine sq_end (fun _ => ?_); have HaN : Hid (0 < nL - 1 -> ∃ b o,aS = some ⟨b,o,none⟩ /\ (if cL = 1 then some ⟨bS,oS + k,none⟩ else some ⟨bS,oS + k + 1,none⟩ : Option Addr) = some ⟨b,o + (k + 1),none⟩) := fun _ => ⟨bS,oS,HaS.out,by rw [if_neg (by omega),Nat.add_assoc]⟩
      obtain ⟨aN,haN⟩ : ∃ aN : Option Addr,(if cL = 1 then some ⟨bS,oS + k,none⟩ else some ⟨bS,oS + k + 1,none⟩ : Option Addr) = aN := ⟨_,rfl⟩; rw [haN] at HaN; have HaE : Hid ((if cL = 1 then some ⟨bS,oS + k,none⟩ else some ⟨bS,oS + k + 1,none⟩ : Option Addr) = aN) := haN; clear haN; have HnK : Hid (nL - 1 + (k + 1) = nS) := by have := HR.out.2.1; show _ = _; omega
      by_cases k5 : dk = 5
      · subst k5
        obtain ⟨L,e,hrow,hOI⟩ := HR.out.2.2.2; have hzz := HZr.out j hlt; have hnr : 0 < nR /\ nR <= 256 := by have h6 := HnV.out; rw [<- HV.out] at h6; omega
        have hll : lO <= 65536 := by have h7 := hOI.2.1; rw [<- e] at h7; omega
        have HL : Hid (lO = L.length /\ wr.drew.ownsRow w2.heap.size 51 1 (.slice aO lO cO) lO (u6V L) /\ OI p Ss (j + 1) (k + 1) (L ++ Ss.getD k [])) := ⟨e,hrow,hOI.out HjD.out HE.out.1.symm HkS.out (by rw [HU.out.2,HV.out]; exact HnV.out) hzz.2⟩; obtain ⟨bv,ov,e5,_,hcv⟩ := HU.out.1 (by rw [HU.out.2]; exact hnr.1); subst e5; have HNw : Hid (∀ i u,(u6V (Ss.getD k []))[i]? = some u -> wr.drew.cell? ((⟨bv,ov,none⟩ : Addr).add i) = some u) := fun i u hu => by
          unfold u6V at hu; rw [List.getElem?_map] at hu; cases hx : (Ss.getD k [])[i]? with
          | none => rw [hx] at hu; cases hu
          | some x =>
            rw [hx] at hu; cases hu; obtain ⟨hi,_⟩ := List.getElem?_eq_some_iff.1 hx; have h6 := hcv i hi; rw [List.getD_eq_getElem?_getD,hx] at h6; rw [Addr.add_lit]; exact h6
        clear hcv e hrow hOI hzz
        go_upto_region 14 with fail
        refine wp_region_lit ?_
        iterate 4 (refine pl_op (v := ?_) (by rfl) ?_ ?_; rotate_left; (focus (go_simp <;> with_reducible rfl)); simp only [Act.put,z0,z1,z2])
        refine pl_do (by rfl) (fun K hK => ?_)
        refine wp_append_lies _ _ _ 38 rfl w2.heap.size 51 i0 _ 1 8 Tryz.underlying38 HI0.out.1 HI0.out.2.1 HI0.out.2.2.1 HI0.out.2.2.2 rfl (by omega) (.slice aO lO cO) lO (u6V L) (by rfl) HL.out.2.1 ⟨bv,ov,none⟩ nR cR (u6V (Ss.getD k [])) (by rfl) (by rw [u6V_len,HU.out.2]; omega) HNw.out (by intro u hu; unfold u6V at hu; obtain ⟨x,_,rfl⟩ := List.mem_map.1 hu; rfl) hnr.1 (by unfold maxLen; omega) (by omega) HRd.out.size wr.drew.heap.size rfl ?_; intro g6 cap6 w6 hown6 hgrow6 hat6 hlt6; have H6 : Hid (Below w2.heap.size w2 w6 /\ ∃ L : List Int,lO + nR = L.length /\ w6.ownsRow w2.heap.size 51 1 (.slice (some ⟨g6,0,none⟩) (lO + nR) cap6) (lO + nR) (u6V L) /\ OI p Ss (j + 1) (k + 1) L) := ⟨bel_grown HRd.out HRd.out.size HL.out.2.1 hgrow6,L ++ Ss.getD k [],by rw [List.length_append,<- HL.out.1,HU.out.2],by rw [show u6V (L ++ Ss.getD k []) = u6V L ++ u6V (Ss.getD k []) by simp [u6V]]; exact hown6,HL.out.2.2⟩; clear hown6 hgrow6 hat6 hlt6 HL HNw; refine hK.out _ _ ?_; clear hK K
        try simp only [Act.put,z0,z1,z2]
        go_upto_region 16 with fail
        rw [HaE.out]
        go_wp2_with fail
        go_roundg (m - (j + 1))
        case measure => omega
        case rel => exact ⟨j + 1,k + 1,nL - 1,lO + nR,cL - 1,cap6,aN,_,by simp,rfl,rfl,by omega,by omega,H6.out.1,HnK.out,HaN.out,H6.out.2⟩
      have k5' : (dk == 5) = false := by simp [k5]
      have HL : Hid (∃ L : List Int,lO = L.length /\ wr.drew.ownsRow w2.heap.size 51 1 (.slice aO lO cO) lO (u6V L) /\ OI p Ss (j + 1) (k + 1) L) := by
        obtain ⟨L,e,h1,h2⟩ := HR.out.2.2.2; exact ⟨L,e,h1,h2.pass HjD.out (by rw [<- HE.out.1]; exact k3) (by rw [<- HE.out.1]; exact k5) HkS.out (by rw [HU.out.2,HV.out]; exact HnV.out)⟩
      go_upto_region 16 with fail
      rw [HaE.out]
      go_wp2_with fail
      go_roundg (m - (j + 1))
      case measure => omega
      case rel => exact ⟨j + 1,k + 1,nL - 1,lO,cL - 1,cO,aN,_,by simp,rfl,rfl,by omega,by omega,HRd.out,HnK.out,HaN.out,HL.out⟩
    obtain rfl : m = j := by omega
    have q1 : ¬ (m : Int) < (m : Int) := by omega
    clear c0 c1 c2 c3 c4 c5; obtain ⟨L,e,hrow,hOI⟩ := HR.out.2.2.2; have h8 := hOI.2.1; rw [<- HM.out.1] at hOI; have h7 := hOI.fin; rw [HM.out.2] at h7
    by_cases hn0 : nL = 0
    · subst hn0
      have HZ : Hid (PP 0 L aO wr) := HGd.out wr L aO cO (by rw [<- e]; exact hrow) (h7.1 (by have := HR.out.2.1; omega)) (by omega) HR.out.1; subst e; clear hrow hOI h7
      go_wp2_with fail
      exact ⟨rfl,_,by simp [results,Tryz.results10,go_sem],0,L,aO,⟨cO,rfl⟩,HZ.out⟩
    have q2 : (nL : Int) > 0 := by omega
    have HZ : Hid (PP 1 [] none wr) := HBad.out _ (h7.2 (by have := HR.out.2.1; omega)) (HE2.out _ HR.out.1); clear hrow hOI h7 e h8
    go_wp2_with fail
    exact ⟨rfl,_,by simp [results,Tryz.results10,go_sem],1,[],none,⟨0,rfl⟩,HZ.out⟩
end Go.Proofs.YtncglkbfnfiekaaGreatDoor
