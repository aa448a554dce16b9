import Derived.Test.YtncglkbfnfiekaaGreatDoorSqA
import Derived.Test.YtncglkbfnfiekaaGreatDoorWvX
namespace Go.Proofs.YtncglkbfnfiekaaGreatDoor
open Go.ChangeShapes Go.WideShapes Go.ChangeAt Go.RowKit Go.Lib

theorem cell_blt {w : World} {a : Addr} {v : Value} (h : w.cell? a = some v) : a.block < w.heap.size := by
  by_cases e : a.block < w.heap.size
  · exact e
  have : w.heap[a.block]? = none := Array.getElem?_eq_none (by omega)
  simp [World.cell?,this] at h
set_option maxHeartbeats 16000000 in
set_option maxRecDepth 100000 in
/-- the document's Outputs -/
theorem outs17_any {w : World} {P : Nat -> Prop} {N n : Nat} {p : Pg} {vD vB vS vT : Value} {Ss : List (List Int)} (fb : Bool) (hfb : fb = true ↔ okPf p) (hg : RG p) (hDs : RDs w P p.Ds vD) (hBs : RB w P (N + 1) (n + 1) p.Bs vB) (hSs : RSt w P Ss vS) (hP : ∀ j,P j -> j < w.heap.size) :
    Calls Tryz.prog 11 #[.agg #[.string p.s,.int .i64 p.wd,.int .i64 p.ln,vD,vB],.agg #[vS,vT]] w fun e w' => ∃ er L a c,e = .returned (.tuple #[.slice a L.length c,.int .i64 er]) /\ OAns fb p Ss er L /\ U6 w' (fun b => w.heap.size <= b /\ b < w'.heap.size) L a /\ L.length <= 65536 /\ Below w.heap.size w w' := by
  obtain ⟨aD,m,cD,rfl,hm⟩ : ∃ aD m cD,vD = .slice aD m cD /\ p.Ds.length = m := by
    obtain ⟨aD,cD,rfl,-⟩ := hDs; exact ⟨aD,_,cD,rfl,rfl⟩
  obtain ⟨aS,nS,cS,rfl,hnS⟩ : ∃ aS nS cS,vS = .slice aS nS cS /\ Ss.length = nS := by
    obtain ⟨aS,cS,rfl,-⟩ := hSs; exact ⟨aS,_,cS,rfl,rfl⟩
  obtain ⟨W1,hW1⟩ : ∃ W1,(w.alloc (.cells #[.string p.s,.int .i64 p.wd,.int .i64 p.ln,.slice aD m cD,vB] 25)).alloc (.cells #[.slice aS nS cS,vT] 37) = W1 := ⟨_,rfl⟩; obtain ⟨Eb,hEb⟩ : ∃ Eb,w.heap.size = Eb := ⟨_,rfl⟩; have hb1 : Below w.heap.size w W1 := by rw [<- hW1]; exact bnx (bel1 _ _) (bel1 _ _)
  have hbx : W1.heap[Eb]? = some (.cells #[.string p.s,.int .i64 p.wd,.int .i64 p.ln,.slice aD m cD,vB] 25 (0,0)) := by rw [<- hW1,<- hEb]; exact blk_next (heap_alloc_new _ _) (bel1 _ _)
  have hby : W1.heap[Eb + 1]? = some (.cells #[.slice aS nS cS,vT] 37 (0,0)) := by
    rw [<- hW1,<- hEb]; have h5 := heap_alloc_new (w.alloc (.cells #[.string p.s,.int .i64 p.wd,.int .i64 p.ln,.slice aD m cD,vB] 25)) (.cells #[.slice aS nS cS,vT] 37)
    simpa using h5
  have HW1 : Hid ((w.alloc (.cells #[.string p.s,.int .i64 p.wd,.int .i64 p.ln,.slice aD m cD,vB] 25)).alloc (.cells #[.slice aS nS cS,vT] 37) = W1 /\ w.heap.size = Eb) := ⟨hW1,hEb⟩; have HBx : Hid (∀ W,Below W1.heap.size W1 W -> W.cell? ⟨Eb,0,none⟩ = some (.string p.s) /\ W.cell? ⟨Eb,1,none⟩ = some (.int .i64 p.wd) /\ W.cell? ⟨Eb,2,none⟩ = some (.int .i64 p.ln) /\ W.cell? ⟨Eb,3,none⟩ = some (.slice aD m cD) /\ W.cell? ⟨Eb,4,none⟩ = some (vB) /\ W.cell? ⟨Eb + 1,0,none⟩ = some (.slice aS nS cS)) := fun W h => by
    have h2 := blk_next hbx h; have h3 := blk_next hby h; exact ⟨cell_of h2 0,cell_of h2 1,cell_of h2 2,cell_of h2 3,cell_of h2 4,cell_of h3 0⟩
  have hR : ∀ W,Below W1.heap.size W1 W -> RDs W P p.Ds (.slice aD m cD) /\ RB W P (N + 1) (n + 1) p.Bs vB /\ RSt W P Ss (.slice aS nS cS) /\ ∀ j,P j -> j < W.heap.size := fun W h => ⟨hDs.keep (fun j hj => (bnx hb1 h).block j (hP j hj)),hBs.keep (fun j hj => (bnx hb1 h).block j (hP j hj)),hSs.keep (fun j hj => (bnx hb1 h).block j (hP j hj)),fun j hj => Nat.lt_of_lt_of_le (hP j hj) (bnx hb1 h).size⟩
  have HD : Hid (∀ W,Below W1.heap.size W1 W -> ∀ j,j < m -> DC p aD W j) := fun W h j hj => dc_of (hR W h).1 (hR W h).2.2.2 (by omega)
  have HS : Hid (∀ W,Below W1.heap.size W1 W -> 0 < nS -> ∃ b o,aS = some ⟨b,o,none⟩ /\ ∀ j,j < nS -> ∃ aR cR,W.cell? ⟨b,o + j,none⟩ = some (.slice aR (Ss.getD j []).length cR) /\ U6 W P (Ss.getD j []) aR) := fun W h h0 => by
    obtain ⟨ad,cap,e,_,h3⟩ := (hR W h).2.2.1; cases e; obtain ⟨b,o,e2,_,hc⟩ := h3 h0; exact ⟨b,o,e2,hc⟩
  have hcS : nS <= cS := by
    obtain ⟨ad,cap,e,hca,_⟩ := hSs; cases e; exact hca
  have HM : Hid (p.Ds.length = m /\ Ss.length = nS) := ⟨hm,hnS⟩; have HRS : Hid (∀ c a,FAns fb p c a 0 -> m <= 256 /\ ∀ j,j < m -> 0 <= (p.Ds.getD j dd0).z /\ (p.Ds.getD j dd0).z <= 256) := fun c a h => by
    have := right_small h (fun hok j hj => (hok.2.2.2.1 _ (getD_memD hj)).2.2.1) hfb; rw [hm] at this; exact this
  have HC : Hid (Calls Tryz.prog 19 #[.agg #[.string p.s,.int .i64 p.wd,.int .i64 p.ln,.slice aD m cD,vB]] W1 fun e w' => ∃ c a er,e = .returned (.int .i64 er) /\ FAns fb p c a er /\ Below W1.heap.size W1 w') := check16_any fb hfb hg (hR W1 (Below.refl _ _)).1 (hR W1 (Below.refl _ _)).2.1 (hR W1 (Below.refl _ _)).2.2.2; obtain ⟨PP,hPP⟩ : ∃ PP : Int -> List Int -> Option Addr -> World -> Prop,PP = fun er L a w' => OAns fb p Ss er L /\ U6 w' (fun b => w.heap.size <= b /\ b < w'.heap.size) L a /\ L.length <= 65536 /\ Below w.heap.size w w' := ⟨_,rfl⟩
  have HPP : Hid (∀ er L a w',OAns fb p Ss er L -> U6 w' (fun b => W1.heap.size <= b /\ b < w'.heap.size) L a -> L.length <= 65536 -> Below W1.heap.size W1 w' -> PP er L a w') := fun er L a w' h1 h2 h3 h4 => by
    rw [hPP]; refine ⟨h1,fun h0 => ?_,h3,bnx hb1 h4⟩; obtain ⟨b,o,e,hb,hc⟩ := h2 h0; exact ⟨b,o,e,⟨Nat.le_trans hb1.size hb.1,hb.2⟩,hc⟩
  have HGo : Hid (∀ (e : Ending) (w' : World),(∃ (er : Int) (L : List Int) (a : Option Addr) (c : Nat),e = Ending.returned (.tuple #[.slice a L.length c,.int .i64 er]) /\ PP er L a w') -> ∃ (er : Int) (L : List Int) (a : Option Addr) (c : Nat),e = Ending.returned (.tuple #[.slice a L.length c,.int .i64 er]) /\ OAns fb p Ss er L /\ U6 w' (fun b => w.heap.size <= b /\ b < w'.heap.size) L a /\ L.length <= 65536 /\ Below w.heap.size w w') := fun e w' h => by rw [hPP] at h; exact h
  refine Calls.mono (R := fun (e : Ending) (w' : World) => ∃ (er : Int) (L : List Int) (a : Option Addr) (c : Nat),e = Ending.returned (.tuple #[.slice a L.length c,.int .i64 er]) /\ PP er L a w') ?_ (fun e w' h => HGo.out e w' h); have HNil : Hid (∀ w',U6 w' (fun b => W1.heap.size <= b /\ b < w'.heap.size) [] none) := fun w' h0 => absurd h0 (by simp)
  obtain ⟨i0,hi0,hz0,hz1,hz2⟩ := info_parts (P := Tryz.prog) (e := 51) (z := .int .u64 0) (size := 1) (bytes := 8) (by kernel_rfl); have HI0 : Hid (Tryz.prog.info? 51 = some i0 /\ i0.zero = some (.int .u64 0) /\ i0.size = 1 /\ i0.bytes = 8) := ⟨hi0,hz0,hz1,hz2⟩; obtain ⟨b0,b1,b2,b3,b4,b5⟩ := HBx.out W1 (Below.refl _ _); clear hW1 hEb hb1 hbx hby hR hDs hBs hSs hP hg hfb hm hnS hPP HGo hi0 hz0 hz1 hz2
  go_enter Tryz.func11,Tryz.ntmps11
  go_upto_region 1 with fail
  rw [HW1.out.1,HW1.out.2]
  go_wp2_with fail
  refine HC.out.mono ?_; rintro e w2 ⟨c,a,er,rfl,hF,h2⟩; have H2 : Hid (Below W1.heap.size W1 w2) := h2; clear b0 b1 b2 b3 b4 b5 h2 HC; obtain ⟨c0,c1,c2,c3,c4,c5⟩ := HBx.out w2 H2.out
  by_cases he : er = 0
  rotate_left
  · have q1 : (er != 0) = true := by simpa using he
    have HZ : Hid (PP er [] none w2) := HPP.out _ _ _ _ ⟨c,a,er,hF,Or.inl ⟨he,rfl,rfl⟩⟩ (HNil.out _) (by simp) H2.out; clear he hF
    go_wp2_with fail
    exact ⟨rfl,_,by simp [results,Tryz.results11,go_sem],_,[],none,0,rfl,HZ.out⟩
  subst he; obtain ⟨hm3,hz3⟩ := HRS.out c a hF; have HZr : Hid (∀ j,j < m -> 0 <= (p.Ds.getD j dd0).z /\ (p.Ds.getD j dd0).z <= 256) := hz3; have HF : Hid (FAns fb p c a 0) := hF; have HBad : Hid (∀ W,outF p.Ds Ss = none -> Below W1.heap.size W1 W -> PP 1 [] none W) := fun W h1 h2 => HPP.out _ _ _ _ ⟨c,a,0,HF.out,Or.inr ⟨rfl,Or.inl ⟨h1,rfl,rfl⟩⟩⟩ (HNil.out _) (by simp) h2
  have HE2 : Hid (∀ W,Below w2.heap.size w2 W -> Below W1.heap.size W1 W) := fun W h => bnx H2.out h
  have HGd : Hid (∀ W L a cc,W.ownsRow w2.heap.size 51 1 (.slice a L.length cc) L.length (u6V L) -> outF p.Ds Ss = some L -> L.length <= 65536 -> Below w2.heap.size w2 W -> PP 0 L a W) := fun W L a cc h1 h2 h3 h4 => HPP.out _ _ _ _ ⟨c,_,0,HF.out,Or.inr ⟨rfl,Or.inr ⟨h2,rfl⟩⟩⟩ (fun h0 => by
    obtain ⟨b,o,e,hb,hc⟩ := (row_u6 h1).2 h0; exact ⟨b,o,e,⟨Nat.le_trans H2.out.size hb.1,hb.2⟩,hc⟩) h3 (HE2.out _ h4)
  clear hF hz3 HRS
  go_wp2_with fail
  clear c0 c1 c2 c3 c4 c5
  go_loopg [7,8,9] m (fun gk v7 v8 v9 wr => ∃ (j k lO cO : Nat) (aO : Option Addr),v9 = .int .i64 (j : Int) /\ v7 = .int .i64 (k : Int) /\ v8 = .slice aO lO cO /\ j + gk = m /\ k <= j /\ Aside (Below w2.heap.size w2 wr /\ ∃ L : List Int,lO = L.length /\ wr.ownsRow w2.heap.size 51 1 (.slice aO lO cO) lO (u6V L) /\ OI p Ss j k L))
  case atStart => exact ⟨0,0,0,0,none,rfl,rfl,rfl,by omega,by omega,Below.refl _ _,[],rfl,World.ownsRow_nil _ _ _ _,OI.zero p Ss⟩
  case round =>
    obtain ⟨j,k,lO,cO,aO,rfl,rfl,rfl,hj,hkj,HR⟩ := hrel; obtain ⟨c0,c1,c2,c3,c4,c5⟩ := HBx.out wr (HE2.out _ HR.out.1)
    by_cases hlt : j < m
    · have q1 : (j : Int) < (m : Int) := by omega
      obtain ⟨b,o,dk,ds,dz,nv,aV,cV,rfl,HE0,d0,d1,d2,d3,-,-⟩ := HD.out wr (HE2.out _ HR.out.1) j hlt; have HE : Hid (dk = (p.Ds.getD j dd0).k /\ ds = (p.Ds.getD j dd0).s /\ dz = (p.Ds.getD j dd0).z /\ nv = (p.Ds.getD j dd0).vs.length) := HE0; have hjD : j < p.Ds.length := by rw [HM.out.1]; exact hlt
      have HjD : Hid (j < p.Ds.length) := hjD; obtain ⟨W3,hW3⟩ : ∃ W3,wr.alloc (.cells #[.int .i64 dk,.string ds,.int .i64 dz,.slice aV nv cV] 46) = W3 := ⟨_,rfl⟩; obtain ⟨Db,hDb⟩ : ∃ Db,wr.heap.size = Db := ⟨_,rfl⟩; have HW3 : Hid (wr.alloc (.cells #[.int .i64 dk,.string ds,.int .i64 dz,.slice aV nv cV] 46) = W3 /\ wr.heap.size = Db) := ⟨hW3,hDb⟩; have hb3 : Below wr.heap.size wr W3 := by rw [<- hW3]; exact bel1 _ _
      have hbx3 : W3.heap[Db]? = some (.cells #[.int .i64 dk,.string ds,.int .i64 dz,.slice aV nv cV] 46 (0,0)) := by rw [<- hW3,<- hDb]; exact heap_alloc_new _ _
      have HB3 : Hid (∀ W,Below W3.heap.size W3 W -> Below w2.heap.size w2 W /\ Below wr.heap.size wr W /\ (∃ L : List Int,lO = L.length /\ W.ownsRow w2.heap.size 51 1 (.slice aO lO cO) lO (u6V L) /\ OI p Ss j k L) /\ W.cell? ⟨Db,0,none⟩ = some (.int .i64 dk) /\ W.cell? ⟨Db,1,none⟩ = some (.string ds) /\ W.cell? ⟨Db,2,none⟩ = some (.int .i64 dz) /\ W.cell? ⟨Db,3,none⟩ = some (.slice aV nv cV)) := fun W h => by
        refine ⟨bnx HR.out.1 (bnx hb3 h),bnx hb3 h,?_,?_⟩
        · obtain ⟨L,e,h1,h2⟩ := HR.out.2
          exact ⟨L,e,row_below h1 (bnx hb3 h),h2⟩
        have h5 := blk_next hbx3 h; exact ⟨cell_of h5 0,cell_of h5 1,cell_of h5 2,cell_of h5 3⟩
      clear HE0 c0 c1 c2 c4 hjD hW3 hDb hb3 hbx3
      go_upto_region 10 with fail
      rw [HW3.out.1,HW3.out.2]; clear d0 d1 d2 d3 c3 c5; obtain ⟨y1,y2,y3,e0,e1,e2,e3⟩ := HB3.out W3 (Below.refl _ _); obtain ⟨c0,c1,c2,c3,c4,c5⟩ := HBx.out W3 (HE2.out _ y1); clear c0 c1 c2 c3 c4 y1 y2 y3
      by_cases k3 : dk = 3
      · subst k3
        have HRn : Hid (Below w2.heap.size w2 W3 /\ ∃ L : List Int,lO = L.length /\ W3.ownsRow w2.heap.size 51 1 (.slice aO lO cO) lO (u6V L) /\ OI p Ss (j + 1) k L) := by
          obtain ⟨y1,y2,⟨L,e,h1,h2⟩,_⟩ := HB3.out W3 (Below.refl _ _); exact ⟨y1,L,e,h1,h2.skip HjD.out HE.out.1.symm⟩
        go_wp2_with fail
        go_roundg (m - (j + 1))
        case measure => omega
        case rel => exact ⟨j + 1,k,lO,cO,aO,by simp,rfl,rfl,by omega,by omega,HRn.out⟩
      have k3' : (dk == 3) = false := by simp [k3]
      have hd3 : Below W3.heap.size W3 W3.drew := ⟨rfl,rfl,rfl,Nat.le_refl _,fun _ _ => rfl⟩
      by_cases hkS : k < nS
      rotate_left
      · have qk : (k : Int) ≥ (nS : Int) := by omega
        have qk2 : (nS : Int) <= (k : Int) := by omega
        have HZ : Hid (PP 1 [] none W3.drew) := HBad.out _ (by
          obtain ⟨L,e,h1,h2⟩ := HR.out.2; exact h2.short HjD.out (by rw [<- HE.out.1]; exact k3) (by rw [HM.out.2]; exact hkS)) (HE2.out _ (HB3.out _ hd3).1)
        go_upto_region 11 with fail
        refine wp_region_held_drew (S := (fun W => W.cell? ⟨Eb + 1,0,none⟩ = some (.slice aS nS cS))) (by kernel_rfl) c5 (fun hHeld => ?_); refine sq_of [] [0,1,2,3,4,5,6,7,8,9,10,11,12,13,14,15] (by kernel_rfl) hHeld ?_
        repeat (first | (refine sq_skip (by rfl) (by rfl) ?_; simp only [Act.put,z0,z1,z2]) | (refine sq_op (v := ?_) (by rfl) (by rfl) (by rfl) ?_ ?_; rotate_left; (focus (intro w hSw; (try dsimp only at hSw); go_simp <;> with_reducible rfl)); simp only [Act.put,z0,z1,z2]))
        refine sq_end (fun _ => ?_); clear hHeld
        go_wp2_with fail
        first | exact ⟨rfl,_,by simp [results,Tryz.results11,go_sem],_,[],none,0,rfl,HZ.out⟩ | exact ⟨rfl,_,by simp [results,Tryz.results11,go_sem],_,[],none,⟨0,rfl⟩,HZ.out⟩
      have qk : ¬ (k : Int) ≥ (nS : Int) := by omega
      have qk2 : ¬ (nS : Int) <= (k : Int) := by omega
      have qk3 : (k : Int) < (nS : Int) := by omega
      obtain ⟨bS,oS,ea,hcs⟩ := HS.out W3.drew (HE2.out _ (HB3.out _ hd3).1) (by omega); subst ea; obtain ⟨aR,cR,r0,hU⟩ := hcs k hkS; obtain ⟨nR,hnR⟩ : ∃ nR,(Ss.getD k []).length = nR := ⟨_,rfl⟩; rw [hnR] at r0; have HU : Hid ((Ss.getD k []).length = nR) := hnR; have HkS : Hid (k < Ss.length) := by rw [HM.out.2]; exact hkS
      obtain ⟨V,hV⟩ : ∃ V : Int,max dz 1 = V := ⟨_,rfl⟩; have HV : Hid (max (p.Ds.getD j dd0).z 1 = V) := by show _ = _; rw [<- HE.out.2.2.1]; exact hV
      have h5 := words17_any dk dz ds (.slice aV nv cV) W3.drew; rw [hV] at h5; have HC : Hid (Calls Tryz.prog 20 #[.agg #[.int .i64 dk,.string ds,.int .i64 dz,.slice aV nv cV]] W3.drew fun e w' => e = .returned (.int .i64 V) /\ Below W3.drew.heap.size W3.drew w') := h5; have hbS : bS < W3.heap.size := cell_blt r0; have r0d : W3.drew.cell? ⟨bS,oS + k,none⟩ = some (.slice aR nR cR) := r0; clear h5 hV hU hcs hnR
      go_upto_region 11 with fail
      refine wp_region_held_drew (S := (fun W => (W.cell? ⟨Eb + 1,0,none⟩ = some (.slice (some ⟨bS,oS,none⟩) nS cS) /\ W.cell? ⟨bS,oS + k,none⟩ = some (.slice aR nR cR)) /\ W.cell? ⟨Db,0,none⟩ = some (.int .i64 dk) /\ W.cell? ⟨Db,1,none⟩ = some (.string ds) /\ W.cell? ⟨Db,2,none⟩ = some (.int .i64 dz) /\ W.cell? ⟨Db,3,none⟩ = some (.slice aV nv cV))) (by kernel_rfl) ⟨⟨c5,r0⟩,e0,e1,e2,e3⟩ (fun hHeld => ?_); refine sq_of [13] [0,1,2,3,4,5,6,7,8,9,10,11,12,13,14,15] (by kernel_rfl) hHeld ?_
      repeat (first | (refine sq_skip (by rfl) (by rfl) ?_; simp only [Act.put,z0,z1,z2]) | (refine sq_op (v := ?_) (by rfl) (by rfl) (by rfl) ?_ ?_; rotate_left; (focus (intro w hSw; (try dsimp only at hSw); go_simp <;> with_reducible rfl)); simp only [Act.put,z0,z1,z2]))
      refine sq_do (by rfl) (by rfl) (by rfl) (fun K hK => ?_)
      go_simp
      go_at_call 20
      refine HC.out.mono ?_; rintro e w5 ⟨rfl,hb5⟩; have hb5' : Below W3.heap.size W3 w5 := ⟨hb5.os,hb5.tape,hb5.output,hb5.size,hb5.block⟩; have H5 : Hid (Below W3.heap.size W3 w5) := hb5'; clear hHeld c5 r0 e0 e1 e2 e3 hb5 HC; obtain ⟨y1,y2,y3,e0,e1,e2,e3⟩ := HB3.out w5 hb5'; obtain ⟨c0,c1,c2,c3,c4,c5⟩ := HBx.out w5 (HE2.out _ y1); have H5b : Hid (Below w2.heap.size w2 w5 /\ ∃ L : List Int,lO = L.length /\ w5.ownsRow w2.heap.size 51 1 (.slice aO lO cO) lO (u6V L) /\ OI p Ss j k L) := ⟨y1,y3⟩; obtain ⟨b',o',ea,hcs⟩ := HS.out w5 (HE2.out _ y1) (by omega); cases ea; obtain ⟨aR',cR',r0,hU⟩ := hcs k hkS; rw [HU.out] at r0; have r0' : w5.cell? ⟨bS,oS + k,none⟩ = some (.slice aR nR cR) := (hb5'.cell (p := ⟨bS,oS + k,none⟩) hbS).trans r0d; obtain ⟨rfl,rfl⟩ : aR = aR' /\ cR = cR' := by rw [r0'] at r0; cases r0; exact ⟨rfl,rfl⟩
      have HUu : Hid (U6 w5 P (Ss.getD k []) aR) := hU; clear c0 c1 c2 c3 c4 y1 y2 y3 hcs r0' hU hb5'; refine hK.out _ _ ⟨⟨c5,r0⟩,e0,e1,e2,e3⟩ (fun _ => ?_); clear hK K e1 e2 e3
      try simp only [Act.put,z0,z1,z2]
      by_cases hnv : (nR : Int) = V
      rotate_left
      · have qv : ((nR : Int) != V) = true := by simp [hnv]
        have HZ : Hid (PP 1 [] none w5) := HBad.out _ (by
          obtain ⟨L,e,h1,h2⟩ := H5b.out.2; exact h2.bad HjD.out (by rw [<- HE.out.1]; exact k3) HkS.out (by rw [HV.out,HU.out]; exact hnv)) (HE2.out _ H5b.out.1)
        clear hnv
        repeat (first | (refine sq_skip (by rfl) (by rfl) ?_; simp only [Act.put,z0,z1,z2]) | (refine sq_op (v := ?_) (by rfl) (by rfl) (by rfl) ?_ ?_; rotate_left; (focus (intro w hSw; (try dsimp only at hSw); go_simp <;> with_reducible rfl)); simp only [Act.put,z0,z1,z2]))
        refine sq_end (fun _ => ?_)
        go_wp2_with fail
        first | exact ⟨rfl,_,by simp [results,Tryz.results11,go_sem],_,[],none,0,rfl,HZ.out⟩ | exact ⟨rfl,_,by simp [results,Tryz.results11,go_sem],_,[],none,⟨0,rfl⟩,HZ.out⟩
      have qv : ((nR : Int) != V) = false := by simp [hnv]
      have HnV : Hid ((nR : Int) = V) := hnv; clear hnv
      repeat (first | (refine sq_skip (by rfl) (by rfl) ?_; simp only [Act.put,z0,z1,z2]) | (refine sq_op (v := ?_) (by rfl) (by rfl) (by rfl) ?_ ?_; rotate_left; (focus (intro w hSw; (try dsimp only at hSw); go_simp <;> with_reducible rfl)); simp only [Act.put,z0,z1,z2]))
      refine sq_end (fun _ => ?_)
      by_cases k5 : dk = 5
      · subst k5
        obtain ⟨L,e,hrow,hOI⟩ := H5b.out.2; have hzz := HZr.out j hlt; have hnr : 0 < nR /\ nR <= 256 := by have h6 := HnV.out; rw [<- HV.out] at h6; omega
        have hll : lO <= 65536 := by have h7 := hOI.2.1; rw [<- e] at h7; omega
        have HL : Hid (lO = L.length /\ w5.ownsRow w2.heap.size 51 1 (.slice aO lO cO) lO (u6V L) /\ OI p Ss (j + 1) (k + 1) (L ++ Ss.getD k [])) := ⟨e,hrow,hOI.out HjD.out HE.out.1.symm HkS.out (by rw [HU.out,HV.out]; exact HnV.out) hzz.2⟩; obtain ⟨bv,ov,e5,_,hcv⟩ := HUu.out (by rw [HU.out]; exact hnr.1); subst e5; have HNw : Hid (∀ i u,(u6V (Ss.getD k []))[i]? = some u -> w5.cell? ((⟨bv,ov,none⟩ : Addr).add i) = some u) := fun i u hu => by
          unfold u6V at hu; rw [List.getElem?_map] at hu; cases hx : (Ss.getD k [])[i]? with
          | none => rw [hx] at hu; cases hu
          | some x =>
            rw [hx] at hu; cases hu; obtain ⟨hi,_⟩ := List.getElem?_eq_some_iff.1 hx; have h6 := hcv i hi; rw [List.getD_eq_getElem?_getD,hx] at h6; rw [Addr.add_lit]; exact h6
        clear hcv e hrow hOI hzz
        go_upto_region 14 with fail
        refine wp_region_lit ?_
        iterate 6 (refine pl_op (v := ?_) (by rfl) ?_ ?_; rotate_left; (focus (go_simp <;> with_reducible rfl)); simp only [Act.put,z0,z1,z2])
        refine pl_do (by rfl) (fun K hK => ?_)
        refine wp_append_lies _ _ _ 38 rfl w2.heap.size 51 i0 _ 1 8 Tryz.underlying38 HI0.out.1 HI0.out.2.1 HI0.out.2.2.1 HI0.out.2.2.2 rfl (by omega) (.slice aO lO cO) lO (u6V L) (by rfl) HL.out.2.1 ⟨bv,ov,none⟩ nR cR (u6V (Ss.getD k [])) (by rfl) (by rw [u6V_len,HU.out]; omega) HNw.out (by intro u hu; unfold u6V at hu; obtain ⟨x,_,rfl⟩ := List.mem_map.1 hu; rfl) hnr.1 (by unfold maxLen; omega) (by omega) H5b.out.1.size w5.heap.size rfl ?_; intro g6 cap6 w6 hown6 hgrow6 hat6 hlt6; have H6 : Hid (Below w2.heap.size w2 w6 /\ ∃ L : List Int,lO + nR = L.length /\ w6.ownsRow w2.heap.size 51 1 (.slice (some ⟨g6,0,none⟩) (lO + nR) cap6) (lO + nR) (u6V L) /\ OI p Ss (j + 1) (k + 1) L) := ⟨bel_grown H5b.out.1 H5b.out.1.size HL.out.2.1 hgrow6,L ++ Ss.getD k [],by rw [List.length_append,<- HL.out.1,HU.out],by rw [show u6V (L ++ Ss.getD k []) = u6V L ++ u6V (Ss.getD k []) by simp [u6V]]; exact hown6,HL.out.2.2⟩; clear hown6 hgrow6 hat6 hlt6 HL HNw; refine hK.out _ _ ?_; clear hK K
        try simp only [Act.put,z0,z1,z2]
        go_wp2_with fail
        go_roundg (m - (j + 1))
        case measure => omega
        case rel => exact ⟨j + 1,k + 1,lO + nR,cap6,_,by simp,by simp,rfl,by omega,by omega,H6.out⟩
      have k5' : (dk == 5) = false := by simp [k5]
      have HL : Hid (Below w2.heap.size w2 w5 /\ ∃ L : List Int,lO = L.length /\ w5.ownsRow w2.heap.size 51 1 (.slice aO lO cO) lO (u6V L) /\ OI p Ss (j + 1) (k + 1) L) := by
        obtain ⟨y1,L,e,h1,h2⟩ := H5b.out; exact ⟨y1,L,e,h1,h2.pass HjD.out (by rw [<- HE.out.1]; exact k3) (by rw [<- HE.out.1]; exact k5) HkS.out (by rw [HU.out,HV.out]; exact HnV.out)⟩
      go_wp2_with fail
      go_roundg (m - (j + 1))
      case measure => omega
      case rel => exact ⟨j + 1,k + 1,lO,cO,aO,by simp,by simp,rfl,by omega,by omega,HL.out⟩
    obtain rfl : m = j := by omega
    have q1 : ¬ (m : Int) < (m : Int) := by omega
    obtain ⟨L,e,hrow,hOI⟩ := HR.out.2; have h8 := hOI.2.1; have h9 := hOI.2.2.1; rw [<- HM.out.1] at hOI; have h7 := hOI.fin; rw [HM.out.2] at h7 h9; clear c0 c1 c2 c4
    by_cases hn0 : k = nS
    · subst hn0
      have HZ : Hid (PP 0 L aO wr) := HGd.out wr L aO cO (by rw [<- e]; exact hrow) (h7.1 rfl) (by omega) HR.out.1; subst e; have q2 : ((k : Int) != (k : Int)) = false := by simp
      clear hrow hOI h7
      go_wp2_with fail
      exact ⟨rfl,_,by simp [results,Tryz.results11,go_sem],0,L,aO,⟨cO,rfl⟩,HZ.out⟩
    have q2 : ((k : Int) != (nS : Int)) = true := by simp; omega
    have HZ : Hid (PP 1 [] none wr) := HBad.out _ (h7.2 (by omega)) (HE2.out _ HR.out.1); clear hrow hOI h7 e h8
    go_wp2_with fail
    exact ⟨rfl,_,by simp [results,Tryz.results11,go_sem],1,[],none,⟨0,rfl⟩,HZ.out⟩
end Go.Proofs.YtncglkbfnfiekaaGreatDoor
namespace Go.Proofs.YtncglkbfnfiekaaGreatDoor
open Go.ChangeShapes Go.WideShapes Go.ChangeAt Go.RowKit Go.Lib

theorem RSt.mono {w : World} {P P' : Nat -> Prop} (hP : ∀ j,P j -> P' j) {Ss : List (List Int)} {v : Value} (h : RSt w P Ss v) : RSt w P' Ss v := by
  obtain ⟨ad,cap,e,hca,h3⟩ := h; refine ⟨ad,cap,e,hca,fun h0 => ?_⟩; obtain ⟨b,o,e2,hb,hc⟩ := h3 h0; refine ⟨b,o,e2,hP b hb,fun j hj => ?_⟩; obtain ⟨aR,cR,c0,hU⟩ := hc j hj; exact ⟨aR,cR,c0,hU.mono hP⟩
set_option maxHeartbeats 8000000 in
set_option maxRecDepth 100000 in
/-- the statement on Outputs,of any tree and any ended run in memory -/
theorem law_outputs {w : World} {P : Nat -> Prop} {N n : Nat} {p : Pg} {vD vB vS vT : Value} {Ss : List (List Int)} (fb : Bool) (hfb : fb = true ↔ okPf p) (hg : RG p) (hwt : wtP p <= 1048576) (hDs : RDs w P p.Ds vD) (hBs : RB w P (N + 1) (n + 1) p.Bs vB) (hSs : RSt w P Ss vS) (hP : ∀ j,P j -> j < w.heap.size) (h0 : P 0) (h1 : P 1) (hT : Lf.TBL 1 w) (hF : Lf.TBF 0 w) :
    Calls Tryz.prog 4 #[.agg #[.string p.s,.int .i64 p.wd,.int .i64 p.ln,vD,vB],.agg #[vS,vT]] w fun e w' => e = .returned (.bool true) /\ Below w.heap.size w w' := by
  obtain ⟨W1,hW1⟩ : ∃ W1,(w.alloc (.cells #[.string p.s,.int .i64 p.wd,.int .i64 p.ln,vD,vB] 25)).alloc (.cells #[vS,vT] 37) = W1 := ⟨_,rfl⟩; obtain ⟨Eb,hEb⟩ : ∃ Eb,w.heap.size = Eb := ⟨_,rfl⟩; have hb1 : Below w.heap.size w W1 := by rw [<- hW1]; exact bnx (bel1 _ _) (bel1 _ _)
  have hbx : W1.heap[Eb]? = some (.cells #[.string p.s,.int .i64 p.wd,.int .i64 p.ln,vD,vB] 25 (0,0)) := by rw [<- hW1,<- hEb]; exact blk_next (heap_alloc_new _ _) (bel1 _ _)
  have hby : W1.heap[Eb + 1]? = some (.cells #[vS,vT] 37 (0,0)) := by
    rw [<- hW1,<- hEb]; have h5 := heap_alloc_new (w.alloc (.cells #[.string p.s,.int .i64 p.wd,.int .i64 p.ln,vD,vB] 25)) (.cells #[vS,vT] 37)
    simpa using h5
  have HW1 : Hid ((w.alloc (.cells #[.string p.s,.int .i64 p.wd,.int .i64 p.ln,vD,vB] 25)).alloc (.cells #[vS,vT] 37) = W1 /\ w.heap.size = Eb) := ⟨hW1,hEb⟩; have HBe : Hid (∀ W,Below W1.heap.size W1 W -> Below w.heap.size w W) := fun W h => bnx hb1 h
  have HBx : Hid (∀ W,Below W1.heap.size W1 W -> W.cell? ⟨Eb,0,none⟩ = some (.string p.s) /\ W.cell? ⟨Eb,1,none⟩ = some (.int .i64 p.wd) /\ W.cell? ⟨Eb,2,none⟩ = some (.int .i64 p.ln) /\ W.cell? ⟨Eb,3,none⟩ = some (vD) /\ W.cell? ⟨Eb,4,none⟩ = some (vB) /\ W.cell? ⟨Eb + 1,0,none⟩ = some vS /\ W.cell? ⟨Eb + 1,1,none⟩ = some vT) := fun W h => by
    have h2 := blk_next hbx h; have h3 := blk_next hby h; exact ⟨cell_of h2 0,cell_of h2 1,cell_of h2 2,cell_of h2 3,cell_of h2 4,cell_of h3 0,cell_of h3 1⟩
  have HR : Hid (∀ W,Below W1.heap.size W1 W -> RDs W P p.Ds vD /\ RB W P (N + 1) (n + 1) p.Bs vB /\ RSt W P Ss vS /\ (∀ j,P j -> j < W.heap.size) /\ Lf.TBL 1 W /\ Lf.TBF 0 W) := fun W h => ⟨hDs.keep (fun j hj => (bnx hb1 h).block j (hP j hj)),hBs.keep (fun j hj => (bnx hb1 h).block j (hP j hj)),hSs.keep (fun j hj => (bnx hb1 h).block j (hP j hj)),fun j hj => Nat.lt_of_lt_of_le (hP j hj) (bnx hb1 h).size,Lf.TBL.up hT (bnx hb1 h) (hP 1 h1),Lf.TBF.up hF (bnx hb1 h) (hP 0 h0)⟩
  have hd1 : Below W1.heap.size W1 W1.drew := ⟨rfl,rfl,rfl,Nat.le_refl _,fun _ _ => rfl⟩; have HOw : Hid (Calls Tryz.prog 6 #[.agg #[.string p.s,.int .i64 p.wd,.int .i64 p.ln,vD,vB]] W1.drew fun e w' => ∃ vD' vB',e = .returned (.agg #[.string p.s,.int .i64 p.wd,.int .i64 p.ln,vD',vB']) /\ Below W1.drew.heap.size W1.drew w' /\ RDs w' (fun b => P b ∨ (W1.drew.heap.size <= b /\ b < w'.heap.size)) p.Ds vD' /\ RB w' (fun b => P b ∨ (W1.drew.heap.size <= b /\ b < w'.heap.size)) (N + 1) (n + 1) p.Bs vB') := by
    refine (own_any W1.drew P (N + 1) (n + 1) p [.string p.s,.int .i64 p.wd,.int .i64 p.ln,vD,vB] ⟨vD,vB,rfl,(HR.out _ hd1).1,(HR.out _ hd1).2.1⟩ (HR.out _ hd1).2.2.2.1 hwt).mono ?_; rintro e w' ⟨cs',rfl,hb,vD',vB',rfl,g1,g2⟩; exact ⟨vD',vB',rfl,hb,g1,g2⟩
  have HOu : Hid (∀ W vD' vB',Below W1.heap.size W1 W -> RDs W (fun b => P b ∨ (W1.drew.heap.size <= b /\ b < W.heap.size)) p.Ds vD' -> RB W (fun b => P b ∨ (W1.drew.heap.size <= b /\ b < W.heap.size)) (N + 1) (n + 1) p.Bs vB' -> Calls Tryz.prog 10 #[.agg #[.string p.s,.int .i64 p.wd,.int .i64 p.ln,vD',vB'],.agg #[vS,vT]] W fun e w' => ∃ er L a c,e = .returned (.tuple #[.slice a L.length c,.int .i64 er]) /\ OAns fb p Ss er L /\ U6 w' (fun b => W.heap.size <= b /\ b < w'.heap.size) L a /\ L.length <= 65536 /\ Below W.heap.size W w') := fun W vD' vB' hW g1 g2 => outs_any (P := fun b => P b ∨ (W1.drew.heap.size <= b /\ b < W.heap.size)) fb hfb hg g1 g2 ((HR.out W hW).2.2.1.mono (fun j hj => Or.inl hj)) (fun j hj => by
    rcases hj with h | h
    · exact (HR.out W hW).2.2.2.1 j h
    exact h.2) (Or.inl h0) (Or.inl h1) (HR.out W hW).2.2.2.2.1 (HR.out W hW).2.2.2.2.2
  have HO7 : Hid (∀ W,Below W1.heap.size W1 W -> Calls Tryz.prog 11 #[.agg #[.string p.s,.int .i64 p.wd,.int .i64 p.ln,vD,vB],.agg #[vS,vT]] W fun e w' => ∃ er L a c,e = .returned (.tuple #[.slice a L.length c,.int .i64 er]) /\ OAns fb p Ss er L /\ U6 w' (fun b => W.heap.size <= b /\ b < w'.heap.size) L a /\ L.length <= 65536 /\ Below W.heap.size W w') := fun W hW => outs17_any fb hfb hg (HR.out W hW).1 (HR.out W hW).2.1 (HR.out W hW).2.2.1 (HR.out W hW).2.2.2.1
  obtain ⟨b0,b1,b2,b3,b4,b5,b6⟩ := HBx.out W1 (Below.refl _ _); have Hd1 : Hid (Below W1.heap.size W1 W1.drew) := hd1; clear hW1 hEb hb1 hbx hby hDs hBs hSs hP hg hfb hwt h0 h1 hT hF hd1
  go_enter Tryz.func4,Tryz.ntmps4
  go_upto_region 1 with fail
  rw [HW1.out.1,HW1.out.2]; refine wp_region_held_drew (S := (fun W => W.cell? ⟨Eb,0,none⟩ = some (.string p.s) /\ W.cell? ⟨Eb,1,none⟩ = some (.int .i64 p.wd) /\ W.cell? ⟨Eb,2,none⟩ = some (.int .i64 p.ln) /\ W.cell? ⟨Eb,3,none⟩ = some (vD) /\ W.cell? ⟨Eb,4,none⟩ = some (vB) /\ W.cell? ⟨Eb + 1,0,none⟩ = some vS /\ W.cell? ⟨Eb + 1,1,none⟩ = some vT)) (by kernel_rfl) ⟨b0,b1,b2,b3,b4,b5,b6⟩ (fun hHeld => ?_); refine sq_of [1,3] [0,2,1,3,4,5,6,7,8] (by kernel_rfl) hHeld ?_
  repeat (first | (refine sq_skip (by rfl) (by rfl) ?_; simp only [Act.put,z0,z1,z2]) | (refine sq_op (v := ?_) (by rfl) (by rfl) (by rfl) ?_ ?_; rotate_left; (focus (intro w hSw; (try dsimp only at hSw); go_simp <;> with_reducible rfl)); simp only [Act.put,z0,z1,z2]))
  refine sq_do (by rfl) (by rfl) (by rfl) (fun K hK => ?_)
  go_simp
  go_at_call 6
  refine HOw.out.mono ?_; rintro e w2 ⟨vD',vB',rfl,h2,g1,g2⟩; have h2' : Below W1.heap.size W1 w2 := ⟨h2.os,h2.tape,h2.output,h2.size,h2.block⟩; have H2 : Hid (Below W1.heap.size W1 w2) := h2'; have HCo : Hid (Calls Tryz.prog 10 #[.agg #[.string p.s,.int .i64 p.wd,.int .i64 p.ln,vD',vB'],.agg #[vS,vT]] w2 fun e w' => ∃ er L a c,e = .returned (.tuple #[.slice a L.length c,.int .i64 er]) /\ OAns fb p Ss er L /\ U6 w' (fun b => w2.heap.size <= b /\ b < w'.heap.size) L a /\ L.length <= 65536 /\ Below w2.heap.size w2 w') := HOu.out w2 vD' vB' h2' g1 g2; clear h2 g1 g2 hHeld b0 b1 b2 b3 b4 b5 b6 HOw HOu; refine hK.out _ _ (HBx.out w2 h2') (fun _ => ?_); clear hK K h2'
  try simp only [Act.put,z0,z1,z2]
  refine sq_do (by rfl) (by rfl) (by rfl) (fun K hK => ?_)
  go_simp
  go_at_call 10
  refine HCo.out.mono ?_; rintro e w3 ⟨er,L,a,c,rfl,hO,hU,hl,h3⟩; have H3 : Hid (Below W1.heap.size W1 w3 /\ OAns fb p Ss er L /\ U6 w3 (fun b => w2.heap.size <= b /\ b < w3.heap.size) L a /\ L.length <= 65536) := ⟨bnx H2.out h3,hO,hU,hl⟩; clear hO hU hl h3 HCo; have hx3 := HBx.out w3 H3.out.1; refine hK.out _ _ hx3 (fun _ => ?_); clear hK K
  try simp only [Act.put,z0,z1,z2]
  repeat (first | (refine sq_skip (by rfl) (by rfl) ?_; simp only [Act.put,z0,z1,z2]) | (refine sq_op (v := ?_) (by rfl) (by rfl) (by rfl) ?_ ?_; rotate_left; (focus (intro w hSw; (try dsimp only at hSw); go_simp <;> with_reducible rfl)); simp only [Act.put,z0,z1,z2]))
  refine sq_end (fun _ => ?_); obtain ⟨b0,b1,b2,b3,b4,b5,b6⟩ := hx3; have HC7 : Hid (Calls Tryz.prog 11 #[.agg #[.string p.s,.int .i64 p.wd,.int .i64 p.ln,vD,vB],.agg #[vS,vT]] w3 fun e w' => ∃ er L a c,e = .returned (.tuple #[.slice a L.length c,.int .i64 er]) /\ OAns fb p Ss er L /\ U6 w' (fun b => w3.heap.size <= b /\ b < w'.heap.size) L a /\ L.length <= 65536 /\ Below w3.heap.size w3 w') := HO7.out w3 H3.out.1; clear HO7
  go_wp2_with fail
  refine HC7.out.mono ?_; rintro e w4 ⟨er',L',a',c',rfl,hO,hU,hl,h4⟩; obtain ⟨rfl,rfl⟩ := hO.uniq H3.out.2.1; have H4 : Hid (Below W1.heap.size W1 w4) := bnx H3.out.1 h4; have h5 := lwords_any (w := w4) c c' (H3.out.2.2.1.keep (w' := w4) (fun j hj => h4.block j hj.2)) hU (by have := hl; omega); obtain ⟨m,hm⟩ : ∃ m,L'.length = m := ⟨_,rfl⟩; rw [hm] at h5; rw [hm]; have HCw : Hid (Calls Tryz.prog 12 #[.slice a m c,.slice a' m c'] w4 fun e w' => e = .returned (.bool true) /\ Below w4.heap.size w4 w') := h5; clear h5 hO hU hl h4 hm b0 b1 b2 b3 b4 b5 b6 HC7
  go_wp2_with fail
  refine HCw.out.mono ?_; rintro e w5 ⟨rfl,h5⟩; have H5 : Hid (Below w.heap.size w w5) := HBe.out _ (bnx H4.out h5); clear h5 HCw
  go_wp2_with fail
  go_ret
  exact ⟨by simp,H5.out⟩
end Go.Proofs.YtncglkbfnfiekaaGreatDoor
