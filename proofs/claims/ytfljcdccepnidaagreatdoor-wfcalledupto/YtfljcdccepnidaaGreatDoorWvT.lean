import Derived.Test.YtfljcdccepnidaaGreatDoorSqA
import Derived.Test.YtfljcdccepnidaaGreatDoorWvR
namespace Go.Proofs.YtfljcdccepnidaaGreatDoor
open Go.ChangeShapes Go.WideShapes Go.ChangeAt Go.RowKit Go.Lib

set_option maxHeartbeats 16000000 in
set_option maxRecDepth 100000 in
theorem decls16_any {w : World} {P : Nat -> Prop} {p : Pg} {vD vB : Value} (fb : Bool) (hok : okPf p) (hg : RG p) (hw : okW p.wd) (h3 : p.Ds.length <= 256) (hDs : RDs w P p.Ds vD) (hP : ∀ j,P j -> j < w.heap.size) :
    Calls Tryz.prog 24 #[.agg #[.string p.s,.int .i64 p.wd,.int .i64 p.ln,vD,vB]] w fun e w' => ∃ c a er,e = .returned (.tuple #[.int .i64 c,.int .i64 a,.int .i64 er]) /\ DAns fb p c a er /\ Below w.heap.size w w' := by
  obtain ⟨aD,m,cD,rfl,hm⟩ : ∃ aD m cD,vD = .slice aD m cD /\ p.Ds.length = m := by
    obtain ⟨aD,cD,rfl,-⟩ := hDs; exact ⟨aD,_,cD,rfl,rfl⟩
  obtain ⟨W1,hW1⟩ : ∃ W1,w.alloc (.cells #[.string p.s,.int .i64 p.wd,.int .i64 p.ln,.slice aD m cD,vB] 25) = W1 := ⟨_,rfl⟩; obtain ⟨Eb,hEb⟩ : ∃ Eb,w.heap.size = Eb := ⟨_,rfl⟩; have hb1 : Below w.heap.size w W1 := by rw [<- hW1]; exact bel1 _ _
  have hbx : W1.heap[Eb]? = some (.cells #[.string p.s,.int .i64 p.wd,.int .i64 p.ln,.slice aD m cD,vB] 25 (0,0)) := by rw [<- hW1,<- hEb]; exact heap_alloc_new _ _
  have HW1 : Hid (w.alloc (.cells #[.string p.s,.int .i64 p.wd,.int .i64 p.ln,.slice aD m cD,vB] 25) = W1 /\ w.heap.size = Eb) := ⟨hW1,hEb⟩; have HBe : Hid (∀ W,Below W1.heap.size W1 W -> Below w.heap.size w W) := fun W h => bnx hb1 h
  have HBx : Hid (∀ W,Below W1.heap.size W1 W -> W.cell? ⟨Eb,0,none⟩ = some (.string p.s) /\ W.cell? ⟨Eb,1,none⟩ = some (.int .i64 p.wd) /\ W.cell? ⟨Eb,2,none⟩ = some (.int .i64 p.ln) /\ W.cell? ⟨Eb,3,none⟩ = some (.slice aD m cD) /\ W.cell? ⟨Eb,4,none⟩ = some (vB)) := fun W h => by
    have h2 := blk_next hbx h; exact ⟨cell_of h2 0,cell_of h2 1,cell_of h2 2,cell_of h2 3,cell_of h2 4⟩
  have hR : ∀ W,Below W1.heap.size W1 W -> RDs W P p.Ds (.slice aD m cD) /\ ∀ j,P j -> j < W.heap.size := fun W h => ⟨hDs.keep (fun j hj => (bnx hb1 h).block j (hP j hj)),fun j hj => Nat.lt_of_lt_of_le (hP j hj) (bnx hb1 h).size⟩
  have HD : Hid (∀ W,Below W1.heap.size W1 W -> ∀ j,j < m -> DC p aD W j) := fun W h j hj => dc_of (hR W h).1 (hR W h).2 (by omega)
  have HDc : Hid (∀ W,Below W1.heap.size W1 W -> ∀ s,Calls Tryz.prog 7 #[.agg #[.string p.s,.int .i64 p.wd,.int .i64 p.ln,.slice aD m cD,vB],.string s] W fun e w' => e = .returned (.int .i64 (match dix p.Ds s with | none => -1 | some j => (j : Int))) /\ Below W.heap.size W w') := fun W h s => decl_any (hR W h).2 (hR W h).1 (by omega) s
  have HM : Hid (p.Ds.length = m) := hm; have HI64 : Hid (∀ j,j < m -> 0 <= (p.Ds.getD j dd0).z /\ (p.Ds.getD j dd0).z < 9223372036854775808) := fun j hj => ⟨(hok.2.2.2.1 _ (getD_memD (by omega))).2.2.1,(hg.dz _ (getD_memD (by omega))).2⟩
  have HW : Hid (okW p.wd /\ ∀ d ∈ p.Ds,∀ v ∈ d.vs,U64 v) := ⟨hw,hg.dv⟩; have hm3 : m <= 256 := by omega
  have HNv : Hid (∀ j,j < m -> (p.Ds.getD j dd0).vs.length <= 1048576) := fun j hj => by
    have a1 := dtake_wt (Ds := p.Ds) (j := j) (by omega); have a2 := dtake_le p.Ds (j + 1); have a3 := hg.wt
    omega
  obtain ⟨PP,hPP⟩ : ∃ PP : Int -> Int -> Int -> World -> Prop,PP = fun c a er w' => DAns fb p c a er /\ Below w.heap.size w w' := ⟨_,rfl⟩
  have HPP : Hid (∀ c a er w',DAns fb p c a er -> Below w.heap.size w w' -> PP c a er w') := fun c a er w' h1 h2 => by rw [hPP]; exact ⟨h1,h2⟩
  have HGo : Hid (∀ (e : Ending) (w' : World),(∃ (c a er : Int),e = Ending.returned (.tuple #[.int .i64 c,.int .i64 a,.int .i64 er]) /\ PP c a er w') -> ∃ (c a er : Int),e = Ending.returned (.tuple #[.int .i64 c,.int .i64 a,.int .i64 er]) /\ DAns fb p c a er /\ Below w.heap.size w w') := fun e w' h => by rw [hPP] at h; exact h
  refine Calls.mono (R := fun (e : Ending) (w' : World) => ∃ (c a er : Int),e = Ending.returned (.tuple #[.int .i64 c,.int .i64 a,.int .i64 er]) /\ PP c a er w') ?_ (fun e w' h => HGo.out e w' h); have HP0 : Hid (PP = fun c a er w' => DAns fb p c a er /\ Below w.heap.size w w') := hPP; clear hW1 hEb hb1 hbx hR hDs hP hok hg hw h3 hm hPP HGo
  go_enter Tryz.func24,Tryz.ntmps24
  go_upto_region 1 with fail
  rw [HW1.out.1,HW1.out.2]
  go_wp2_with fail
  go_loopg [5] m (fun gk vt wr => ∃ j : Nat,vt = .int .i64 (j : Int) /\ j + gk = m /\ Aside (Below W1.heap.size W1 wr /\ ∀ i,i < j -> vio5 p i (thD (p.Ds.getD i dd0)) = false))
  case atStart => exact ⟨0,rfl,by omega,Below.refl _ _,fun i hi => by omega⟩
  case round =>
    obtain ⟨j,rfl,hj,HR⟩ := hrel; obtain ⟨c0,c1,c2,c3,c4⟩ := HBx.out wr HR.out.1
    by_cases hlt : j < m
    · have q1 : (j : Int) < (m : Int) := by omega
      obtain ⟨b,o,dk,ds,dz,nv,aV,cV,rfl,HE0,d0,d1,d2,d3,-,-⟩ := HD.out wr HR.out.1 j hlt; have HE : Hid (dk = (p.Ds.getD j dd0).k /\ ds = (p.Ds.getD j dd0).s /\ dz = (p.Ds.getD j dd0).z /\ nv = (p.Ds.getD j dd0).vs.length) := HE0; clear HE0; obtain ⟨V,hV⟩ : ∃ V,(match dix p.Ds (p.Ds.getD j dd0).s with | none => -1 | some k => (k : Int)) = V := ⟨_,rfl⟩; have HV : Hid (vio5 p j (thD (p.Ds.getD j dd0)) = decide (V < (j : Int))) := vio5_eq (by rw [HM.out]; exact hlt) hV; have h5 := HDc.out wr.drew (⟨HR.out.1.os,HR.out.1.tape,HR.out.1.output,HR.out.1.size,HR.out.1.block⟩) (p.Ds.getD j dd0).s; rw [hV,<- HE.out.2.1] at h5; have HC : Hid (Calls Tryz.prog 7 #[.agg #[.string p.s,.int .i64 p.wd,.int .i64 p.ln,.slice (some ⟨b,o,none⟩) m cD,vB],.string ds] wr.drew fun e w' => e = .returned (.int .i64 V) /\ Below wr.drew.heap.size wr.drew w') := h5; clear h5 hV d0 d2 d3
      go_upto_region 4 with fail
      refine wp_region_held_drew (S := (fun W => W.cell? ⟨Eb,0,none⟩ = some (.string p.s) /\ W.cell? ⟨Eb,1,none⟩ = some (.int .i64 p.wd) /\ W.cell? ⟨Eb,2,none⟩ = some (.int .i64 p.ln) /\ W.cell? ⟨Eb,3,none⟩ = some (.slice (some ⟨b,o,none⟩) m cD) /\ W.cell? ⟨Eb,4,none⟩ = some (vB) /\ W.cell? ⟨b,o + j * 4 + 1,none⟩ = some (.string ds))) (by kernel_rfl) ⟨c0,c1,c2,c3,c4,d1⟩ (fun hHeld => ?_); refine sq_of [7] [0,1,2,3,4,5,6,8,7,9] (by kernel_rfl) hHeld ?_
      repeat (first | (refine sq_skip (by rfl) (by rfl) ?_; simp only [Act.put,z0,z1,z2]) | (refine sq_op (v := ?_) (by rfl) (by rfl) (by rfl) ?_ ?_; rotate_left; (focus (intro w hSw; (try dsimp only at hSw); go_simp <;> with_reducible rfl)); simp only [Act.put,z0,z1,z2]))
      refine sq_do (by rfl) (by rfl) (by rfl) (fun K hK => ?_)
      go_simp
      go_at_call 7
      refine HC.out.mono ?_; rintro e w5 ⟨rfl,hb5⟩; have w5b : Below W1.heap.size W1 w5 := bnx HR.out.1 (⟨hb5.os,hb5.tape,hb5.output,hb5.size,hb5.block⟩ : Below wr.heap.size wr w5); have H5 : Hid (Below W1.heap.size W1 w5) := w5b; obtain ⟨g0,g1,g2,g3,g4⟩ := HBx.out w5 w5b; have g5 : w5.cell? ⟨b,o + j * 4 + 1,none⟩ = some (.string ds) := by
        obtain ⟨b',o',dk',ds',dz',nv',aV',cV',e5,HE0,d0,d1,d2,d3,-,-⟩ := HD.out w5 w5b j hlt; cases e5; rw [HE.out.2.1,<- HE0.2.1]; exact d1
      clear hb5 hHeld c0 c1 c2 c3 c4 d1 w5b HC; refine hK.out _ _ ⟨g0,g1,g2,g3,g4,g5⟩ (fun _ => ?_); clear hK K
      try simp only [Act.put,z0,z1,z2]
      repeat (first | (refine sq_skip (by rfl) (by rfl) ?_; simp only [Act.put,z0,z1,z2]) | (refine sq_op (v := ?_) (by rfl) (by rfl) (by rfl) ?_ ?_; rotate_left; (focus (intro w hSw; (try dsimp only at hSw); go_simp <;> with_reducible rfl)); simp only [Act.put,z0,z1,z2]))
      refine sq_end (fun _ => ?_)
      by_cases hv : V < (j : Int)
      · have HV1 : Hid (vio5 p j (thD (p.Ds.getD j dd0)) = true) := by show _ = _; rw [HV.out]; simp [hv]
        have HZ : Hid (PP 5 (j : Int) 160 w5) := HPP.out _ _ _ _ (Or.inr ⟨4,(j : Int),by omega,by omega,fun i h1 h2 => by omega,by rw [RR4,fvD_some (by rw [HM.out]; exact hlt) HR.out.2 HV1.out]; rfl,rfl,rfl,rfl⟩) (HBe.out _ H5.out)
        go_wp2_with fail
        exact ⟨rfl,_,by simp [results,Tryz.results24,go_sem],5,_,160,rfl,HZ.out⟩
      have HV1 : Hid (vio5 p j (thD (p.Ds.getD j dd0)) = false) := by show _ = _; rw [HV.out]; simp [hv]
      go_wp2_with fail
      go_roundg (m - (j + 1))
      case measure => omega
      case rel => exact ⟨j + 1,by simp,by omega,H5.out,fun i hi => by
        by_cases e : i = j
        · rw [e]; exact HV1.out
        exact HR.out.2 i (by omega)⟩
    obtain rfl : m = j := by omega
    have q1 : ¬ (m : Int) < (m : Int) := by omega
    have HN4 : Hid (RR fb p 4 = none) := by show _ = _; rw [RR4,fvD_none (fun i hi => HR.out.2 i (by rw [<- HM.out]; exact hi))]; rfl
    have HB : Hid (Below W1.heap.size W1 wr) := HR.out.1; clear HR hj hlt; obtain ⟨wa,rfl⟩ : ∃ wa : World,wa = wr := ⟨_,rfl⟩
    go_wp2_with fail
    clear c0 c1 c2 c3 c4
    go_loopg [6] m (fun gk vt wr => ∃ j : Nat,vt = .int .i64 (j : Int) /\ j + gk = m /\ Aside (Below W1.heap.size W1 wr /\ ∀ i,i < j -> vio6 p i (thD (p.Ds.getD i dd0)) = false))
    case atStart => exact ⟨0,rfl,by omega,HB.out,fun i hi => by omega⟩
    case round =>
      obtain ⟨j,rfl,hj,HR⟩ := hrel; obtain ⟨c0,c1,c2,c3,c4⟩ := HBx.out wr HR.out.1
      by_cases hlt : j < m
      · have q1 : (j : Int) < (m : Int) := by omega
        obtain ⟨b,o,dk,ds,dz,nv,aV,cV,rfl,HE0,d0,d1,d2,d3,-,-⟩ := HD.out wr HR.out.1 j hlt; have HE : Hid (dk = (p.Ds.getD j dd0).k /\ ds = (p.Ds.getD j dd0).s /\ dz = (p.Ds.getD j dd0).z /\ nv = (p.Ds.getD j dd0).vs.length) := HE0; clear HE0; have HZR := HI64.out j hlt; rw [<- HE.out.2.2.1] at HZR; have HV : Hid (vio6 p j (thD (p.Ds.getD j dd0)) = (dz != 0 && !(arrB dz))) := by show _ = _; rw [HE.out.2.2.1]; rfl
        have hwb : Below W1.heap.size W1 wr := HR.out.1; clear d0 d1 d3
        by_cases hz : dz = 0
        · have q2 : (dz != 0) = false := by simp [hz]
          have HV1 : Hid (vio6 p j (thD (p.Ds.getD j dd0)) = false) := by show _ = _; rw [HV.out,q2]; rfl
          clear HZR hwb HV
          go_wp2_with fail
          go_roundg (m - (j + 1))
          case measure => omega
          case rel => exact ⟨j + 1,by simp,by omega,HR.out.1,fun i hi => by
            by_cases e : i = j
            · rw [e]; exact HV1.out
            exact HR.out.2 i (by omega)⟩
        have q2 : (dz != 0) = true := by simp [hz]
        have q3 : IntKind.u64.wrap dz = dz := by rw [IntKind.wrap_u64]; omega
        have HPo : Hid (Calls Tryz.prog 52 #[.int .u64 dz] wr fun e w' => e = .returned (.bool (arrB dz)) /\ w' = wr) := by rw [<- powB_eq HZR.1]; exact power_any dz wr
        clear HZR hz; cases ha : arrB dz with
        | true =>
          rw [ha] at HPo; have HV1 : Hid (vio6 p j (thD (p.Ds.getD j dd0)) = false) := by show _ = _; rw [HV.out,q2,ha]; rfl
          clear ha HV hwb
          go_wp2_with fail
          refine HPo.out.mono ?_; rintro e w5 ⟨rfl,hw5⟩; subst w5
          go_wp2_with fail
          go_roundg (m - (j + 1))
          case measure => omega
          case rel => exact ⟨j + 1,by simp,by omega,HR.out.1,fun i hi => by
            by_cases e : i = j
            · rw [e]; exact HV1.out
            exact HR.out.2 i (by omega)⟩
        | false =>
          rw [ha] at HPo; have HV1 : Hid (vio6 p j (thD (p.Ds.getD j dd0)) = true) := by show _ = _; rw [HV.out,q2,ha]; rfl
          have HZ : Hid (PP 6 (j : Int) 163 wr) := HPP.out _ _ _ _ (Or.inr ⟨5,(j : Int),by omega,by omega,fun i h1 h2 => by
            have hi : i = 4 := by omega
            rw [hi]; exact HN4.out,by rw [RR5,fvD_some (by rw [HM.out]; exact hlt) HR.out.2 HV1.out]; rfl,rfl,rfl,rfl⟩) (HBe.out _ hwb)
          clear ha HV hwb
          go_wp2_with fail
          refine HPo.out.mono ?_; rintro e w5 ⟨rfl,hw5⟩; subst w5
          go_wp2_with fail
          exact ⟨rfl,_,by simp [results,Tryz.results24,go_sem],6,_,163,rfl,HZ.out⟩
      obtain rfl : m = j := by omega
      have q1 : ¬ (m : Int) < (m : Int) := by omega
      have HN5 : Hid (RR fb p 5 = none) := by show _ = _; rw [RR5,fvD_none (fun i hi => HR.out.2 i (by rw [<- HM.out]; exact hi))]; rfl
      have HSz : Hid (∀ i,i < m -> (p.Ds.getD i dd0).z = 0 ∨ arrB (p.Ds.getD i dd0).z = true) := fun i hi => by
        have h5 := HR.out.2 i hi; unfold vio6 at h5
        by_cases e : (p.Ds.getD i dd0).z = 0
        · exact Or.inl e
        have e2 : ((p.Ds.getD i dd0).z != 0) = true := by simpa using e
        rw [e2,Bool.true_and] at h5; exact Or.inr (by simpa using h5)
      have HB2 : Hid (Below W1.heap.size W1 wr) := HR.out.1; clear HR hj hlt HB; obtain ⟨wb,rfl⟩ : ∃ wb : World,wb = wr := ⟨_,rfl⟩
      go_wp2_with fail
      clear c0 c1 c2 c3 c4
      go_loopg [7] m (fun gk vt wr => ∃ j : Nat,vt = .int .i64 (j : Int) /\ j + gk = m /\ Aside (Below W1.heap.size W1 wr /\ ∀ i,i < j -> vio7 p i (thD (p.Ds.getD i dd0)) = false))
      case atStart => exact ⟨0,rfl,by omega,HB2.out,fun i hi => by omega⟩
      case round =>
        obtain ⟨j,rfl,hj,HR⟩ := hrel; obtain ⟨c0,c1,c2,c3,c4⟩ := HBx.out wr HR.out.1
        by_cases hlt : j < m
        · have q1 : (j : Int) < (m : Int) := by omega
          obtain ⟨b,o,dk,ds,dz,nv,aV,cV,rfl,HE0,d0,d1,d2,d3,-,-⟩ := HD.out wr HR.out.1 j hlt; have HE : Hid (dk = (p.Ds.getD j dd0).k /\ ds = (p.Ds.getD j dd0).s /\ dz = (p.Ds.getD j dd0).z /\ nv = (p.Ds.getD j dd0).vs.length) := HE0; clear HE0; have HV : Hid (vio7 p j (thD (p.Ds.getD j dd0)) = (dk == 3 && ((nv : Int) != dz))) := by show _ = _; rw [HE.out.1,HE.out.2.2.1,HE.out.2.2.2]; rfl
          have hwb : Below W1.heap.size W1 wr := HR.out.1; have hwd : Below W1.heap.size W1 wr.drew := ⟨hwb.os,hwb.tape,hwb.output,hwb.size,hwb.block⟩; have HWd : Hid (Below W1.heap.size W1 wr.drew) := hwd; clear d1 hwb hwd c0 c1 c2 c4
          by_cases hk : dk = 3
          · subst hk
            by_cases hz : (nv : Int) = dz
            · have q2 : ((nv : Int) != dz) = false := by simp [hz]
              have HV1 : Hid (vio7 p j (thD (p.Ds.getD j dd0)) = false) := by show _ = _; rw [HV.out,q2]; rfl
              clear hz HV
              go_upto_region 14 with fail
              refine wp_region_held_drew (S := (fun W => W.cell? ⟨Eb,3,none⟩ = some (.slice (some ⟨b,o,none⟩) m cD) /\ W.cell? ⟨b,o + j * 4,none⟩ = some (.int .i64 3) /\ W.cell? ⟨b,o + j * 4 + 2,none⟩ = some (.int .i64 dz) /\ W.cell? ⟨b,o + j * 4 + 3,none⟩ = some (.slice aV nv cV))) (by kernel_rfl) ⟨c3,d0,d2,d3⟩ (fun hHeld => ?_); refine sq_of [] [0,1,2,3,4,5,6,7,8,9,10,11,12,13,14,15,16,17,18,19,20,21,22] (by kernel_rfl) hHeld ?_
              repeat (first | (refine sq_skip (by rfl) (by rfl) ?_; simp only [Act.put,z0,z1,z2]) | (refine sq_op (v := ?_) (by rfl) (by rfl) (by rfl) ?_ ?_; rotate_left; (focus (intro w hSw; (try dsimp only at hSw); go_simp <;> with_reducible rfl)); simp only [Act.put,z0,z1,z2]))
              refine sq_end (fun _ => ?_); clear hHeld
              go_wp2_with fail
              go_roundg (m - (j + 1))
              case measure => omega
              case rel => exact ⟨j + 1,by simp,by omega,HWd.out,fun i hi => by
                by_cases e : i = j
                · rw [e]; exact HV1.out
                exact HR.out.2 i (by omega)⟩
            have q2 : ((nv : Int) != dz) = true := by simp [hz]
            have HV1 : Hid (vio7 p j (thD (p.Ds.getD j dd0)) = true) := by show _ = _; rw [HV.out,q2]; rfl
            have HZ : Hid (PP 7 (j : Int) 164 wr.drew) := HPP.out _ _ _ _ (Or.inr ⟨6,(j : Int),by omega,by omega,fun i h1 h2 => by
              have hi : i = 4 ∨ i = 5 := by omega
              rcases hi with rfl | rfl
              · exact HN4.out
              exact HN5.out,by rw [RR6,fvD_some (by rw [HM.out]; exact hlt) HR.out.2 HV1.out]; rfl,rfl,rfl,rfl⟩) (HBe.out _ HWd.out)
            clear hz HV
            go_upto_region 14 with fail
            refine wp_region_held_drew (S := (fun W => W.cell? ⟨Eb,3,none⟩ = some (.slice (some ⟨b,o,none⟩) m cD) /\ W.cell? ⟨b,o + j * 4,none⟩ = some (.int .i64 3) /\ W.cell? ⟨b,o + j * 4 + 2,none⟩ = some (.int .i64 dz) /\ W.cell? ⟨b,o + j * 4 + 3,none⟩ = some (.slice aV nv cV))) (by kernel_rfl) ⟨c3,d0,d2,d3⟩ (fun hHeld => ?_); refine sq_of [] [0,1,2,3,4,5,6,7,8,9,10,11,12,13,14,15,16,17,18,19,20,21,22] (by kernel_rfl) hHeld ?_
            repeat (first | (refine sq_skip (by rfl) (by rfl) ?_; simp only [Act.put,z0,z1,z2]) | (refine sq_op (v := ?_) (by rfl) (by rfl) (by rfl) ?_ ?_; rotate_left; (focus (intro w hSw; (try dsimp only at hSw); go_simp <;> with_reducible rfl)); simp only [Act.put,z0,z1,z2]))
            refine sq_end (fun _ => ?_); clear hHeld
            go_wp2_with fail
            exact ⟨rfl,_,by simp [results,Tryz.results24,go_sem],7,_,164,rfl,HZ.out⟩
          have q2 : (dk == 3) = false := by simp [hk]
          have HV1 : Hid (vio7 p j (thD (p.Ds.getD j dd0)) = false) := by show _ = _; rw [HV.out,q2]; rfl
          clear HV
          go_upto_region 14 with fail
          refine wp_region_held_drew (S := (fun W => W.cell? ⟨Eb,3,none⟩ = some (.slice (some ⟨b,o,none⟩) m cD) /\ W.cell? ⟨b,o + j * 4,none⟩ = some (.int .i64 dk) /\ W.cell? ⟨b,o + j * 4 + 2,none⟩ = some (.int .i64 dz) /\ W.cell? ⟨b,o + j * 4 + 3,none⟩ = some (.slice aV nv cV))) (by kernel_rfl) ⟨c3,d0,d2,d3⟩ (fun hHeld => ?_); refine sq_of [] [0,1,2,3,4,5,6,7,8,9,10,11,12,13,14,15,16,17,18,19,20,21,22] (by kernel_rfl) hHeld ?_
          repeat (first | (refine sq_skip (by rfl) (by rfl) ?_; simp only [Act.put,z0,z1,z2]) | (refine sq_op (v := ?_) (by rfl) (by rfl) (by rfl) ?_ ?_; rotate_left; (focus (intro w hSw; (try dsimp only at hSw); go_simp <;> with_reducible rfl)); simp only [Act.put,z0,z1,z2]))
          refine sq_end (fun _ => ?_); clear hHeld
          go_wp2_with fail
          go_roundg (m - (j + 1))
          case measure => omega
          case rel => exact ⟨j + 1,by simp,by omega,HWd.out,fun i hi => by
            by_cases e : i = j
            · rw [e]; exact HV1.out
            exact HR.out.2 i (by omega)⟩
        obtain rfl : m = j := by omega
        have q1 : ¬ (m : Int) < (m : Int) := by omega
        have HN6 : Hid (RR fb p 6 = none) := by show _ = _; rw [RR6,fvD_none (fun i hi => HR.out.2 i (by rw [<- HM.out]; exact hi))]; rfl
        have HB3 : Hid (Below W1.heap.size W1 wr) := HR.out.1; clear HR hj hlt HB2; obtain ⟨wc,rfl⟩ : ∃ wc : World,wc = wr := ⟨_,rfl⟩
        go_wp2_with fail
        clear c0 c1 c2 c3 c4
        go_loopg [8,9] m (fun gk v8 v9 wr => ∃ j s : Nat,v8 = .int .i64 (s : Int) /\ v9 = .int .i64 (j : Int) /\ j + gk = m /\ Aside (Below W1.heap.size W1 wr /\ (∀ i,i < j -> vio8 p i (thD (p.Ds.getD i dd0)) = false) /\ s = inS (p.Ds.take j)))
        case atStart => exact ⟨0,0,rfl,rfl,by omega,HB3.out,fun i hi => by omega,by simp [inS]⟩
        case round =>
          obtain ⟨j,s,rfl,rfl,hj,HR⟩ := hrel; obtain ⟨wo,rfl⟩ : ∃ wo : World,wo = wr := ⟨_,rfl⟩; obtain ⟨c0,c1,c2,c3,c4⟩ := HBx.out wo HR.out.1
          by_cases hlt : j < m
          · have q1 : (j : Int) < (m : Int) := by omega
            obtain ⟨b,o,dk,ds,dz,nv,aV,cV,rfl,HE0,d0,d1,d2,d3,hbl,hvs⟩ := HD.out wo HR.out.1 j hlt; have HE : Hid (dk = (p.Ds.getD j dd0).k /\ ds = (p.Ds.getD j dd0).s /\ dz = (p.Ds.getD j dd0).z /\ nv = (p.Ds.getD j dd0).vs.length) := HE0; have HVs : Hid (0 < nv -> ∃ bv ov,aV = some ⟨bv,ov,none⟩ /\ bv < wo.heap.size /\ ∀ q,q < nv -> wo.cell? ⟨bv,ov + q,none⟩ = some (.int .u64 ((p.Ds.getD j dd0).vs.getD q 0))) := hvs; obtain ⟨W2,hW2⟩ : ∃ W2,wo.alloc (.cells #[.int .i64 dk,.string ds,.int .i64 dz,.slice aV nv cV] 34) = W2 := ⟨_,rfl⟩; obtain ⟨Db,hDb⟩ : ∃ Db,wo.heap.size = Db := ⟨_,rfl⟩; have HW2 : Hid (wo.alloc (.cells #[.int .i64 dk,.string ds,.int .i64 dz,.slice aV nv cV] 34) = W2 /\ wo.heap.size = Db) := ⟨hW2,hDb⟩; have hb2 : Below wo.heap.size wo W2 := by rw [<- hW2]; exact bel1 _ _
            have hbx2 : W2.heap[Db]? = some (.cells #[.int .i64 dk,.string ds,.int .i64 dz,.slice aV nv cV] 34 (0,0)) := by rw [<- hW2,<- hDb]; exact heap_alloc_new _ _
            have HB4 : Hid (∀ W,Below W2.heap.size W2 W -> Below W1.heap.size W1 W /\ Below wo.heap.size wo W /\ W.heap[Db]? = some (.cells #[.int .i64 dk,.string ds,.int .i64 dz,.slice aV nv cV] 34 (0,0))) := fun W h => ⟨bnx HR.out.1 (bnx hb2 h),bnx hb2 h,blk_next hbx2 h⟩
            have HSs : Hid (inS (p.Ds.take j) = s /\ s <= 65536) := ⟨HR.out.2.2.symm,by
              rw [HR.out.2.2]; have h9 := inS_le (Ds := p.Ds.take j) (fun d hd => by
                obtain ⟨i,hi,e⟩ := List.getElem_of_mem (List.mem_of_mem_take hd); have h8 := HSz.out i (by rw [<- HM.out]; exact hi); rw [List.getD_eq_getElem?_getD,List.getElem?_eq_getElem hi,Option.getD_some,e] at h8
                rcases h8 with h8 | h8
                · omega
                unfold arrB at h8; simp at h8; omega)
              have h10 : (p.Ds.take j).length <= 256 := by rw [List.length_take]; omega
              omega⟩
            have HTk : Hid (inS (p.Ds.take (j + 1)) = inS (p.Ds.take j) + inW (p.Ds.getD j dd0)) := inS_take (by rw [HM.out]; exact hlt); have HZr : Hid (0 <= dz /\ dz <= 256) := by
              have h8 := HSz.out j hlt; have h7 := HI64.out j hlt; rw [<- HE0.2.2.1] at h8 h7
              rcases h8 with h8 | h8
              · exact ⟨by omega,by omega⟩
              exact ⟨h7.1,by unfold arrB at h8; simp at h8; omega⟩
            have hnv : nv <= 1048576 := by rw [HE0.2.2.2]; exact HNv.out j hlt
            clear HE0 hbl hvs hW2 hDb hb2 hbx2
            go_upto_region 21 with fail
            rw [HW2.out.1,HW2.out.2]; clear c0 c1 c2 c3 c4 d0 d1 d2 d3
            go_wp2_with fail
            go_loopg [11] nv (fun g2 v11 wr => ∃ q : Nat,v11 = .int .i64 (q : Int) /\ q + g2 = nv /\ Aside (Below W2.heap.size W2 wr /\ ∀ i,i < q -> fitB p.wd ((p.Ds.getD j dd0).vs.getD i 0) = true))
            case atStart => exact ⟨0,rfl,by omega,Below.refl _ _,fun i hi => by omega⟩
            case round =>
              obtain ⟨q,rfl,hq,HQ⟩ := hrel; obtain ⟨y1,y2,y3⟩ := HB4.out wr HQ.out.1; have HBy : Hid (Below W1.heap.size W1 wr) := y1; obtain ⟨f0,f1,f2,f3,f4⟩ := HBx.out wr y1; have e0 : wr.cell? ⟨Db,0,none⟩ = some (.int .i64 dk) := cell_of y3 0; have e1 : wr.cell? ⟨Db,1,none⟩ = some (.string ds) := cell_of y3 1; have e2 : wr.cell? ⟨Db,2,none⟩ = some (.int .i64 dz) := cell_of y3 2; have e3 : wr.cell? ⟨Db,3,none⟩ = some (.slice aV nv cV) := cell_of y3 3
              by_cases hql : q < nv
              · have q2 : (q : Int) < (nv : Int) := by omega
                obtain ⟨bv,ov,rfl,hbv,hcv⟩ := HVs.out (by omega); obtain ⟨x,hx⟩ : ∃ x,(p.Ds.getD j dd0).vs.getD q 0 = x := ⟨_,rfl⟩; have e5 : wr.cell? ⟨bv,ov + q,none⟩ = some (.int .u64 x) := by rw [<- hx]; exact (y2.cell (p := ⟨bv,ov + q,none⟩) hbv).trans (hcv q hql)
                have HX : Hid ((p.Ds.getD j dd0).vs.getD q 0 = x) := hx; have HF : Hid (Calls Tryz.prog 53 #[.int .i64 p.wd,.int .u64 x] wr.drew fun e w' => e = .returned (.bool (fitB p.wd x)) /\ w' = wr.drew) := rfits_any p.wd x wr.drew (by have := HW.out.1; unfold okW at this; omega); have hyd : Below W2.heap.size W2 wr.drew := ⟨HQ.out.1.os,HQ.out.1.tape,HQ.out.1.output,HQ.out.1.size,HQ.out.1.block⟩; have HYd : Hid (Below W2.heap.size W2 wr.drew /\ Below W1.heap.size W1 wr.drew) := ⟨hyd,(HB4.out _ hyd).1⟩; clear hcv hbv hx y1 y2 y3 hyd e0 e1 e2
                go_upto_region 24 with fail
                refine wp_region_held_drew (S := (fun W => W.cell? ⟨Eb,1,none⟩ = some (.int .i64 p.wd) /\ W.cell? ⟨Db,3,none⟩ = some (.slice (some ⟨bv,ov,none⟩) nv cV) /\ W.cell? ⟨bv,ov + q,none⟩ = some (.int .u64 x))) (by kernel_rfl) ⟨f1,e3,e5⟩ (fun hHeld => ?_); refine sq_of [7] [0,1,2,3,4,5,6,7,8] (by kernel_rfl) hHeld ?_
                repeat (first | (refine sq_skip (by rfl) (by rfl) ?_; simp only [Act.put,z0,z1,z2]) | (refine sq_op (v := ?_) (by rfl) (by rfl) (by rfl) ?_ ?_; rotate_left; (focus (intro w hSw; (try dsimp only at hSw); go_simp <;> with_reducible rfl)); simp only [Act.put,z0,z1,z2]))
                refine sq_do (by rfl) (by rfl) (by rfl) (fun K hK => ?_)
                go_simp
                go_at_call 53
                refine HF.out.mono ?_; rintro e w' ⟨rfl,hw'⟩; subst w'; refine hK.out _ _ hHeld (fun _ => ?_); clear hK K hHeld HF
                try simp only [Act.put,z0,z1,z2]
                cases hf : fitB p.wd x with
                | true =>
                  have HV1 : Hid (∀ i,i < q + 1 -> fitB p.wd ((p.Ds.getD j dd0).vs.getD i 0) = true) := fun i hi => by
                    by_cases e : i = q
                    · rw [e,HX.out]; exact hf
                    exact HQ.out.2 i (by omega)
                  clear hf
                  repeat (first | (refine sq_skip (by rfl) (by rfl) ?_; simp only [Act.put,z0,z1,z2]) | (refine sq_op (v := ?_) (by rfl) (by rfl) (by rfl) ?_ ?_; rotate_left; (focus (intro w hSw; (try dsimp only at hSw); go_simp <;> with_reducible rfl)); simp only [Act.put,z0,z1,z2]))
                  refine sq_end (fun _ => ?_)
                  go_wp2_with fail
                  go_roundg (nv - (q + 1))
                  case measure => omega
                  case rel => exact ⟨q + 1,by simp,by omega,HYd.out.1,HV1.out⟩
                | false =>
                  have HV1 : Hid (vio8 p j (thD (p.Ds.getD j dd0)) = true) := vio8_some (by rw [HM.out]; exact hlt) HW.out.1 HW.out.2 (by rw [<- HE.out.2.2.2]; exact hql) (by rw [HX.out]; exact hf); have HZ : Hid (PP 8 (j : Int) 165 wr.drew) := HPP.out _ _ _ _ (Or.inr ⟨7,(j : Int),by omega,by omega,fun i h1 h2 => by
                    have hi : i = 4 ∨ i = 5 ∨ i = 6 := by omega
                    rcases hi with rfl | rfl | rfl
                    · exact HN4.out
                    · exact HN5.out
                    exact HN6.out,by rw [RR7,fvD_some (by rw [HM.out]; exact hlt) HR.out.2.1 HV1.out]; rfl,rfl,rfl,rfl⟩) (HBe.out _ HYd.out.2)
                  clear hf
                  repeat (first | (refine sq_skip (by rfl) (by rfl) ?_; simp only [Act.put,z0,z1,z2]) | (refine sq_op (v := ?_) (by rfl) (by rfl) (by rfl) ?_ ?_; rotate_left; (focus (intro w hSw; (try dsimp only at hSw); go_simp <;> with_reducible rfl)); simp only [Act.put,z0,z1,z2]))
                  refine sq_end (fun _ => ?_)
                  go_wp2_with fail
                  exact ⟨rfl,_,by simp [results,Tryz.results24,go_sem],8,_,165,rfl,HZ.out⟩
              obtain rfl : nv = q := by omega
              have q2 : ¬ (nv : Int) < (nv : Int) := by omega
              have HV1 : Hid (vio8 p j (thD (p.Ds.getD j dd0)) = false) := vio8_none (by rw [HM.out]; exact hlt) HW.out.1 HW.out.2 (fun i hi => HQ.out.2 i (by rw [HE.out.2.2.2]; exact hi)); have HV2 : Hid (∀ i,i < j + 1 -> vio8 p i (thD (p.Ds.getD i dd0)) = false) := fun i hi => by
                by_cases e : i = j
                · rw [e]; exact HV1.out
                exact HR.out.2.1 i (by omega)
              obtain ⟨V,hV⟩ : ∃ V : Int,(if dz = 0 then 1 else dz) = V := ⟨_,rfl⟩; have hVr : 1 <= V /\ V <= 256 := by
                have := HZr.out; rw [<- hV]
                split <;> omega
              clear y1 y2 y3 HQ HR HVs HV1 HB4
              by_cases k1 : dk = 1
              · subst k1
                have h5 := words_any 1 dz ds (.slice aV nv cV) wr; rw [hV] at h5; have HC : Hid (Calls Tryz.prog 54 #[.agg #[.int .i64 1,.string ds,.int .i64 dz,.slice aV nv cV]] wr fun e w' => e = .returned (.int .i64 V) /\ Below wr.heap.size wr w') := h5; have HSm : Hid (s + V.toNat = inS (p.Ds.take (j + 1))) := by
                  show _ = _
                  rw [HTk.out,HSs.out.1]
                  congr 1
                  unfold inW; rw [<- HE.out.1,if_pos (by decide),<- HE.out.2.2.1,<- hV]
                  split <;> omega
                obtain ⟨s2,hs2⟩ : ∃ s2 : Nat,s + V.toNat = s2 := ⟨_,rfl⟩; rw [hs2] at HSm; have q3 : IntKind.i64.wrap ((s : Int) + V) = (s2 : Int) := by
                  have h6 := HSs.out.2; rw [IntKind.wrap_i64]
                  omega
                clear h5 hV hVr hs2 HSs HTk
                go_wp2_with fail
                refine HC.out.mono ?_; rintro e w6 ⟨rfl,hb6⟩; have H6 : Hid (Below W1.heap.size W1 w6) := bnx HBy.out hb6; clear hb6 HC HBy e0 e1 e2 e3 f0 f1 f2 f3 f4
                go_wp2_with fail
                go_roundg (m - (j + 1))
                case measure => omega
                case rel => exact ⟨j + 1,s2,rfl,by simp,by omega,H6.out,HV2.out,HSm.out⟩
              have k1' : (dk == 1) = false := by simp [k1]
              by_cases k2 : dk = 2
              · subst k2
                have h5 := words_any 2 dz ds (.slice aV nv cV) wr; rw [hV] at h5; have HC : Hid (Calls Tryz.prog 54 #[.agg #[.int .i64 2,.string ds,.int .i64 dz,.slice aV nv cV]] wr fun e w' => e = .returned (.int .i64 V) /\ Below wr.heap.size wr w') := h5; have HSm : Hid (s + V.toNat = inS (p.Ds.take (j + 1))) := by
                  show _ = _
                  rw [HTk.out,HSs.out.1]
                  congr 1
                  unfold inW; rw [<- HE.out.1,if_pos (by decide),<- HE.out.2.2.1,<- hV]
                  split <;> omega
                obtain ⟨s2,hs2⟩ : ∃ s2 : Nat,s + V.toNat = s2 := ⟨_,rfl⟩; rw [hs2] at HSm; have q3 : IntKind.i64.wrap ((s : Int) + V) = (s2 : Int) := by
                  have h6 := HSs.out.2; rw [IntKind.wrap_i64]
                  omega
                clear h5 hV hVr hs2 HSs HTk
                go_wp2_with fail
                refine HC.out.mono ?_; rintro e w6 ⟨rfl,hb6⟩; have H6 : Hid (Below W1.heap.size W1 w6) := bnx HBy.out hb6; clear hb6 HC HBy e0 e1 e2 e3 f0 f1 f2 f3 f4
                go_wp2_with fail
                go_roundg (m - (j + 1))
                case measure => omega
                case rel => exact ⟨j + 1,s2,rfl,by simp,by omega,H6.out,HV2.out,HSm.out⟩
              have k2' : (dk == 2) = false := by simp [k2]
              have HSm : Hid (s = inS (p.Ds.take (j + 1))) := by
                show _ = _
                rw [HTk.out,HSs.out.1]; unfold inW; rw [<- HE.out.1,if_neg (by omega)]
                omega
              clear hV hVr HSs HTk
              go_wp2_with fail
              go_roundg (m - (j + 1))
              case measure => omega
              case rel => exact ⟨j + 1,s,rfl,by simp,by omega,HBy.out,HV2.out,HSm.out⟩
          obtain rfl : m = j := by omega
          have q1 : ¬ (m : Int) < (m : Int) := by omega
          have HN7 : Hid (RR fb p 7 = none) := by show _ = _; rw [RR7,fvD_none (fun i hi => HR.out.2.1 i (by rw [<- HM.out]; exact hi))]; rfl
          have HS9 : Hid (s = inS p.Ds) := by show _ = _; rw [HR.out.2.2,List.take_of_length_le (by rw [HM.out]; omega)]
          have HN : Hid (∀ i,4 <= i -> i < 8 -> RR fb p i = none) := fun i h1 h2 => by
            have hi : i = 4 ∨ i = 5 ∨ i = 6 ∨ i = 7 := by omega
            rcases hi with rfl | rfl | rfl | rfl
            · exact HN4.out
            · exact HN5.out
            · exact HN6.out
            exact HN7.out
          have HB9 : Hid (Below W1.heap.size W1 wo) := HR.out.1; clear HR
          by_cases h9 : 4096 < s
          · have q2 : (s : Int) > 4096 := by omega
            have HZ : Hid (PP 9 (-1) 169 wo) := HPP.out _ _ _ _ (Or.inr ⟨8,-1,by omega,by omega,HN.out,by rw [RR8,<- HS9.out,show decide (4096 < s) = true by simp [h9]]; rfl,rfl,rfl,rfl⟩) (HBe.out _ HB9.out)
            go_wp2_with fail
            exact ⟨rfl,_,by simp [results,Tryz.results24,go_sem],9,_,169,rfl,HZ.out⟩
          have q2 : ¬ (s : Int) > 4096 := by omega
          have HZ : Hid (PP 0 0 0 wo) := HPP.out _ _ _ _ (Or.inl ⟨rfl,rfl,rfl,fun i h1 h2 => by
            by_cases e : i = 8
            · rw [e,RR8,<- HS9.out,show decide (4096 < s) = false by simp [h9]]; rfl
            exact HN.out i h1 (by omega)⟩) (HBe.out _ HB9.out)
          go_wp2_with fail
          exact ⟨rfl,_,by simp [results,Tryz.results24,go_sem],0,0,0,rfl,HZ.out⟩
end Go.Proofs.YtfljcdccepnidaaGreatDoor
namespace Go.Proofs.YtfljcdccepnidaaGreatDoor
open Go.ChangeShapes Go.WideShapes Go.ChangeAt Go.RowKit Go.Lib

theorem flat22 : ∀ (css : List (List Value)),(∀ c ∈ css,c.length = 22) -> ∀ i k,i < css.length -> k < 22 -> css.flatten[i * 22 + k]? = (css.getD i [])[k]?
  | [],_,i,_,h,_ => absurd h (by simp)
  | c :: r,hc,0,k,_,hk => by
    rw [List.flatten_cons,Nat.zero_mul,Nat.zero_add,List.getElem?_append_left (by rw [hc c (List.mem_cons_self ..)]; exact hk)]
    rfl
  | c :: r,hc,i + 1,k,hi,hk => by
    have h1 := hc c (List.mem_cons_self ..); rw [List.flatten_cons,List.getElem?_append_right (by omega),h1,show (i + 1) * 22 + k - 22 = i * 22 + k by omega,flat22 r (fun x hx => hc x (List.mem_cons_of_mem _ hx)) i k (by simpa using hi) hk]
    rfl
theorem KT.cells {B : Nat} {w0 wr : World} {Ts : List Th} {a : Option Addr} {n c : Nat} (h : KT B w0 wr Ts (.slice a n c)) (hn : Ts.length = n) {i : Nat} (hi : i < n) : ∃ g cs,a = some ⟨g,0,none⟩ /\ g < wr.heap.size /\ wr.rangeAt g (i * 22) cs /\ cs.length = 22 /\ TC wr (fun j => j < wr.heap.size) (Ts.getD i th0) cs := by
  obtain ⟨css,hl,h22,hrow,_,hall⟩ := h; obtain ⟨_,hr⟩ := hrow
  rcases hr with ⟨_,e0⟩ | ⟨g,cap,cur,e,_,hb,hc1,_,hsz,htk⟩
  · omega
  have htc := hall i (by omega); have e1 : a = some ⟨g,0,none⟩ := by
    injection e
  refine ⟨g,css.getD i [],e1,(Array.getElem?_eq_some_iff.1 hb).1,fun k v hv => ?_,htc.many,htc.keep (fun _ _ => rfl) (fun j hj => hj.1)⟩; have hk : k < 22 := by
    have := (List.getElem?_eq_some_iff.1 hv).1; rw [htc.many] at this; exact this
  rw [cell_of hb,<- Array.getElem?_toList]; rw [<- flat22 css h22 i k (by omega) hk,<- htk] at hv; rw [List.getElem?_take] at hv
  split at hv
  · exact hv
  cases hv
theorem cat_ne : ∀ j,j < 16 -> (cat j).1 ≠ 0 := by decide
theorem th_get {l : List Th} {i : Nat} {t : Th} (h : l[i]? = some t) : l.getD i th0 = t := by
  rw [List.getD_eq_getElem?_getD,h]
  rfl
theorem th_at {l : List Th} {i : Nat} (h : i < l.length) : l[i]? = some (l.getD i th0) := by
  rw [List.getD_eq_getElem?_getD,List.getElem?_eq_getElem h]
  rfl
set_option maxHeartbeats 16000000 in
set_option maxRecDepth 100000 in
theorem fault16_any {w : World} {P : Nat -> Prop} {N n : Nat} {p : Pg} {vD vB : Value} (fb : Bool) (hfb : fb = true ↔ okPf p) (hg : RG p) (hDs : RDs w P p.Ds vD) (hBs : RB w P (N + 1) (n + 1) p.Bs vB) (hP : ∀ j,P j -> j < w.heap.size) :
    Calls Tryz.prog 15 #[.agg #[.string p.s,.int .i64 p.wd,.int .i64 p.ln,vD,vB]] w fun e w' => ∃ c a er,e = .returned (.tuple #[.int .i64 c,.int .i64 a,.int .i64 er]) /\ FAns fb p c a er /\ Below w.heap.size w w' := by
  obtain ⟨W1,hW1⟩ : ∃ W1,w.alloc (.cells #[.string p.s,.int .i64 p.wd,.int .i64 p.ln,vD,vB] 25) = W1 := ⟨_,rfl⟩; obtain ⟨Eb,hEb⟩ : ∃ Eb,w.heap.size = Eb := ⟨_,rfl⟩; have hb1 : Below w.heap.size w W1 := by rw [<- hW1]; exact bel1 _ _
  have hbx : W1.heap[Eb]? = some (.cells #[.string p.s,.int .i64 p.wd,.int .i64 p.ln,vD,vB] 25 (0,0)) := by rw [<- hW1,<- hEb]; exact heap_alloc_new _ _
  have HW1 : Hid (w.alloc (.cells #[.string p.s,.int .i64 p.wd,.int .i64 p.ln,vD,vB] 25) = W1 /\ w.heap.size = Eb) := ⟨hW1,hEb⟩; have HBe : Hid (∀ W,Below W1.heap.size W1 W -> Below w.heap.size w W) := fun W h => bnx hb1 h
  have HBx : Hid (∀ W,Below W1.heap.size W1 W -> W.cell? ⟨Eb,0,none⟩ = some (.string p.s) /\ W.cell? ⟨Eb,1,none⟩ = some (.int .i64 p.wd) /\ W.cell? ⟨Eb,2,none⟩ = some (.int .i64 p.ln) /\ W.cell? ⟨Eb,3,none⟩ = some (vD) /\ W.cell? ⟨Eb,4,none⟩ = some (vB)) := fun W h => by
    have h2 := blk_next hbx h; exact ⟨cell_of h2 0,cell_of h2 1,cell_of h2 2,cell_of h2 3,cell_of h2 4⟩
  have HR : Hid (∀ W,Below W1.heap.size W1 W -> RDs W P p.Ds vD /\ RB W P (N + 1) (n + 1) p.Bs vB /\ ∀ j,P j -> j < W.heap.size) := fun W h => ⟨hDs.keep (fun j hj => (bnx hb1 h).block j (hP j hj)),hBs.keep (fun j hj => (bnx hb1 h).block j (hP j hj)),fun j hj => Nat.lt_of_lt_of_le (hP j hj) (bnx hb1 h).size⟩
  have HG : Hid (RG p /\ (fb = true ↔ okPf p)) := ⟨hg,hfb⟩; have HTG : Hid (∀ t ∈ dP p,TG t) := fun t ht => by
    unfold dP at ht
    rcases List.mem_append.1 ht with h | h
    · obtain ⟨d,_,rfl⟩ := List.mem_map.1 h
      exact ⟨by simp [thD],fun h => by simp [thD] at h,fun h => by simp [thD] at h⟩
    exact oneD_tg hBs hg.lo hg.ax 1 [] (by have := hg.ws; simpa using this) t h
  have HRV : Hid (okPf p -> ∀ j,9 <= j -> j <= 14 -> RR fb p j = (fv (dvj p j) 0 (dP p)).map (fun (q : Nat) => (q : Int))) := fun hok j h9 h14 => rr_dv fb hok hBs j h9 h14
  have HHd : Hid (Calls Tryz.prog 23 #[.agg #[.string p.s,.int .i64 p.wd,.int .i64 p.ln,vD,vB]] W1 fun e w' => ∃ c er,e = .returned (.tuple #[.int .i64 c,.int .i64 er]) /\ HAns fb p 0 4 c er /\ Below W1.heap.size W1 w') := head_any fb hfb hg (HR.out W1 (Below.refl _ _)).1 (HR.out W1 (Below.refl _ _)).2.1 (HR.out W1 (Below.refl _ _)).2.2; have HTl : Hid ((dP p).length <= 4194304) := by
    have h5 : (dL p.Bs 1 []).length <= wtS p.Bs.flatten := hBs.dlen 1 []; have h6 := wtD_len p.Ds; have h7 := hg.wt; have h8 := hg.ws
    show (dP p).length <= 4194304
    unfold dP; rw [List.length_append,List.length_map]
    omega
  obtain ⟨PP,hPP⟩ : ∃ PP : Int -> Int -> Int -> World -> Prop,PP = fun c a er w' => FAns fb p c a er /\ Below w.heap.size w w' := ⟨_,rfl⟩
  have HPP : Hid (∀ c a er w',FAns fb p c a er -> Below W1.heap.size W1 w' -> PP c a er w') := fun c a er w' h1 h2 => by rw [hPP]; exact ⟨h1,bnx hb1 h2⟩
  have HGo : Hid (∀ (e : Ending) (w' : World),(∃ (c a er : Int),e = Ending.returned (.tuple #[.int .i64 c,.int .i64 a,.int .i64 er]) /\ PP c a er w') -> ∃ (c a er : Int),e = Ending.returned (.tuple #[.int .i64 c,.int .i64 a,.int .i64 er]) /\ FAns fb p c a er /\ Below w.heap.size w w') := fun e w' h => by rw [hPP] at h; exact h
  refine Calls.mono (R := fun (e : Ending) (w' : World) => ∃ (c a er : Int),e = Ending.returned (.tuple #[.int .i64 c,.int .i64 a,.int .i64 er]) /\ PP c a er w') ?_ (fun e w' h => HGo.out e w' h); obtain ⟨b0,b1,b2,b3,b4⟩ := HBx.out W1 (Below.refl _ _); clear hW1 hEb hb1 hbx hDs hBs hP hg hfb hPP HGo
  go_enter Tryz.func15,Tryz.ntmps15
  go_upto_region 1 with fail
  rw [HW1.out.1,HW1.out.2]
  go_wp2_with fail
  refine HHd.out.mono ?_; rintro e w2 ⟨c,er,rfl,hA,h2⟩; have H2 : Hid (Below W1.heap.size W1 w2) := h2; obtain ⟨c0,c1,c2,c3,c4⟩ := HBx.out w2 h2; clear b0 b1 b2 b3 b4 h2 HHd
  rcases hA with ⟨hc,he,hn⟩ | ⟨j,_,hj,hn,hr,hc,he⟩
  rotate_left
  · have q1 : (er != 0) = true := by rw [he]; simpa using cat_ne j (by omega)
    have HZ : Hid (PP c (-1) er w2) := HPP.out _ _ _ _ (Or.inr ⟨j,-1,by omega,fun i hi => hn i (by omega) hi,hr,hc,rfl,he⟩) H2.out; clear hc he hr hn
    go_wp2_with fail
    exact ⟨rfl,_,by simp [results,Tryz.results15,go_sem],_,_,_,rfl,HZ.out⟩
  subst hc he; have HN0 : Hid (∀ i,i < 4 -> RR fb p i = none) := fun i hi => hn i (by omega) hi
  have hfb : fb = true := by
    have h0 := hn 0 (by omega) (by omega); cases fb with
    | true => rfl
    | false => rw [RR0] at h0; cases h0
  have hok := HG.out.2.1 hfb; have HOK : Hid (okPf p) := hok; have HW : Hid (okW p.wd) := by
    have h0 := hn 1 (by omega) (by omega); rw [RR1] at h0
    show okW p.wd
    unfold okW
    by_cases e : (p.wd == 4 || p.wd == 8 || p.wd == 16 || p.wd == 32 || p.wd == 64) = true
    · simp only [Bool.or_eq_true,beq_iff_eq] at e
      omega
    rw [Bool.eq_false_iff.2 e] at h0; cases h0
  have HDn : Hid (p.Ds.length <= 256) := by
    have h0 := hn 3 (by omega) (by omega); rw [RR3] at h0
    show p.Ds.length <= 256
    by_cases e : 256 < p.Ds.length
    · rw [show decide (256 < p.Ds.length) = true by simp [e]] at h0; cases h0
    omega
  have HDl : Hid (Calls Tryz.prog 24 #[.agg #[.string p.s,.int .i64 p.wd,.int .i64 p.ln,vD,vB]] w2 fun e w' => ∃ c a er,e = .returned (.tuple #[.int .i64 c,.int .i64 a,.int .i64 er]) /\ DAns fb p c a er /\ Below w2.heap.size w2 w') := decls16_any fb hok HG.out.1 HW.out HDn.out (HR.out w2 H2.out).1 (HR.out w2 H2.out).2.2; clear hn hfb hok
  go_wp2_with fail
  refine HDl.out.mono ?_; rintro e w3 ⟨c,a,er,rfl,hA,h3⟩; have H3 : Hid (Below W1.heap.size W1 w3) := bnx H2.out h3; clear c0 c1 c2 c3 c4 HDl h3; obtain ⟨c0,c1,c2,c3,c4⟩ := HBx.out w3 H3.out
  rcases hA with ⟨hc,ha,he,hn⟩ | ⟨j,pl,h4,hj,hn,hr,hc,ha,he⟩
  rotate_left
  · have q1 : (er != 0) = true := by rw [he]; simpa using cat_ne j (by omega)
    have HZ : Hid (PP c a er w3) := HPP.out _ _ _ _ (Or.inr ⟨j,pl,by omega,fun i hi => by
      by_cases e : i < 4
      · exact HN0.out i e
      exact hn i (by omega) hi,hr,hc,ha,he⟩) H3.out
    clear hc ha he hr hn
    go_wp2_with fail
    exact ⟨rfl,_,by simp [results,Tryz.results15,go_sem],_,_,_,rfl,HZ.out⟩
  subst hc ha he; have HN9 : Hid (∀ i,i < 9 -> RR fb p i = none) := fun i hi => by
    by_cases e : i < 4
    · exact HN0.out i e
    exact hn i (by omega) hi
  have HLi : Hid (Calls Tryz.prog 25 #[.agg #[.string p.s,.int .i64 p.wd,.int .i64 p.ln,vD,vB]] w3 fun e w' => ∃ vK,e = .returned vK /\ KT w3.heap.size w3 w' (dP p) vK) := list_any (HR.out w3 H3.out).1 (HR.out w3 H3.out).2.1 (HR.out w3 H3.out).2.2 (by have := HDn.out; omega) HG.out.1.ws; clear hn HN0
  go_wp2_with fail
  refine HLi.out.mono ?_; rintro e w4 ⟨vK,rfl,hk⟩; obtain ⟨aK,cK,rfl⟩ := hk.slice; obtain ⟨nT,hnT⟩ : ∃ nT,(dP p).length = nT := ⟨_,rfl⟩; rw [hnT] at hk; rw [hnT]; have HT : Hid ((dP p).length = nT) := hnT; have hnl : nT <= 4194304 := by rw [<- hnT]; exact HTl.out
  have h4b : Below w3.heap.size w3 w4 := by
    obtain ⟨css,_,_,_,hbb,_⟩ := hk; exact hbb
  have H4 : Hid (Below W1.heap.size W1 w4) := bnx H3.out h4b; have HKc : Hid (∀ W,Below w4.heap.size w4 W -> Below W1.heap.size W1 W /\ ∀ i,i < nT -> ∃ g cs,aK = some ⟨g,0,none⟩ /\ g < W.heap.size /\ W.rangeAt g (i * 22) cs /\ cs.length = 22 /\ TC W (fun j => j < W.heap.size) ((dP p).getD i th0) cs) := fun W hW => ⟨bnx (bnx H3.out h4b) hW,fun i hi => (hk.next h4b.size hW).cells hnT hi⟩
  clear c0 c1 c2 c3 c4 HLi hk hnT h4b
  go_wp2_with fail
  go_loopg [9] 6 (fun gk v9 wr => ∃ c : Nat,v9 = .int .i64 (c : Int) /\ c + gk = 16 /\ 10 <= c /\ Aside (Below w4.heap.size w4 wr /\ ∀ i,i < c - 1 -> RR fb p i = none))
  case atStart => exact ⟨10,rfl,by omega,by omega,Below.refl _ _,fun i hi => HN9.out i (by omega)⟩
  case round =>
    obtain ⟨c,rfl,hc,hc10,HC⟩ := hrel; obtain ⟨wo,rfl⟩ : ∃ wo : World,wo = wr := ⟨_,rfl⟩
    by_cases hlt : c <= 15
    · have q1 : (c : Int) <= 15 := by omega
      go_wp2_with fail
      go_loopg [10] nT (fun g2 v10 wr => ∃ i : Nat,v10 = .int .i64 (i : Int) /\ i + g2 = nT /\ Aside (Below w4.heap.size w4 wr /\ ∀ k,k < i -> dvj p (c - 1) k ((dP p).getD k th0) = false))
      case atStart => exact ⟨0,rfl,by omega,HC.out.1,fun k hk => by omega⟩
      case round =>
        obtain ⟨i,rfl,hi,HI⟩ := hrel
        by_cases hil : i < nT
        · have q2 : (i : Int) < (nT : Int) := by omega
          obtain ⟨y1,y2⟩ := HKc.out wr HI.out.1; obtain ⟨g,cs,rfl,hgl,hra,h22,htc⟩ := y2 i hil; obtain ⟨f0,f1,f2,f3,f4⟩ := HBx.out wr y1; have hyd : Below W1.heap.size W1 wr.drew := ⟨y1.os,y1.tape,y1.output,y1.size,y1.block⟩; have h5 := viol_thing (vB := vB) (HR.out _ hyd).2.2 (HR.out _ hyd).1 (by have := HDn.out; omega) HW.out (P2 := fun j => j < wr.drew.heap.size) (fun j hj => hj) (htc.keep (w' := wr.drew) (P' := fun j => j < wr.drew.heap.size) (fun _ _ => rfl) (fun _ hj => hj)) (HTG.out _ (by rw [List.getD_eq_getElem?_getD,List.getElem?_eq_getElem (by rw [HT.out]; exact hil)]; exact List.getElem_mem _)) (c - 1) i (by omega) (by omega) (fun e => by
            have h6 := HC.out.2 10 (by omega); rw [HRV.out HOK.out 10 (by omega) (by omega)] at h6; have h7 : fv (dvj p 10) 0 (dP p) = none := by
              cases e : fv (dvj p 10) 0 (dP p) with
              | none => rfl
              | some q => rw [e] at h6; cases h6
            have h8 := fv_none _ _ _ h7 i _ (th_at (by rw [HT.out]; exact hil)); rw [Nat.zero_add] at h8; exact h8)
          rw [show (((c - 1 : Nat) : Int) + 1) = (c : Int) by omega] at h5; obtain ⟨V,hV⟩ : ∃ V : Int,(if dvj p (c - 1) i ((dP p).getD i th0) = true then (cat (c - 1)).1 else 0) = V := ⟨_,rfl⟩; rw [hV] at h5; have HV : Hid ((if dvj p (c - 1) i ((dP p).getD i th0) = true then (cat (c - 1)).1 else 0) = V) := hV; have HCa : Hid (Calls Tryz.prog 26 #[.agg #[.string p.s,.int .i64 p.wd,.int .i64 p.ln,vD,vB],.agg cs.toArray,.int .i64 (c : Int)] wr.drew fun e w' => e = .returned (.int .i64 V) /\ Below wr.drew.heap.size wr.drew w') := h5; have H22 : Hid (cs.length = 22) := h22; have HRa : Hid (wr.rangeAt g (i * 22) cs /\ g < wr.heap.size) := ⟨hra,hgl⟩; clear h5 hV y1 y2 hyd htc hra h22 hgl
          go_upto_region 14 with fail
          refine wp_region_held_drew (S := (fun W => (W.cell? ⟨Eb,0,none⟩ = some (.string p.s) /\ W.cell? ⟨Eb,1,none⟩ = some (.int .i64 p.wd) /\ W.cell? ⟨Eb,2,none⟩ = some (.int .i64 p.ln) /\ W.cell? ⟨Eb,3,none⟩ = some (vD) /\ W.cell? ⟨Eb,4,none⟩ = some (vB)) /\ Hid (W.rangeAt g (i * 22) cs))) (by kernel_rfl) ⟨⟨f0,f1,f2,f3,f4⟩,HRa.out.1⟩ (fun hHeld => ?_); refine sq_of [6] [0,1,2,3,4,5,6,7] (by kernel_rfl) hHeld ?_
          iterate 4 (refine sq_op (v := ?_) (by rfl) (by rfl) (by rfl) ?_ ?_; rotate_left; (focus (intro w hSw; (try dsimp only at hSw); go_simp <;> with_reducible rfl)); simp only [Act.put,z0,z1,z2])
          refine sq_op (by rfl) (by rfl) (by rfl) (fun W hW => exec_mid _ _ rfl g (i * 22) (by first | rfl | simp [go_sem]) cs _ hW.2.out Tryz.underlying80 rfl (by rw [H22.out]; kernel_rfl)) ?_; simp only [Act.put,z0,z1,z2]; refine sq_op (v := ?_) (by rfl) (by rfl) (by rfl) ?_ ?_; rotate_left; (focus (intro w hSw; (try dsimp only at hSw); go_simp <;> with_reducible rfl)); simp only [Act.put,z0,z1,z2]; refine sq_do (by rfl) (by rfl) (by rfl) (fun K hK => ?_)
          go_simp
          go_at_call 26
          refine HCa.out.mono ?_; rintro e w5 ⟨rfl,hb5⟩; have hb5' : Below wr.heap.size wr w5 := ⟨hb5.os,hb5.tape,hb5.output,hb5.size,hb5.block⟩; have H5 : Hid (Below w4.heap.size w4 w5 /\ Below W1.heap.size W1 w5) := ⟨bnx HI.out.1 hb5',(HKc.out _ (bnx HI.out.1 hb5')).1⟩; have hS5 : (w5.cell? ⟨Eb,0,none⟩ = some (.string p.s) /\ w5.cell? ⟨Eb,1,none⟩ = some (.int .i64 p.wd) /\ w5.cell? ⟨Eb,2,none⟩ = some (.int .i64 p.ln) /\ w5.cell? ⟨Eb,3,none⟩ = some (vD) /\ w5.cell? ⟨Eb,4,none⟩ = some (vB)) /\ Hid (w5.rangeAt g (i * 22) cs) := ⟨HBx.out w5 H5.out.2,fun k v hv => (hb5'.cell (p := ⟨g,i * 22 + k,none⟩) HRa.out.2).trans (HRa.out.1 k v hv)⟩; clear hb5 hb5' hHeld HCa f0 f1 f2 f3 f4; refine hK.out _ _ hS5 (fun _ => ?_); clear hK K
          try simp only [Act.put,z0,z1,z2]
          refine sq_op (v := ?_) (by rfl) (by rfl) (by rfl) ?_ ?_; rotate_left; (focus (intro w hSw; (try dsimp only at hSw); go_simp <;> with_reducible rfl)); simp only [Act.put,z0,z1,z2]; refine sq_end (fun _ => ?_); clear hS5; cases hd : dvj p (c - 1) i ((dP p).getD i th0) with
          | true =>
            have hV := HV.out; rw [hd,if_pos rfl] at hV; have q3 : (V != 0) = true := by rw [<- hV]; simpa using cat_ne (c - 1) (by omega)
            have HZ : Hid (PP (c : Int) (i : Int) V w5) := HPP.out _ _ _ _ (Or.inr ⟨c - 1,(i : Int),by omega,HC.out.2,by
              rw [HRV.out HOK.out (c - 1) (by omega) (by omega),fv_first (dvj p (c - 1)) (dP p) 0 i (fun k t hk ht => by rw [Nat.zero_add,<- th_get ht]; exact HI.out.2 k hk) _ (th_at (by rw [HT.out]; exact hil)) (by rw [Nat.zero_add]; exact hd)]
              simp,by omega,rfl,hV.symm⟩) H5.out.2
            clear hV hd HV
            go_wp2_with fail
            exact ⟨rfl,_,by simp [results,Tryz.results15,go_sem],_,_,_,rfl,HZ.out⟩
          | false =>
            have hV := HV.out; rw [hd,if_neg (by simp)] at hV; subst hV; have HI2 : Hid (∀ k,k < i + 1 -> dvj p (c - 1) k ((dP p).getD k th0) = false) := fun k hk => by
              by_cases e : k = i
              · rw [e]; exact hd
              exact HI.out.2 k (by omega)
            clear hd HV
            go_wp2_with fail
            go_roundg (nT - (i + 1))
            case measure => omega
            case rel => exact ⟨i + 1,by simp,by omega,H5.out.1,HI2.out⟩
        obtain rfl : nT = i := by omega
        have q2 : ¬ (nT : Int) < (nT : Int) := by omega
        have HNc : Hid (∀ k,k < c + 1 - 1 -> RR fb p k = none) := fun k hk => by
          by_cases e : k = c - 1
          · rw [e,HRV.out HOK.out (c - 1) (by omega) (by omega),fv_nil_of (dvj p (c - 1)) (dP p) 0 (fun k t ht => by
              rw [Nat.zero_add,<- th_get ht]; refine HI.out.2 k ?_; rw [<- HT.out]; exact (List.getElem?_eq_some_iff.1 ht).1)]
            rfl
          exact HC.out.2 k (by omega)
        go_wp2_with fail
        go_roundg (16 - (c + 1))
        case measure => omega
        case rel => exact ⟨c + 1,by simp,by omega,by omega,HI.out.1,HNc.out⟩
    obtain rfl : c = 16 := by omega
    have q1 : ¬ ((16 : Nat) : Int) <= 15 := by omega
    have HW5 : Hid (Below W1.heap.size W1 wo) := (HKc.out wo HC.out.1).1; obtain ⟨f0,f1,f2,f3,f4⟩ := HBx.out wo HW5.out; obtain ⟨s,hs⟩ : ∃ s : Nat,cs7 (p.Bs.map vS) = s := ⟨_,rfl⟩; have h5 := size_any (N + 1) (n + 1) p.Bs vB wo P (HR.out wo HW5.out).2.1 (HR.out wo HW5.out).2.2 HG.out.1.ws; rw [hs] at h5; have HCs : Hid (Calls Tryz.prog 27 #[vB] wo fun e w' => e = .returned (.int .i64 (s : Int)) /\ Below wo.heap.size wo w') := h5; have HR15 : Hid (RR fb p 15 = if decide (65536 < s) then some (-1) else none) := by show _ = _; rw [<- hs]; rfl
    have HN15 : Hid (∀ i,i < 15 -> RR fb p i = none) := fun i hi => HC.out.2 i (by omega)
    clear h5 hs HC HKc
    go_wp2_with fail
    refine HCs.out.mono ?_; rintro e w6 ⟨rfl,h6⟩; have H6 : Hid (Below W1.heap.size W1 w6) := bnx HW5.out h6; clear h6 HCs f0 f1 f2 f3 f4
    by_cases h9 : 65536 < s
    · have q2 : (s : Int) > 65536 := by omega
      have HZ : Hid (PP 16 (-1) 168 w6) := HPP.out _ _ _ _ (Or.inr ⟨15,-1,by omega,HN15.out,by rw [HR15.out,show decide (65536 < s) = true by simp [h9]]; rfl,rfl,rfl,rfl⟩) H6.out
      go_wp2_with fail
      exact ⟨rfl,_,by simp [results,Tryz.results15,go_sem],_,_,_,rfl,HZ.out⟩
    have q2 : ¬ (s : Int) > 65536 := by omega
    have HZ : Hid (PP 0 0 0 w6) := HPP.out _ _ _ _ (Or.inl ⟨rfl,rfl,rfl,fun i hi => by
      by_cases e : i = 15
      · rw [e,HR15.out,show decide (65536 < s) = false by simp [h9]]; rfl
      exact HN15.out i (by omega)⟩) H6.out
    go_wp2_with fail
    exact ⟨rfl,_,by simp [results,Tryz.results15,go_sem],_,_,_,rfl,HZ.out⟩
end Go.Proofs.YtfljcdccepnidaaGreatDoor
