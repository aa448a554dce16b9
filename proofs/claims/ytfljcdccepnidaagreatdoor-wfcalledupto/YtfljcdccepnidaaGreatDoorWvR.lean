import Derived.Test.YtfljcdccepnidaaGreatDoorWvP
namespace Go.Proofs.YtfljcdccepnidaaGreatDoor
open Go.ChangeShapes Go.WideShapes Go.ChangeAt Go.RowKit Go.Lib

def HAns (fb : Bool) (p : Pg) (k0 k1 : Nat) (c e : Int) : Prop := (c = 0 /\ e = 0 /\ ∀ i,k0 <= i -> i < k1 -> RR fb p i = none) ∨ ∃ j : Nat,k0 <= j /\ j < k1 /\ (∀ i,k0 <= i -> i < j -> RR fb p i = none) /\ RR fb p j = some (-1) /\ c = (j : Int) + 1 /\ e = (cat j).1
theorem RR0 (fb : Bool) (p : Pg) : RR fb p 0 = if !fb then some (-1) else none := rfl
theorem RR1 (fb : Bool) (p : Pg) : RR fb p 1 = if !(p.wd == 4 || p.wd == 8 || p.wd == 16 || p.wd == 32 || p.wd == 64) then some (-1) else none := rfl
theorem RR2 (fb : Bool) (p : Pg) : RR fb p 2 = if !(arrB p.ln) then some (-1) else none := rfl
theorem RR3 (fb : Bool) (p : Pg) : RR fb p 3 = if decide (256 < p.Ds.length) then some (-1) else none := rfl
set_option maxHeartbeats 8000000 in
set_option maxRecDepth 100000 in
theorem head_any {w : World} {P : Nat -> Prop} {N n : Nat} {p : Pg} {vD vB : Value} (fb : Bool) (hfb : fb = true ↔ okPf p) (hg : RG p) (hDs : RDs w P p.Ds vD) (hBs : RB w P (N + 1) (n + 1) p.Bs vB) (hP : ∀ j,P j -> j < w.heap.size) :
    Calls Tryz.prog 23 #[.agg #[.string p.s,.int .i64 p.wd,.int .i64 p.ln,vD,vB]] w fun e w' => ∃ c er,e = .returned (.tuple #[.int .i64 c,.int .i64 er]) /\ HAns fb p 0 4 c er /\ Below w.heap.size w w' := by
  have hF0 : ∀ W,Below w.heap.size w W -> Calls Tryz.prog 51 #[.agg #[.string p.s,.int .i64 p.wd,.int .i64 p.ln,vD,vB]] W fun e w' => e = .returned (.bool fb) /\ Below W.heap.size W w' := fun W hW => (form_both fb hfb (hDs.keep (fun j hj => hW.block j (hP j hj))) (hBs.keep (fun j hj => hW.block j (hP j hj))) (fun j hj => Nat.lt_of_lt_of_le (hP j hj) hW.size) hg.wt hg.ws hg.nm hg.ns hg.nd).2
  obtain ⟨aD,cD,rfl,-⟩ := hDs; obtain ⟨m,hm⟩ : ∃ m,p.Ds.length = m := ⟨_,rfl⟩; rw [hm] at hF0; rw [hm]; obtain ⟨W1,hW1⟩ : ∃ W1,w.alloc (.cells #[.string p.s,.int .i64 p.wd,.int .i64 p.ln,.slice aD m cD,vB] 25) = W1 := ⟨_,rfl⟩; obtain ⟨Eb,hEb⟩ : ∃ Eb,w.heap.size = Eb := ⟨_,rfl⟩; have hb1 : Below w.heap.size w W1 := by rw [<- hW1]; exact bel1 _ _
  have hbx : W1.heap[Eb]? = some (.cells #[.string p.s,.int .i64 p.wd,.int .i64 p.ln,.slice aD m cD,vB] 25 (0,0)) := by rw [<- hW1,<- hEb]; exact heap_alloc_new _ _
  have HW1 : Hid (w.alloc (.cells #[.string p.s,.int .i64 p.wd,.int .i64 p.ln,.slice aD m cD,vB] 25) = W1 /\ w.heap.size = Eb) := ⟨hW1,hEb⟩; have HB1 : Hid (Below w.heap.size w W1 /\ W1.heap[Eb]? = some (.cells #[.string p.s,.int .i64 p.wd,.int .i64 p.ln,.slice aD m cD,vB] 25 (0,0))) := ⟨hb1,hbx⟩; have HF : Hid (Calls Tryz.prog 51 #[.agg #[.string p.s,.int .i64 p.wd,.int .i64 p.ln,.slice aD m cD,vB]] W1 fun e w' => e = .returned (.bool fb) /\ Below W1.heap.size W1 w') := hF0 W1 hb1; have HFb : Hid (fb = true ↔ okPf p) := hfb; have HG : Hid (I64 p.ln) := hg.ln; have HM : Hid (p.Ds.length = m) := hm; obtain ⟨PP,hPP⟩ : ∃ PP : Int -> Int -> World -> Prop,PP = fun c er w' => HAns fb p 0 4 c er /\ Below w.heap.size w w' := ⟨_,rfl⟩
  have HPP : Hid (∀ c er w',HAns fb p 0 4 c er -> Below w.heap.size w w' -> PP c er w') := fun c er w' h1 h2 => by rw [hPP]; exact ⟨h1,h2⟩
  have HGo : Hid (∀ (e : Ending) (w' : World),(∃ (c er : Int),e = Ending.returned (.tuple #[.int .i64 c,.int .i64 er]) /\ PP c er w') -> ∃ (c er : Int),e = Ending.returned (.tuple #[.int .i64 c,.int .i64 er]) /\ HAns fb p 0 4 c er /\ Below w.heap.size w w') := fun e w' h => by rw [hPP] at h; exact h
  refine Calls.mono (R := fun (e : Ending) (w' : World) => ∃ (c er : Int),e = Ending.returned (.tuple #[.int .i64 c,.int .i64 er]) /\ PP c er w') ?_ (fun e w' h => HGo.out e w' h); have W1c0 : W1.cell? ⟨Eb,0,none⟩ = some (.string p.s) := cell_of hbx 0; have W1c1 : W1.cell? ⟨Eb,1,none⟩ = some (.int .i64 p.wd) := cell_of hbx 1; have W1c2 : W1.cell? ⟨Eb,2,none⟩ = some (.int .i64 p.ln) := cell_of hbx 2; have W1c3 : W1.cell? ⟨Eb,3,none⟩ = some (.slice aD m cD) := cell_of hbx 3; have W1c4 : W1.cell? ⟨Eb,4,none⟩ = some (vB) := cell_of hbx 4; clear hW1 hEb hb1 hbx hF0 hBs hP hg hfb hm hPP HGo
  go_enter Tryz.func23,Tryz.ntmps23
  go_upto_region 1 with fail
  rw [HW1.out.1,HW1.out.2]
  go_wp2_with fail
  refine HF.out.mono ?_; rintro e w2 ⟨rfl,hb2⟩; have H2 : Hid (Below w.heap.size w w2) := bnx HB1.out.1 hb2; have h2 := blk_next HB1.out.2 hb2; have w2c0 : w2.cell? ⟨Eb,0,none⟩ = some (.string p.s) := cell_of h2 0; have w2c1 : w2.cell? ⟨Eb,1,none⟩ = some (.int .i64 p.wd) := cell_of h2 1; have w2c2 : w2.cell? ⟨Eb,2,none⟩ = some (.int .i64 p.ln) := cell_of h2 2; have w2c3 : w2.cell? ⟨Eb,3,none⟩ = some (.slice aD m cD) := cell_of h2 3; have w2c4 : w2.cell? ⟨Eb,4,none⟩ = some (vB) := cell_of h2 4; clear hb2 h2 W1c0 W1c1 W1c2 W1c3 W1c4 HF HB1; cases fb with
  | false =>
    have HZ : Hid (PP 1 1 w2) := HPP.out _ _ _ (Or.inr ⟨0,by omega,by omega,fun i h1 h2 => by omega,by rw [RR0]; rfl,rfl,rfl⟩) H2.out
    go_wp2_with fail
    exact ⟨rfl,_,by simp [results,Tryz.results23,go_sem],1,1,rfl,HZ.out⟩
  | true =>
    have hok := HFb.out.1 rfl; have hln : IntKind.u64.wrap p.ln = p.ln := by have h1 := hok.2.2.1; have h2 := HG.out; unfold I64 at h2; rw [IntKind.wrap_u64]; omega
    have HPo : Hid (Calls Tryz.prog 52 #[.int .u64 p.ln] w2 fun e w' => e = .returned (.bool (arrB p.ln)) /\ w' = w2) := by rw [<- powB_eq hok.2.2.1]; exact power_any p.ln w2
    have HR0 : Hid (RR true p 0 = none) := rfl; clear hok
    generalize hwd : p.wd = wd at *
    by_cases k4 : wd = 4
    · subst k4
      have HR1 : Hid (RR true p 1 = none) := by show _ = _; rw [RR1,hwd]; rfl
      clear hwd
      go_wp2_with fail
      refine HPo.out.mono ?_; rintro e w3 ⟨rfl,hw3⟩; subst w3; cases ha : arrB p.ln with
      | false =>
        have HZ : Hid (PP 3 163 w2) := HPP.out _ _ _ (Or.inr ⟨2,by omega,by omega,fun i h1 h2 => by
          have hi : i = 0 ∨ i = 1 := by omega
          rcases hi with rfl | rfl
          · exact HR0.out
          exact HR1.out,by rw [RR2,ha]; rfl,rfl,rfl⟩) H2.out
        go_wp2_with fail
        exact ⟨rfl,_,by simp [results,Tryz.results23,go_sem],3,163,rfl,HZ.out⟩
      | true =>
        have HR2 : Hid (RR true p 2 = none) := by show _ = _; rw [RR2,ha]; rfl
        by_cases hl : 256 < m
        · have q1 : (m : Int) > 256 := by omega
          have HZ : Hid (PP 4 4 w2) := HPP.out _ _ _ (Or.inr ⟨3,by omega,by omega,fun i h1 h2 => by
            have hi : i = 0 ∨ i = 1 ∨ i = 2 := by omega
            rcases hi with rfl | rfl | rfl
            · exact HR0.out
            · exact HR1.out
            exact HR2.out,by rw [RR3,HM.out,show decide (256 < m) = true by simp [hl]]; rfl,rfl,rfl⟩) H2.out
          go_wp2_with fail
          exact ⟨rfl,_,by simp [results,Tryz.results23,go_sem],4,4,rfl,HZ.out⟩
        have q1 : ¬ (m : Int) > 256 := by omega
        have HZ : Hid (PP 0 0 w2) := HPP.out _ _ _ (Or.inl ⟨rfl,rfl,fun i h1 h2 => by
          have hi : i = 0 ∨ i = 1 ∨ i = 2 ∨ i = 3 := by omega
          rcases hi with rfl | rfl | rfl | rfl
          · exact HR0.out
          · exact HR1.out
          · exact HR2.out
          rw [RR3,HM.out,show decide (256 < m) = false by simp [hl]]; rfl⟩) H2.out
        go_wp2_with fail
        exact ⟨rfl,_,by simp [results,Tryz.results23,go_sem],0,0,rfl,HZ.out⟩
    by_cases k8 : wd = 8
    · subst k8
      have HR1 : Hid (RR true p 1 = none) := by show _ = _; rw [RR1,hwd]; rfl
      clear hwd
      go_wp2_with fail
      refine HPo.out.mono ?_; rintro e w3 ⟨rfl,hw3⟩; subst w3; cases ha : arrB p.ln with
      | false =>
        have HZ : Hid (PP 3 163 w2) := HPP.out _ _ _ (Or.inr ⟨2,by omega,by omega,fun i h1 h2 => by
          have hi : i = 0 ∨ i = 1 := by omega
          rcases hi with rfl | rfl
          · exact HR0.out
          exact HR1.out,by rw [RR2,ha]; rfl,rfl,rfl⟩) H2.out
        go_wp2_with fail
        exact ⟨rfl,_,by simp [results,Tryz.results23,go_sem],3,163,rfl,HZ.out⟩
      | true =>
        have HR2 : Hid (RR true p 2 = none) := by show _ = _; rw [RR2,ha]; rfl
        by_cases hl : 256 < m
        · have q1 : (m : Int) > 256 := by omega
          have HZ : Hid (PP 4 4 w2) := HPP.out _ _ _ (Or.inr ⟨3,by omega,by omega,fun i h1 h2 => by
            have hi : i = 0 ∨ i = 1 ∨ i = 2 := by omega
            rcases hi with rfl | rfl | rfl
            · exact HR0.out
            · exact HR1.out
            exact HR2.out,by rw [RR3,HM.out,show decide (256 < m) = true by simp [hl]]; rfl,rfl,rfl⟩) H2.out
          go_wp2_with fail
          exact ⟨rfl,_,by simp [results,Tryz.results23,go_sem],4,4,rfl,HZ.out⟩
        have q1 : ¬ (m : Int) > 256 := by omega
        have HZ : Hid (PP 0 0 w2) := HPP.out _ _ _ (Or.inl ⟨rfl,rfl,fun i h1 h2 => by
          have hi : i = 0 ∨ i = 1 ∨ i = 2 ∨ i = 3 := by omega
          rcases hi with rfl | rfl | rfl | rfl
          · exact HR0.out
          · exact HR1.out
          · exact HR2.out
          rw [RR3,HM.out,show decide (256 < m) = false by simp [hl]]; rfl⟩) H2.out
        go_wp2_with fail
        exact ⟨rfl,_,by simp [results,Tryz.results23,go_sem],0,0,rfl,HZ.out⟩
    by_cases k16 : wd = 16
    · subst k16
      have HR1 : Hid (RR true p 1 = none) := by show _ = _; rw [RR1,hwd]; rfl
      clear hwd
      go_wp2_with fail
      refine HPo.out.mono ?_; rintro e w3 ⟨rfl,hw3⟩; subst w3; cases ha : arrB p.ln with
      | false =>
        have HZ : Hid (PP 3 163 w2) := HPP.out _ _ _ (Or.inr ⟨2,by omega,by omega,fun i h1 h2 => by
          have hi : i = 0 ∨ i = 1 := by omega
          rcases hi with rfl | rfl
          · exact HR0.out
          exact HR1.out,by rw [RR2,ha]; rfl,rfl,rfl⟩) H2.out
        go_wp2_with fail
        exact ⟨rfl,_,by simp [results,Tryz.results23,go_sem],3,163,rfl,HZ.out⟩
      | true =>
        have HR2 : Hid (RR true p 2 = none) := by show _ = _; rw [RR2,ha]; rfl
        by_cases hl : 256 < m
        · have q1 : (m : Int) > 256 := by omega
          have HZ : Hid (PP 4 4 w2) := HPP.out _ _ _ (Or.inr ⟨3,by omega,by omega,fun i h1 h2 => by
            have hi : i = 0 ∨ i = 1 ∨ i = 2 := by omega
            rcases hi with rfl | rfl | rfl
            · exact HR0.out
            · exact HR1.out
            exact HR2.out,by rw [RR3,HM.out,show decide (256 < m) = true by simp [hl]]; rfl,rfl,rfl⟩) H2.out
          go_wp2_with fail
          exact ⟨rfl,_,by simp [results,Tryz.results23,go_sem],4,4,rfl,HZ.out⟩
        have q1 : ¬ (m : Int) > 256 := by omega
        have HZ : Hid (PP 0 0 w2) := HPP.out _ _ _ (Or.inl ⟨rfl,rfl,fun i h1 h2 => by
          have hi : i = 0 ∨ i = 1 ∨ i = 2 ∨ i = 3 := by omega
          rcases hi with rfl | rfl | rfl | rfl
          · exact HR0.out
          · exact HR1.out
          · exact HR2.out
          rw [RR3,HM.out,show decide (256 < m) = false by simp [hl]]; rfl⟩) H2.out
        go_wp2_with fail
        exact ⟨rfl,_,by simp [results,Tryz.results23,go_sem],0,0,rfl,HZ.out⟩
    by_cases k32 : wd = 32
    · subst k32
      have HR1 : Hid (RR true p 1 = none) := by show _ = _; rw [RR1,hwd]; rfl
      clear hwd
      go_wp2_with fail
      refine HPo.out.mono ?_; rintro e w3 ⟨rfl,hw3⟩; subst w3; cases ha : arrB p.ln with
      | false =>
        have HZ : Hid (PP 3 163 w2) := HPP.out _ _ _ (Or.inr ⟨2,by omega,by omega,fun i h1 h2 => by
          have hi : i = 0 ∨ i = 1 := by omega
          rcases hi with rfl | rfl
          · exact HR0.out
          exact HR1.out,by rw [RR2,ha]; rfl,rfl,rfl⟩) H2.out
        go_wp2_with fail
        exact ⟨rfl,_,by simp [results,Tryz.results23,go_sem],3,163,rfl,HZ.out⟩
      | true =>
        have HR2 : Hid (RR true p 2 = none) := by show _ = _; rw [RR2,ha]; rfl
        by_cases hl : 256 < m
        · have q1 : (m : Int) > 256 := by omega
          have HZ : Hid (PP 4 4 w2) := HPP.out _ _ _ (Or.inr ⟨3,by omega,by omega,fun i h1 h2 => by
            have hi : i = 0 ∨ i = 1 ∨ i = 2 := by omega
            rcases hi with rfl | rfl | rfl
            · exact HR0.out
            · exact HR1.out
            exact HR2.out,by rw [RR3,HM.out,show decide (256 < m) = true by simp [hl]]; rfl,rfl,rfl⟩) H2.out
          go_wp2_with fail
          exact ⟨rfl,_,by simp [results,Tryz.results23,go_sem],4,4,rfl,HZ.out⟩
        have q1 : ¬ (m : Int) > 256 := by omega
        have HZ : Hid (PP 0 0 w2) := HPP.out _ _ _ (Or.inl ⟨rfl,rfl,fun i h1 h2 => by
          have hi : i = 0 ∨ i = 1 ∨ i = 2 ∨ i = 3 := by omega
          rcases hi with rfl | rfl | rfl | rfl
          · exact HR0.out
          · exact HR1.out
          · exact HR2.out
          rw [RR3,HM.out,show decide (256 < m) = false by simp [hl]]; rfl⟩) H2.out
        go_wp2_with fail
        exact ⟨rfl,_,by simp [results,Tryz.results23,go_sem],0,0,rfl,HZ.out⟩
    by_cases k64 : wd = 64
    · subst k64
      have HR1 : Hid (RR true p 1 = none) := by show _ = _; rw [RR1,hwd]; rfl
      clear hwd
      go_wp2_with fail
      refine HPo.out.mono ?_; rintro e w3 ⟨rfl,hw3⟩; subst w3; cases ha : arrB p.ln with
      | false =>
        have HZ : Hid (PP 3 163 w2) := HPP.out _ _ _ (Or.inr ⟨2,by omega,by omega,fun i h1 h2 => by
          have hi : i = 0 ∨ i = 1 := by omega
          rcases hi with rfl | rfl
          · exact HR0.out
          exact HR1.out,by rw [RR2,ha]; rfl,rfl,rfl⟩) H2.out
        go_wp2_with fail
        exact ⟨rfl,_,by simp [results,Tryz.results23,go_sem],3,163,rfl,HZ.out⟩
      | true =>
        have HR2 : Hid (RR true p 2 = none) := by show _ = _; rw [RR2,ha]; rfl
        by_cases hl : 256 < m
        · have q1 : (m : Int) > 256 := by omega
          have HZ : Hid (PP 4 4 w2) := HPP.out _ _ _ (Or.inr ⟨3,by omega,by omega,fun i h1 h2 => by
            have hi : i = 0 ∨ i = 1 ∨ i = 2 := by omega
            rcases hi with rfl | rfl | rfl
            · exact HR0.out
            · exact HR1.out
            exact HR2.out,by rw [RR3,HM.out,show decide (256 < m) = true by simp [hl]]; rfl,rfl,rfl⟩) H2.out
          go_wp2_with fail
          exact ⟨rfl,_,by simp [results,Tryz.results23,go_sem],4,4,rfl,HZ.out⟩
        have q1 : ¬ (m : Int) > 256 := by omega
        have HZ : Hid (PP 0 0 w2) := HPP.out _ _ _ (Or.inl ⟨rfl,rfl,fun i h1 h2 => by
          have hi : i = 0 ∨ i = 1 ∨ i = 2 ∨ i = 3 := by omega
          rcases hi with rfl | rfl | rfl | rfl
          · exact HR0.out
          · exact HR1.out
          · exact HR2.out
          rw [RR3,HM.out,show decide (256 < m) = false by simp [hl]]; rfl⟩) H2.out
        go_wp2_with fail
        exact ⟨rfl,_,by simp [results,Tryz.results23,go_sem],0,0,rfl,HZ.out⟩
    have q4 : (wd != 4) = true := by simp [k4]
    have q8 : (wd != 8) = true := by simp [k8]
    have q16 : (wd != 16) = true := by simp [k16]
    have q32 : (wd != 32) = true := by simp [k32]
    have q64 : (wd != 64) = true := by simp [k64]
    have HZ : Hid (PP 2 5 w2) := HPP.out _ _ _ (Or.inr ⟨1,by omega,by omega,fun i h1 h2 => by
      have hi : i = 0 := by omega
      subst hi; exact HR0.out,by rw [RR1,hwd]; simp [k4,k8,k16,k32,k64],rfl,rfl⟩) H2.out
    go_wp2_with fail
    exact ⟨rfl,_,by simp [results,Tryz.results23,go_sem],2,5,rfl,HZ.out⟩
end Go.Proofs.YtfljcdccepnidaaGreatDoor
namespace Go.Proofs.YtfljcdccepnidaaGreatDoor
open Go.ChangeShapes Go.WideShapes Go.ChangeAt Go.RowKit Go.Lib

theorem fvD_some {vio : Nat -> Th -> Bool} {p : Pg} {j : Nat} (hj : j < p.Ds.length) (h : ∀ i,i < j -> vio i (thD (p.Ds.getD i dd0)) = false) (hv : vio j (thD (p.Ds.getD j dd0)) = true) : fv vio 0 (p.Ds.map thD) = some j := by
  have key : ∀ i,i < p.Ds.length -> (p.Ds.map thD)[i]? = some (thD (p.Ds.getD i dd0)) := fun i hi => by
    rw [List.getElem?_map,List.getD_eq_getElem?_getD,List.getElem?_eq_getElem hi]
    rfl
  have := fv_first vio (p.Ds.map thD) 0 j (fun i t hi ht => by
    rw [key i (by omega)] at ht; cases ht; rw [Nat.zero_add]; exact h i hi) _ (key j hj) (by rw [Nat.zero_add]; exact hv)
  rw [Nat.zero_add] at this; exact this
theorem fvD_none {vio : Nat -> Th -> Bool} {p : Pg} (h : ∀ i,i < p.Ds.length -> vio i (thD (p.Ds.getD i dd0)) = false) : fv vio 0 (p.Ds.map thD) = none := by
  refine fv_nil_of vio _ 0 (fun i t ht => ?_); rw [List.getElem?_map] at ht; cases e : p.Ds[i]? with
  | none => rw [e] at ht; cases ht
  | some d =>
    rw [e] at ht; cases ht; obtain ⟨hi,hd⟩ := List.getElem?_eq_some_iff.1 e; have := h i hi; rw [List.getD_eq_getElem?_getD,e] at this; rw [Nat.zero_add]; exact this
theorem RR4 (fb : Bool) (p : Pg) : RR fb p 4 = (fv (vio5 p) 0 (p.Ds.map thD)).map (fun (q : Nat) => (q : Int)) := by
  unfold RR; cases fv (vio5 p) 0 (p.Ds.map thD) <;> rfl
theorem RR5 (fb : Bool) (p : Pg) : RR fb p 5 = (fv (vio6 p) 0 (p.Ds.map thD)).map (fun (q : Nat) => (q : Int)) := by
  unfold RR; cases fv (vio6 p) 0 (p.Ds.map thD) <;> rfl
theorem RR6 (fb : Bool) (p : Pg) : RR fb p 6 = (fv (vio7 p) 0 (p.Ds.map thD)).map (fun (q : Nat) => (q : Int)) := by
  unfold RR; cases fv (vio7 p) 0 (p.Ds.map thD) <;> rfl
theorem RR7 (fb : Bool) (p : Pg) : RR fb p 7 = (fv (vio8 p) 0 (p.Ds.map thD)).map (fun (q : Nat) => (q : Int)) := by
  unfold RR; cases fv (vio8 p) 0 (p.Ds.map thD) <;> rfl
theorem RR8 (fb : Bool) (p : Pg) : RR fb p 8 = if decide (4096 < inS p.Ds) then some (-1) else none := rfl
def DAns (fb : Bool) (p : Pg) (c a e : Int) : Prop := (c = 0 /\ a = 0 /\ e = 0 /\ ∀ i,4 <= i -> i < 9 -> RR fb p i = none) ∨ ∃ (j : Nat) (pl : Int),4 <= j /\ j < 9 /\ (∀ i,4 <= i -> i < j -> RR fb p i = none) /\ RR fb p j = some pl /\ c = (j : Int) + 1 /\ a = pl /\ e = (cat j).1
theorem dix_self {Ds : List Dd} {j : Nat} (hj : j < Ds.length) : ∃ k,k <= j /\ dix Ds (Ds.getD j dd0).s = some k := by
  unfold dix; cases h : Ds.findIdx? (fun d => d.s.toList == (Ds.getD j dd0).s.toList) with
  | none =>
    rw [List.findIdx?_eq_none_iff] at h; have h5 := h (Ds.getD j dd0) (by rw [List.getD_eq_getElem?_getD,List.getElem?_eq_getElem hj]; exact List.getElem_mem hj)
    simp at h5
  | some k =>
    refine ⟨k,?_,rfl⟩; rw [List.findIdx?_eq_some_iff_getElem] at h; obtain ⟨hk,_,h3⟩ := h
    by_cases e : k <= j
    · exact e
    have h5 := h3 j (by omega); rw [List.getD_eq_getElem?_getD,List.getElem?_eq_getElem hj] at h5
    simp at h5
theorem vio5_eq {p : Pg} {j : Nat} {V : Int} (hj : j < p.Ds.length) (hV : (match dix p.Ds (p.Ds.getD j dd0).s with | none => -1 | some k => (k : Int)) = V) : vio5 p j (thD (p.Ds.getD j dd0)) = decide (V < (j : Int)) := by
  obtain ⟨k,hk,e⟩ := dix_self hj; unfold vio5; rw [e] at hV; rw [show (thD (p.Ds.getD j dd0)).s = (p.Ds.getD j dd0).s from rfl,e,Bool.eq_iff_iff]; simp only [Option.getD_some,bne_iff_ne,ne_eq,decide_eq_true_eq]
  dsimp only at hV
  omega
theorem getD_memD {Ds : List Dd} {j : Nat} (hj : j < Ds.length) : Ds.getD j dd0 ∈ Ds := by
  rw [List.getD_eq_getElem?_getD,List.getElem?_eq_getElem hj]; exact List.getElem_mem hj
theorem getD_memI {vs : List Int} {q : Nat} (hq : q < vs.length) : vs.getD q 0 ∈ vs := by
  rw [List.getD_eq_getElem?_getD,List.getElem?_eq_getElem hq]; exact List.getElem_mem hq
theorem vio8_none {p : Pg} {j : Nat} (hj : j < p.Ds.length) (hw : okW p.wd) (hg : ∀ d ∈ p.Ds,∀ v ∈ d.vs,U64 v) (h : ∀ q,q < (p.Ds.getD j dd0).vs.length -> fitB p.wd ((p.Ds.getD j dd0).vs.getD q 0) = true) : vio8 p j (thD (p.Ds.getD j dd0)) = false := by
  unfold vio8; rw [Bool.eq_false_iff,ne_eq,List.any_eq_true]; rintro ⟨v,hv,h5⟩; obtain ⟨q,hq,rfl⟩ := List.getElem_of_mem hv; have h6 := h q hq; rw [List.getD_eq_getElem?_getD,List.getElem?_eq_getElem hq,Option.getD_some,fit_eq hw (hg _ (getD_memD hj) _ hv)] at h6; rw [h6] at h5; cases h5
theorem vio8_some {p : Pg} {j q : Nat} (hj : j < p.Ds.length) (hw : okW p.wd) (hg : ∀ d ∈ p.Ds,∀ v ∈ d.vs,U64 v) (hq : q < (p.Ds.getD j dd0).vs.length) (h : fitB p.wd ((p.Ds.getD j dd0).vs.getD q 0) = false) : vio8 p j (thD (p.Ds.getD j dd0)) = true := by
  unfold vio8; rw [List.any_eq_true]; have hm := getD_memI hq; refine ⟨_,hm,?_⟩; rw [<- fit_eq hw (hg _ (getD_memD hj) _ hm),h]
  rfl
def DC (p : Pg) (aD : Option Addr) (w : World) (j : Nat) : Prop := ∃ b o dk ds dz nv aV cV,aD = some ⟨b,o,none⟩ /\ (dk = (p.Ds.getD j dd0).k /\ ds = (p.Ds.getD j dd0).s /\ dz = (p.Ds.getD j dd0).z /\ nv = (p.Ds.getD j dd0).vs.length) /\ w.cell? ⟨b,o + j * 4,none⟩ = some (.int .i64 dk) /\ w.cell? ⟨b,o + j * 4 + 1,none⟩ = some (.string ds) /\ w.cell? ⟨b,o + j * 4 + 2,none⟩ = some (.int .i64 dz) /\ w.cell? ⟨b,o + j * 4 + 3,none⟩ = some (.slice aV nv cV) /\ b < w.heap.size /\ (0 < nv -> ∃ bv ov,aV = some ⟨bv,ov,none⟩ /\ bv < w.heap.size /\ ∀ q,q < nv -> w.cell? ⟨bv,ov + q,none⟩ = some (.int .u64 ((p.Ds.getD j dd0).vs.getD q 0)))
theorem dc_of {w : World} {P : Nat -> Prop} {p : Pg} {aD : Option Addr} {m cD : Nat} (h : RDs w P p.Ds (.slice aD m cD)) (hP : ∀ j,P j -> j < w.heap.size) {j : Nat} (hj : j < p.Ds.length) : DC p aD w j := by
  obtain ⟨ad,cap,e,h3⟩ := h; cases e; obtain ⟨b,o,rfl,hPb,hc⟩ := h3 (by omega); obtain ⟨v0,v1,v2,v3,c0,c1,c2,c3,aV,cV,e5,hU⟩ := hc j hj; cases e5; refine ⟨b,o,_,_,_,_,aV,cV,rfl,⟨rfl,rfl,rfl,rfl⟩,c0,c1,c2,c3,hP b hPb,fun h0 => ?_⟩; obtain ⟨bv,ov,e,hPv,hq⟩ := hU h0; exact ⟨bv,ov,e,hP bv hPv,hq⟩
end Go.Proofs.YtfljcdccepnidaaGreatDoor
