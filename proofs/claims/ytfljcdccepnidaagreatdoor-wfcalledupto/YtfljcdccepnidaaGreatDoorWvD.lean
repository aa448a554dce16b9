import Derived.Test.YtfljcdccepnidaaGreatDoorSqA
import Derived.Test.YtfljcdccepnidaaGreatDoorWvC
namespace Go.Proofs.YtfljcdccepnidaaGreatDoor
open Go.ChangeShapes Go.WideShapes Go.ChangeAt Go.RowKit Go.Lib

def fitB (wd x : Int) : Bool := decide (64 <= wd) || decide (x < 2 ^ wd.toNat)
def lpT (is sk : Int) : Bool := is == 1 && sk == 4
set_option maxHeartbeats 8000000 in
set_option maxRecDepth 100000 in
theorem viol10 {w : World} {P P2 : Nat -> Prop} {p : Pg} {vD vB : Value} (hP : ∀ j,P j -> j < w.heap.size) (hD : RDs w P p.Ds vD) (_hn : p.Ds.length <= 1048576) (is dD sk : Int) (ss : ByteArray) (a0 a1 a2 a3 e0 e1 e2 e3 : Value) (lo hi : Int) (t1 t2 : Value) (ek ex : Int) (es : ByteArray) (kv : Value) (dp : Int) (lv : Value) {ls : List ByteArray} (hP2 : ∀ j,P2 j -> j < w.heap.size) (hl : LR w P2 ls lv) (_hll : ls.length <= 1048576) :
    Calls Tryz.prog 26 #[.agg #[.string p.s,.int .i64 p.wd,.int .i64 p.ln,vD,vB],.agg #[.int .i64 is,.int .i64 dD,.int .i64 sk,.string ss,a0,a1,a2,a3,e0,e1,e2,e3,.int .u64 lo,.int .u64 hi,t1,t2,.int .i64 ek,.int .u64 ex,.string es,kv,.int .i64 dp,lv],.int .i64 10] w fun e w' => e = .returned (.int .i64 (if decide (64 < dp) = true then 152 else 0)) /\ Below w.heap.size w w' := by
  obtain ⟨nm,hnm⟩ : ∃ nm,nmT is sk ek ss es = nm := ⟨_,rfl⟩; obtain ⟨hs,hhs⟩ : ∃ hs,hsT is sk ek = hs := ⟨_,rfl⟩; obtain ⟨lpB,hlp⟩ : ∃ lpB,lpT is sk = lpB := ⟨_,rfl⟩; have HLp : Hid (lpT is sk = lpB) := hlp; obtain ⟨W1,hW1⟩ : ∃ W1,(w.alloc (.cells #[.string p.s,.int .i64 p.wd,.int .i64 p.ln,vD,vB] 25)).alloc (.cells #[.int .i64 is,.int .i64 dD,.int .i64 sk,.string ss,a0,a1,a2,a3,e0,e1,e2,e3,.int .u64 lo,.int .u64 hi,t1,t2,.int .i64 ek,.int .u64 ex,.string es,kv,.int .i64 dp,lv] 80) = W1 := ⟨_,rfl⟩; obtain ⟨Eb,hEb⟩ : ∃ Eb,w.heap.size = Eb := ⟨_,rfl⟩; have hb1 : Below w.heap.size w W1 := by rw [<- hW1]; exact bnx (bel1 _ _) (bel1 _ _)
  have HB1 : Hid (Below w.heap.size w W1) := hb1; have hpx : W1.heap[Eb]? = some (.cells #[.string p.s,.int .i64 p.wd,.int .i64 p.ln,vD,vB] 25 (0,0)) := by rw [<- hW1,<- hEb]; exact blk_next (heap_alloc_new _ _) (bel1 _ _)
  have hbx : W1.heap[Eb + 1]? = some (.cells #[.int .i64 is,.int .i64 dD,.int .i64 sk,.string ss,a0,a1,a2,a3,e0,e1,e2,e3,.int .u64 lo,.int .u64 hi,t1,t2,.int .i64 ek,.int .u64 ex,.string es,kv,.int .i64 dp,lv] 80 (0,0)) := by
    rw [<- hW1,<- hEb]; have h5 := heap_alloc_new (w.alloc (.cells #[.string p.s,.int .i64 p.wd,.int .i64 p.ln,vD,vB] 25)) (.cells #[.int .i64 is,.int .i64 dD,.int .i64 sk,.string ss,a0,a1,a2,a3,e0,e1,e2,e3,.int .u64 lo,.int .u64 hi,t1,t2,.int .i64 ek,.int .u64 ex,.string es,kv,.int .i64 dp,lv] 80)
    simpa using h5
  have HW1 : Hid ((w.alloc (.cells #[.string p.s,.int .i64 p.wd,.int .i64 p.ln,vD,vB] 25)).alloc (.cells #[.int .i64 is,.int .i64 dD,.int .i64 sk,.string ss,a0,a1,a2,a3,e0,e1,e2,e3,.int .u64 lo,.int .u64 hi,t1,t2,.int .i64 ek,.int .u64 ex,.string es,kv,.int .i64 dp,lv] 80) = W1 /\ w.heap.size = Eb) := ⟨hW1,hEb⟩; have HNm : Hid (Calls Tryz.prog 56 #[.agg #[.int .i64 is,.int .i64 dD,.int .i64 sk,.string ss,a0,a1,a2,a3,e0,e1,e2,e3,.int .u64 lo,.int .u64 hi,t1,t2,.int .i64 ek,.int .u64 ex,.string es,kv,.int .i64 dp,lv]] W1 fun e w' => e = .returned (.tuple #[.string nm,.bool hs]) /\ Below W1.heap.size W1 w') := by rw [<- hnm,<- hhs]; exact names_any is dD sk ss a0 a1 a2 a3 e0 e1 e2 e3 lo hi t1 t2 ek ex es kv dp lv W1
  have HPx : Hid (W1.heap[Eb]? = some (.cells #[.string p.s,.int .i64 p.wd,.int .i64 p.ln,vD,vB] 25 (0,0)) /\ W1.heap[Eb + 1]? = some (.cells #[.int .i64 is,.int .i64 dD,.int .i64 sk,.string ss,a0,a1,a2,a3,e0,e1,e2,e3,.int .u64 lo,.int .u64 hi,t1,t2,.int .i64 ek,.int .u64 ex,.string es,kv,.int .i64 dp,lv] 80 (0,0))) := ⟨hpx,hbx⟩; have hKD : ∀ W,Below W1.heap.size W1 W -> (∀ j,P j -> j < W.heap.size) /\ RDs W P p.Ds vD /\ (∀ j,P2 j -> j < W.heap.size) /\ LR W P2 ls lv := fun W hW => ⟨fun j hj => Nat.lt_of_lt_of_le (hP j hj) (Nat.le_trans hb1.size hW.size),hD.keep (fun j hj => (hW.block j (Nat.lt_of_lt_of_le (hP j hj) hb1.size)).trans (hb1.block j (hP j hj))),fun j hj => Nat.lt_of_lt_of_le (hP2 j hj) (Nat.le_trans hb1.size hW.size),hl.keep (fun j hj => (hW.block j (Nat.lt_of_lt_of_le (hP2 j hj) hb1.size)).trans (hb1.block j (hP2 j hj)))⟩
  obtain ⟨V,hV⟩ : ∃ V,(if decide (64 < dp) = true then (152 : Int) else 0) = V := ⟨_,rfl⟩; rw [hV]; have HV : Hid ((if decide (64 < dp) = true then (152 : Int) else 0) = V) := hV; clear hV; clear hW1 hEb hb1 hpx hbx hnm hhs hlp hKD hP hP2 hD hl
  go_enter Tryz.func26,Tryz.ntmps26
  go_upto_region 1 with fail
  rw [HW1.out.1,HW1.out.2]; refine wp_region_lit ?_; refine wpList_load_row rfl _ _ rfl (Eb + 1) rfl _ _ _ _ HPx.out.2 Tryz.underlying80 rfl (by kernel_rfl) ?_; simp only [Act.put,z0,z1,z2]
  go_wp2_with fail
  refine HNm.out.mono ?_; rintro e w2 ⟨rfl,hb2⟩; have HB2 : Hid (Below W1.heap.size W1 w2 /\ Below w.heap.size w w2) := ⟨hb2,bnx HB1.out hb2⟩; have g2 := blk_next HPx.out.2 hb2; have g1 := blk_next HPx.out.1 hb2; have c0 : w2.cell? ⟨Eb + 1,0,none⟩ = some (.int .i64 is) := cell_of g2 0; have c2 : w2.cell? ⟨Eb + 1,2,none⟩ = some (.int .i64 sk) := cell_of g2 2; have c20 : w2.cell? ⟨Eb + 1,20,none⟩ = some (.int .i64 dp) := cell_of g2 20; have p0 : w2.cell? ⟨Eb,0,none⟩ = some (.string p.s) := cell_of g1 0; have p1 : w2.cell? ⟨Eb,1,none⟩ = some (.int .i64 p.wd) := cell_of g1 1; have p2 : w2.cell? ⟨Eb,2,none⟩ = some (.int .i64 p.ln) := cell_of g1 2; have p3 : w2.cell? ⟨Eb,3,none⟩ = some (vD) := cell_of g1 3; have p4 : w2.cell? ⟨Eb,4,none⟩ = some (vB) := cell_of g1 4; clear hb2 g1 HNm HPx g2
  go_upto_region 2 with fail
  go_cut [9] (fun s9 wx => wx = w2 /\ s9 = .bool lpB)
  case first =>
    have h9 := HLp.out; unfold lpT at h9; cases q1 : (is == 1) with
    | false =>
      rw [q1,Bool.false_and] at h9; subst h9
      go_wp2_with fail
      go_meet
      exact ⟨rfl,rfl⟩
    | true =>
      rw [q1,Bool.true_and] at h9; subst h9
      go_wp2_with fail
      go_meet
      exact ⟨rfl,by simp⟩
  case rest =>
    obtain ⟨hw,rfl⟩ := hcut; subst wc
    by_cases h : 64 < dp
    · skip
      go_wp2_with fail
      go_ret
      exact ⟨by rw [<- HV.out]; first | (simp [*]; done) | (simp [h]; done) | (simp [*,h]; done),HB2.out.2⟩
    skip
    go_wp2_with fail
    go_ret
    exact ⟨by rw [<- HV.out]; first | (simp [*]; done) | (simp [h]; done) | (simp [*,h]; done),HB2.out.2⟩
set_option maxHeartbeats 8000000 in
set_option maxRecDepth 100000 in
theorem viol11 {w : World} {P P2 : Nat -> Prop} {p : Pg} {vD vB : Value} (hP : ∀ j,P j -> j < w.heap.size) (hD : RDs w P p.Ds vD) (hn : p.Ds.length <= 1048576) (is dD sk : Int) (ss : ByteArray) (a0 a1 a2 a3 e0 e1 e2 e3 : Value) (lo hi : Int) (t1 t2 : Value) (ek ex : Int) (es : ByteArray) (kv : Value) (dp : Int) (lv : Value) {ls : List ByteArray} (hP2 : ∀ j,P2 j -> j < w.heap.size) (hl : LR w P2 ls lv) (hll : ls.length <= 1048576) :
    Calls Tryz.prog 26 #[.agg #[.string p.s,.int .i64 p.wd,.int .i64 p.ln,vD,vB],.agg #[.int .i64 is,.int .i64 dD,.int .i64 sk,.string ss,a0,a1,a2,a3,e0,e1,e2,e3,.int .u64 lo,.int .u64 hi,t1,t2,.int .i64 ek,.int .u64 ex,.string es,kv,.int .i64 dp,lv],.int .i64 11] w fun e w' => e = .returned (.int .i64 (if (hsT is sk ek && (!(hasB ls (nmT is sk ek ss es)) && (dix p.Ds (nmT is sk ek ss es)).isNone)) = true then 161 else 0)) /\ Below w.heap.size w w' := by
  obtain ⟨nm,hnm⟩ : ∃ nm,nmT is sk ek ss es = nm := ⟨_,rfl⟩; obtain ⟨hs,hhs⟩ : ∃ hs,hsT is sk ek = hs := ⟨_,rfl⟩; obtain ⟨lpB,hlp⟩ : ∃ lpB,lpT is sk = lpB := ⟨_,rfl⟩; have HLp : Hid (lpT is sk = lpB) := hlp; rw [hnm,hhs]; obtain ⟨W1,hW1⟩ : ∃ W1,(w.alloc (.cells #[.string p.s,.int .i64 p.wd,.int .i64 p.ln,vD,vB] 25)).alloc (.cells #[.int .i64 is,.int .i64 dD,.int .i64 sk,.string ss,a0,a1,a2,a3,e0,e1,e2,e3,.int .u64 lo,.int .u64 hi,t1,t2,.int .i64 ek,.int .u64 ex,.string es,kv,.int .i64 dp,lv] 80) = W1 := ⟨_,rfl⟩; obtain ⟨Eb,hEb⟩ : ∃ Eb,w.heap.size = Eb := ⟨_,rfl⟩; have hb1 : Below w.heap.size w W1 := by rw [<- hW1]; exact bnx (bel1 _ _) (bel1 _ _)
  have HB1 : Hid (Below w.heap.size w W1) := hb1; have hpx : W1.heap[Eb]? = some (.cells #[.string p.s,.int .i64 p.wd,.int .i64 p.ln,vD,vB] 25 (0,0)) := by rw [<- hW1,<- hEb]; exact blk_next (heap_alloc_new _ _) (bel1 _ _)
  have hbx : W1.heap[Eb + 1]? = some (.cells #[.int .i64 is,.int .i64 dD,.int .i64 sk,.string ss,a0,a1,a2,a3,e0,e1,e2,e3,.int .u64 lo,.int .u64 hi,t1,t2,.int .i64 ek,.int .u64 ex,.string es,kv,.int .i64 dp,lv] 80 (0,0)) := by
    rw [<- hW1,<- hEb]; have h5 := heap_alloc_new (w.alloc (.cells #[.string p.s,.int .i64 p.wd,.int .i64 p.ln,vD,vB] 25)) (.cells #[.int .i64 is,.int .i64 dD,.int .i64 sk,.string ss,a0,a1,a2,a3,e0,e1,e2,e3,.int .u64 lo,.int .u64 hi,t1,t2,.int .i64 ek,.int .u64 ex,.string es,kv,.int .i64 dp,lv] 80)
    simpa using h5
  have HW1 : Hid ((w.alloc (.cells #[.string p.s,.int .i64 p.wd,.int .i64 p.ln,vD,vB] 25)).alloc (.cells #[.int .i64 is,.int .i64 dD,.int .i64 sk,.string ss,a0,a1,a2,a3,e0,e1,e2,e3,.int .u64 lo,.int .u64 hi,t1,t2,.int .i64 ek,.int .u64 ex,.string es,kv,.int .i64 dp,lv] 80) = W1 /\ w.heap.size = Eb) := ⟨hW1,hEb⟩; have HNm : Hid (Calls Tryz.prog 56 #[.agg #[.int .i64 is,.int .i64 dD,.int .i64 sk,.string ss,a0,a1,a2,a3,e0,e1,e2,e3,.int .u64 lo,.int .u64 hi,t1,t2,.int .i64 ek,.int .u64 ex,.string es,kv,.int .i64 dp,lv]] W1 fun e w' => e = .returned (.tuple #[.string nm,.bool hs]) /\ Below W1.heap.size W1 w') := by rw [<- hnm,<- hhs]; exact names_any is dD sk ss a0 a1 a2 a3 e0 e1 e2 e3 lo hi t1 t2 ek ex es kv dp lv W1
  have HPx : Hid (W1.heap[Eb]? = some (.cells #[.string p.s,.int .i64 p.wd,.int .i64 p.ln,vD,vB] 25 (0,0)) /\ W1.heap[Eb + 1]? = some (.cells #[.int .i64 is,.int .i64 dD,.int .i64 sk,.string ss,a0,a1,a2,a3,e0,e1,e2,e3,.int .u64 lo,.int .u64 hi,t1,t2,.int .i64 ek,.int .u64 ex,.string es,kv,.int .i64 dp,lv] 80 (0,0))) := ⟨hpx,hbx⟩; have hKD : ∀ W,Below W1.heap.size W1 W -> (∀ j,P j -> j < W.heap.size) /\ RDs W P p.Ds vD /\ (∀ j,P2 j -> j < W.heap.size) /\ LR W P2 ls lv := fun W hW => ⟨fun j hj => Nat.lt_of_lt_of_le (hP j hj) (Nat.le_trans hb1.size hW.size),hD.keep (fun j hj => (hW.block j (Nat.lt_of_lt_of_le (hP j hj) hb1.size)).trans (hb1.block j (hP j hj))),fun j hj => Nat.lt_of_lt_of_le (hP2 j hj) (Nat.le_trans hb1.size hW.size),hl.keep (fun j hj => (hW.block j (Nat.lt_of_lt_of_le (hP2 j hj) hb1.size)).trans (hb1.block j (hP2 j hj)))⟩
  have HIn : Hid (∀ W,Below W1.heap.size W1 W -> ∀ s,Calls Tryz.prog 57 #[lv,.string s] W fun e w' => e = .returned (.bool (hasB ls s)) /\ w' = W) := fun W hW s => in_any (hKD W hW).2.2.2 hll s
  have HDc : Hid (∀ W,Below W1.heap.size W1 W -> ∀ s,Calls Tryz.prog 7 #[.agg #[.string p.s,.int .i64 p.wd,.int .i64 p.ln,vD,vB],.string s] W fun e w' => e = .returned (.int .i64 (match dix p.Ds s with | none => -1 | some j => (j : Int))) /\ Below W.heap.size W w') := fun W hW s => decl_any (hKD W hW).1 (hKD W hW).2.1 hn s
  obtain ⟨V,hV⟩ : ∃ V,(if (hs && (!(hasB ls nm) && (dix p.Ds nm).isNone)) = true then (161 : Int) else 0) = V := ⟨_,rfl⟩; rw [hV]; have HV : Hid ((if (hs && (!(hasB ls nm) && (dix p.Ds nm).isNone)) = true then (161 : Int) else 0) = V) := hV; clear hV; clear hW1 hEb hb1 hpx hbx hnm hhs hlp hKD hP hP2 hD hl
  go_enter Tryz.func26,Tryz.ntmps26
  go_upto_region 1 with fail
  rw [HW1.out.1,HW1.out.2]; refine wp_region_lit ?_; refine wpList_load_row rfl _ _ rfl (Eb + 1) rfl _ _ _ _ HPx.out.2 Tryz.underlying80 rfl (by kernel_rfl) ?_; simp only [Act.put,z0,z1,z2]
  go_wp2_with fail
  refine HNm.out.mono ?_; rintro e w2 ⟨rfl,hb2⟩; have HB2 : Hid (Below W1.heap.size W1 w2 /\ Below w.heap.size w w2) := ⟨hb2,bnx HB1.out hb2⟩; have g2 := blk_next HPx.out.2 hb2; have g1 := blk_next HPx.out.1 hb2; have c0 : w2.cell? ⟨Eb + 1,0,none⟩ = some (.int .i64 is) := cell_of g2 0; have c2 : w2.cell? ⟨Eb + 1,2,none⟩ = some (.int .i64 sk) := cell_of g2 2; have c21 : w2.cell? ⟨Eb + 1,21,none⟩ = some (lv) := cell_of g2 21; have p0 : w2.cell? ⟨Eb,0,none⟩ = some (.string p.s) := cell_of g1 0; have p1 : w2.cell? ⟨Eb,1,none⟩ = some (.int .i64 p.wd) := cell_of g1 1; have p2 : w2.cell? ⟨Eb,2,none⟩ = some (.int .i64 p.ln) := cell_of g1 2; have p3 : w2.cell? ⟨Eb,3,none⟩ = some (vD) := cell_of g1 3; have p4 : w2.cell? ⟨Eb,4,none⟩ = some (vB) := cell_of g1 4; clear hb2 g1 HNm HPx g2
  go_upto_region 2 with fail
  go_cut [9] (fun s9 wx => wx = w2 /\ s9 = .bool lpB)
  case first =>
    have h9 := HLp.out; unfold lpT at h9; cases q1 : (is == 1) with
    | false =>
      rw [q1,Bool.false_and] at h9; subst h9
      go_wp2_with fail
      go_meet
      exact ⟨rfl,rfl⟩
    | true =>
      rw [q1,Bool.true_and] at h9; subst h9
      go_wp2_with fail
      go_meet
      exact ⟨rfl,by simp⟩
  case rest =>
    obtain ⟨hw,rfl⟩ := hcut; subst wc; cases hs with
    | false =>
      go_wp2_with fail
      go_ret
      exact ⟨by rw [<- HV.out]; first | (simp [*]; done) | (simp []; done) | (simp [*]; done),HB2.out.2⟩
    | true =>
      cases hh : hasB ls nm with
      | true =>
        have HI := HIn.out w2 HB2.out.1 nm; rw [hh] at HI; replace HI : Hid (Calls Tryz.prog 57 #[lv,.string nm] w2 fun e w' => e = .returned (.bool true) /\ w' = w2) := HI
        go_wp2_with fail
        refine HI.out.mono ?_; rintro e w3 ⟨rfl,hw3⟩; subst w3
        go_wp2_with fail
        go_ret
        exact ⟨by rw [<- HV.out]; first | (simp [*]; done) | (simp []; done) | (simp [*]; done),HB2.out.2⟩
      | false =>
        have HI := HIn.out w2 HB2.out.1 nm; rw [hh] at HI; replace HI : Hid (Calls Tryz.prog 57 #[lv,.string nm] w2 fun e w' => e = .returned (.bool false) /\ w' = w2) := HI; cases hd : dix p.Ds nm with
        | none =>
          have HD := HDc.out w2 HB2.out.1 nm; rw [hd] at HD; replace HD : Hid (Calls Tryz.prog 7 #[.agg #[.string p.s,.int .i64 p.wd,.int .i64 p.ln,vD,vB],.string nm] w2 fun e w' => e = .returned (.int .i64 (-1)) /\ Below w2.heap.size w2 w') := HD
          go_wp2_with fail
          refine HI.out.mono ?_; rintro e w3 ⟨rfl,hw3⟩; subst w3
          go_wp2_with fail
          refine HD.out.mono ?_; rintro e w4 ⟨rfl,hb4⟩; have HB4 : Hid (Below w.heap.size w w4) := bnx HB2.out.2 hb4; clear hb4
          go_wp2_with fail
          go_ret
          exact ⟨by rw [<- HV.out]; first | (simp [*]; done) | (simp []; done) | (simp [*]; done),HB4.out⟩
        | some j =>
          have HD := HDc.out w2 HB2.out.1 nm; rw [hd] at HD; replace HD : Hid (Calls Tryz.prog 7 #[.agg #[.string p.s,.int .i64 p.wd,.int .i64 p.ln,vD,vB],.string nm] w2 fun e w' => e = .returned (.int .i64 (j : Int)) /\ Below w2.heap.size w2 w') := HD; have q5 : ¬ (j : Int) < 0 := by omega
          go_wp2_with fail
          refine HI.out.mono ?_; rintro e w3 ⟨rfl,hw3⟩; subst w3
          go_wp2_with fail
          refine HD.out.mono ?_; rintro e w4 ⟨rfl,hb4⟩; have HB4 : Hid (Below w.heap.size w w4) := bnx HB2.out.2 hb4; clear hb4
          go_wp2_with fail
          go_ret
          exact ⟨by rw [<- HV.out]; first | (simp [*]; done) | (simp []; done) | (simp [*]; done),HB4.out⟩
set_option maxHeartbeats 8000000 in
set_option maxRecDepth 100000 in
theorem viol12 {w : World} {P P2 : Nat -> Prop} {p : Pg} {vD vB : Value} (hP : ∀ j,P j -> j < w.heap.size) (hD : RDs w P p.Ds vD) (hn : p.Ds.length <= 1048576) (is dD sk : Int) (ss : ByteArray) (a0 a1 a2 a3 e0 e1 e2 e3 : Value) (lo hi : Int) (t1 t2 : Value) (ek ex : Int) (es : ByteArray) (kv : Value) (dp : Int) (lv : Value) {ls : List ByteArray} (hP2 : ∀ j,P2 j -> j < w.heap.size) (hl : LR w P2 ls lv) (hll : ls.length <= 1048576) (hkn : hsT is sk ek = true -> hasB ls (nmT is sk ek ss es) = true ∨ ∃ j,dix p.Ds (nmT is sk ek ss es) = some j) :
    Calls Tryz.prog 26 #[.agg #[.string p.s,.int .i64 p.wd,.int .i64 p.ln,vD,vB],.agg #[.int .i64 is,.int .i64 dD,.int .i64 sk,.string ss,a0,a1,a2,a3,e0,e1,e2,e3,.int .u64 lo,.int .u64 hi,t1,t2,.int .i64 ek,.int .u64 ex,.string es,kv,.int .i64 dp,lv],.int .i64 12] w fun e w' => e = .returned (.int .i64 (if (hsT is sk ek && !(kdB p.Ds is sk ek ls (nmT is sk ek ss es))) = true then 162 else 0)) /\ Below w.heap.size w w' := by
  obtain ⟨nm,hnm⟩ : ∃ nm,nmT is sk ek ss es = nm := ⟨_,rfl⟩; obtain ⟨hs,hhs⟩ : ∃ hs,hsT is sk ek = hs := ⟨_,rfl⟩; obtain ⟨lpB,hlp⟩ : ∃ lpB,lpT is sk = lpB := ⟨_,rfl⟩; have HLp : Hid (lpT is sk = lpB) := hlp; rw [hnm,hhs] at hkn; rw [hnm,hhs]; obtain ⟨W1,hW1⟩ : ∃ W1,(w.alloc (.cells #[.string p.s,.int .i64 p.wd,.int .i64 p.ln,vD,vB] 25)).alloc (.cells #[.int .i64 is,.int .i64 dD,.int .i64 sk,.string ss,a0,a1,a2,a3,e0,e1,e2,e3,.int .u64 lo,.int .u64 hi,t1,t2,.int .i64 ek,.int .u64 ex,.string es,kv,.int .i64 dp,lv] 80) = W1 := ⟨_,rfl⟩; obtain ⟨Eb,hEb⟩ : ∃ Eb,w.heap.size = Eb := ⟨_,rfl⟩; have hb1 : Below w.heap.size w W1 := by rw [<- hW1]; exact bnx (bel1 _ _) (bel1 _ _)
  have HB1 : Hid (Below w.heap.size w W1) := hb1; have hpx : W1.heap[Eb]? = some (.cells #[.string p.s,.int .i64 p.wd,.int .i64 p.ln,vD,vB] 25 (0,0)) := by rw [<- hW1,<- hEb]; exact blk_next (heap_alloc_new _ _) (bel1 _ _)
  have hbx : W1.heap[Eb + 1]? = some (.cells #[.int .i64 is,.int .i64 dD,.int .i64 sk,.string ss,a0,a1,a2,a3,e0,e1,e2,e3,.int .u64 lo,.int .u64 hi,t1,t2,.int .i64 ek,.int .u64 ex,.string es,kv,.int .i64 dp,lv] 80 (0,0)) := by
    rw [<- hW1,<- hEb]; have h5 := heap_alloc_new (w.alloc (.cells #[.string p.s,.int .i64 p.wd,.int .i64 p.ln,vD,vB] 25)) (.cells #[.int .i64 is,.int .i64 dD,.int .i64 sk,.string ss,a0,a1,a2,a3,e0,e1,e2,e3,.int .u64 lo,.int .u64 hi,t1,t2,.int .i64 ek,.int .u64 ex,.string es,kv,.int .i64 dp,lv] 80)
    simpa using h5
  have HW1 : Hid ((w.alloc (.cells #[.string p.s,.int .i64 p.wd,.int .i64 p.ln,vD,vB] 25)).alloc (.cells #[.int .i64 is,.int .i64 dD,.int .i64 sk,.string ss,a0,a1,a2,a3,e0,e1,e2,e3,.int .u64 lo,.int .u64 hi,t1,t2,.int .i64 ek,.int .u64 ex,.string es,kv,.int .i64 dp,lv] 80) = W1 /\ w.heap.size = Eb) := ⟨hW1,hEb⟩; have HNm : Hid (Calls Tryz.prog 56 #[.agg #[.int .i64 is,.int .i64 dD,.int .i64 sk,.string ss,a0,a1,a2,a3,e0,e1,e2,e3,.int .u64 lo,.int .u64 hi,t1,t2,.int .i64 ek,.int .u64 ex,.string es,kv,.int .i64 dp,lv]] W1 fun e w' => e = .returned (.tuple #[.string nm,.bool hs]) /\ Below W1.heap.size W1 w') := by rw [<- hnm,<- hhs]; exact names_any is dD sk ss a0 a1 a2 a3 e0 e1 e2 e3 lo hi t1 t2 ek ex es kv dp lv W1
  have HPx : Hid (W1.heap[Eb]? = some (.cells #[.string p.s,.int .i64 p.wd,.int .i64 p.ln,vD,vB] 25 (0,0)) /\ W1.heap[Eb + 1]? = some (.cells #[.int .i64 is,.int .i64 dD,.int .i64 sk,.string ss,a0,a1,a2,a3,e0,e1,e2,e3,.int .u64 lo,.int .u64 hi,t1,t2,.int .i64 ek,.int .u64 ex,.string es,kv,.int .i64 dp,lv] 80 (0,0))) := ⟨hpx,hbx⟩; have hKD : ∀ W,Below W1.heap.size W1 W -> (∀ j,P j -> j < W.heap.size) /\ RDs W P p.Ds vD /\ (∀ j,P2 j -> j < W.heap.size) /\ LR W P2 ls lv := fun W hW => ⟨fun j hj => Nat.lt_of_lt_of_le (hP j hj) (Nat.le_trans hb1.size hW.size),hD.keep (fun j hj => (hW.block j (Nat.lt_of_lt_of_le (hP j hj) hb1.size)).trans (hb1.block j (hP j hj))),fun j hj => Nat.lt_of_lt_of_le (hP2 j hj) (Nat.le_trans hb1.size hW.size),hl.keep (fun j hj => (hW.block j (Nat.lt_of_lt_of_le (hP2 j hj) hb1.size)).trans (hb1.block j (hP2 j hj)))⟩
  have HKd : Hid (∀ W,Below W1.heap.size W1 W -> hs = true -> Calls Tryz.prog 58 #[.agg #[.string p.s,.int .i64 p.wd,.int .i64 p.ln,vD,vB],.agg #[.int .i64 is,.int .i64 dD,.int .i64 sk,.string ss,a0,a1,a2,a3,e0,e1,e2,e3,.int .u64 lo,.int .u64 hi,t1,t2,.int .i64 ek,.int .u64 ex,.string es,kv,.int .i64 dp,lv],.string nm] W fun e w' => e = .returned (.bool (kdB p.Ds is sk ek ls nm)) /\ Below W.heap.size W w') := fun W hW hh => kind_any (hKD W hW).1 (hKD W hW).2.1 hn is dD sk ss a0 a1 a2 a3 e0 e1 e2 e3 lo hi t1 t2 ek ex es kv dp lv (hKD W hW).2.2.1 (hKD W hW).2.2.2 hll _ (hkn hh)
  obtain ⟨V,hV⟩ : ∃ V,(if (hs && !(kdB p.Ds is sk ek ls nm)) = true then (162 : Int) else 0) = V := ⟨_,rfl⟩; rw [hV]; have HV : Hid ((if (hs && !(kdB p.Ds is sk ek ls nm)) = true then (162 : Int) else 0) = V) := hV; clear hV; clear hkn; clear hW1 hEb hb1 hpx hbx hnm hhs hlp hKD hP hP2 hD hl
  go_enter Tryz.func26,Tryz.ntmps26
  go_upto_region 1 with fail
  rw [HW1.out.1,HW1.out.2]; refine wp_region_lit ?_; refine wpList_load_row rfl _ _ rfl (Eb + 1) rfl _ _ _ _ HPx.out.2 Tryz.underlying80 rfl (by kernel_rfl) ?_; simp only [Act.put,z0,z1,z2]
  go_wp2_with fail
  refine HNm.out.mono ?_; rintro e w2 ⟨rfl,hb2⟩; have HB2 : Hid (Below W1.heap.size W1 w2 /\ Below w.heap.size w w2) := ⟨hb2,bnx HB1.out hb2⟩; have g2 := blk_next HPx.out.2 hb2; have g1 := blk_next HPx.out.1 hb2; have c0 : w2.cell? ⟨Eb + 1,0,none⟩ = some (.int .i64 is) := cell_of g2 0; have c2 : w2.cell? ⟨Eb + 1,2,none⟩ = some (.int .i64 sk) := cell_of g2 2; have p0 : w2.cell? ⟨Eb,0,none⟩ = some (.string p.s) := cell_of g1 0; have p1 : w2.cell? ⟨Eb,1,none⟩ = some (.int .i64 p.wd) := cell_of g1 1; have p2 : w2.cell? ⟨Eb,2,none⟩ = some (.int .i64 p.ln) := cell_of g1 2; have p3 : w2.cell? ⟨Eb,3,none⟩ = some (vD) := cell_of g1 3; have p4 : w2.cell? ⟨Eb,4,none⟩ = some (vB) := cell_of g1 4; clear hb2 g1 HNm HPx
  go_upto_region 2 with fail
  go_cut [9] (fun s9 wx => wx = w2 /\ s9 = .bool lpB)
  case first =>
    have h9 := HLp.out; unfold lpT at h9; cases q1 : (is == 1) with
    | false =>
      rw [q1,Bool.false_and] at h9; subst h9
      go_wp2_with fail
      go_meet
      exact ⟨rfl,rfl⟩
    | true =>
      rw [q1,Bool.true_and] at h9; subst h9
      go_wp2_with fail
      go_meet
      exact ⟨rfl,by simp⟩
  case rest =>
    obtain ⟨hw,rfl⟩ := hcut; subst wc; cases hs with
    | false =>
      clear g2
      go_wp2_with fail
      go_ret
      exact ⟨by rw [<- HV.out]; first | (simp [*]; done) | (simp []; done) | (simp [*]; done),HB2.out.2⟩
    | true =>
      have HK := HKd.out w2 HB2.out.1 rfl; obtain ⟨kb,hkb⟩ : ∃ kb,kdB p.Ds is sk ek ls nm = kb := ⟨_,rfl⟩; rw [hkb] at HK; replace HK : Hid (Calls Tryz.prog 58 #[.agg #[.string p.s,.int .i64 p.wd,.int .i64 p.ln,vD,vB],.agg #[.int .i64 is,.int .i64 dD,.int .i64 sk,.string ss,a0,a1,a2,a3,e0,e1,e2,e3,.int .u64 lo,.int .u64 hi,t1,t2,.int .i64 ek,.int .u64 ex,.string es,kv,.int .i64 dp,lv],.string nm] w2 fun e w' => e = .returned (.bool kb) /\ Below w2.heap.size w2 w') := HK; have HKb : Hid (kdB p.Ds is sk ek ls nm = kb) := hkb; clear hkb
      go_upto_region 7 with fail
      refine wp_region_lit ?_
      iterate 7 (refine pl_op (v := ?_) (by rfl) ?_ ?_; rotate_left; (focus (go_simp <;> with_reducible rfl)); simp only [Act.put,z0,z1,z2])
      refine pl_op (by rfl) (exec_row _ _ rfl (Eb + 1) rfl _ _ _ _ g2 Tryz.underlying80 rfl (by kernel_rfl)) ?_; simp only [Act.put,z0,z1,z2]; clear g2
      go_wp2_with fail
      refine HK.out.mono ?_; rintro e w4 ⟨rfl,hb4⟩; have HB4 : Hid (Below w.heap.size w w4) := bnx HB2.out.2 hb4; clear hb4; cases kb with
      | false =>
        go_wp2_with fail
        go_ret
        exact ⟨by rw [<- HV.out]; first | (simp [*]; done) | (simp [HKb.out]; done) | (simp [*,HKb.out]; done),HB4.out⟩
      | true =>
        go_wp2_with fail
        go_ret
        exact ⟨by rw [<- HV.out]; first | (simp [*]; done) | (simp [HKb.out]; done) | (simp [*,HKb.out]; done),HB4.out⟩
set_option maxHeartbeats 8000000 in
set_option maxRecDepth 100000 in
theorem viol13 {w : World} {P P2 : Nat -> Prop} {p : Pg} {vD vB : Value} (hP : ∀ j,P j -> j < w.heap.size) (hD : RDs w P p.Ds vD) (_hn : p.Ds.length <= 1048576) (is dD sk : Int) (ss : ByteArray) (a0 a1 a2 a3 e0 e1 e2 e3 : Value) (lo hi : Int) (t1 t2 : Value) (ek ex : Int) (es : ByteArray) (kv : Value) (dp : Int) (lv : Value) {ls : List ByteArray} (hP2 : ∀ j,P2 j -> j < w.heap.size) (hl : LR w P2 ls lv) (_hll : ls.length <= 1048576) (hwd : 0 <= p.wd) :
    Calls Tryz.prog 26 #[.agg #[.string p.s,.int .i64 p.wd,.int .i64 p.ln,vD,vB],.agg #[.int .i64 is,.int .i64 dD,.int .i64 sk,.string ss,a0,a1,a2,a3,e0,e1,e2,e3,.int .u64 lo,.int .u64 hi,t1,t2,.int .i64 ek,.int .u64 ex,.string es,kv,.int .i64 dp,lv],.int .i64 13] w fun e w' => e = .returned (.int .i64 (if (is == 2 && (ek == 1 && !(fitB p.wd ex))) = true then 165 else 0)) /\ Below w.heap.size w w' := by
  obtain ⟨nm,hnm⟩ : ∃ nm,nmT is sk ek ss es = nm := ⟨_,rfl⟩; obtain ⟨hs,hhs⟩ : ∃ hs,hsT is sk ek = hs := ⟨_,rfl⟩; obtain ⟨lpB,hlp⟩ : ∃ lpB,lpT is sk = lpB := ⟨_,rfl⟩; have HLp : Hid (lpT is sk = lpB) := hlp; obtain ⟨W1,hW1⟩ : ∃ W1,(w.alloc (.cells #[.string p.s,.int .i64 p.wd,.int .i64 p.ln,vD,vB] 25)).alloc (.cells #[.int .i64 is,.int .i64 dD,.int .i64 sk,.string ss,a0,a1,a2,a3,e0,e1,e2,e3,.int .u64 lo,.int .u64 hi,t1,t2,.int .i64 ek,.int .u64 ex,.string es,kv,.int .i64 dp,lv] 80) = W1 := ⟨_,rfl⟩; obtain ⟨Eb,hEb⟩ : ∃ Eb,w.heap.size = Eb := ⟨_,rfl⟩; have hb1 : Below w.heap.size w W1 := by rw [<- hW1]; exact bnx (bel1 _ _) (bel1 _ _)
  have HB1 : Hid (Below w.heap.size w W1) := hb1; have hpx : W1.heap[Eb]? = some (.cells #[.string p.s,.int .i64 p.wd,.int .i64 p.ln,vD,vB] 25 (0,0)) := by rw [<- hW1,<- hEb]; exact blk_next (heap_alloc_new _ _) (bel1 _ _)
  have hbx : W1.heap[Eb + 1]? = some (.cells #[.int .i64 is,.int .i64 dD,.int .i64 sk,.string ss,a0,a1,a2,a3,e0,e1,e2,e3,.int .u64 lo,.int .u64 hi,t1,t2,.int .i64 ek,.int .u64 ex,.string es,kv,.int .i64 dp,lv] 80 (0,0)) := by
    rw [<- hW1,<- hEb]; have h5 := heap_alloc_new (w.alloc (.cells #[.string p.s,.int .i64 p.wd,.int .i64 p.ln,vD,vB] 25)) (.cells #[.int .i64 is,.int .i64 dD,.int .i64 sk,.string ss,a0,a1,a2,a3,e0,e1,e2,e3,.int .u64 lo,.int .u64 hi,t1,t2,.int .i64 ek,.int .u64 ex,.string es,kv,.int .i64 dp,lv] 80)
    simpa using h5
  have HW1 : Hid ((w.alloc (.cells #[.string p.s,.int .i64 p.wd,.int .i64 p.ln,vD,vB] 25)).alloc (.cells #[.int .i64 is,.int .i64 dD,.int .i64 sk,.string ss,a0,a1,a2,a3,e0,e1,e2,e3,.int .u64 lo,.int .u64 hi,t1,t2,.int .i64 ek,.int .u64 ex,.string es,kv,.int .i64 dp,lv] 80) = W1 /\ w.heap.size = Eb) := ⟨hW1,hEb⟩; have HNm : Hid (Calls Tryz.prog 56 #[.agg #[.int .i64 is,.int .i64 dD,.int .i64 sk,.string ss,a0,a1,a2,a3,e0,e1,e2,e3,.int .u64 lo,.int .u64 hi,t1,t2,.int .i64 ek,.int .u64 ex,.string es,kv,.int .i64 dp,lv]] W1 fun e w' => e = .returned (.tuple #[.string nm,.bool hs]) /\ Below W1.heap.size W1 w') := by rw [<- hnm,<- hhs]; exact names_any is dD sk ss a0 a1 a2 a3 e0 e1 e2 e3 lo hi t1 t2 ek ex es kv dp lv W1
  have HPx : Hid (W1.heap[Eb]? = some (.cells #[.string p.s,.int .i64 p.wd,.int .i64 p.ln,vD,vB] 25 (0,0)) /\ W1.heap[Eb + 1]? = some (.cells #[.int .i64 is,.int .i64 dD,.int .i64 sk,.string ss,a0,a1,a2,a3,e0,e1,e2,e3,.int .u64 lo,.int .u64 hi,t1,t2,.int .i64 ek,.int .u64 ex,.string es,kv,.int .i64 dp,lv] 80 (0,0))) := ⟨hpx,hbx⟩; have hKD : ∀ W,Below W1.heap.size W1 W -> (∀ j,P j -> j < W.heap.size) /\ RDs W P p.Ds vD /\ (∀ j,P2 j -> j < W.heap.size) /\ LR W P2 ls lv := fun W hW => ⟨fun j hj => Nat.lt_of_lt_of_le (hP j hj) (Nat.le_trans hb1.size hW.size),hD.keep (fun j hj => (hW.block j (Nat.lt_of_lt_of_le (hP j hj) hb1.size)).trans (hb1.block j (hP j hj))),fun j hj => Nat.lt_of_lt_of_le (hP2 j hj) (Nat.le_trans hb1.size hW.size),hl.keep (fun j hj => (hW.block j (Nat.lt_of_lt_of_le (hP2 j hj) hb1.size)).trans (hb1.block j (hP2 j hj)))⟩
  have HFt : Hid (∀ W x,Calls Tryz.prog 53 #[.int .i64 p.wd,.int .u64 x] W fun e w' => e = .returned (.bool (fitB p.wd x)) /\ w' = W) := fun W x => rfits_any p.wd x W hwd
  obtain ⟨V,hV⟩ : ∃ V,(if (is == 2 && (ek == 1 && !(fitB p.wd ex))) = true then (165 : Int) else 0) = V := ⟨_,rfl⟩; rw [hV]; have HV : Hid ((if (is == 2 && (ek == 1 && !(fitB p.wd ex))) = true then (165 : Int) else 0) = V) := hV; clear hV; clear hW1 hEb hb1 hpx hbx hnm hhs hlp hKD hP hP2 hD hl
  go_enter Tryz.func26,Tryz.ntmps26
  go_upto_region 1 with fail
  rw [HW1.out.1,HW1.out.2]; refine wp_region_lit ?_; refine wpList_load_row rfl _ _ rfl (Eb + 1) rfl _ _ _ _ HPx.out.2 Tryz.underlying80 rfl (by kernel_rfl) ?_; simp only [Act.put,z0,z1,z2]
  go_wp2_with fail
  refine HNm.out.mono ?_; rintro e w2 ⟨rfl,hb2⟩; have HB2 : Hid (Below W1.heap.size W1 w2 /\ Below w.heap.size w w2) := ⟨hb2,bnx HB1.out hb2⟩; have g2 := blk_next HPx.out.2 hb2; have g1 := blk_next HPx.out.1 hb2; have c0 : w2.cell? ⟨Eb + 1,0,none⟩ = some (.int .i64 is) := cell_of g2 0; have c2 : w2.cell? ⟨Eb + 1,2,none⟩ = some (.int .i64 sk) := cell_of g2 2; have c16 : w2.cell? ⟨Eb + 1,16,none⟩ = some (.int .i64 ek) := cell_of g2 16; have c17 : w2.cell? ⟨Eb + 1,17,none⟩ = some (.int .u64 ex) := cell_of g2 17; have p0 : w2.cell? ⟨Eb,0,none⟩ = some (.string p.s) := cell_of g1 0; have p1 : w2.cell? ⟨Eb,1,none⟩ = some (.int .i64 p.wd) := cell_of g1 1; have p2 : w2.cell? ⟨Eb,2,none⟩ = some (.int .i64 p.ln) := cell_of g1 2; have p3 : w2.cell? ⟨Eb,3,none⟩ = some (vD) := cell_of g1 3; have p4 : w2.cell? ⟨Eb,4,none⟩ = some (vB) := cell_of g1 4; clear hb2 g1 HNm HPx g2
  go_upto_region 2 with fail
  go_cut [9] (fun s9 wx => wx = w2 /\ s9 = .bool lpB)
  case first =>
    have h9 := HLp.out; unfold lpT at h9; cases q1 : (is == 1) with
    | false =>
      rw [q1,Bool.false_and] at h9; subst h9
      go_wp2_with fail
      go_meet
      exact ⟨rfl,rfl⟩
    | true =>
      rw [q1,Bool.true_and] at h9; subst h9
      go_wp2_with fail
      go_meet
      exact ⟨rfl,by simp⟩
  case rest =>
    obtain ⟨hw,rfl⟩ := hcut; subst wc; cases q1 : (is == 2) with
    | false =>
      go_wp2_with fail
      go_ret
      exact ⟨by rw [<- HV.out]; first | (simp [*]; done) | (simp []; done) | (simp [*]; done),HB2.out.2⟩
    | true =>
      cases q2 : (ek == 1) with
      | false =>
        go_wp2_with fail
        go_ret
        exact ⟨by rw [<- HV.out]; first | (simp [*]; done) | (simp []; done) | (simp [*]; done),HB2.out.2⟩
      | true =>
        have HF := HFt.out w2 ex; obtain ⟨fb,hfb⟩ : ∃ fb,fitB p.wd ex = fb := ⟨_,rfl⟩; rw [hfb] at HF; replace HF : Hid (Calls Tryz.prog 53 #[.int .i64 p.wd,.int .u64 ex] w2 fun e w' => e = .returned (.bool fb) /\ w' = w2) := HF; have HFb : Hid (fitB p.wd ex = fb) := hfb; clear hfb HFt
        go_wp2_with fail
        refine HF.out.mono ?_; rintro e w3 ⟨rfl,hw3⟩; subst w3; cases fb with
        | false =>
          go_wp2_with fail
          go_ret
          exact ⟨by rw [<- HV.out]; first | (simp [*]; done) | (simp [HFb.out]; done) | (simp [*,HFb.out]; done),HB2.out.2⟩
        | true =>
          go_wp2_with fail
          go_ret
          exact ⟨by rw [<- HV.out]; first | (simp [*]; done) | (simp [HFb.out]; done) | (simp [*,HFb.out]; done),HB2.out.2⟩
set_option maxHeartbeats 8000000 in
set_option maxRecDepth 100000 in
theorem viol14 {w : World} {P P2 : Nat -> Prop} {p : Pg} {vD vB : Value} (hP : ∀ j,P j -> j < w.heap.size) (hD : RDs w P p.Ds vD) (_hn : p.Ds.length <= 1048576) (is dD sk : Int) (ss : ByteArray) (a0 a1 a2 a3 e0 e1 e2 e3 : Value) (lo hi : Int) (t1 t2 : Value) (ek ex : Int) (es : ByteArray) (kv : Value) (dp : Int) (lv : Value) {ls : List ByteArray} (hP2 : ∀ j,P2 j -> j < w.heap.size) (hl : LR w P2 ls lv) (_hll : ls.length <= 1048576) (hwd : 0 <= p.wd) :
    Calls Tryz.prog 26 #[.agg #[.string p.s,.int .i64 p.wd,.int .i64 p.ln,vD,vB],.agg #[.int .i64 is,.int .i64 dD,.int .i64 sk,.string ss,a0,a1,a2,a3,e0,e1,e2,e3,.int .u64 lo,.int .u64 hi,t1,t2,.int .i64 ek,.int .u64 ex,.string es,kv,.int .i64 dp,lv],.int .i64 14] w fun e w' => e = .returned (.int .i64 (if (lpT is sk && (decide (hi < lo) || (decide (0 < hi) && !(fitB p.wd (IntKind.u64.wrap (hi - 1)))))) = true then 166 else 0)) /\ Below w.heap.size w w' := by
  obtain ⟨nm,hnm⟩ : ∃ nm,nmT is sk ek ss es = nm := ⟨_,rfl⟩; obtain ⟨hs,hhs⟩ : ∃ hs,hsT is sk ek = hs := ⟨_,rfl⟩; obtain ⟨lpB,hlp⟩ : ∃ lpB,lpT is sk = lpB := ⟨_,rfl⟩; have HLp : Hid (lpT is sk = lpB) := hlp; rw [hlp]; obtain ⟨W1,hW1⟩ : ∃ W1,(w.alloc (.cells #[.string p.s,.int .i64 p.wd,.int .i64 p.ln,vD,vB] 25)).alloc (.cells #[.int .i64 is,.int .i64 dD,.int .i64 sk,.string ss,a0,a1,a2,a3,e0,e1,e2,e3,.int .u64 lo,.int .u64 hi,t1,t2,.int .i64 ek,.int .u64 ex,.string es,kv,.int .i64 dp,lv] 80) = W1 := ⟨_,rfl⟩; obtain ⟨Eb,hEb⟩ : ∃ Eb,w.heap.size = Eb := ⟨_,rfl⟩; have hb1 : Below w.heap.size w W1 := by rw [<- hW1]; exact bnx (bel1 _ _) (bel1 _ _)
  have HB1 : Hid (Below w.heap.size w W1) := hb1; have hpx : W1.heap[Eb]? = some (.cells #[.string p.s,.int .i64 p.wd,.int .i64 p.ln,vD,vB] 25 (0,0)) := by rw [<- hW1,<- hEb]; exact blk_next (heap_alloc_new _ _) (bel1 _ _)
  have hbx : W1.heap[Eb + 1]? = some (.cells #[.int .i64 is,.int .i64 dD,.int .i64 sk,.string ss,a0,a1,a2,a3,e0,e1,e2,e3,.int .u64 lo,.int .u64 hi,t1,t2,.int .i64 ek,.int .u64 ex,.string es,kv,.int .i64 dp,lv] 80 (0,0)) := by
    rw [<- hW1,<- hEb]; have h5 := heap_alloc_new (w.alloc (.cells #[.string p.s,.int .i64 p.wd,.int .i64 p.ln,vD,vB] 25)) (.cells #[.int .i64 is,.int .i64 dD,.int .i64 sk,.string ss,a0,a1,a2,a3,e0,e1,e2,e3,.int .u64 lo,.int .u64 hi,t1,t2,.int .i64 ek,.int .u64 ex,.string es,kv,.int .i64 dp,lv] 80)
    simpa using h5
  have HW1 : Hid ((w.alloc (.cells #[.string p.s,.int .i64 p.wd,.int .i64 p.ln,vD,vB] 25)).alloc (.cells #[.int .i64 is,.int .i64 dD,.int .i64 sk,.string ss,a0,a1,a2,a3,e0,e1,e2,e3,.int .u64 lo,.int .u64 hi,t1,t2,.int .i64 ek,.int .u64 ex,.string es,kv,.int .i64 dp,lv] 80) = W1 /\ w.heap.size = Eb) := ⟨hW1,hEb⟩; have HNm : Hid (Calls Tryz.prog 56 #[.agg #[.int .i64 is,.int .i64 dD,.int .i64 sk,.string ss,a0,a1,a2,a3,e0,e1,e2,e3,.int .u64 lo,.int .u64 hi,t1,t2,.int .i64 ek,.int .u64 ex,.string es,kv,.int .i64 dp,lv]] W1 fun e w' => e = .returned (.tuple #[.string nm,.bool hs]) /\ Below W1.heap.size W1 w') := by rw [<- hnm,<- hhs]; exact names_any is dD sk ss a0 a1 a2 a3 e0 e1 e2 e3 lo hi t1 t2 ek ex es kv dp lv W1
  have HPx : Hid (W1.heap[Eb]? = some (.cells #[.string p.s,.int .i64 p.wd,.int .i64 p.ln,vD,vB] 25 (0,0)) /\ W1.heap[Eb + 1]? = some (.cells #[.int .i64 is,.int .i64 dD,.int .i64 sk,.string ss,a0,a1,a2,a3,e0,e1,e2,e3,.int .u64 lo,.int .u64 hi,t1,t2,.int .i64 ek,.int .u64 ex,.string es,kv,.int .i64 dp,lv] 80 (0,0))) := ⟨hpx,hbx⟩; have hKD : ∀ W,Below W1.heap.size W1 W -> (∀ j,P j -> j < W.heap.size) /\ RDs W P p.Ds vD /\ (∀ j,P2 j -> j < W.heap.size) /\ LR W P2 ls lv := fun W hW => ⟨fun j hj => Nat.lt_of_lt_of_le (hP j hj) (Nat.le_trans hb1.size hW.size),hD.keep (fun j hj => (hW.block j (Nat.lt_of_lt_of_le (hP j hj) hb1.size)).trans (hb1.block j (hP j hj))),fun j hj => Nat.lt_of_lt_of_le (hP2 j hj) (Nat.le_trans hb1.size hW.size),hl.keep (fun j hj => (hW.block j (Nat.lt_of_lt_of_le (hP2 j hj) hb1.size)).trans (hb1.block j (hP2 j hj)))⟩
  have HFt : Hid (∀ W x,Calls Tryz.prog 53 #[.int .i64 p.wd,.int .u64 x] W fun e w' => e = .returned (.bool (fitB p.wd x)) /\ w' = W) := fun W x => rfits_any p.wd x W hwd
  obtain ⟨V,hV⟩ : ∃ V,(if (lpB && (decide (hi < lo) || (decide (0 < hi) && !(fitB p.wd (IntKind.u64.wrap (hi - 1)))))) = true then (166 : Int) else 0) = V := ⟨_,rfl⟩; rw [hV]; have HV : Hid ((if (lpB && (decide (hi < lo) || (decide (0 < hi) && !(fitB p.wd (IntKind.u64.wrap (hi - 1)))))) = true then (166 : Int) else 0) = V) := hV; clear hV; clear hW1 hEb hb1 hpx hbx hnm hhs hlp hKD hP hP2 hD hl
  go_enter Tryz.func26,Tryz.ntmps26
  go_upto_region 1 with fail
  rw [HW1.out.1,HW1.out.2]; refine wp_region_lit ?_; refine wpList_load_row rfl _ _ rfl (Eb + 1) rfl _ _ _ _ HPx.out.2 Tryz.underlying80 rfl (by kernel_rfl) ?_; simp only [Act.put,z0,z1,z2]
  go_wp2_with fail
  refine HNm.out.mono ?_; rintro e w2 ⟨rfl,hb2⟩; have HB2 : Hid (Below W1.heap.size W1 w2 /\ Below w.heap.size w w2) := ⟨hb2,bnx HB1.out hb2⟩; have g2 := blk_next HPx.out.2 hb2; have g1 := blk_next HPx.out.1 hb2; have c0 : w2.cell? ⟨Eb + 1,0,none⟩ = some (.int .i64 is) := cell_of g2 0; have c2 : w2.cell? ⟨Eb + 1,2,none⟩ = some (.int .i64 sk) := cell_of g2 2; have c12 : w2.cell? ⟨Eb + 1,12,none⟩ = some (.int .u64 lo) := cell_of g2 12; have c13 : w2.cell? ⟨Eb + 1,13,none⟩ = some (.int .u64 hi) := cell_of g2 13; have p0 : w2.cell? ⟨Eb,0,none⟩ = some (.string p.s) := cell_of g1 0; have p1 : w2.cell? ⟨Eb,1,none⟩ = some (.int .i64 p.wd) := cell_of g1 1; have p2 : w2.cell? ⟨Eb,2,none⟩ = some (.int .i64 p.ln) := cell_of g1 2; have p3 : w2.cell? ⟨Eb,3,none⟩ = some (vD) := cell_of g1 3; have p4 : w2.cell? ⟨Eb,4,none⟩ = some (vB) := cell_of g1 4; clear hb2 g1 HNm HPx g2
  go_upto_region 2 with fail
  go_cut [9] (fun s9 wx => wx = w2 /\ s9 = .bool lpB)
  case first =>
    have h9 := HLp.out; unfold lpT at h9; cases q1 : (is == 1) with
    | false =>
      rw [q1,Bool.false_and] at h9; subst h9
      go_wp2_with fail
      go_meet
      exact ⟨rfl,rfl⟩
    | true =>
      rw [q1,Bool.true_and] at h9; subst h9
      go_wp2_with fail
      go_meet
      exact ⟨rfl,by simp⟩
  case rest =>
    obtain ⟨hw,rfl⟩ := hcut; subst wc; cases lpB with
    | false =>
      go_wp2_with fail
      go_ret
      exact ⟨by rw [<- HV.out]; first | (simp [*]; done) | (simp []; done) | (simp [*]; done),HB2.out.2⟩
    | true =>
      by_cases hgt : hi < lo
      · have q2 : decide (hi < lo) = true := by simp [hgt]
        go_wp2_with fail
        go_ret
        exact ⟨by rw [<- HV.out]; first | (simp [*]; done) | (simp [hgt]; done) | (simp [*,hgt]; done),HB2.out.2⟩
      have q2 : decide (hi < lo) = false := by simp [hgt]
      by_cases hps : 0 < hi
      · have q3 : decide (0 < hi) = true := by simp [hps]
        obtain ⟨h1,hh1⟩ : ∃ h1,IntKind.u64.wrap (hi - 1) = h1 := ⟨_,rfl⟩; have HF := HFt.out w2 h1; obtain ⟨fb,hfb⟩ : ∃ fb,fitB p.wd h1 = fb := ⟨_,rfl⟩; rw [hfb] at HF; replace HF : Hid (Calls Tryz.prog 53 #[.int .i64 p.wd,.int .u64 h1] w2 fun e w' => e = .returned (.bool fb) /\ w' = w2) := HF; have HFb : Hid (fitB p.wd (IntKind.u64.wrap (hi - 1)) = fb) := by show _ = _; rw [hh1]; exact hfb
        clear hfb HFt
        go_wp2_with fail
        refine HF.out.mono ?_; rintro e w3 ⟨rfl,hw3⟩; subst w3; clear hh1; cases fb with
        | false =>
          go_wp2_with fail
          go_ret
          exact ⟨by rw [<- HV.out]; first | (simp [*]; done) | (simp [HFb.out]; done) | (simp [*,HFb.out]; done),HB2.out.2⟩
        | true =>
          go_wp2_with fail
          go_ret
          exact ⟨by rw [<- HV.out]; first | (simp [*]; done) | (simp [HFb.out]; done) | (simp [*,HFb.out]; done),HB2.out.2⟩
      have q3 : decide (0 < hi) = false := by simp [hps]
      go_wp2_with fail
      go_ret
      exact ⟨by rw [<- HV.out]; first | (simp [*]; done) | (simp [hgt,hps]; done) | (simp [*,hgt,hps]; done),HB2.out.2⟩
set_option maxHeartbeats 8000000 in
set_option maxRecDepth 100000 in
theorem viol15 {w : World} {P P2 : Nat -> Prop} {p : Pg} {vD vB : Value} (hP : ∀ j,P j -> j < w.heap.size) (hD : RDs w P p.Ds vD) (hn : p.Ds.length <= 1048576) (is dD sk : Int) (ss : ByteArray) (a0 a1 a2 a3 e0 e1 e2 e3 : Value) (lo hi : Int) (t1 t2 : Value) (ek ex : Int) (es : ByteArray) (kv : Value) (dp : Int) (lv : Value) {ls : List ByteArray} (hP2 : ∀ j,P2 j -> j < w.heap.size) (hl : LR w P2 ls lv) (hll : ls.length <= 1048576) :
    Calls Tryz.prog 26 #[.agg #[.string p.s,.int .i64 p.wd,.int .i64 p.ln,vD,vB],.agg #[.int .i64 is,.int .i64 dD,.int .i64 sk,.string ss,a0,a1,a2,a3,e0,e1,e2,e3,.int .u64 lo,.int .u64 hi,t1,t2,.int .i64 ek,.int .u64 ex,.string es,kv,.int .i64 dp,lv],.int .i64 15] w fun e w' => e = .returned (.int .i64 (if (lpT is sk && ((dix p.Ds ss).isSome || hasB ls ss)) = true then 167 else 0)) /\ Below w.heap.size w w' := by
  obtain ⟨nm,hnm⟩ : ∃ nm,nmT is sk ek ss es = nm := ⟨_,rfl⟩; obtain ⟨hs,hhs⟩ : ∃ hs,hsT is sk ek = hs := ⟨_,rfl⟩; obtain ⟨lpB,hlp⟩ : ∃ lpB,lpT is sk = lpB := ⟨_,rfl⟩; have HLp : Hid (lpT is sk = lpB) := hlp; rw [hlp]; obtain ⟨W1,hW1⟩ : ∃ W1,(w.alloc (.cells #[.string p.s,.int .i64 p.wd,.int .i64 p.ln,vD,vB] 25)).alloc (.cells #[.int .i64 is,.int .i64 dD,.int .i64 sk,.string ss,a0,a1,a2,a3,e0,e1,e2,e3,.int .u64 lo,.int .u64 hi,t1,t2,.int .i64 ek,.int .u64 ex,.string es,kv,.int .i64 dp,lv] 80) = W1 := ⟨_,rfl⟩; obtain ⟨Eb,hEb⟩ : ∃ Eb,w.heap.size = Eb := ⟨_,rfl⟩; have hb1 : Below w.heap.size w W1 := by rw [<- hW1]; exact bnx (bel1 _ _) (bel1 _ _)
  have HB1 : Hid (Below w.heap.size w W1) := hb1; have hpx : W1.heap[Eb]? = some (.cells #[.string p.s,.int .i64 p.wd,.int .i64 p.ln,vD,vB] 25 (0,0)) := by rw [<- hW1,<- hEb]; exact blk_next (heap_alloc_new _ _) (bel1 _ _)
  have hbx : W1.heap[Eb + 1]? = some (.cells #[.int .i64 is,.int .i64 dD,.int .i64 sk,.string ss,a0,a1,a2,a3,e0,e1,e2,e3,.int .u64 lo,.int .u64 hi,t1,t2,.int .i64 ek,.int .u64 ex,.string es,kv,.int .i64 dp,lv] 80 (0,0)) := by
    rw [<- hW1,<- hEb]; have h5 := heap_alloc_new (w.alloc (.cells #[.string p.s,.int .i64 p.wd,.int .i64 p.ln,vD,vB] 25)) (.cells #[.int .i64 is,.int .i64 dD,.int .i64 sk,.string ss,a0,a1,a2,a3,e0,e1,e2,e3,.int .u64 lo,.int .u64 hi,t1,t2,.int .i64 ek,.int .u64 ex,.string es,kv,.int .i64 dp,lv] 80)
    simpa using h5
  have HW1 : Hid ((w.alloc (.cells #[.string p.s,.int .i64 p.wd,.int .i64 p.ln,vD,vB] 25)).alloc (.cells #[.int .i64 is,.int .i64 dD,.int .i64 sk,.string ss,a0,a1,a2,a3,e0,e1,e2,e3,.int .u64 lo,.int .u64 hi,t1,t2,.int .i64 ek,.int .u64 ex,.string es,kv,.int .i64 dp,lv] 80) = W1 /\ w.heap.size = Eb) := ⟨hW1,hEb⟩; have HNm : Hid (Calls Tryz.prog 56 #[.agg #[.int .i64 is,.int .i64 dD,.int .i64 sk,.string ss,a0,a1,a2,a3,e0,e1,e2,e3,.int .u64 lo,.int .u64 hi,t1,t2,.int .i64 ek,.int .u64 ex,.string es,kv,.int .i64 dp,lv]] W1 fun e w' => e = .returned (.tuple #[.string nm,.bool hs]) /\ Below W1.heap.size W1 w') := by rw [<- hnm,<- hhs]; exact names_any is dD sk ss a0 a1 a2 a3 e0 e1 e2 e3 lo hi t1 t2 ek ex es kv dp lv W1
  have HPx : Hid (W1.heap[Eb]? = some (.cells #[.string p.s,.int .i64 p.wd,.int .i64 p.ln,vD,vB] 25 (0,0)) /\ W1.heap[Eb + 1]? = some (.cells #[.int .i64 is,.int .i64 dD,.int .i64 sk,.string ss,a0,a1,a2,a3,e0,e1,e2,e3,.int .u64 lo,.int .u64 hi,t1,t2,.int .i64 ek,.int .u64 ex,.string es,kv,.int .i64 dp,lv] 80 (0,0))) := ⟨hpx,hbx⟩; have hKD : ∀ W,Below W1.heap.size W1 W -> (∀ j,P j -> j < W.heap.size) /\ RDs W P p.Ds vD /\ (∀ j,P2 j -> j < W.heap.size) /\ LR W P2 ls lv := fun W hW => ⟨fun j hj => Nat.lt_of_lt_of_le (hP j hj) (Nat.le_trans hb1.size hW.size),hD.keep (fun j hj => (hW.block j (Nat.lt_of_lt_of_le (hP j hj) hb1.size)).trans (hb1.block j (hP j hj))),fun j hj => Nat.lt_of_lt_of_le (hP2 j hj) (Nat.le_trans hb1.size hW.size),hl.keep (fun j hj => (hW.block j (Nat.lt_of_lt_of_le (hP2 j hj) hb1.size)).trans (hb1.block j (hP2 j hj)))⟩
  have HIn : Hid (∀ W,Below W1.heap.size W1 W -> ∀ s,Calls Tryz.prog 57 #[lv,.string s] W fun e w' => e = .returned (.bool (hasB ls s)) /\ w' = W) := fun W hW s => in_any (hKD W hW).2.2.2 hll s
  have HDc : Hid (∀ W,Below W1.heap.size W1 W -> ∀ s,Calls Tryz.prog 7 #[.agg #[.string p.s,.int .i64 p.wd,.int .i64 p.ln,vD,vB],.string s] W fun e w' => e = .returned (.int .i64 (match dix p.Ds s with | none => -1 | some j => (j : Int))) /\ Below W.heap.size W w') := fun W hW s => decl_any (hKD W hW).1 (hKD W hW).2.1 hn s
  obtain ⟨V,hV⟩ : ∃ V,(if (lpB && ((dix p.Ds ss).isSome || hasB ls ss)) = true then (167 : Int) else 0) = V := ⟨_,rfl⟩; rw [hV]; have HV : Hid ((if (lpB && ((dix p.Ds ss).isSome || hasB ls ss)) = true then (167 : Int) else 0) = V) := hV; clear hV; clear hW1 hEb hb1 hpx hbx hnm hhs hlp hKD hP hP2 hD hl
  go_enter Tryz.func26,Tryz.ntmps26
  go_upto_region 1 with fail
  rw [HW1.out.1,HW1.out.2]; refine wp_region_lit ?_; refine wpList_load_row rfl _ _ rfl (Eb + 1) rfl _ _ _ _ HPx.out.2 Tryz.underlying80 rfl (by kernel_rfl) ?_; simp only [Act.put,z0,z1,z2]
  go_wp2_with fail
  refine HNm.out.mono ?_; rintro e w2 ⟨rfl,hb2⟩; have HB2 : Hid (Below W1.heap.size W1 w2 /\ Below w.heap.size w w2) := ⟨hb2,bnx HB1.out hb2⟩; have g2 := blk_next HPx.out.2 hb2; have g1 := blk_next HPx.out.1 hb2; have c0 : w2.cell? ⟨Eb + 1,0,none⟩ = some (.int .i64 is) := cell_of g2 0; have c2 : w2.cell? ⟨Eb + 1,2,none⟩ = some (.int .i64 sk) := cell_of g2 2; have c3 : w2.cell? ⟨Eb + 1,3,none⟩ = some (.string ss) := cell_of g2 3; have c21 : w2.cell? ⟨Eb + 1,21,none⟩ = some (lv) := cell_of g2 21; have p0 : w2.cell? ⟨Eb,0,none⟩ = some (.string p.s) := cell_of g1 0; have p1 : w2.cell? ⟨Eb,1,none⟩ = some (.int .i64 p.wd) := cell_of g1 1; have p2 : w2.cell? ⟨Eb,2,none⟩ = some (.int .i64 p.ln) := cell_of g1 2; have p3 : w2.cell? ⟨Eb,3,none⟩ = some (vD) := cell_of g1 3; have p4 : w2.cell? ⟨Eb,4,none⟩ = some (vB) := cell_of g1 4; clear hb2 g1 HNm HPx g2
  go_upto_region 2 with fail
  go_cut [9] (fun s9 wx => wx = w2 /\ s9 = .bool lpB)
  case first =>
    have h9 := HLp.out; unfold lpT at h9; cases q1 : (is == 1) with
    | false =>
      rw [q1,Bool.false_and] at h9; subst h9
      go_wp2_with fail
      go_meet
      exact ⟨rfl,rfl⟩
    | true =>
      rw [q1,Bool.true_and] at h9; subst h9
      go_wp2_with fail
      go_meet
      exact ⟨rfl,by simp⟩
  case rest =>
    obtain ⟨hw,rfl⟩ := hcut; subst wc; cases lpB with
    | false =>
      go_wp2_with fail
      go_ret
      exact ⟨by rw [<- HV.out]; first | (simp [*]; done) | (simp []; done) | (simp [*]; done),HB2.out.2⟩
    | true =>
      cases hd : dix p.Ds ss with
      | some j =>
        have HD := HDc.out w2 HB2.out.1 ss; rw [hd] at HD; replace HD : Hid (Calls Tryz.prog 7 #[.agg #[.string p.s,.int .i64 p.wd,.int .i64 p.ln,vD,vB],.string ss] w2 fun e w' => e = .returned (.int .i64 (j : Int)) /\ Below w2.heap.size w2 w') := HD; have q5 : (j : Int) ≥ 0 := by omega
        go_wp2_with fail
        refine HD.out.mono ?_; rintro e w4 ⟨rfl,hb4⟩; have HB4 : Hid (Below w.heap.size w w4) := bnx HB2.out.2 hb4; clear hb4
        go_wp2_with fail
        go_ret
        exact ⟨by rw [<- HV.out]; first | (simp [*]; done) | (simp []; done) | (simp [*]; done),HB4.out⟩
      | none =>
        have HD := HDc.out w2 HB2.out.1 ss; rw [hd] at HD; replace HD : Hid (Calls Tryz.prog 7 #[.agg #[.string p.s,.int .i64 p.wd,.int .i64 p.ln,vD,vB],.string ss] w2 fun e w' => e = .returned (.int .i64 (-1)) /\ Below w2.heap.size w2 w') := HD
        go_wp2_with fail
        refine HD.out.mono ?_; rintro e w4 ⟨rfl,hb4⟩; have HB4 : Hid (Below w.heap.size w w4) := bnx HB2.out.2 hb4; have d3 : w4.cell? ⟨Eb + 1,3,none⟩ = some (.string ss) := (hb4.cell (p := ⟨Eb + 1,3,none⟩) (cell_lt c3)).trans c3; have d21 : w4.cell? ⟨Eb + 1,21,none⟩ = some lv := (hb4.cell (p := ⟨Eb + 1,21,none⟩) (cell_lt c3)).trans c21; have HI := HIn.out w4 (bnx HB2.out.1 hb4) ss; obtain ⟨ib,hib⟩ : ∃ ib,hasB ls ss = ib := ⟨_,rfl⟩; rw [hib] at HI; replace HI : Hid (Calls Tryz.prog 57 #[lv,.string ss] w4 fun e w' => e = .returned (.bool ib) /\ w' = w4) := HI; have HIb : Hid (hasB ls ss = ib) := hib; clear hb4 hib
        go_wp2_with fail
        refine HI.out.mono ?_; rintro e w5 ⟨rfl,hw5⟩; subst w5; cases ib with
        | false =>
          go_wp2_with fail
          go_ret
          exact ⟨by rw [<- HV.out]; first | (simp [*]; done) | (simp [HIb.out]; done) | (simp [*,HIb.out]; done),HB4.out⟩
        | true =>
          go_wp2_with fail
          go_ret
          exact ⟨by rw [<- HV.out]; first | (simp [*]; done) | (simp [HIb.out]; done) | (simp [*,HIb.out]; done),HB4.out⟩
end Go.Proofs.YtfljcdccepnidaaGreatDoor
