import Derived.Test.YtfljcdccepnidaaGreatDoorSqA
import Derived.Test.YtfljcdccepnidaaGreatDoorWvB
import Derived.Test.YtfljcdccepnidaaGreatDoorWuZb
import Derived.Deep.Cut
import Derived.Deep.DeepCutAuto
namespace Go.Proofs.YtfljcdccepnidaaGreatDoor
open Go.ChangeShapes Go.WideShapes Go.ChangeAt Go.RowKit Go.Lib

def kdB (Ds : List Dd) (is sk ek : Int) (ls : List ByteArray) (s : ByteArray) : Bool := if hasB ls s = true then (is == 2 && ek == 2) else match dix Ds s with
  | none => false
  | some j => if is = 2 /\ ek = 2 then (Ds.getD j dd0).z == 0 else if is = 2 then (Ds.getD j dd0).z != 0 else if sk = 2 then ((Ds.getD j dd0).z != 0 && (Ds.getD j dd0).k != 3) else (Ds.getD j dd0).z == 0
theorem set4 {w : World} {g : Nat} {t : TypeId} {u0 u1 u2 u3 : Value} (v0 v1 v2 v3 : Value) (h : w.heap[g]? = some (.cells #[u0,u1,u2,u3] t (0,0))) : ((((w.setCell ⟨g,0,none⟩ v0).setCell ⟨g,1,none⟩ v1).setCell ⟨g,2,none⟩ v2).setCell ⟨g,3,none⟩ v3).heap[g]? = some (.cells #[v0,v1,v2,v3] t (0,0)) := by
  rw [heap_setCell_same _ _ 3 _ _ _ (heap_setCell_same _ _ 2 _ _ _ (heap_setCell_same _ _ 1 _ _ _ (heap_setCell_same _ _ 0 _ _ _ h)))]
  simp
theorem bel4 {B : Nat} {a w : World} {g : Nat} (h : Below B a w) (hg : B <= g) (v0 v1 v2 v3 : Value) : Below B a ((((w.setCell ⟨g,0,none⟩ v0).setCell ⟨g,1,none⟩ v1).setCell ⟨g,2,none⟩ v2).setCell ⟨g,3,none⟩ v3) := (((h.setCell (p := ⟨g,0,none⟩) hg _).setCell (p := ⟨g,1,none⟩) hg _).setCell (p := ⟨g,2,none⟩) hg _).setCell (p := ⟨g,3,none⟩) hg _
set_option maxHeartbeats 8000000 in
set_option maxRecDepth 100000 in
theorem kind_any {w : World} {P P2 : Nat -> Prop} {p : Pg} {vD vB : Value} (hP : ∀ j,P j -> j < w.heap.size) (hD : RDs w P p.Ds vD) (hn : p.Ds.length <= 1048576) (is dD sk : Int) (ss : ByteArray) (a0 a1 a2 a3 e0 e1 e2 e3 : Value) (lo hi : Int) (t1 t2 : Value) (ek ex : Int) (es : ByteArray) (kv : Value) (dp : Int) (lv : Value) {ls : List ByteArray} (hP2 : ∀ j,P2 j -> j < w.heap.size) (hl : LR w P2 ls lv) (hll : ls.length <= 1048576) (s : ByteArray) (hk : hasB ls s = true ∨ ∃ j,dix p.Ds s = some j) :
    Calls Tryz.prog 58 #[.agg #[.string p.s,.int .i64 p.wd,.int .i64 p.ln,vD,vB],.agg #[.int .i64 is,.int .i64 dD,.int .i64 sk,.string ss,a0,a1,a2,a3,e0,e1,e2,e3,.int .u64 lo,.int .u64 hi,t1,t2,.int .i64 ek,.int .u64 ex,.string es,kv,.int .i64 dp,lv],.string s] w fun e w' => e = .returned (.bool (kdB p.Ds is sk ek ls s)) /\ Below w.heap.size w w' := by
  obtain ⟨W1,hW1⟩ : ∃ W1,(w.alloc (.cells #[.string p.s,.int .i64 p.wd,.int .i64 p.ln,vD,vB] 25)).alloc (.cells #[.int .i64 is,.int .i64 dD,.int .i64 sk,.string ss,a0,a1,a2,a3,e0,e1,e2,e3,.int .u64 lo,.int .u64 hi,t1,t2,.int .i64 ek,.int .u64 ex,.string es,kv,.int .i64 dp,lv] 80) = W1 := ⟨_,rfl⟩; obtain ⟨Eb,hEb⟩ : ∃ Eb,w.heap.size = Eb := ⟨_,rfl⟩; have hb1 : Below w.heap.size w W1 := by rw [<- hW1]; exact bnx (bel1 _ _) (bel1 _ _)
  have HB1 : Hid (Below w.heap.size w W1) := hb1; have hpx : W1.heap[Eb]? = some (.cells #[.string p.s,.int .i64 p.wd,.int .i64 p.ln,vD,vB] 25 (0,0)) := by rw [<- hW1,<- hEb]; exact blk_next (heap_alloc_new _ _) (bel1 _ _)
  have hbx : W1.heap[Eb + 1]? = some (.cells #[.int .i64 is,.int .i64 dD,.int .i64 sk,.string ss,a0,a1,a2,a3,e0,e1,e2,e3,.int .u64 lo,.int .u64 hi,t1,t2,.int .i64 ek,.int .u64 ex,.string es,kv,.int .i64 dp,lv] 80 (0,0)) := by
    rw [<- hW1,<- hEb]; have h5 := heap_alloc_new (w.alloc (.cells #[.string p.s,.int .i64 p.wd,.int .i64 p.ln,vD,vB] 25)) (.cells #[.int .i64 is,.int .i64 dD,.int .i64 sk,.string ss,a0,a1,a2,a3,e0,e1,e2,e3,.int .u64 lo,.int .u64 hi,t1,t2,.int .i64 ek,.int .u64 ex,.string es,kv,.int .i64 dp,lv] 80)
    simpa using h5
  have c0 : W1.cell? ⟨Eb + 1,0,none⟩ = some (.int .i64 is) := cell_of hbx 0; have c2 : W1.cell? ⟨Eb + 1,2,none⟩ = some (.int .i64 sk) := cell_of hbx 2; have c16 : W1.cell? ⟨Eb + 1,16,none⟩ = some (.int .i64 ek) := cell_of hbx 16; have c21 : W1.cell? ⟨Eb + 1,21,none⟩ = some (lv) := cell_of hbx 21; have p0 : W1.cell? ⟨Eb,0,none⟩ = some (.string p.s) := cell_of hpx 0; have p1 : W1.cell? ⟨Eb,1,none⟩ = some (.int .i64 p.wd) := cell_of hpx 1; have p2 : W1.cell? ⟨Eb,2,none⟩ = some (.int .i64 p.ln) := cell_of hpx 2; have p3 : W1.cell? ⟨Eb,3,none⟩ = some (vD) := cell_of hpx 3; have p4 : W1.cell? ⟨Eb,4,none⟩ = some (vB) := cell_of hpx 4; have HW1 : Hid ((w.alloc (.cells #[.string p.s,.int .i64 p.wd,.int .i64 p.ln,vD,vB] 25)).alloc (.cells #[.int .i64 is,.int .i64 dD,.int .i64 sk,.string ss,a0,a1,a2,a3,e0,e1,e2,e3,.int .u64 lo,.int .u64 hi,t1,t2,.int .i64 ek,.int .u64 ex,.string es,kv,.int .i64 dp,lv] 80) = W1 /\ w.heap.size = Eb) := ⟨hW1,hEb⟩; have HIn : Hid (Calls Tryz.prog 57 #[lv,.string s] W1 fun e w' => e = .returned (.bool (hasB ls s)) /\ w' = W1) := in_any (hl.keep (fun j hj => hb1.block j (hP2 j hj))) hll s; have HDc : Hid (∀ W,Below W1.heap.size W1 W -> Calls Tryz.prog 7 #[.agg #[.string p.s,.int .i64 p.wd,.int .i64 p.ln,vD,vB],.string s] W fun e w' => e = .returned (.int .i64 (match dix p.Ds s with | none => -1 | some j => (j : Int))) /\ Below W.heap.size W w') := fun W hW => decl_any (fun j hj => Nat.lt_of_lt_of_le (hP j hj) (Nat.le_trans hb1.size hW.size)) (hD.keep (fun j hj => (hW.block j (Nat.lt_of_lt_of_le (hP j hj) hb1.size)).trans (hb1.block j (hP j hj)))) hn s
  have hD1 := hD.keep (fun j hj => hb1.block j (hP j hj)); have hPl : ∀ j,P j -> j < W1.heap.size := fun j hj => Nat.lt_of_lt_of_le (hP j hj) hb1.size
  have hlE : W1.heap.size = Eb + 1 + 1 := by rw [<- hW1,<- hEb]; simp
  clear hW1 hEb hb1 hD hP hP2 hl hn; unfold kdB; cases hh : hasB ls s with
  | true =>
    rw [hh] at HIn; rw [if_pos rfl]; clear hk hh hD1 hPl hlE hpx hbx HDc
    by_cases h2 : is = 2
    · subst h2
      by_cases k2 : ek = 2
      · subst k2
        go_enter Tryz.func58,Tryz.ntmps58
        go_upto_region 1 with fail
        rw [HW1.out.1,HW1.out.2]
        go_wp2_with fail
        refine HIn.out.mono ?_; rintro e w2 ⟨rfl,hw2⟩; subst w2
        go_wp2_with fail
        go_ret
        exact ⟨by simp,HB1.out⟩
      have q2 : (ek == 2) = false := by simp [k2]
      rw [q2]
      go_enter Tryz.func58,Tryz.ntmps58
      go_upto_region 1 with fail
      rw [HW1.out.1,HW1.out.2]
      go_wp2_with fail
      refine HIn.out.mono ?_; rintro e w2 ⟨rfl,hw2⟩; subst w2
      go_wp2_with fail
      go_ret
      exact ⟨by simp,HB1.out⟩
    have q2 : (is == 2) = false := by simp [h2]
    rw [q2]
    go_enter Tryz.func58,Tryz.ntmps58
    go_upto_region 1 with fail
    rw [HW1.out.1,HW1.out.2]
    go_wp2_with fail
    refine HIn.out.mono ?_; rintro e w2 ⟨rfl,hw2⟩; subst w2
    go_wp2_with fail
    go_ret
    exact ⟨by simp,HB1.out⟩
  | false =>
    rw [hh] at HIn; rw [if_neg (by simp)]; obtain ⟨j,hj⟩ : ∃ j,dix p.Ds s = some j := by
      rcases hk with h | h
      · rw [hh] at h; cases h
      exact h
    rw [hj] at HDc; rw [hj]
    dsimp only at HDc ⊢
    have hjl := dix_lt hj; obtain ⟨ad,cap,rfl,hc⟩ := hD1; obtain ⟨b,o,rfl,hPb,hc⟩ := hc (by omega); obtain ⟨v0,v1,v2,v3,d0,d1,d2,d3,aV,cV,e5,_⟩ := hc j hjl; cases e5; have hbl := hPl b hPb; obtain ⟨d,hd⟩ : ∃ d,p.Ds.getD j dd0 = d := ⟨_,rfl⟩; rw [hd] at d0 d1 d2 d3; rw [hd]; obtain ⟨m,hm⟩ : ∃ m,p.Ds.length = m := ⟨_,rfl⟩; rw [hm] at p3 hjl HW1 HDc; rw [hm]; have q0 : (0 : Int) <= (j : Int) := by omega
    have q1 : (j : Int) < (m : Int) := by omega
    have HDl : Hid (b < W1.heap.size /\ W1.heap.size = Eb + 1 + 1) := ⟨hbl,hlE⟩; have HKp : Hid (∀ W,Below W1.heap.size W1 W -> Aside (Below W1.heap.size W1 W) /\ W.cell? ⟨Eb,0,none⟩ = some (.string p.s) /\ W.cell? ⟨Eb,1,none⟩ = some (.int .i64 p.wd) /\ W.cell? ⟨Eb,2,none⟩ = some (.int .i64 p.ln) /\ W.cell? ⟨Eb,3,none⟩ = some (.slice (some ⟨b,o,none⟩) m cap) /\ W.cell? ⟨Eb,4,none⟩ = some vB /\ W.cell? ⟨b,o + j * 4,none⟩ = some (.int .i64 d.k) /\ W.cell? ⟨b,o + j * 4 + 1,none⟩ = some (.string d.s) /\ W.cell? ⟨b,o + j * 4 + 2,none⟩ = some (.int .i64 d.z) /\ W.cell? ⟨b,o + j * 4 + 3,none⟩ = some (.slice aV d.vs.length cV)) := fun W hW => by
      have e1 : ∀ i,W.cell? ⟨Eb,i,none⟩ = W1.cell? ⟨Eb,i,none⟩ := fun i => hW.cell (p := ⟨Eb,i,none⟩) (by show Eb < _; omega)
      have e2 : ∀ i,W.cell? ⟨b,i,none⟩ = W1.cell? ⟨b,i,none⟩ := fun i => hW.cell (p := ⟨b,i,none⟩) hbl
      exact ⟨hW,(e1 _).trans p0,(e1 _).trans p1,(e1 _).trans p2,(e1 _).trans p3,(e1 _).trans p4,(e2 _).trans d0,(e2 _).trans d1,(e2 _).trans d2,(e2 _).trans d3⟩
    have HCT : Hid (∀ W,Below W1.heap.size W1 W -> W.cell? ⟨Eb + 1,0,none⟩ = some (.int .i64 is) /\ W.cell? ⟨Eb + 1,2,none⟩ = some (.int .i64 sk) /\ W.cell? ⟨Eb + 1,16,none⟩ = some (.int .i64 ek)) := fun W hW => by
      have e1 : ∀ i,W.cell? ⟨Eb + 1,i,none⟩ = W1.cell? ⟨Eb + 1,i,none⟩ := fun i => hW.cell (p := ⟨Eb + 1,i,none⟩) (by show Eb + 1 < _; omega)
      exact ⟨(e1 _).trans c0,(e1 _).trans c2,(e1 _).trans c16⟩
    clear hh hj hc hd hm hPl hPb hbl hlE hpx hbx hk hjl d0 d1 d2 d3 p0 p1 p2 p3 p4 c0 c2 c16
    generalize d.vs.length = dl at *
    obtain ⟨V,hV⟩ : ∃ V,(if is = 2 /\ ek = 2 then d.z == 0 else if is = 2 then d.z != 0 else if sk = 2 then (d.z != 0 && d.k != 3) else d.z == 0) = V := ⟨_,rfl⟩; rw [hV]; have HV : Hid ((if is = 2 /\ ek = 2 then d.z == 0 else if is = 2 then d.z != 0 else if sk = 2 then (d.z != 0 && d.k != 3) else d.z == 0) = V) := hV; clear hV
    go_enter Tryz.func58,Tryz.ntmps58
    go_upto_region 1 with fail
    rw [HW1.out.1,HW1.out.2]
    go_wp2_with fail
    refine HIn.out.mono ?_; rintro e w2 ⟨rfl,hw2⟩; subst w2
    go_upto_region 3 with fail
    go_cut [7] (fun s7 wx => ∃ g,s7 = .pointer (some ⟨g,0,none⟩) /\ Aside (wx.heap[g]? = some (.cells #[.int .i64 d.k,.string d.s,.int .i64 d.z,.slice aV dl cV] 34 (0,0)) /\ Below W1.heap.size W1 wx))
    case first =>
      refine wp_region_held_drew (S := (fun W => Aside (Below W1.heap.size W1 W) /\ W.cell? ⟨Eb,0,none⟩ = some (.string p.s) /\ W.cell? ⟨Eb,1,none⟩ = some (.int .i64 p.wd) /\ W.cell? ⟨Eb,2,none⟩ = some (.int .i64 p.ln) /\ W.cell? ⟨Eb,3,none⟩ = some (.slice (some ⟨b,o,none⟩) m cap) /\ W.cell? ⟨Eb,4,none⟩ = some vB /\ W.cell? ⟨b,o + j * 4,none⟩ = some (.int .i64 d.k) /\ W.cell? ⟨b,o + j * 4 + 1,none⟩ = some (.string d.s) /\ W.cell? ⟨b,o + j * 4 + 2,none⟩ = some (.int .i64 d.z) /\ W.cell? ⟨b,o + j * 4 + 3,none⟩ = some (.slice aV dl cV))) (by kernel_rfl) (HKp.out _ (Below.refl _ _).drew) (fun hHeld => ?_); refine sr_of [4,7,8] [0,1,2,3] 4 7 [5,6,7,8] [4,5,6,8] (by kernel_rfl) hHeld ?_
      repeat (refine sr_op (v := ?_) (by rfl) (by rfl) (by rfl) ?_ ?_; rotate_left; (focus (intro w hSw; (try dsimp only at hSw); go_simp <;> with_reducible rfl)); simp only [Act.put,z0,z1,z2])
      refine sr_fork (by rfl) (by rfl) (by rfl) (by rfl) (fun K hK => ?_) (fun K hK => ?_)
      · go_simp
        go_at_call 7
        refine (HDc.out _ hHeld.1.out).mono ?_; rintro e w5 ⟨rfl,hb5⟩; have hx5 := HKp.out w5 (bnx hHeld.1.out hb5); clear hb5 hHeld; refine hK.out _ _ hx5 (fun _ => ?_); clear hK K
        try simp only [Act.put,z0,z1,z2]
        repeat (refine sq_op (v := ?_) (by rfl) (by rfl) (by rfl) ?_ ?_; rotate_left; (focus (intro w hSw; (try dsimp only at hSw); go_simp <;> with_reducible rfl)); simp only [Act.put,z0,z1,z2])
        obtain ⟨g,hg⟩ : ∃ g,w5.heap.size = g := ⟨_,rfl⟩; obtain ⟨w6,hw6⟩ : ∃ w6,w5.alloc (.cells #[.int .i64 0,.string ⟨#[]⟩,.int .i64 0,.slice none 0 0] 34) = w6 := ⟨_,rfl⟩; have k6 : w6.heap[g]? = some (.cells #[.int .i64 0,.string ⟨#[]⟩,.int .i64 0,.slice none 0 0] 34 (0,0)) := by rw [<- hw6,<- hg]; exact heap_alloc_new _ _
        have HB6 : Hid (Below W1.heap.size W1 w6 /\ W1.heap.size <= g) := by rw [<- hw6,<- hg]; exact ⟨hx5.1.out.alloc hx5.1.out.size _,hx5.1.out.size⟩
        have HW6 : Hid (w5.alloc (.cells #[.int .i64 0,.string ⟨#[]⟩,.int .i64 0,.slice none 0 0] 34) = w6 /\ w5.heap.size = g) := ⟨hw6,hg⟩; clear hw6 hg; refine sq_do (by rfl) (by rfl) (by rfl) (fun K hK => ?_)
        go_simp
        rw [HW6.out.1,HW6.out.2]; refine hK.out _ _ (HKp.out _ HB6.out.1) (fun _ => ?_); clear hK K hx5
        try simp only [Act.put,z0,z1,z2]
        have z0 : w6.cell? ⟨g,0,none⟩ = some (.int .i64 0) := cell_of k6 0; have z1 : w6.cell? ⟨g,1,none⟩ = some (.string ⟨#[]⟩) := cell_of k6 1; have z2 : w6.cell? ⟨g,2,none⟩ = some (.int .i64 0) := cell_of k6 2; have z3 : w6.cell? ⟨g,3,none⟩ = some (.slice none 0 0) := cell_of k6 3; have f0 := fz_of k6 0; have f1 := fz_of k6 1; have f2 := fz_of k6 2; have f3 := fz_of k6 3; have HK6 : Hid (w6.heap[g]? = some (.cells #[.int .i64 0,.string ⟨#[]⟩,.int .i64 0,.slice none 0 0] 34 (0,0))) := k6; clear k6; refine sq_do (by rfl) (by rfl) (by rfl) (fun K hK => ?_)
        go_simp
        refine hK.out _ _ (HKp.out _ (bel4 HB6.out.1 HB6.out.2 _ _ _ _)) (fun _ => ?_); refine sq_end (fun _ => ?_); clear hK K z0 z1 z2 z3 f0 f1 f2 f3
        try go_wp2_with fail
        go_meet
        exact ⟨g,rfl,set4 _ _ _ _ HK6.out,bel4 HB6.out.1 HB6.out.2 _ _ _ _⟩
      obtain ⟨g,hg⟩ : ∃ g,W1.drew.heap.size = g := ⟨_,rfl⟩; obtain ⟨w6,hw6⟩ : ∃ w6,W1.drew.alloc (.cells #[.int .i64 0,.string ⟨#[]⟩,.int .i64 0,.slice none 0 0] 34) = w6 := ⟨_,rfl⟩; have k6 : w6.heap[g]? = some (.cells #[.int .i64 0,.string ⟨#[]⟩,.int .i64 0,.slice none 0 0] 34 (0,0)) := by rw [<- hw6,<- hg]; exact heap_alloc_new _ _
      have HB6 : Hid (Below W1.heap.size W1 w6 /\ W1.heap.size <= g) := by rw [<- hw6,<- hg]; exact ⟨hHeld.1.out.alloc hHeld.1.out.size _,hHeld.1.out.size⟩
      have HW6 : Hid (W1.drew.alloc (.cells #[.int .i64 0,.string ⟨#[]⟩,.int .i64 0,.slice none 0 0] 34) = w6 /\ W1.drew.heap.size = g) := ⟨hw6,hg⟩; clear hw6 hg
      go_simp
      rw [show (W1.alloc (.cells #[.int .i64 0,.string ⟨#[]⟩,.int .i64 0,.slice none 0 0] 34)).drew = w6 from HW6.out.1,show W1.heap.size = g from HW6.out.2]; refine hK.out _ _ (HKp.out _ HB6.out.1) (fun _ => ?_); clear hK K hHeld
      try simp only [Act.put,z0,z1,z2]
      refine sq_do (by rfl) (by rfl) (by rfl) (fun K hK => ?_)
      go_simp
      go_at_call 7
      refine (HDc.out _ HB6.out.1).mono ?_; rintro e w5 ⟨rfl,hb5⟩; have k5 := blk_next k6 hb5; have HB5 : Hid (Below W1.heap.size W1 w5) := bnx HB6.out.1 hb5; clear hb5 k6; refine hK.out _ _ (HKp.out _ HB5.out) (fun _ => ?_); clear hK K
      try simp only [Act.put,z0,z1,z2]
      repeat (refine sq_op (v := ?_) (by rfl) (by rfl) (by rfl) ?_ ?_; rotate_left; (focus (intro w hSw; (try dsimp only at hSw); go_simp <;> with_reducible rfl)); simp only [Act.put,z0,z1,z2])
      have z0 : w5.cell? ⟨g,0,none⟩ = some (.int .i64 0) := cell_of k5 0; have z1 : w5.cell? ⟨g,1,none⟩ = some (.string ⟨#[]⟩) := cell_of k5 1; have z2 : w5.cell? ⟨g,2,none⟩ = some (.int .i64 0) := cell_of k5 2; have z3 : w5.cell? ⟨g,3,none⟩ = some (.slice none 0 0) := cell_of k5 3; have f0 := fz_of k5 0; have f1 := fz_of k5 1; have f2 := fz_of k5 2; have f3 := fz_of k5 3; have HK6 : Hid (w5.heap[g]? = some (.cells #[.int .i64 0,.string ⟨#[]⟩,.int .i64 0,.slice none 0 0] 34 (0,0))) := k5; clear k5; refine sq_do (by rfl) (by rfl) (by rfl) (fun K hK => ?_)
      go_simp
      refine hK.out _ _ (HKp.out _ (bel4 HB5.out HB6.out.2 _ _ _ _)) (fun _ => ?_); refine sq_end (fun _ => ?_); clear hK K z0 z1 z2 z3 f0 f1 f2 f3
      try go_wp2_with fail
      go_meet
      exact ⟨g,rfl,set4 _ _ _ _ HK6.out,bel4 HB5.out HB6.out.2 _ _ _ _⟩
    case rest =>
      obtain ⟨g,rfl,hgc,hgb⟩ := hcut; have HBz : Hid (Below w.heap.size w wc) := bnx HB1.out hgb; obtain ⟨c0,c2,c16⟩ := HCT.out _ hgb; have z0 : wc.cell? ⟨g,0,none⟩ = some (.int .i64 d.k) := cell_of hgc 0; have z2 : wc.cell? ⟨g,2,none⟩ = some (.int .i64 d.z) := cell_of hgc 2; clear hgc hgb HCT HKp HDc HIn HDl q0 q1
      generalize d.k = dk at *
      generalize d.z = dz at *
      by_cases h2 : is = 2
      · subst h2
        by_cases k2 : ek = 2
        · subst k2
          have hv := HV.out; rw [if_pos (by omega)] at hv; subst hv
          go_wp2_with fail
          go_ret
          exact ⟨by simp,HBz.out⟩
        have q2 : (ek == 2) = false := by simp [k2]
        have hv := HV.out; rw [if_neg (by omega),if_pos rfl] at hv; subst hv
        go_wp2_with fail
        go_ret
        exact ⟨by simp,HBz.out⟩
      have q2 : (is == 2) = false := by simp [h2]
      have hv := HV.out; rw [if_neg (by omega),if_neg h2] at hv
      by_cases k2 : sk = 2
      · subst k2
        rw [if_pos rfl] at hv
        by_cases hz : dz = 0
        · subst hz
          replace hv : false = V := by rw [<- hv]; simp
          subst hv
          go_wp2_with fail
          go_ret
          exact ⟨by simp,HBz.out⟩
        have q3 : (dz != 0) = true := by simp [hz]
        rw [q3,Bool.true_and] at hv; subst hv
        go_wp2_with fail
        go_ret
        exact ⟨by simp,HBz.out⟩
      have q3 : (sk == 2) = false := by simp [k2]
      rw [if_neg k2] at hv; subst hv
      go_wp2_with fail
      go_ret
      exact ⟨by simp,HBz.out⟩
end Go.Proofs.YtfljcdccepnidaaGreatDoor
