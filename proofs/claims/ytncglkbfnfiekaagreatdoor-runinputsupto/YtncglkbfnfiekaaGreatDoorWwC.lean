import Derived.Test.YtncglkbfnfiekaaGreatDoorSqA
import Derived.Test.YtncglkbfnfiekaaGreatDoorWwB
namespace Go.Proofs.YtncglkbfnfiekaaGreatDoor
open Go.ChangeShapes Go.WideShapes Go.ChangeAt Go.RowKit Go.Lib

set_option maxHeartbeats 16000000 in
set_option maxRecDepth 100000 in
theorem pub17_any {w : World} {P : Nat -> Prop} {N n : Nat} {p : Pg} {vD vB : Value} (fb : Bool) (hfb : fb = true ↔ okPf p) (hg : RG p) (hDs : RDs w P p.Ds vD) (hBs : RB w P (N + 1) (n + 1) p.Bs vB) (hP : ∀ j,P j -> j < w.heap.size) :
    Calls Tryz.prog 9 #[.agg #[.string p.s,.int .i64 p.wd,.int .i64 p.ln,vD,vB]] w fun e w' => ∃ er L a c,e = .returned (.tuple #[.slice a L.length c,.int .i64 er]) /\ IAns fb p er L /\ B6 w' (fun b => w.heap.size <= b /\ b < w'.heap.size) L a /\ L.length <= 65536 /\ Below w.heap.size w w' := by
  obtain ⟨aD,m,cD,rfl,hm⟩ : ∃ aD m cD,vD = .slice aD m cD /\ p.Ds.length = m := by
    obtain ⟨aD,cD,rfl,-⟩ := hDs; exact ⟨aD,_,cD,rfl,rfl⟩
  obtain ⟨W1,hW1⟩ : ∃ W1,(w.alloc (.cells #[.string p.s,.int .i64 p.wd,.int .i64 p.ln,.slice aD m cD,vB] 25)) = W1 := ⟨_,rfl⟩; obtain ⟨Eb,hEb⟩ : ∃ Eb,w.heap.size = Eb := ⟨_,rfl⟩; have hb1 : Below w.heap.size w W1 := by rw [<- hW1]; exact bel1 _ _
  have hbx : W1.heap[Eb]? = some (.cells #[.string p.s,.int .i64 p.wd,.int .i64 p.ln,.slice aD m cD,vB] 25 (0,0)) := by rw [<- hW1,<- hEb]; exact heap_alloc_new _ _
  have HW1 : Hid ((w.alloc (.cells #[.string p.s,.int .i64 p.wd,.int .i64 p.ln,.slice aD m cD,vB] 25)) = W1 /\ w.heap.size = Eb) := ⟨hW1,hEb⟩; have HBx : Hid (∀ W,Below W1.heap.size W1 W -> W.cell? ⟨Eb,0,none⟩ = some (.string p.s) /\ W.cell? ⟨Eb,1,none⟩ = some (.int .i64 p.wd) /\ W.cell? ⟨Eb,2,none⟩ = some (.int .i64 p.ln) /\ W.cell? ⟨Eb,3,none⟩ = some (.slice aD m cD) /\ W.cell? ⟨Eb,4,none⟩ = some (vB)) := fun W h => by
    have h2 := blk_next hbx h; exact ⟨cell_of h2 0,cell_of h2 1,cell_of h2 2,cell_of h2 3,cell_of h2 4⟩
  have hR : ∀ W,Below W1.heap.size W1 W -> RDs W P p.Ds (.slice aD m cD) /\ RB W P (N + 1) (n + 1) p.Bs vB /\ ∀ j,P j -> j < W.heap.size := fun W h => ⟨hDs.keep (fun j hj => (bnx hb1 h).block j (hP j hj)),hBs.keep (fun j hj => (bnx hb1 h).block j (hP j hj)),fun j hj => Nat.lt_of_lt_of_le (hP j hj) (bnx hb1 h).size⟩
  have HD : Hid (∀ W,Below W1.heap.size W1 W -> ∀ j,j < m -> DC p aD W j) := fun W h j hj => dc_of (hR W h).1 (hR W h).2.2 (by omega)
  have HM : Hid (p.Ds.length = m) := hm; have HRS : Hid (∀ c a,FAns fb p c a 0 -> m <= 256 /\ ∀ j,j < m -> 0 <= (p.Ds.getD j dd0).z /\ (p.Ds.getD j dd0).z <= 256 /\ 1 <= (p.Ds.getD j dd0).k) := fun c a h => by
    have := right_inputs h hfb; rw [hm] at this; exact this
  have HC : Hid (Calls Tryz.prog 19 #[.agg #[.string p.s,.int .i64 p.wd,.int .i64 p.ln,.slice aD m cD,vB]] W1 fun e w' => ∃ c a er,e = .returned (.int .i64 er) /\ FAns fb p c a er /\ Below W1.heap.size W1 w') := check16_any fb hfb hg (hR W1 (Below.refl _ _)).1 (hR W1 (Below.refl _ _)).2.1 (hR W1 (Below.refl _ _)).2.2; obtain ⟨PP,hPP⟩ : ∃ PP : Int -> List Bool -> Option Addr -> World -> Prop,PP = fun er L a w' => IAns fb p er L /\ B6 w' (fun b => w.heap.size <= b /\ b < w'.heap.size) L a /\ L.length <= 65536 /\ Below w.heap.size w w' := ⟨_,rfl⟩
  have HPP : Hid (∀ er L a w',IAns fb p er L -> B6 w' (fun b => W1.heap.size <= b /\ b < w'.heap.size) L a -> L.length <= 65536 -> Below W1.heap.size W1 w' -> PP er L a w') := fun er L a w' h1 h2 h3 h4 => by
    rw [hPP]; refine ⟨h1,fun h0 => ?_,h3,bnx hb1 h4⟩; obtain ⟨b,o,e,hb,hc⟩ := h2 h0; exact ⟨b,o,e,⟨Nat.le_trans hb1.size hb.1,hb.2⟩,hc⟩
  have HGo : Hid (∀ (e : Ending) (w' : World),(∃ (er : Int) (L : List Bool) (a : Option Addr) (c : Nat),e = Ending.returned (.tuple #[.slice a L.length c,.int .i64 er]) /\ PP er L a w') -> ∃ er L a c,e = .returned (.tuple #[.slice a L.length c,.int .i64 er]) /\ IAns fb p er L /\ B6 w' (fun b => w.heap.size <= b /\ b < w'.heap.size) L a /\ L.length <= 65536 /\ Below w.heap.size w w') := fun e w' h => by rw [hPP] at h; exact h
  refine Calls.mono (R := fun (e : Ending) (w' : World) => ∃ (er : Int) (L : List Bool) (a : Option Addr) (c : Nat),e = Ending.returned (.tuple #[.slice a L.length c,.int .i64 er]) /\ PP er L a w') ?_ (fun e w' h => HGo.out e w' h); obtain ⟨i0,hi0,hz0,hz1,hz2⟩ := info_parts (P := Tryz.prog) (e := 4) (z := .bool false) (size := 1) (bytes := 1) (by kernel_rfl); have HI0 : Hid (Tryz.prog.info? 4 = some i0 /\ i0.zero = some (.bool false) /\ i0.size = 1 /\ i0.bytes = 1) := ⟨hi0,hz0,hz1,hz2⟩; obtain ⟨b0,b1,b2,b3,b4⟩ := HBx.out W1 (Below.refl _ _); clear hW1 hEb hb1 hbx hR hDs hBs hP hg hfb hm hPP HGo hi0 hz0 hz1 hz2
  go_enter Tryz.func9,Tryz.ntmps9
  go_upto_region 1 with fail
  rw [HW1.out.1,HW1.out.2]
  go_wp2_with fail
  refine HC.out.mono ?_; rintro e w2 ⟨c,a,er,rfl,hF,h2⟩; have H2 : Hid (Below W1.heap.size W1 w2) := h2; clear b0 b1 b2 b3 b4 h2 HC; obtain ⟨c0,c1,c2,c3,c4⟩ := HBx.out w2 H2.out
  by_cases he : er = 0
  rotate_left
  · have q1 : (er != 0) = true := by simpa using he
    have HZ : Hid (PP er [] none w2) := HPP.out _ _ _ _ ⟨c,a,er,hF,rfl,Or.inl ⟨he,rfl⟩⟩ (fun h0 => absurd h0 (by simp)) (by simp) H2.out; clear he hF
    go_wp2_with fail
    exact ⟨rfl,_,by simp [results,Tryz.results9,go_sem],_,[],none,0,rfl,HZ.out⟩
  subst he; obtain ⟨hm3,hz3⟩ := HRS.out c a hF; have HZr : Hid (∀ j,j < m -> 0 <= (p.Ds.getD j dd0).z /\ (p.Ds.getD j dd0).z <= 256 /\ 1 <= (p.Ds.getD j dd0).k) := hz3; have HF : Hid (FAns fb p c a 0) := hF; have HE2 : Hid (∀ W,Below w2.heap.size w2 W -> Below W1.heap.size W1 W) := fun W h => bnx H2.out h
  have HGd : Hid (∀ W L a cc,W.ownsRow w2.heap.size 4 1 (.slice a L.length cc) L.length (b6V L) -> L = inF p.Ds -> L.length <= 65536 -> Below w2.heap.size w2 W -> PP 0 L a W) := fun W L a cc h1 h2 h3 h4 => HPP.out _ _ _ _ ⟨c,_,0,HF.out,rfl,Or.inr ⟨rfl,h2⟩⟩ (fun h0 => by
    obtain ⟨b,o,e,hb,hc⟩ := (row_b6 h1).2 h0; exact ⟨b,o,e,⟨Nat.le_trans H2.out.size hb.1,hb.2⟩,hc⟩) h3 (HE2.out _ h4)
  clear hF hz3 HRS
  go_wp2_with fail
  clear c0 c1 c2 c3 c4
  go_loopg [5,6] m (fun gk v5 v6 wr => ∃ (j lO cO : Nat) (aO : Option Addr),v6 = .int .i64 (j : Int) /\ v5 = .slice aO lO cO /\ j + gk = m /\ Aside (Below w2.heap.size w2 wr /\ ∃ L : List Bool,lO = L.length /\ wr.ownsRow w2.heap.size 4 1 (.slice aO lO cO) lO (b6V L) /\ IQ p j L))
  case atStart => exact ⟨0,0,0,none,rfl,rfl,by omega,Below.refl _ _,[],rfl,World.ownsRow_nil _ _ _ _,IQ.zero p⟩
  case round =>
    obtain ⟨j,lO,cO,aO,rfl,rfl,hj,HR⟩ := hrel; obtain ⟨c0,c1,c2,c3,c4⟩ := HBx.out wr (HE2.out _ HR.out.1)
    by_cases hlt : j < m
    · have q1 : (j : Int) < (m : Int) := by omega
      obtain ⟨b,o,dk,ds,dz,nv,aV,cV,rfl,HE0,d0,d1,d2,d3,-,-⟩ := HD.out wr (HE2.out _ HR.out.1) j hlt; have HE : Hid (dk = (p.Ds.getD j dd0).k /\ ds = (p.Ds.getD j dd0).s /\ dz = (p.Ds.getD j dd0).z /\ nv = (p.Ds.getD j dd0).vs.length) := HE0; have HjD : Hid (j < p.Ds.length) := by rw [HM.out]; exact hlt
      have hzz := HZr.out j hlt; rw [<- HE.out.2.2.1,<- HE.out.1] at hzz; obtain ⟨V,hV⟩ : ∃ V : Nat,max dz 1 = (V : Int) := ⟨(max dz 1).toNat,by omega⟩; have hV1 : 1 <= V /\ V <= 256 := by omega
      have hk1 : 1 <= dk := hzz.2.2; have HV : Hid (max (p.Ds.getD j dd0).z 1 = (V : Int)) := by show _ = _; rw [<- HE.out.2.2.1]; exact hV
      have HCw : Hid (∀ W,Calls Tryz.prog 20 #[.agg #[.int .i64 dk,.string ds,.int .i64 dz,.slice aV nv cV]] W fun e w' => e = .returned (.int .i64 (V : Int)) /\ Below W.heap.size W w') := fun W => by
        have h5 := words17_any dk dz ds (.slice aV nv cV) W; rw [hV] at h5; exact h5
      obtain ⟨W3,hW3⟩ : ∃ W3,wr.alloc (.cells #[.int .i64 dk,.string ds,.int .i64 dz,.slice aV nv cV] 46) = W3 := ⟨_,rfl⟩; obtain ⟨Db,hDb⟩ : ∃ Db,wr.heap.size = Db := ⟨_,rfl⟩; have HW3 : Hid (wr.alloc (.cells #[.int .i64 dk,.string ds,.int .i64 dz,.slice aV nv cV] 46) = W3 /\ wr.heap.size = Db) := ⟨hW3,hDb⟩; have hb3 : Below wr.heap.size wr W3 := by rw [<- hW3]; exact bel1 _ _
      have hk3 : W3.heap[Db]? = some (.cells #[.int .i64 dk,.string ds,.int .i64 dz,.slice aV nv cV] 46 (0,0)) := by rw [<- hW3,<- hDb]; exact heap_alloc_new _ _
      obtain ⟨L,eL,hrow,hIQ⟩ := HR.out.2; have hll : lO <= 65536 := by have h7 := hIQ.2; rw [<- eL] at h7; omega
      have HeL : Hid (lO = L.length /\ IQ p j L) := ⟨eL,hIQ⟩; have H3 : Hid (Below w2.heap.size w2 W3 /\ W3.heap[Db]? = some (.cells #[.int .i64 dk,.string ds,.int .i64 dz,.slice aV nv cV] 46 (0,0)) /\ (Value.slice aO lO cO).ownBlock ≠ some Db /\ W3.ownsRow w2.heap.size 4 1 (.slice aO lO cO) lO (b6V L)) := ⟨bnx HR.out.1 hb3,hk3,fun e => by have := hrow.lt Db e; omega,row_below hrow hb3⟩; clear HE0 c0 c1 c2 c4 hW3 hDb hb3 hk3 hV hzz eL hrow hIQ
      go_upto_region 9 with fail
      rw [HW3.out.1,HW3.out.2]; clear d0 d1 d2 d3 c3
      by_cases hk2 : dk <= 2
      · obtain ⟨bb,qb⟩ : ∃ bb,(dk == 1) = bb := ⟨_,rfl⟩
        have HI : Hid (∀ X,X = List.replicate V bb -> IQ p (j + 1) (L ++ X)) := fun X e => by
          subst e; exact HeL.out.2.next HjD.out (inD_in (by rw [<- HE.out.1]; omega) HV.out (by rw [<- HE.out.1]; exact qb)) (HZr.out j hlt).2.1
        go_wp2_with fail
        go_loopg [5,8] (V + 1) (fun gk v5 v8 wi => ∃ (k lX cX : Nat) (aX : Option Addr),v8 = .int .i64 (k : Int) /\ v5 = .slice aX lX cX /\ k + gk = V + 1 /\ k <= V /\ lX <= lO + V /\ Aside (lX = lO + k /\ Below w2.heap.size w2 wi /\ wi.heap[Db]? = some (.cells #[.int .i64 dk,.string ds,.int .i64 dz,.slice aV nv cV] 46 (0,0)) /\ (Value.slice aX lX cX).ownBlock ≠ some Db /\ wi.ownsRow w2.heap.size 4 1 (.slice aX lX cX) lX (b6V (L ++ List.replicate k bb))))
        case atStart => exact ⟨0,lO,cO,aO,rfl,rfl,by omega,by omega,by omega,by omega,H3.out.1,H3.out.2.1,H3.out.2.2.1,by rw [List.replicate_zero,List.append_nil]; exact H3.out.2.2.2⟩
        case round =>
          obtain ⟨k,lX,cX,aX,rfl,rfl,hk,hkV,hlX,HX⟩ := hrel; have e0 := cell_of HX.out.2.2.1 0; have e1 := cell_of HX.out.2.2.1 1; have e2 := cell_of HX.out.2.2.1 2; have e3 := cell_of HX.out.2.2.1 3
          by_cases hlt2 : k < V
          · have q2 : (k : Int) < (V : Int) := by omega
            go_wp2_with fail
            refine (HCw.out _).mono ?_; rintro e w5 ⟨rfl,hb5⟩; have hk5 : w5.heap[Db]? = some (.cells #[.int .i64 dk,.string ds,.int .i64 dz,.slice aV nv cV] 46 (0,0)) := blk_next HX.out.2.2.1 hb5; have f0 := cell_of hk5 0; have h5 : Below w2.heap.size w2 w5 := bnx HX.out.2.1 hb5; obtain ⟨Gb,hGb⟩ : ∃ Gb,w5.heap.size = Gb := ⟨_,rfl⟩; obtain ⟨w6,hw6⟩ : ∃ w6,w5.alloc (.cells #[.bool bb] 4) = w6 := ⟨_,rfl⟩; have hb6 : Below w5.heap.size w5 w6 := by rw [<- hw6]; exact bel1 _ _
            have hk6 : w6.heap[Gb]? = some (.cells #[.bool bb] 4 (0,0)) := by rw [<- hw6,<- hGb]; exact heap_alloc_new _ _
            have HW6 : Hid (w5.alloc (.cells #[.bool bb] 4) = w6 /\ w5.heap.size = Gb) := ⟨hw6,hGb⟩; have HlX : Hid (lX = lO + k) := HX.out.1; have H6 : Hid (Below w2.heap.size w2 w6 /\ w6.heap[Db]? = some (.cells #[.int .i64 dk,.string ds,.int .i64 dz,.slice aV nv cV] 46 (0,0)) /\ (Value.slice aX lX cX).ownBlock ≠ some Db /\ w6.ownsRow w2.heap.size 4 1 (.slice aX lX cX) lX (b6V (L ++ List.replicate k bb)) /\ Db < w6.heap.size) := ⟨bnx h5 hb6,blk_next hk5 hb6,HX.out.2.2.2.1,row_below HX.out.2.2.2.2 (bnx hb5 hb6),(Array.getElem?_eq_some_iff.1 (blk_next hk5 hb6)).1⟩; have HNw : Hid (∀ i u,([Value.bool bb])[i]? = some u -> w6.cell? ((⟨Gb,0,none⟩ : Addr).add i) = some u) := fun i u hu => by
              rw [Addr.add_lit,Nat.zero_add,cell_of hk6,List.getElem?_toArray]; exact hu
            clear hb5 hk5 h5 hGb hw6 hb6 hk6 e0 e1 e2 e3 HX
            go_upto_region 12 with fail
            refine wp_region_lit ?_
            iterate 4 (refine pl_op (v := ?_) (by rfl) ?_ ?_; rotate_left; (focus (go_simp <;> with_reducible rfl)); simp only [Act.put,z0,z1,z2])
            refine pl_do (by rfl) (fun K hK => ?_)
            go_simp
            rw [HW6.out.1,HW6.out.2]; refine hK.out _ _ ?_; clear hK K f0
            try simp only [Act.put,z0,z1,z2]
            refine pl_do (by rfl) (fun K hK => ?_)
            refine wp_append_lies _ _ _ 30 rfl w2.heap.size 4 i0 _ 1 1 Tryz.underlying30 HI0.out.1 HI0.out.2.1 HI0.out.2.2.1 HI0.out.2.2.2 rfl (by omega) (.slice aX lX cX) lX (b6V (L ++ List.replicate k bb)) (by rfl) H6.out.2.2.2.1 ⟨Gb,0,none⟩ 1 1 [.bool bb] (by rfl) rfl HNw.out (by intro u hu; simp at hu; subst hu; rfl) (by omega) (by unfold maxLen; omega) (by omega) H6.out.1.size w6.heap.size rfl ?_; intro g7 cap7 w7 hown7 hgrow7 hat7 hlt7; have H7 : Hid (Below w2.heap.size w2 w7 /\ w7.heap[Db]? = some (.cells #[.int .i64 dk,.string ds,.int .i64 dz,.slice aV nv cV] 46 (0,0)) /\ (Value.slice (some ⟨g7,0,none⟩) (lX + 1) cap7).ownBlock ≠ some Db /\ w7.ownsRow w2.heap.size 4 1 (.slice (some ⟨g7,0,none⟩) (lX + 1) cap7) (lX + 1) (b6V (L ++ List.replicate (k + 1) bb))) := by
              refine ⟨bel_grown H6.out.1 H6.out.1.size H6.out.2.2.2.1 hgrow7,(hgrow7.block Db H6.out.2.2.2.2 (fun e => H6.out.2.2.1 e.symm)).trans H6.out.2.1,?_,?_⟩
              · intro e
                have e' : g7 = Db := Option.some.inj e
                rcases hat7 with h | h
                · exact H6.out.2.2.1 (by rw [h,e'])
                have := H6.out.2.2.2.2; omega
              rw [show b6V (L ++ List.replicate (k + 1) bb) = b6V (L ++ List.replicate k bb) ++ [.bool bb] by simp [b6V,List.replicate_succ']]; exact hown7
            clear hown7 hgrow7 hat7 hlt7 HNw H6; refine hK.out _ _ ?_; clear hK K
            try simp only [Act.put,z0,z1,z2]
            go_wp2_with fail
            go_roundg (V + 1 - (k + 1))
            case measure => omega
            case rel => exact ⟨k + 1,lX + 1,cap7,_,by simp,rfl,by omega,by omega,by have := HlX.out; omega,by have := HlX.out; omega,H7.out⟩
          obtain rfl : V = k := by omega
          have q2 : ¬ (V : Int) < (V : Int) := by omega
          go_wp2_with fail
          refine (HCw.out _).mono ?_; rintro e w5 ⟨rfl,hb5⟩; have H5 : Hid (Below w2.heap.size w2 w5 /\ ∃ L : List Bool,lX = L.length /\ w5.ownsRow w2.heap.size 4 1 (.slice aX lX cX) lX (b6V L) /\ IQ p (j + 1) L) := ⟨bnx HX.out.2.1 hb5,_,by rw [List.length_append,List.length_replicate,<- HeL.out.1]; exact HX.out.1,row_below HX.out.2.2.2.2 hb5,HI.out _ rfl⟩; clear hb5 HX e0 e1 e2 e3
          go_wp2_with fail
          go_roundg (m - (j + 1))
          case measure => omega
          case rel => exact ⟨j + 1,lX,cX,aX,by simp,rfl,by omega,H5.out⟩
      have HI : Hid (IQ p (j + 1) L) := by
        have h3 := HeL.out.2.next HjD.out (inD_out (by rw [<- HE.out.1]; omega)) (HZr.out j hlt).2.1; rw [List.append_nil] at h3; exact h3
      have q3 : (0 : Int) < (V : Int) := by omega
      go_wp2_with fail
      go_loopg [5,8] 1 (fun gk v5 v8 wi => v8 = .int .i64 0 /\ v5 = .slice aO lO cO /\ Aside (Below w2.heap.size w2 wi /\ wi.heap[Db]? = some (.cells #[.int .i64 dk,.string ds,.int .i64 dz,.slice aV nv cV] 46 (0,0)) /\ wi.ownsRow w2.heap.size 4 1 (.slice aO lO cO) lO (b6V L)))
      case atStart => exact ⟨rfl,rfl,H3.out.1,H3.out.2.1,H3.out.2.2.2⟩
      case round =>
        obtain ⟨rfl,rfl,HX⟩ := hrel; have e0 := cell_of HX.out.2.1 0; have e1 := cell_of HX.out.2.1 1; have e2 := cell_of HX.out.2.1 2; have e3 := cell_of HX.out.2.1 3
        go_wp2_with fail
        refine (HCw.out _).mono ?_; rintro e w5 ⟨rfl,hb5⟩; have f0 := cell_of (blk_next HX.out.2.1 hb5) 0; have H5 : Hid (Below w2.heap.size w2 w5 /\ ∃ L : List Bool,lO = L.length /\ w5.ownsRow w2.heap.size 4 1 (.slice aO lO cO) lO (b6V L) /\ IQ p (j + 1) L) := ⟨bnx HX.out.1 hb5,_,HeL.out.1,row_below HX.out.2.2 hb5,HI.out⟩; clear hb5 HX e0 e1 e2 e3
        go_wp2_with fail
        go_roundg (m - (j + 1))
        case measure => omega
        case rel => exact ⟨j + 1,lO,cO,aO,by simp,rfl,by omega,H5.out⟩
    obtain rfl : m = j := by omega
    have q1 : ¬ (m : Int) < (m : Int) := by omega
    have HZ : Hid (∃ (er : Int) (L : List Bool) (a : Option Addr) (c : Nat),Ending.returned (.tuple #[.slice aO lO cO,.int .i64 0]) = Ending.returned (.tuple #[.slice a L.length c,.int .i64 er]) /\ PP er L a wr) := by
      obtain ⟨L,e,h1,h2⟩ := HR.out.2; subst e; refine ⟨0,L,aO,cO,rfl,HGd.out _ _ _ _ h1 (IQ.fin (by rw [HM.out]; exact h2)) ?_ HR.out.1⟩; have := h2.2
      omega
    go_wp2_with fail
    obtain ⟨er',L',a',c',e',hp⟩ := HZ.out; exact ⟨rfl,_,by simp [results,Tryz.results9,go_sem],er',L',a',⟨c',e'⟩,hp⟩
set_option maxHeartbeats 4000000 in
set_option maxRecDepth 100000 in
theorem len17_any {w : World} {P : Nat -> Prop} {N n : Nat} {p : Pg} {vD vB : Value} (fb : Bool) (hfb : fb = true ↔ okPf p) (hg : RG p) (hDs : RDs w P p.Ds vD) (hBs : RB w P (N + 1) (n + 1) p.Bs vB) (hP : ∀ j,P j -> j < w.heap.size) :
    Calls Tryz.prog 8 #[.agg #[.string p.s,.int .i64 p.wd,.int .i64 p.ln,vD,vB]] w fun e w' => ∃ (er : Int) (L : List Bool),e = .returned (.tuple #[.int .i64 (L.length : Int),.int .i64 er]) /\ IAns fb p er L /\ Below w.heap.size w w' := by
  obtain ⟨W1,hW1⟩ : ∃ W1,w.alloc (.cells #[.string p.s,.int .i64 p.wd,.int .i64 p.ln,vD,vB] 25) = W1 := ⟨_,rfl⟩; obtain ⟨Eb,hEb⟩ : ∃ Eb,w.heap.size = Eb := ⟨_,rfl⟩; have hb1 : Below w.heap.size w W1 := by rw [<- hW1]; exact bel1 _ _
  have hbx : W1.heap[Eb]? = some (.cells #[.string p.s,.int .i64 p.wd,.int .i64 p.ln,vD,vB] 25 (0,0)) := by rw [<- hW1,<- hEb]; exact heap_alloc_new _ _
  have HW1 : Hid (w.alloc (.cells #[.string p.s,.int .i64 p.wd,.int .i64 p.ln,vD,vB] 25) = W1 /\ w.heap.size = Eb) := ⟨hW1,hEb⟩; have HB1 : Hid (Below w.heap.size w W1) := hb1; have b0 := cell_of hbx 0; have b1 := cell_of hbx 1; have b2 := cell_of hbx 2; have b3 := cell_of hbx 3; have b4 := cell_of hbx 4; have HC : Hid (Calls Tryz.prog 9 #[.agg #[.string p.s,.int .i64 p.wd,.int .i64 p.ln,vD,vB]] W1 fun e w' => ∃ er L a c,e = .returned (.tuple #[.slice a L.length c,.int .i64 er]) /\ IAns fb p er L /\ B6 w' (fun b => W1.heap.size <= b /\ b < w'.heap.size) L a /\ L.length <= 65536 /\ Below W1.heap.size W1 w') := pub17_any fb hfb hg (hDs.keep (fun j hj => hb1.block j (hP j hj))) (hBs.keep (fun j hj => hb1.block j (hP j hj))) (fun j hj => Nat.lt_of_lt_of_le (hP j hj) hb1.size); clear hW1 hEb hb1 hbx hDs hBs hP hg hfb
  go_enter Tryz.func8,Tryz.ntmps8
  go_upto_region 1 with fail
  rw [HW1.out.1,HW1.out.2]
  go_wp2_with fail
  refine HC.out.mono ?_; rintro e w2 ⟨er,L,a,c,rfl,hA,hU,hl,h2⟩; obtain ⟨mL,hmL⟩ : ∃ mL,L.length = mL := ⟨_,rfl⟩; have HZ : Hid (∃ (er' : Int) (L' : List Bool),Ending.returned (.tuple #[.int .i64 (mL : Int),.int .i64 er]) = Ending.returned (.tuple #[.int .i64 (L'.length : Int),.int .i64 er']) /\ IAns fb p er' L' /\ Below w.heap.size w w2) := ⟨er,L,by rw [hmL],hA,bnx HB1.out h2⟩; rw [hmL]; rw [hmL] at hl; clear hA hU h2 hmL b0 b1 b2 b3 b4 HC
  go_wp2_with fail
  exact ⟨rfl,_,by simp [results,Tryz.results8,go_sem],HZ.out⟩
end Go.Proofs.YtncglkbfnfiekaaGreatDoor
