import Derived.Test.YtncglkbfnfiekaaGreatDoorSqA
import Derived.Test.YtncglkbfnfiekaaGreatDoorWvS
namespace Go.Proofs.YtncglkbfnfiekaaGreatDoor
open Go.ChangeShapes Go.WideShapes Go.ChangeAt Go.RowKit Go.Lib

theorem flat22 : ∀ (css : List (List Value)),(∀ c ∈ css,c.length = 22) -> ∀ i k,i < css.length -> k < 22 -> css.flatten[i * 22 + k]? = (css.getD i [])[k]?
  | [],_,i,_,h,_ => absurd h (by simp)
  | c :: r,hc,0,k,_,hk => by
    rw [List.flatten_cons,Nat.zero_mul,Nat.zero_add,List.getElem?_append_left (by rw [hc c (List.mem_cons_self ..)]; exact hk)]
    rfl
  | c :: r,hc,i + 1,k,hi,hk => by
    have h1 := hc c (List.mem_cons_self ..); rw [List.flatten_cons,List.getElem?_append_right (by omega),h1,show (i + 1) * 22 + k - 22 = i * 22 + k by omega,flat22 r (fun x hx => hc x (List.mem_cons_of_mem _ hx)) i k (by simpa using hi) hk]
    rfl
/-- a thing of a list,cell by cell -/
theorem KT.cells {B : Nat} {w0 wr : World} {Ts : List Th} {a : Option Addr} {n c : Nat} (h : KT B w0 wr Ts (.slice a n c)) (hn : Ts.length = n) {i : Nat} (hi : i < n) : ∃ g cs,a = some ⟨g,0,none⟩ /\ g < wr.heap.size /\ wr.rangeAt g (i * 22) cs /\ cs.length = 22 /\ TC wr (fun j => j < wr.heap.size) (Ts.getD i th0) cs := by
  obtain ⟨css,hl,h22,hrow,_,hall⟩ := h; obtain ⟨_,hr⟩ := hrow
  rcases hr with ⟨_,e0⟩ | ⟨g,cap,cur,e,_,hb,hc1,_,hsz,htk⟩
  · omega
  have htc := hall i (by omega); have e1 : a = some ⟨g,0,none⟩ := by
    injection e
  refine ⟨g,css.getD i [],e1,(Array.getElem?_eq_some_iff.1 hb).1,fun k v hv => ?_,htc.many,htc.keep (fun _ _ => rfl) (fun j hj => hj.1)⟩; have hk : k < 22 := by
    have := (List.getElem?_eq_some_iff.1 hv).1; rw [htc.many] at this; exact this
  rw [cell_of hb,<- Array.getElem?_toList]; rw [<- flat22 css h22 i k (by omega) hk,<- htk] at hv; rw [List.getElem?_take] at hv
  split at hv
  · exact hv
  cases hv
theorem cat_ne : ∀ j,j < 16 -> (cat j).1 ≠ 0 := by decide
theorem th_get {l : List Th} {i : Nat} {t : Th} (h : l[i]? = some t) : l.getD i th0 = t := by
  rw [List.getD_eq_getElem?_getD,h]
  rfl
theorem th_at {l : List Th} {i : Nat} (h : i < l.length) : l[i]? = some (l.getD i th0) := by
  rw [List.getD_eq_getElem?_getD,List.getElem?_eq_getElem h]
  rfl
set_option maxHeartbeats 16000000 in
set_option maxRecDepth 100000 in
/-- the document's Fault -/
theorem fault16_any {w : World} {P : Nat -> Prop} {N n : Nat} {p : Pg} {vD vB : Value} (fb : Bool) (hfb : fb = true ↔ okPf p) (hg : RG p) (hDs : RDs w P p.Ds vD) (hBs : RB w P (N + 1) (n + 1) p.Bs vB) (hP : ∀ j,P j -> j < w.heap.size) :
    Calls Tryz.prog 25 #[.agg #[.string p.s,.int .i64 p.wd,.int .i64 p.ln,vD,vB]] w fun e w' => ∃ c a er,e = .returned (.tuple #[.int .i64 c,.int .i64 a,.int .i64 er]) /\ FAns fb p c a er /\ Below w.heap.size w w' := by
  obtain ⟨W1,hW1⟩ : ∃ W1,w.alloc (.cells #[.string p.s,.int .i64 p.wd,.int .i64 p.ln,vD,vB] 25) = W1 := ⟨_,rfl⟩; obtain ⟨Eb,hEb⟩ : ∃ Eb,w.heap.size = Eb := ⟨_,rfl⟩; have hb1 : Below w.heap.size w W1 := by rw [<- hW1]; exact bel1 _ _
  have hbx : W1.heap[Eb]? = some (.cells #[.string p.s,.int .i64 p.wd,.int .i64 p.ln,vD,vB] 25 (0,0)) := by rw [<- hW1,<- hEb]; exact heap_alloc_new _ _
  have HW1 : Hid (w.alloc (.cells #[.string p.s,.int .i64 p.wd,.int .i64 p.ln,vD,vB] 25) = W1 /\ w.heap.size = Eb) := ⟨hW1,hEb⟩; have HBe : Hid (∀ W,Below W1.heap.size W1 W -> Below w.heap.size w W) := fun W h => bnx hb1 h
  have HBx : Hid (∀ W,Below W1.heap.size W1 W -> W.cell? ⟨Eb,0,none⟩ = some (.string p.s) /\ W.cell? ⟨Eb,1,none⟩ = some (.int .i64 p.wd) /\ W.cell? ⟨Eb,2,none⟩ = some (.int .i64 p.ln) /\ W.cell? ⟨Eb,3,none⟩ = some (vD) /\ W.cell? ⟨Eb,4,none⟩ = some (vB)) := fun W h => by
    have h2 := blk_next hbx h; exact ⟨cell_of h2 0,cell_of h2 1,cell_of h2 2,cell_of h2 3,cell_of h2 4⟩
  have HR : Hid (∀ W,Below W1.heap.size W1 W -> RDs W P p.Ds vD /\ RB W P (N + 1) (n + 1) p.Bs vB /\ ∀ j,P j -> j < W.heap.size) := fun W h => ⟨hDs.keep (fun j hj => (bnx hb1 h).block j (hP j hj)),hBs.keep (fun j hj => (bnx hb1 h).block j (hP j hj)),fun j hj => Nat.lt_of_lt_of_le (hP j hj) (bnx hb1 h).size⟩
  have HG : Hid (RG p /\ (fb = true ↔ okPf p)) := ⟨hg,hfb⟩; have HTG : Hid (∀ t ∈ dP p,TG t) := fun t ht => by
    unfold dP at ht
    rcases List.mem_append.1 ht with h | h
    · obtain ⟨d,_,rfl⟩ := List.mem_map.1 h
      exact ⟨by simp [thD],fun h => by simp [thD] at h,fun h => by simp [thD] at h⟩
    exact oneD_tg hBs hg.lo hg.ax 1 [] (by have := hg.ws; simpa using this) t h
  have HRV : Hid (okPf p -> ∀ j,9 <= j -> j <= 14 -> RR fb p j = (fv (dvj p j) 0 (dP p)).map (fun (q : Nat) => (q : Int))) := fun hok j h9 h14 => rr_dv fb hok hBs j h9 h14
  have HHd : Hid (Calls Tryz.prog 32 #[.agg #[.string p.s,.int .i64 p.wd,.int .i64 p.ln,vD,vB]] W1 fun e w' => ∃ c er,e = .returned (.tuple #[.int .i64 c,.int .i64 er]) /\ HAns fb p 0 4 c er /\ Below W1.heap.size W1 w') := head_any fb hfb hg (HR.out W1 (Below.refl _ _)).1 (HR.out W1 (Below.refl _ _)).2.1 (HR.out W1 (Below.refl _ _)).2.2; have HTl : Hid ((dP p).length <= 4194304) := by
    have h5 : (dL p.Bs 1 []).length <= wtS p.Bs.flatten := hBs.dlen 1 []; have h6 := wtD_len p.Ds; have h7 := hg.wt; have h8 := hg.ws
    show (dP p).length <= 4194304
    unfold dP; rw [List.length_append,List.length_map]
    omega
  obtain ⟨PP,hPP⟩ : ∃ PP : Int -> Int -> Int -> World -> Prop,PP = fun c a er w' => FAns fb p c a er /\ Below w.heap.size w w' := ⟨_,rfl⟩
  have HPP : Hid (∀ c a er w',FAns fb p c a er -> Below W1.heap.size W1 w' -> PP c a er w') := fun c a er w' h1 h2 => by rw [hPP]; exact ⟨h1,bnx hb1 h2⟩
  have HGo : Hid (∀ (e : Ending) (w' : World),(∃ (c a er : Int),e = Ending.returned (.tuple #[.int .i64 c,.int .i64 a,.int .i64 er]) /\ PP c a er w') -> ∃ (c a er : Int),e = Ending.returned (.tuple #[.int .i64 c,.int .i64 a,.int .i64 er]) /\ FAns fb p c a er /\ Below w.heap.size w w') := fun e w' h => by rw [hPP] at h; exact h
  refine Calls.mono (R := fun (e : Ending) (w' : World) => ∃ (c a er : Int),e = Ending.returned (.tuple #[.int .i64 c,.int .i64 a,.int .i64 er]) /\ PP c a er w') ?_ (fun e w' h => HGo.out e w' h); obtain ⟨b0,b1,b2,b3,b4⟩ := HBx.out W1 (Below.refl _ _); clear hW1 hEb hb1 hbx hDs hBs hP hg hfb hPP HGo
  go_enter Tryz.func25,Tryz.ntmps25
  go_upto_region 1 with fail
  rw [HW1.out.1,HW1.out.2]
  go_wp2_with fail
  refine HHd.out.mono ?_; rintro e w2 ⟨c,er,rfl,hA,h2⟩; have H2 : Hid (Below W1.heap.size W1 w2) := h2; obtain ⟨c0,c1,c2,c3,c4⟩ := HBx.out w2 h2; clear b0 b1 b2 b3 b4 h2 HHd
  rcases hA with ⟨hc,he,hn⟩ | ⟨j,_,hj,hn,hr,hc,he⟩
  rotate_left
  · have q1 : (er != 0) = true := by rw [he]; simpa using cat_ne j (by omega)
    have HZ : Hid (PP c (-1) er w2) := HPP.out _ _ _ _ (Or.inr ⟨j,-1,by omega,fun i hi => hn i (by omega) hi,hr,hc,rfl,he⟩) H2.out; clear hc he hr hn
    go_wp2_with fail
    exact ⟨rfl,_,by simp [results,Tryz.results25,go_sem],_,_,_,rfl,HZ.out⟩
  subst hc he; have HN0 : Hid (∀ i,i < 4 -> RR fb p i = none) := fun i hi => hn i (by omega) hi
  have hfb : fb = true := by
    have h0 := hn 0 (by omega) (by omega); cases fb with
    | true => rfl
    | false => rw [RR0] at h0; cases h0
  have hok := HG.out.2.1 hfb; have HOK : Hid (okPf p) := hok; have HW : Hid (okW p.wd) := by
    have h0 := hn 1 (by omega) (by omega); rw [RR1] at h0
    show okW p.wd
    unfold okW
    by_cases e : (p.wd == 4 || p.wd == 8 || p.wd == 16 || p.wd == 32 || p.wd == 64) = true
    · simp only [Bool.or_eq_true,beq_iff_eq] at e
      omega
    rw [Bool.eq_false_iff.2 e] at h0; cases h0
  have HDn : Hid (p.Ds.length <= 256) := by
    have h0 := hn 3 (by omega) (by omega); rw [RR3] at h0
    show p.Ds.length <= 256
    by_cases e : 256 < p.Ds.length
    · rw [show decide (256 < p.Ds.length) = true by simp [e]] at h0; cases h0
    omega
  have HDl : Hid (Calls Tryz.prog 33 #[.agg #[.string p.s,.int .i64 p.wd,.int .i64 p.ln,vD,vB]] w2 fun e w' => ∃ c a er,e = .returned (.tuple #[.int .i64 c,.int .i64 a,.int .i64 er]) /\ DAns fb p c a er /\ Below w2.heap.size w2 w') := decls16_any fb hok HG.out.1 HW.out HDn.out (HR.out w2 H2.out).1 (HR.out w2 H2.out).2.2; clear hn hfb hok
  go_wp2_with fail
  refine HDl.out.mono ?_; rintro e w3 ⟨c,a,er,rfl,hA,h3⟩; have H3 : Hid (Below W1.heap.size W1 w3) := bnx H2.out h3; clear c0 c1 c2 c3 c4 HDl h3; obtain ⟨c0,c1,c2,c3,c4⟩ := HBx.out w3 H3.out
  rcases hA with ⟨hc,ha,he,hn⟩ | ⟨j,pl,h4,hj,hn,hr,hc,ha,he⟩
  rotate_left
  · have q1 : (er != 0) = true := by rw [he]; simpa using cat_ne j (by omega)
    have HZ : Hid (PP c a er w3) := HPP.out _ _ _ _ (Or.inr ⟨j,pl,by omega,fun i hi => by
      by_cases e : i < 4
      · exact HN0.out i e
      exact hn i (by omega) hi,hr,hc,ha,he⟩) H3.out
    clear hc ha he hr hn
    go_wp2_with fail
    exact ⟨rfl,_,by simp [results,Tryz.results25,go_sem],_,_,_,rfl,HZ.out⟩
  subst hc ha he; have HN9 : Hid (∀ i,i < 9 -> RR fb p i = none) := fun i hi => by
    by_cases e : i < 4
    · exact HN0.out i e
    exact hn i (by omega) hi
  have HLi : Hid (Calls Tryz.prog 34 #[.agg #[.string p.s,.int .i64 p.wd,.int .i64 p.ln,vD,vB]] w3 fun e w' => ∃ vK,e = .returned vK /\ KT w3.heap.size w3 w' (dP p) vK) := list_any (HR.out w3 H3.out).1 (HR.out w3 H3.out).2.1 (HR.out w3 H3.out).2.2 (by have := HDn.out; omega) HG.out.1.ws; clear hn HN0
  go_wp2_with fail
  refine HLi.out.mono ?_; rintro e w4 ⟨vK,rfl,hk⟩; obtain ⟨aK,cK,rfl⟩ := hk.slice; obtain ⟨nT,hnT⟩ : ∃ nT,(dP p).length = nT := ⟨_,rfl⟩; rw [hnT] at hk; rw [hnT]; have HT : Hid ((dP p).length = nT) := hnT; have hnl : nT <= 4194304 := by rw [<- hnT]; exact HTl.out
  have h4b : Below w3.heap.size w3 w4 := by
    obtain ⟨css,_,_,_,hbb,_⟩ := hk; exact hbb
  have H4 : Hid (Below W1.heap.size W1 w4) := bnx H3.out h4b; have HKc : Hid (∀ W,Below w4.heap.size w4 W -> Below W1.heap.size W1 W /\ ∀ i,i < nT -> ∃ g cs,aK = some ⟨g,0,none⟩ /\ g < W.heap.size /\ W.rangeAt g (i * 22) cs /\ cs.length = 22 /\ TC W (fun j => j < W.heap.size) ((dP p).getD i th0) cs) := fun W hW => ⟨bnx (bnx H3.out h4b) hW,fun i hi => (hk.next h4b.size hW).cells hnT hi⟩
  clear c0 c1 c2 c3 c4 HLi hk hnT h4b
  go_wp2_with fail
  go_loopg [9] 6 (fun gk v9 wr => ∃ c : Nat,v9 = .int .i64 (c : Int) /\ c + gk = 16 /\ 10 <= c /\ Aside (Below w4.heap.size w4 wr /\ ∀ i,i < c - 1 -> RR fb p i = none))
  case atStart => exact ⟨10,rfl,by omega,by omega,Below.refl _ _,fun i hi => HN9.out i (by omega)⟩
  case round =>
    obtain ⟨c,rfl,hc,hc10,HC⟩ := hrel; obtain ⟨wo,rfl⟩ : ∃ wo : World,wo = wr := ⟨_,rfl⟩
    by_cases hlt : c <= 15
    · have q1 : (c : Int) <= 15 := by omega
      go_wp2_with fail
      go_loopg [10] nT (fun g2 v10 wr => ∃ i : Nat,v10 = .int .i64 (i : Int) /\ i + g2 = nT /\ Aside (Below w4.heap.size w4 wr /\ ∀ k,k < i -> dvj p (c - 1) k ((dP p).getD k th0) = false))
      case atStart => exact ⟨0,rfl,by omega,HC.out.1,fun k hk => by omega⟩
      case round =>
        obtain ⟨i,rfl,hi,HI⟩ := hrel
        by_cases hil : i < nT
        · have q2 : (i : Int) < (nT : Int) := by omega
          obtain ⟨y1,y2⟩ := HKc.out wr HI.out.1; obtain ⟨g,cs,rfl,hgl,hra,h22,htc⟩ := y2 i hil; obtain ⟨f0,f1,f2,f3,f4⟩ := HBx.out wr y1; have hyd : Below W1.heap.size W1 wr.drew := ⟨y1.os,y1.tape,y1.output,y1.size,y1.block⟩; have h5 := viol_thing (vB := vB) (HR.out _ hyd).2.2 (HR.out _ hyd).1 (by have := HDn.out; omega) HW.out (P2 := fun j => j < wr.drew.heap.size) (fun j hj => hj) (htc.keep (w' := wr.drew) (P' := fun j => j < wr.drew.heap.size) (fun _ _ => rfl) (fun _ hj => hj)) (HTG.out _ (by rw [List.getD_eq_getElem?_getD,List.getElem?_eq_getElem (by rw [HT.out]; exact hil)]; exact List.getElem_mem _)) (c - 1) i (by omega) (by omega) (fun e => by
            have h6 := HC.out.2 10 (by omega); rw [HRV.out HOK.out 10 (by omega) (by omega)] at h6; have h7 : fv (dvj p 10) 0 (dP p) = none := by
              cases e : fv (dvj p 10) 0 (dP p) with
              | none => rfl
              | some q => rw [e] at h6; cases h6
            have h8 := fv_none _ _ _ h7 i _ (th_at (by rw [HT.out]; exact hil)); rw [Nat.zero_add] at h8; exact h8)
          rw [show (((c - 1 : Nat) : Int) + 1) = (c : Int) by omega] at h5; obtain ⟨V,hV⟩ : ∃ V : Int,(if dvj p (c - 1) i ((dP p).getD i th0) = true then (cat (c - 1)).1 else 0) = V := ⟨_,rfl⟩; rw [hV] at h5; have HV : Hid ((if dvj p (c - 1) i ((dP p).getD i th0) = true then (cat (c - 1)).1 else 0) = V) := hV; have HCa : Hid (Calls Tryz.prog 35 #[.agg #[.string p.s,.int .i64 p.wd,.int .i64 p.ln,vD,vB],.agg cs.toArray,.int .i64 (c : Int)] wr.drew fun e w' => e = .returned (.int .i64 V) /\ Below wr.drew.heap.size wr.drew w') := h5; have H22 : Hid (cs.length = 22) := h22; have HRa : Hid (wr.rangeAt g (i * 22) cs /\ g < wr.heap.size) := ⟨hra,hgl⟩; clear h5 hV y1 y2 hyd htc hra h22 hgl
          go_upto_region 14 with fail
          refine wp_region_held_drew (S := (fun W => (W.cell? ⟨Eb,0,none⟩ = some (.string p.s) /\ W.cell? ⟨Eb,1,none⟩ = some (.int .i64 p.wd) /\ W.cell? ⟨Eb,2,none⟩ = some (.int .i64 p.ln) /\ W.cell? ⟨Eb,3,none⟩ = some (vD) /\ W.cell? ⟨Eb,4,none⟩ = some (vB)) /\ Hid (W.rangeAt g (i * 22) cs))) (by kernel_rfl) ⟨⟨f0,f1,f2,f3,f4⟩,HRa.out.1⟩ (fun hHeld => ?_); refine sq_of [6] [0,1,2,3,4,5,6,7] (by kernel_rfl) hHeld ?_
          iterate 4 (refine sq_op (v := ?_) (by rfl) (by rfl) (by rfl) ?_ ?_; rotate_left; (focus (intro w hSw; (try dsimp only at hSw); go_simp <;> with_reducible rfl)); simp only [Act.put,z0,z1,z2])
          refine sq_op (by rfl) (by rfl) (by rfl) (fun W hW => exec_mid _ _ rfl g (i * 22) (by first | rfl | simp [go_sem]) cs _ hW.2.out Tryz.underlying99 rfl (by rw [H22.out]; kernel_rfl)) ?_; simp only [Act.put,z0,z1,z2]; refine sq_op (v := ?_) (by rfl) (by rfl) (by rfl) ?_ ?_; rotate_left; (focus (intro w hSw; (try dsimp only at hSw); go_simp <;> with_reducible rfl)); simp only [Act.put,z0,z1,z2]; refine sq_do (by rfl) (by rfl) (by rfl) (fun K hK => ?_)
          go_simp
          go_at_call 35
          refine HCa.out.mono ?_; rintro e w5 ⟨rfl,hb5⟩; have hb5' : Below wr.heap.size wr w5 := ⟨hb5.os,hb5.tape,hb5.output,hb5.size,hb5.block⟩; have H5 : Hid (Below w4.heap.size w4 w5 /\ Below W1.heap.size W1 w5) := ⟨bnx HI.out.1 hb5',(HKc.out _ (bnx HI.out.1 hb5')).1⟩; have hS5 : (w5.cell? ⟨Eb,0,none⟩ = some (.string p.s) /\ w5.cell? ⟨Eb,1,none⟩ = some (.int .i64 p.wd) /\ w5.cell? ⟨Eb,2,none⟩ = some (.int .i64 p.ln) /\ w5.cell? ⟨Eb,3,none⟩ = some (vD) /\ w5.cell? ⟨Eb,4,none⟩ = some (vB)) /\ Hid (w5.rangeAt g (i * 22) cs) := ⟨HBx.out w5 H5.out.2,fun k v hv => (hb5'.cell (p := ⟨g,i * 22 + k,none⟩) HRa.out.2).trans (HRa.out.1 k v hv)⟩; clear hb5 hb5' hHeld HCa f0 f1 f2 f3 f4; refine hK.out _ _ hS5 (fun _ => ?_); clear hK K
          try simp only [Act.put,z0,z1,z2]
          refine sq_op (v := ?_) (by rfl) (by rfl) (by rfl) ?_ ?_; rotate_left; (focus (intro w hSw; (try dsimp only at hSw); go_simp <;> with_reducible rfl)); simp only [Act.put,z0,z1,z2]; refine sq_end (fun _ => ?_); clear hS5; cases hd : dvj p (c - 1) i ((dP p).getD i th0) with
          | true =>
            have hV := HV.out; rw [hd,if_pos rfl] at hV; have q3 : (V != 0) = true := by rw [<- hV]; simpa using cat_ne (c - 1) (by omega)
            have HZ : Hid (PP (c : Int) (i : Int) V w5) := HPP.out _ _ _ _ (Or.inr ⟨c - 1,(i : Int),by omega,HC.out.2,by
              rw [HRV.out HOK.out (c - 1) (by omega) (by omega),fv_first (dvj p (c - 1)) (dP p) 0 i (fun k t hk ht => by rw [Nat.zero_add,<- th_get ht]; exact HI.out.2 k hk) _ (th_at (by rw [HT.out]; exact hil)) (by rw [Nat.zero_add]; exact hd)]
              simp,by omega,rfl,hV.symm⟩) H5.out.2
            clear hV hd HV
            go_wp2_with fail
            exact ⟨rfl,_,by simp [results,Tryz.results25,go_sem],_,_,_,rfl,HZ.out⟩
          | false =>
            have hV := HV.out; rw [hd,if_neg (by simp)] at hV; subst hV; have HI2 : Hid (∀ k,k < i + 1 -> dvj p (c - 1) k ((dP p).getD k th0) = false) := fun k hk => by
              by_cases e : k = i
              · rw [e]; exact hd
              exact HI.out.2 k (by omega)
            clear hd HV
            go_wp2_with fail
            go_roundg (nT - (i + 1))
            case measure => omega
            case rel => exact ⟨i + 1,by simp,by omega,H5.out.1,HI2.out⟩
        obtain rfl : nT = i := by omega
        have q2 : ¬ (nT : Int) < (nT : Int) := by omega
        have HNc : Hid (∀ k,k < c + 1 - 1 -> RR fb p k = none) := fun k hk => by
          by_cases e : k = c - 1
          · rw [e,HRV.out HOK.out (c - 1) (by omega) (by omega),fv_nil_of (dvj p (c - 1)) (dP p) 0 (fun k t ht => by
              rw [Nat.zero_add,<- th_get ht]; refine HI.out.2 k ?_; rw [<- HT.out]; exact (List.getElem?_eq_some_iff.1 ht).1)]
            rfl
          exact HC.out.2 k (by omega)
        go_wp2_with fail
        go_roundg (16 - (c + 1))
        case measure => omega
        case rel => exact ⟨c + 1,by simp,by omega,by omega,HI.out.1,HNc.out⟩
    obtain rfl : c = 16 := by omega
    have q1 : ¬ ((16 : Nat) : Int) <= 15 := by omega
    have HW5 : Hid (Below W1.heap.size W1 wo) := (HKc.out wo HC.out.1).1; obtain ⟨f0,f1,f2,f3,f4⟩ := HBx.out wo HW5.out; obtain ⟨s,hs⟩ : ∃ s : Nat,cs7 (p.Bs.map vS) = s := ⟨_,rfl⟩; have h5 := size_any (N + 1) (n + 1) p.Bs vB wo P (HR.out wo HW5.out).2.1 (HR.out wo HW5.out).2.2 HG.out.1.ws; rw [hs] at h5; have HCs : Hid (Calls Tryz.prog 36 #[vB] wo fun e w' => e = .returned (.int .i64 (s : Int)) /\ Below wo.heap.size wo w') := h5; have HR15 : Hid (RR fb p 15 = if decide (65536 < s) then some (-1) else none) := by show _ = _; rw [<- hs]; rfl
    have HN15 : Hid (∀ i,i < 15 -> RR fb p i = none) := fun i hi => HC.out.2 i (by omega)
    clear h5 hs HC HKc
    go_wp2_with fail
    refine HCs.out.mono ?_; rintro e w6 ⟨rfl,h6⟩; have H6 : Hid (Below W1.heap.size W1 w6) := bnx HW5.out h6; clear h6 HCs f0 f1 f2 f3 f4
    by_cases h9 : 65536 < s
    · have q2 : (s : Int) > 65536 := by omega
      have HZ : Hid (PP 16 (-1) 168 w6) := HPP.out _ _ _ _ (Or.inr ⟨15,-1,by omega,HN15.out,by rw [HR15.out,show decide (65536 < s) = true by simp [h9]]; rfl,rfl,rfl,rfl⟩) H6.out
      go_wp2_with fail
      exact ⟨rfl,_,by simp [results,Tryz.results25,go_sem],_,_,_,rfl,HZ.out⟩
    have q2 : ¬ (s : Int) > 65536 := by omega
    have HZ : Hid (PP 0 0 0 w6) := HPP.out _ _ _ _ (Or.inl ⟨rfl,rfl,rfl,fun i hi => by
      by_cases e : i = 15
      · rw [e,HR15.out,show decide (65536 < s) = false by simp [h9]]; rfl
      exact HN15.out i (by omega)⟩) H6.out
    go_wp2_with fail
    exact ⟨rfl,_,by simp [results,Tryz.results25,go_sem],_,_,_,rfl,HZ.out⟩
end Go.Proofs.YtncglkbfnfiekaaGreatDoor
