import Derived.Test.YtfljcdccepnidaaGreatDoorSqA
import Derived.Test.YtfljcdccepnidaaGreatDoorWzF
import Derived.Test.YtfljcdccepnidaaGreatDoorWyB
namespace Go.Proofs.YtfljcdccepnidaaGreatDoor
open Go.ChangeShapes Go.WideShapes Go.ChangeAt Go.RowKit Go.Lib Go.WideMaps Go.Maps Go.ChangeMaps

theorem arr_small {z : Int} (h : arrB z = true) : z <= 256 := by
  unfold arrB at h
  simp at h
  omega
theorem right_small {fb : Bool} {p : Pg} {c a : Int} (h : FAns fb p c a 0) (hz : okPf p -> ∀ j,j < p.Ds.length -> 0 <= (p.Ds.getD j dd0).z) (hfb : fb = true ↔ okPf p) : p.Ds.length <= 256 /\ ∀ j,j < p.Ds.length -> 0 <= (p.Ds.getD j dd0).z /\ (p.Ds.getD j dd0).z <= 256 := by
  have hn : ∀ i,i < 16 -> RR fb p i = none := by
    rcases h with ⟨_,_,_,h⟩ | ⟨j,pl,hj,_,_,_,_,e⟩
    · exact h
    exact absurd e.symm (cat_ne j hj)
  have h0 := hn 0 (by omega); have hf : fb = true := by
    cases fb with
    | true => rfl
    | false => rw [RR0] at h0; cases h0
  refine ⟨?_,fun j hj => ⟨hz (hfb.1 hf) j hj,?_⟩⟩
  · have h3 := hn 3 (by omega)
    rw [RR3] at h3
    by_cases e : 256 < p.Ds.length
    · rw [show decide (256 < p.Ds.length) = true by simp [e]] at h3; cases h3
    omega
  have h5 := hn 5 (by omega); rw [RR5] at h5; have h7 : fv (vio6 p) 0 (p.Ds.map thD) = none := by
    cases e : fv (vio6 p) 0 (p.Ds.map thD) with
    | none => rfl
    | some q => rw [e] at h5; cases h5
  have h8 := fv_none _ _ _ h7 j (thD (p.Ds.getD j dd0)) (by rw [List.getElem?_map,List.getD_eq_getElem?_getD,List.getElem?_eq_getElem hj]; rfl); rw [Nat.zero_add] at h8; unfold vio6 at h8
  by_cases e : (p.Ds.getD j dd0).z = 0
  · omega
  have e2 : ((p.Ds.getD j dd0).z != 0) = true := by simpa using e
  rw [e2,Bool.true_and] at h8; have h9 : arrB (p.Ds.getD j dd0).z = true := by simpa using h8
  exact arr_small h9
theorem cell_blt1 {w : World} {a : Addr} {v : Value} (h : w.cell? a = some v) : a.block < w.heap.size := by
  by_cases e : a.block < w.heap.size
  · exact e
  have : w.heap[a.block]? = none := Array.getElem?_eq_none (by omega)
  simp [World.cell?,this] at h
theorem wp_copyD {o : Oper} {a : Act} {K : Act -> World -> Prop} {Q : Exit -> Act -> World -> Prop} (s x : Operand) (ho : o.op = .call { callee := .builtin .append,args := #[s,x],argTypes := #[22,22] }) {W : World} {P : Nat -> Prop} {Ds : List Dd} {aD : Option Addr} {n cD : Nat} (hs : a.eval s = .slice (some ⟨W.heap.size,0,none⟩) 0 0) (hx : a.eval x = .slice aD n cD) (hn : Ds.length = n) (hD : RDs W P Ds (.slice aD n cD)) (hP : ∀ j,P j -> j < W.heap.size) (hl : n <= 1048576)
    (h : ∀ g cap w',Below W.heap.size W w' -> W.heap.size <= g -> DR w' P g Ds -> K (a.put o.dst (.slice (some ⟨g,0,none⟩) n cap)) w') : o.wp Tryz.prog a (W.alloc (.cells #[] 34)) K Q := by
  obtain ⟨g,cap,w',hr,h2,h3,h4⟩ := run_copyD hn hD hP hl o.type; unfold Oper.wp execOp; simp only [ho,resolve,invoke,builtin,Sem.run_bind,Sem.run_pure,Result.andThen_ok,List.map_toArray,List.map_cons,List.map_nil,hs,hx,hr]; exact h g cap w' h2 h3 h4
theorem DR.name {w : World} {P : Nat -> Prop} {g : Nat} {Ds Es : List Dd} (h : DR w P g Ds) (hP : ¬ P g) {i : Nat} {b : ByteArray} (hi : i < Ds.length) (hl : Es.length = Ds.length) (hE : ∀ j,j < Ds.length -> Es.getD j dd0 = if j = i then { Ds.getD j dd0 with s := b } else Ds.getD j dd0) : DR (w.setCell ⟨g,i * 4 + 1,none⟩ (.string b)) P g Es := by
  obtain ⟨cur,hg,hc⟩ := h; refine ⟨_,heap_setCell_same _ _ (i * 4 + 1) _ _ _ hg,fun j hj => ?_⟩; rw [hl] at hj; obtain ⟨aV,cV,c0,c1,c2,c3,hU⟩ := hc j hj; have hU' : U6 (w.setCell ⟨g,i * 4 + 1,none⟩ (.string b)) P (Ds.getD j dd0).vs aV := hU.keep (fun q hq => heap_setCell_other _ _ _ _ (by show q ≠ g; intro e; exact hP (e ▸ hq))); obtain ⟨hi0,_⟩ := Array.getElem?_eq_some_iff.1 (hc i hi).choose_spec.choose_spec.2.1; rw [hE j hj]
  by_cases e : j = i
  · subst e
    rw [if_pos rfl]; refine ⟨aV,cV,?_,?_,?_,?_,hU'⟩
    · rw [Array.getElem?_setIfInBounds,if_neg (by omega)]; exact c0
    · rw [Array.getElem?_setIfInBounds,if_pos rfl,if_pos hi0]
    · rw [Array.getElem?_setIfInBounds,if_neg (by omega)]; exact c2
    rw [Array.getElem?_setIfInBounds,if_neg (by omega)]; exact c3
  rw [if_neg e]; refine ⟨aV,cV,?_,?_,?_,?_,hU'⟩
  · rw [Array.getElem?_setIfInBounds,if_neg (by omega)]; exact c0
  · rw [Array.getElem?_setIfInBounds,if_neg (by omega)]; exact c1
  · rw [Array.getElem?_setIfInBounds,if_neg (by omega)]; exact c2
  rw [Array.getElem?_setIfInBounds,if_neg (by omega)]; exact c3
theorem dix_no {Ds : List Dd} {b : ByteArray} (h : dix Ds b = none) : ∀ d ∈ Ds,nB b d.s := by
  intro d hd; unfold dix at h; rw [List.findIdx?_eq_none_iff] at h; exact h d hd
theorem name_size {a : ByteArray} (h : Lf.nameB a = true) : a.size ≠ 0 := by
  intro e; have h5 := Go.Bn.nm_size a (by omega); unfold Lf.nameB at h; rw [h5] at h; cases h
set_option maxHeartbeats 16000000 in
set_option maxRecDepth 100000 in
theorem law_called {w : World} {P : Nat -> Prop} {N n : Nat} {p : Pg} {vD vB : Value} (wh : Int) (b : ByteArray) (hbn : b.size <= 1048576) (hwh : I64 wh) (fb : Bool) (hfb : fb = true ↔ okPf p) (hg : RG p) (hDs : RDs w P p.Ds vD) (hBs : RB w P (N + 1) (n + 1) p.Bs vB) (hP : ∀ j,P j -> j < w.heap.size) (h0 : P 0) (h1 : P 1) (hT : Lf.TBL 1 w) (hF : Lf.TBF 0 w) :
    Calls Tryz.prog 3 #[.agg #[.string p.s,.int .i64 p.wd,.int .i64 p.ln,vD,vB],.int .i64 wh,.string b] w fun e w' => e = .returned (.bool true) /\ Below w.heap.size w w' := by
  obtain ⟨aD,m,cD,rfl,hm⟩ : ∃ aD m cD,vD = .slice aD m cD /\ p.Ds.length = m := by
    obtain ⟨aD,cD,rfl,-⟩ := hDs; exact ⟨aD,_,cD,rfl,rfl⟩
  obtain ⟨aB,nB',cB,rfl⟩ : ∃ aB nB' cB,vB = .slice aB nB' cB := by
    obtain ⟨aB,cB,rfl,-⟩ := hBs; exact ⟨aB,_,cB,rfl⟩
  obtain ⟨W1,hW1⟩ : ∃ W1,w.alloc (.cells #[.string p.s,.int .i64 p.wd,.int .i64 p.ln,.slice aD m cD,(Value.slice aB nB' cB)] 25) = W1 := ⟨_,rfl⟩; obtain ⟨Eb,hEb⟩ : ∃ Eb,w.heap.size = Eb := ⟨_,rfl⟩; have hb1 : Below w.heap.size w W1 := by rw [<- hW1]; exact bel1 _ _
  have hbx : W1.heap[Eb]? = some (.cells #[.string p.s,.int .i64 p.wd,.int .i64 p.ln,.slice aD m cD,(Value.slice aB nB' cB)] 25 (0,0)) := by rw [<- hW1,<- hEb]; exact heap_alloc_new _ _
  have HW1 : Hid (w.alloc (.cells #[.string p.s,.int .i64 p.wd,.int .i64 p.ln,.slice aD m cD,(Value.slice aB nB' cB)] 25) = W1 /\ w.heap.size = Eb) := ⟨hW1,hEb⟩; have HBe : Hid (∀ W,Below W1.heap.size W1 W -> Below w.heap.size w W) := fun W h => bnx hb1 h
  have HBx : Hid (∀ W,Below W1.heap.size W1 W -> W.cell? ⟨Eb,0,none⟩ = some (.string p.s) /\ W.cell? ⟨Eb,1,none⟩ = some (.int .i64 p.wd) /\ W.cell? ⟨Eb,2,none⟩ = some (.int .i64 p.ln) /\ W.cell? ⟨Eb,3,none⟩ = some (.slice aD m cD) /\ W.cell? ⟨Eb,4,none⟩ = some (Value.slice aB nB' cB)) := fun W h => by
    have h2 := blk_next hbx h; exact ⟨cell_of h2 0,cell_of h2 1,cell_of h2 2,cell_of h2 3,cell_of h2 4⟩
  have HR : Hid (∀ W,Below W1.heap.size W1 W -> RDs W P p.Ds (.slice aD m cD) /\ RB W P (N + 1) (n + 1) p.Bs (Value.slice aB nB' cB) /\ (∀ j,P j -> j < W.heap.size) /\ Lf.TBL 1 W /\ Lf.TBF 0 W) := fun W h => ⟨hDs.keep (fun j hj => (bnx hb1 h).block j (hP j hj)),hBs.keep (fun j hj => (bnx hb1 h).block j (hP j hj)),fun j hj => Nat.lt_of_lt_of_le (hP j hj) (bnx hb1 h).size,Lf.TBL.up hT (bnx hb1 h) (hP 1 h1),Lf.TBF.up hF (bnx hb1 h) (hP 0 h0)⟩
  have hdl : m <= 1048576 := by have h5 := wtD_len p.Ds; have h6 := hg.wt; omega
  have HC1 : Hid (∀ W,Below W1.heap.size W1 W -> Calls Tryz.prog 5 #[.agg #[.string p.s,.int .i64 p.wd,.int .i64 p.ln,.slice aD m cD,(Value.slice aB nB' cB)]] W fun e w' => ∃ c a er,e = .returned (.int .i64 er) /\ FAns fb p c a er /\ Below W.heap.size W w') := fun W h => check16_any fb hfb hg (HR.out W h).1 (HR.out W h).2.1 (HR.out W h).2.2.1
  have HS1 : Hid (∀ W,Below W1.heap.size W1 W -> Calls Tryz.prog 10 #[.agg #[.string p.s,.int .i64 p.wd,.int .i64 p.ln,.slice aD m cD,(Value.slice aB nB' cB)]] W fun e w' => ∃ (c a er : Int) (z : Nat),e = .returned (.tuple #[.int .i64 (z : Int),.int .i64 er]) /\ FAns fb p c a er /\ z = (if er = 0 then cs7 (p.Bs.map vS) else 0) /\ Below W.heap.size W w') := fun W h => wsize_any fb hfb hg (HR.out W h).1 (HR.out W h).2.1 (HR.out W h).2.2.1 h0 h1 (HR.out W h).2.2.2.1 (HR.out W h).2.2.2.2
  have HDc : Hid (∀ W,Below W1.heap.size W1 W -> Calls Tryz.prog 7 #[.agg #[.string p.s,.int .i64 p.wd,.int .i64 p.ln,.slice aD m cD,(Value.slice aB nB' cB)],.string b] W fun e w' => e = .returned (.int .i64 (match dix p.Ds b with | none => -1 | some j => (j : Int))) /\ Below W.heap.size W w') := fun W h => decl_any (HR.out W h).2.2.1 (HR.out W h).1 (by omega) b
  have HSt : Hid (∀ W,Below W1.heap.size W1 W -> Calls Tryz.prog 8 #[(Value.slice aB nB' cB),.string b] W fun e w' => e = .returned (.bool (anyB b p.Bs.flatten)) /\ Below W.heap.size W w') := fun W h => stands_any b (N + 1) (n + 1) p.Bs _ W P (HR.out W h).2.1 (HR.out W h).2.2.1 hg.ws
  have HCb : Hid (∀ a W,Below W1.heap.size W1 W -> Calls Tryz.prog 9 #[(Value.slice aB nB' cB),.string a,.string b] W fun e w' => ∃ v',e = .returned v' /\ Below W.heap.size W w' /\ RB w' (fun q => W.heap.size <= q /\ q < w'.heap.size) (N + 1) (n + 1) (rnB a b p.Bs) v') := fun a W h => cbody_any a b (N + 1) (n + 1) p.Bs _ W P (HR.out W h).2.1 (HR.out W h).2.2.1 hg.ws
  have HLv : Hid (Calls Tryz.prog 4 #[] W1 fun e w' => e = .returned (.bool true) /\ Below W1.heap.size W1 w') := live_any W1 (HR.out W1 (Below.refl _ _)).2.2.2.1 (HR.out W1 (Below.refl _ _)).2.2.2.2 ((HR.out W1 (Below.refl _ _)).2.2.1 1 h1); have HNm : Hid (∀ W,Calls Tryz.prog 6 #[.string b] W fun e w' => e = .returned (.bool (Lf.nameB b)) /\ Below W.heap.size W w') := fun W => Lf.rName_any b W (by unfold maxLen; omega)
  have HM : Hid (p.Ds.length = m /\ P 0 /\ P 1) := ⟨hm,h0,h1⟩; have HG : Hid (RG p /\ (fb = true ↔ okPf p)) := ⟨hg,hfb⟩; have HWh : Hid (I64 wh) := hwh; obtain ⟨b0,b1,b2,b3,b4⟩ := HBx.out W1 (Below.refl _ _); clear hW1 hEb hb1 hbx hDs hBs hP hg hfb h0 h1 hT hF hm hwh
  go_enter Tryz.func3,Tryz.ntmps3
  go_upto_region 1 with fail
  rw [HW1.out.1,HW1.out.2]
  go_wp2_with fail
  refine HLv.out.mono ?_; rintro e w2 ⟨rfl,h2⟩; have H2 : Hid (Below W1.heap.size W1 w2) := h2; clear b0 b1 b2 b3 b4 h2 HLv; obtain ⟨b0,b1,b2,b3,b4⟩ := HBx.out w2 H2.out
  go_wp2_with fail
  refine (HC1.out _ H2.out).mono ?_; rintro e w3 ⟨c,a0,er,rfl,hA,h3⟩; have H3 : Hid (Below W1.heap.size W1 w3) := bnx H2.out h3; clear b0 b1 b2 b3 b4 h3 HC1 H2
  by_cases he : er = 0
  rotate_left
  · have q1 : (er != 0) = true := by simpa using he
    have HZ : Hid (Below w.heap.size w w3) := HBe.out _ H3.out; clear he hA
    go_wp2_with fail
    go_ret
    exact ⟨rfl,HZ.out⟩
  subst he; obtain ⟨b0,b1,b2,b3,b4⟩ := HBx.out w3 H3.out
  by_cases hm0 : m = 0
  · subst hm0
    have HZ : Hid (Below w.heap.size w w3) := HBe.out _ H3.out; clear hA
    go_wp2_with fail
    go_ret
    exact ⟨rfl,HZ.out⟩
  have qm : ((m : Int) == 0) = false := by simp [hm0]
  have hrn := right_none hA; have hf : fb = true := by
    have h5 := hrn 0 (by omega); cases fb with
    | true => rfl
    | false => rw [RR0] at h5; cases h5
  subst hf; have HRn : Hid (FAns true p c a0 0 /\ (∀ i,i < 16 -> RR true p i = none) /\ okPf p) := ⟨hA,hrn,HG.out.2.1 rfl⟩; have hm2 : m <= 256 := by
    have h5 := right_small hA (fun hok j hj => (hok.2.2.2.1 _ (getD_memD hj)).2.2.1) HG.out.2; rw [HM.out.1] at h5; exact h5.1
  clear hA hrn
  go_wp2_with fail
  refine (HNm.out _).mono ?_; rintro e w4 ⟨rfl,h4⟩; have H4 : Hid (Below W1.heap.size W1 w4) := bnx H3.out h4; clear b0 b1 b2 b3 b4 h4 HNm H3; cases hnb : Lf.nameB b with
  | false =>
    have HZ : Hid (Below w.heap.size w w4) := HBe.out _ H4.out
    go_wp2_with fail
    go_ret
    exact ⟨rfl,HZ.out⟩
  | true =>
  have Hnb : Hid (Lf.nameB b = true) := hnb; obtain ⟨b0,b1,b2,b3,b4⟩ := HBx.out w4 H4.out; clear hnb
  go_wp2_with fail
  refine (HDc.out _ H4.out).mono ?_; rintro e w5 ⟨rfl,h5⟩; have H5 : Hid (Below W1.heap.size W1 w5) := bnx H4.out h5; clear b0 b1 b2 b3 b4 h5 HDc H4; cases hdx : dix p.Ds b with
  | some jx =>
    have qd : (0 : Int) <= (jx : Int) := by omega
    have HZ : Hid (Below w.heap.size w w5) := HBe.out _ H5.out
    go_wp2_with fail
    go_ret
    exact ⟨rfl,HZ.out⟩
  | none =>
  have Hdx : Hid (dix p.Ds b = none) := hdx; obtain ⟨b0,b1,b2,b3,b4⟩ := HBx.out w5 H5.out; clear hdx
  go_wp2_with fail
  refine (HSt.out _ H5.out).mono ?_; rintro e w6 ⟨rfl,h6⟩; have H6 : Hid (Below W1.heap.size W1 w6) := bnx H5.out h6; clear b0 b1 b2 b3 b4 h6 HSt H5; cases hst : anyB b p.Bs.flatten with
  | true =>
    have HZ : Hid (Below w.heap.size w w6) := HBe.out _ H6.out
    go_wp2_with fail
    go_ret
    exact ⟨rfl,HZ.out⟩
  | false =>
  have Hst : Hid (anyB b p.Bs.flatten = false) := hst; clear hst; have hmp : (0 : Int) < (m : Int) := by omega
  have hr1 := Int.emod_emod_of_dvd wh (Int.dvd_refl (m : Int)); obtain ⟨r,hr⟩ : ∃ r : Int,wh.tmod (m : Int) = r := ⟨_,rfl⟩; have hra : r < (m : Int) /\ -(m : Int) < r := by
    rw [<- hr]; have h5 := Int.tmod_lt_of_pos wh hmp; have h6 := Int.lt_tmod_of_pos wh hmp; exact ⟨h5,h6⟩
  clear hr1; obtain ⟨kx,hkx⟩ : ∃ kx : Nat,(if r < 0 then -r else r) = (kx : Int) := ⟨(if r < 0 then -r else r).toNat,by split <;> omega⟩; have hkm : kx < m := by split at hkx <;> omega
  have HKx : Hid (kx < p.Ds.length) := by rw [HM.out.1]; exact hkm
  obtain ⟨a,ha⟩ : ∃ a,(p.Ds.getD kx dd0).s = a := ⟨_,rfl⟩; have Ha : Hid ((p.Ds.getD kx dd0).s = a) := ha; have HaN : Hid (a.size ≠ 0) := by
    have h5 := (HRn.out.2.2.2.2.2.1 _ (getD_memD HKx.out)).2.1; rw [ha] at h5; exact name_size h5
  have HDn : Hid (∀ d ∈ p.Ds,nB b d.s) := dix_no Hdx.out; have HTn : Hid (∀ t ∈ thP p,nT b t) := thP_n HDn.out (stands_no Hst.out); have HAq : Hid (FAns true (rnP a b p) 0 0 0 /\ cs7 ((rnP a b p).Bs.map vS) = cs7 (p.Bs.map vS)) := ans_rn HDn.out HTn.out HRn.out.2.1; have HOk : Hid (okPf (rnP a b p)) := ok_rn HaN.out Hnb.out HRn.out.2.2; have HRg : Hid (RG (rnP a b p)) := rg_rn (by unfold NB; omega) HG.out.1; have HCb' : Hid (∀ W,Below W1.heap.size W1 W -> Calls Tryz.prog 9 #[(Value.slice aB nB' cB),.string a,.string b] W fun e w' => ∃ v',e = .returned v' /\ Below W.heap.size W w' /\ RB w' (fun q => W.heap.size <= q /\ q < w'.heap.size) (N + 1) (n + 1) (rnB a b p.Bs) v') := fun W h => HCb.out a W h
  have HEs : Hid (∀ j,j < p.Ds.length -> (p.Ds.map (rnD a b)).getD j dd0 = if j = kx then { p.Ds.getD j dd0 with s := b } else p.Ds.getD j dd0) := ds_rn (HRn.out.2.1 4 (by omega)) HKx.out ha; obtain ⟨b0,b1,b2,b3,b4⟩ := HBx.out w6 H6.out; obtain ⟨bD,oD,rfl,d1⟩ : ∃ bD oD,aD = some ⟨bD,oD,none⟩ /\ w6.cell? ⟨bD,oD + kx * 4 + 1,none⟩ = some (.string a) := by
    obtain ⟨ad,cp,e,h3⟩ := (HR.out w6 H6.out).1; cases e; obtain ⟨bD,oD,rfl,_,hc⟩ := h3 (by have := HKx.out; omega); obtain ⟨v0,v1,v2,v3,c0,c1,c2,c3,hE⟩ := hc kx HKx.out; obtain ⟨ad,cp,e,_⟩ := hE; cases e; rw [ha] at c1; exact ⟨bD,oD,rfl,c1⟩
  obtain ⟨Qb,hQb⟩ : ∃ Qb,w6.heap.size = Qb := ⟨_,rfl⟩; obtain ⟨W7,hW7⟩ : ∃ W7,w6.alloc (.cells #[.string p.s,.int .i64 p.wd,.int .i64 p.ln,.slice (some ⟨bD,oD,none⟩) m cD,(Value.slice aB nB' cB)] 25) = W7 := ⟨_,rfl⟩; have HW7 : Hid (w6.alloc (.cells #[.string p.s,.int .i64 p.wd,.int .i64 p.ln,.slice (some ⟨bD,oD,none⟩) m cD,(Value.slice aB nB' cB)] 25) = W7 /\ w6.heap.size = Qb) := ⟨hW7,hQb⟩; have H7 : Hid (Below w6.heap.size w6 W7 /\ W7.heap[Qb]? = some (.cells #[.string p.s,.int .i64 p.wd,.int .i64 p.ln,.slice (some ⟨bD,oD,none⟩) m cD,(Value.slice aB nB' cB)] 25 (0,0)) /\ W7.heap.size = Qb + 1) := ⟨by rw [<- hW7]; exact bel1 _ _,by rw [<- hW7,<- hQb]; exact heap_alloc_new _ _,by rw [<- hW7,<- hQb]; simp⟩; clear ha hQb hW7 HCb; have HQs : Hid (w6.heap.size = Qb) := HW7.out.2
  by_cases hneg : r < 0
  · rw [if_pos hneg] at hkx
    have qn : IntKind.i64.wrap (-r) = -r := by rw [IntKind.wrap_i64]; omega
    go_upto_region 10 with fail
    rw [HW7.out.2,HW7.out.1]; clear b0 b1 b2 b3 b4 d1 HW7; obtain ⟨b0,b1,b2,b3,b4⟩ := HBx.out W7 (bnx H6.out H7.out.1); clear b0 b1 b2 b4; have b3' : (W7.alloc (.cells #[] 34)).cell? ⟨Eb,3,none⟩ = some (.slice (some ⟨bD,oD,none⟩) m cD) := ((bel1 W7 (.cells #[] 34)).cell (p := ⟨Eb,3,none⟩) (cell_blt1 b3)).trans b3; refine wp_region_lit ?_; refine pl_do (by rfl) (fun K hK => ?_)
    go_simp
    refine hK.out _ _ ?_; clear hK K b3
    try simp only [Act.put,z0,z1,z2]
    iterate 2 (refine pl_op (v := ?_) (by rfl) ?_ ?_; rotate_left; (focus (go_simp <;> with_reducible rfl)); simp only [Act.put,z0,z1,z2])
    refine pl_do (by rfl) (fun K hK => ?_)
    refine wp_copyD _ _ rfl (W := W7) (P := P) (Ds := p.Ds) (aD := some ⟨bD,oD,none⟩) (n := m) (cD := cD) (by rfl) (by rfl) HM.out.1 (HR.out W7 (bnx H6.out H7.out.1)).1 (HR.out W7 (bnx H6.out H7.out.1)).2.2.1 (by omega) ?_; intro g cap w8 hb8 hg8 hdr8; have k8 : w8.heap[Qb]? = some (.cells #[.string p.s,.int .i64 p.wd,.int .i64 p.ln,.slice (some ⟨bD,oD,none⟩) m cD,(Value.slice aB nB' cB)] 25 (0,0)) := blk_next H7.out.2.1 hb8; have f3 := fz_of k8 3; have c3 := cell_of k8 3; obtain ⟨w9,hw9⟩ : ∃ w9,w8.setCell ⟨Qb,3,none⟩ (.slice (some ⟨g,0,none⟩) m cap) = w9 := ⟨_,rfl⟩; have HW9 : Hid (w8.setCell ⟨Qb,3,none⟩ (.slice (some ⟨g,0,none⟩) m cap) = w9) := hw9; have hPQ : ∀ j,P j -> j < Qb := fun j hj => by rw [<- HQs.out]; exact (HR.out w6 H6.out).2.2.1 j hj
    have hQg : Qb < g := by have := H7.out.2.2; omega
    have k9 : w9.heap[Qb]? = some (.cells #[.string p.s,.int .i64 p.wd,.int .i64 p.ln,.slice (some ⟨g,0,none⟩) m cap,(Value.slice aB nB' cB)] 25 (0,0)) := by rw [<- hw9,heap_setCell_same _ _ 3 _ _ _ k8]; rfl
    have hb9 : Below w6.heap.size w6 w9 := by
      rw [<- hw9]; exact (bnx H7.out.1 hb8).setCell (p := ⟨Qb,3,none⟩) (by show _ <= Qb; rw [HQs.out]; exact Nat.le_refl _) _
    have hdr9 : DR w9 P g p.Ds := by
      obtain ⟨cur,hgc,hc⟩ := hdr8; refine ⟨cur,by rw [<- hw9]; exact (heap_setCell_other _ _ _ _ (by show g ≠ Qb; omega)).trans hgc,fun j hj => ?_⟩; obtain ⟨aV,cV,c0,c1,c2,c3,hU⟩ := hc j hj; exact ⟨aV,cV,c0,c1,c2,c3,hU.keep (fun q hq => by rw [<- hw9]; exact heap_setCell_other _ _ _ _ (by show q ≠ Qb; have := hPQ q hq; omega))⟩
    obtain ⟨w10,hw10⟩ : ∃ w10,w9.setCell ⟨g,kx * 4 + 1,none⟩ (.string b) = w10 := ⟨_,rfl⟩; have HW10 : Hid (w9.setCell ⟨g,kx * 4 + 1,none⟩ (.string b) = w10) := hw10; have H10 : Hid (Below w6.heap.size w6 w10 /\ w10.heap[Qb]? = some (.cells #[.string p.s,.int .i64 p.wd,.int .i64 p.ln,.slice (some ⟨g,0,none⟩) m cap,(Value.slice aB nB' cB)] 25 (0,0)) /\ DR w10 P g (p.Ds.map (rnD a b)) /\ Qb < g /\ (∀ j,P j -> j < Qb)) := by
      rw [<- hw10]; refine ⟨hb9.setCell (p := ⟨g,kx * 4 + 1,none⟩) (by show _ <= g; have := HQs.out; omega) _,(heap_setCell_other _ _ _ _ (by show Qb ≠ g; omega)).trans k9,?_,hQg,hPQ⟩; exact hdr9.name (fun h => by have := hPQ g h; omega) HKx.out (by simp) HEs.out
    have HN9 : Hid (w9.cell? ⟨g,kx * 4 + 1,none⟩ = some (.string a) /\ w9.frozen? ⟨g,kx * 4 + 1,none⟩ = false /\ w9.cell? ⟨Qb,3,none⟩ = some (.slice (some ⟨g,0,none⟩) m cap)) := by
      obtain ⟨cur,hgc,hc⟩ := hdr9; obtain ⟨aV,cV,c0,c1,c2,c3,hU⟩ := hc kx HKx.out; rw [Ha.out] at c1; exact ⟨(cell_of hgc _).trans c1,fz_of hgc _,cell_of k9 3⟩
    clear hb8 hg8 hdr8 k8 hw9 hPQ hQg k9 hb9 hdr9 hw10 b3'; refine hK.out _ _ ?_; clear hK K
    try simp only [Act.put,z0,z1,z2]
    refine pl_op (v := ?_) (by rfl) ?_ ?_
    rotate_left
    · go_simp <;> with_reducible rfl
    simp only [Act.put,z0,z1,z2]; refine pl_do (by rfl) (fun K hK => ?_)
    go_simp
    rw [HW9.out]; refine hK.out _ _ ?_; clear hK K f3 c3 HW9
    try simp only [Act.put,z0,z1,z2]
    obtain ⟨z1,z2,z3⟩ := HN9.out
    go_upto_region 12 with fail
    rw [HW10.out]; clear z1 z2 z3 HN9 HW10; obtain ⟨b0,b1,b2,b3,b4⟩ := HBx.out w10 (bnx H6.out H10.out.1)
    go_wp2_with fail
    refine (HCb'.out w10 (bnx H6.out H10.out.1)).mono ?_; rintro e w11 ⟨vX,rfl,hb11,hX⟩; obtain ⟨aX,lX,cX,rfl⟩ : ∃ aX lX cX,vX = .slice aX lX cX := by
      obtain ⟨aX,cX,rfl⟩ := hX.form; exact ⟨aX,_,cX,rfl⟩
    have k11 := blk_next H10.out.2.1 hb11; have f4 := fz_of k11 4; have c4 := cell_of k11 4; obtain ⟨w12,hw12⟩ : ∃ w12,w11.setCell ⟨Qb,4,none⟩ (.slice aX lX cX) = w12 := ⟨_,rfl⟩; have HW12 : Hid (w11.setCell ⟨Qb,4,none⟩ (.slice aX lX cX) = w12) := hw12; have ho : ∀ q,q ≠ Qb -> w12.heap[q]? = w11.heap[q]? := fun q hq => by rw [<- hw12]; exact heap_setCell_other _ _ _ _ hq
    have hsz : w12.heap.size = w11.heap.size := by rw [<- hw12]; simp
    have hb12 : Below w6.heap.size w6 w12 := by
      rw [<- hw12]; exact (H10.out.1.trans (hb11.mono H10.out.1.size)).setCell (p := ⟨Qb,4,none⟩) (by show _ <= Qb; rw [HQs.out]; exact Nat.le_refl _) _
    obtain ⟨PQ,hPQd⟩ : ∃ PQ : Nat -> Prop,PQ = fun q => P q ∨ q = g ∨ (w10.heap.size <= q /\ q < w11.heap.size) := ⟨_,rfl⟩
    have HQq : Hid (∀ W,Below w12.heap.size w12 W -> W.heap[Qb]? = some (.cells #[.string p.s,.int .i64 p.wd,.int .i64 p.ln,.slice (some ⟨g,0,none⟩) m cap,.slice aX lX cX] 25 (0,0)) /\ RDs W PQ (rnP a b p).Ds (.slice (some ⟨g,0,none⟩) m cap) /\ RB W PQ (N + 1) (n + 1) (rnP a b p).Bs (.slice aX lX cX) /\ (∀ j,PQ j -> j < W.heap.size) /\ PQ 0 /\ PQ 1 /\ Lf.TBL 1 W /\ Lf.TBF 0 W) := fun W h => by
      have hR := HR.out W (bnx H6.out (hb12.trans (h.mono hb12.size))); have h10 := H10.out; have hs11 := hb11.size; have hgl : g < w10.heap.size := by obtain ⟨cur,hgc,_⟩ := h10.2.2.1; exact (Array.getElem?_eq_some_iff.1 hgc).1
      have hQl : Qb < w10.heap.size := (Array.getElem?_eq_some_iff.1 h10.2.1).1; refine ⟨blk_next (by rw [<- hw12,heap_setCell_same _ _ 4 _ _ _ k11]; rfl) h,?_,?_,fun j hj => ?_,?_,?_,hR.2.2.2.1,hR.2.2.2.2⟩
      · have h8 := h10.2.2.1.rds cap
        rw [List.length_map,HM.out.1] at h8; have h9 := h8.keep (w' := W) (fun q hq => by
          have hq2 : q < w10.heap.size /\ q ≠ Qb := by
            rcases hq with hq | rfl
            · have := h10.2.2.2.2 q hq; exact ⟨by omega,by omega⟩
            exact ⟨hgl,by omega⟩
          rw [h.block q (by omega),ho q hq2.2,hb11.block q hq2.1])
        rw [hPQd]; exact h9.mono (fun q hq => by rcases hq with hq | hq; exact Or.inl hq; exact Or.inr (Or.inl hq))
      · rw [hPQd]
        have h9 : RB W (fun q => w10.heap.size <= q /\ q < w11.heap.size) (N + 1) (n + 1) (rnB a b p.Bs) (.slice aX lX cX) := hX.keep (fun q hq => by rw [h.block q (by omega),ho q (by omega)]); exact h9.mono (fun q hq => Or.inr (Or.inr hq))
      · rw [hPQd] at hj
        have hW := h.size
        rcases hj with hj | rfl | hj
        · have := h10.2.2.2.2 j hj; omega
        · omega
        omega
      · rw [hPQd]; exact Or.inl HM.out.2.1
      rw [hPQd]; exact Or.inl HM.out.2.2
    have H12 : Hid (Below w6.heap.size w6 w12) := hb12; clear b0 b1 b2 b3 b4 hb11 hX k11 hw12 ho hsz hb12 hPQd H10
    go_upto_region 13 with fail
    rw [HW12.out]; clear f4 c4 HW12; obtain ⟨b0,b1,b2,b3,b4⟩ := HBx.out w12 (bnx H6.out H12.out)
    go_wp2_with fail
    refine (HS1.out _ (bnx H6.out H12.out)).mono ?_; rintro e w13 ⟨c2,a2,er2,z,rfl,hA,hz,hb13⟩; obtain ⟨rfl,rfl,rfl⟩ := hA.uniq HRn.out.1; rw [if_pos rfl] at hz; have Hz : Hid (z = cs7 (p.Bs.map vS) /\ Below w12.heap.size w12 w13) := ⟨hz,hb13⟩; clear b0 b1 b2 b3 b4 hA hz hb13 HS1; have hq13 := HQq.out w13 Hz.out.2; have t0 := cell_of hq13.1 0; have t1 := cell_of hq13.1 1; have t2 := cell_of hq13.1 2; have t3 := cell_of hq13.1 3; have t4 := cell_of hq13.1 4; have HSq : Hid (Calls Tryz.prog 10 #[.agg #[.string p.s,.int .i64 p.wd,.int .i64 p.ln,.slice (some ⟨g,0,none⟩) m cap,.slice aX lX cX]] w13 fun e w' => e = .returned (.tuple #[.int .i64 (z : Int),.int .i64 0]) /\ Below w13.heap.size w13 w') := by
      refine (wsize_any (p := rnP a b p) (P := PQ) true ⟨fun _ => HOk.out,fun _ => rfl⟩ HRg.out hq13.2.1 hq13.2.2.1 hq13.2.2.2.1 hq13.2.2.2.2.1 hq13.2.2.2.2.2.1 hq13.2.2.2.2.2.2.1 hq13.2.2.2.2.2.2.2).mono ?_; rintro e w' ⟨c,a',er,z',rfl,hA,hz',hb'⟩; obtain ⟨_,_,rfl⟩ := hA.uniq HAq.out.1; rw [if_pos rfl] at hz'; rw [hz',HAq.out.2,Hz.out.1]; exact ⟨rfl,hb'⟩
    clear hq13
    go_wp2_with fail
    refine HSq.out.mono ?_; rintro e w14 ⟨rfl,hb14⟩; have H14 : Hid (Below w12.heap.size w12 w14) := bnx Hz.out.2 hb14; clear hb14 t0 t1 t2 t3 t4 HSq; have hq14 := HQq.out w14 H14.out; have t0 := cell_of hq14.1 0; have t1 := cell_of hq14.1 1; have t2 := cell_of hq14.1 2; have t3 := cell_of hq14.1 3; have t4 := cell_of hq14.1 4; have HCq : Hid (Calls Tryz.prog 12 #[.agg #[.string p.s,.int .i64 p.wd,.int .i64 p.ln,.slice (some ⟨g,0,none⟩) m cap,.slice aX lX cX]] w14 fun e w' => e = .returned (.int .i64 0) /\ Below w14.heap.size w14 w') := by
      refine (check_any (p := rnP a b p) (P := PQ) true ⟨fun _ => HOk.out,fun _ => rfl⟩ HRg.out hq14.2.1 hq14.2.2.1 hq14.2.2.2.1 hq14.2.2.2.2.1 hq14.2.2.2.2.2.1 hq14.2.2.2.2.2.2.1 hq14.2.2.2.2.2.2.2).mono ?_; rintro e w' ⟨c,a',er,rfl,hA,hb'⟩; obtain ⟨_,_,rfl⟩ := hA.uniq HAq.out.1; exact ⟨rfl,hb'⟩
    clear hq14
    go_wp2_with (go_at_call 11; refine (no_any _ _).mono ?_; rintro e w' ⟨rfl,hw'⟩; subst w')
    refine HCq.out.mono ?_; rintro e w15 ⟨rfl,hb15⟩; have HZ : Hid (Below w.heap.size w w15) := HBe.out _ (bnx H6.out (H12.out.trans ((bnx H14.out hb15).mono H12.out.size))); clear hb15 t0 t1 t2 t3 t4 HCq
    go_wp2_with (go_at_call 11; refine (no_any _ _).mono ?_; rintro e w' ⟨rfl,hw'⟩; subst w')
    go_ret
    exact ⟨rfl,HZ.out⟩
  rw [if_neg hneg] at hkx; subst hkx
  go_upto_region 10 with fail
  rw [HW7.out.2,HW7.out.1]; clear b0 b1 b2 b3 b4 d1 HW7; obtain ⟨b0,b1,b2,b3,b4⟩ := HBx.out W7 (bnx H6.out H7.out.1); clear b0 b1 b2 b4; have b3' : (W7.alloc (.cells #[] 34)).cell? ⟨Eb,3,none⟩ = some (.slice (some ⟨bD,oD,none⟩) m cD) := ((bel1 W7 (.cells #[] 34)).cell (p := ⟨Eb,3,none⟩) (cell_blt1 b3)).trans b3; refine wp_region_lit ?_; refine pl_do (by rfl) (fun K hK => ?_)
  go_simp
  refine hK.out _ _ ?_; clear hK K b3
  try simp only [Act.put,z0,z1,z2]
  iterate 2 (refine pl_op (v := ?_) (by rfl) ?_ ?_; rotate_left; (focus (go_simp <;> with_reducible rfl)); simp only [Act.put,z0,z1,z2])
  refine pl_do (by rfl) (fun K hK => ?_)
  refine wp_copyD _ _ rfl (W := W7) (P := P) (Ds := p.Ds) (aD := some ⟨bD,oD,none⟩) (n := m) (cD := cD) (by rfl) (by rfl) HM.out.1 (HR.out W7 (bnx H6.out H7.out.1)).1 (HR.out W7 (bnx H6.out H7.out.1)).2.2.1 (by omega) ?_; intro g cap w8 hb8 hg8 hdr8; have k8 : w8.heap[Qb]? = some (.cells #[.string p.s,.int .i64 p.wd,.int .i64 p.ln,.slice (some ⟨bD,oD,none⟩) m cD,(Value.slice aB nB' cB)] 25 (0,0)) := blk_next H7.out.2.1 hb8; have f3 := fz_of k8 3; have c3 := cell_of k8 3; obtain ⟨w9,hw9⟩ : ∃ w9,w8.setCell ⟨Qb,3,none⟩ (.slice (some ⟨g,0,none⟩) m cap) = w9 := ⟨_,rfl⟩; have HW9 : Hid (w8.setCell ⟨Qb,3,none⟩ (.slice (some ⟨g,0,none⟩) m cap) = w9) := hw9; have hPQ : ∀ j,P j -> j < Qb := fun j hj => by rw [<- HQs.out]; exact (HR.out w6 H6.out).2.2.1 j hj
  have hQg : Qb < g := by have := H7.out.2.2; omega
  have k9 : w9.heap[Qb]? = some (.cells #[.string p.s,.int .i64 p.wd,.int .i64 p.ln,.slice (some ⟨g,0,none⟩) m cap,(Value.slice aB nB' cB)] 25 (0,0)) := by rw [<- hw9,heap_setCell_same _ _ 3 _ _ _ k8]; rfl
  have hb9 : Below w6.heap.size w6 w9 := by
    rw [<- hw9]; exact (bnx H7.out.1 hb8).setCell (p := ⟨Qb,3,none⟩) (by show _ <= Qb; rw [HQs.out]; exact Nat.le_refl _) _
  have hdr9 : DR w9 P g p.Ds := by
    obtain ⟨cur,hgc,hc⟩ := hdr8; refine ⟨cur,by rw [<- hw9]; exact (heap_setCell_other _ _ _ _ (by show g ≠ Qb; omega)).trans hgc,fun j hj => ?_⟩; obtain ⟨aV,cV,c0,c1,c2,c3,hU⟩ := hc j hj; exact ⟨aV,cV,c0,c1,c2,c3,hU.keep (fun q hq => by rw [<- hw9]; exact heap_setCell_other _ _ _ _ (by show q ≠ Qb; have := hPQ q hq; omega))⟩
  obtain ⟨w10,hw10⟩ : ∃ w10,w9.setCell ⟨g,kx * 4 + 1,none⟩ (.string b) = w10 := ⟨_,rfl⟩; have HW10 : Hid (w9.setCell ⟨g,kx * 4 + 1,none⟩ (.string b) = w10) := hw10; have H10 : Hid (Below w6.heap.size w6 w10 /\ w10.heap[Qb]? = some (.cells #[.string p.s,.int .i64 p.wd,.int .i64 p.ln,.slice (some ⟨g,0,none⟩) m cap,(Value.slice aB nB' cB)] 25 (0,0)) /\ DR w10 P g (p.Ds.map (rnD a b)) /\ Qb < g /\ (∀ j,P j -> j < Qb)) := by
    rw [<- hw10]; refine ⟨hb9.setCell (p := ⟨g,kx * 4 + 1,none⟩) (by show _ <= g; have := HQs.out; omega) _,(heap_setCell_other _ _ _ _ (by show Qb ≠ g; omega)).trans k9,?_,hQg,hPQ⟩; exact hdr9.name (fun h => by have := hPQ g h; omega) HKx.out (by simp) HEs.out
  have HN9 : Hid (w9.cell? ⟨g,kx * 4 + 1,none⟩ = some (.string a) /\ w9.frozen? ⟨g,kx * 4 + 1,none⟩ = false /\ w9.cell? ⟨Qb,3,none⟩ = some (.slice (some ⟨g,0,none⟩) m cap)) := by
    obtain ⟨cur,hgc,hc⟩ := hdr9; obtain ⟨aV,cV,c0,c1,c2,c3,hU⟩ := hc kx HKx.out; rw [Ha.out] at c1; exact ⟨(cell_of hgc _).trans c1,fz_of hgc _,cell_of k9 3⟩
  clear hb8 hg8 hdr8 k8 hw9 hPQ hQg k9 hb9 hdr9 hw10 b3'; refine hK.out _ _ ?_; clear hK K
  try simp only [Act.put,z0,z1,z2]
  refine pl_op (v := ?_) (by rfl) ?_ ?_
  rotate_left
  · go_simp <;> with_reducible rfl
  simp only [Act.put,z0,z1,z2]; refine pl_do (by rfl) (fun K hK => ?_)
  go_simp
  rw [HW9.out]; refine hK.out _ _ ?_; clear hK K f3 c3 HW9
  try simp only [Act.put,z0,z1,z2]
  obtain ⟨z1,z2,z3⟩ := HN9.out
  go_upto_region 12 with fail
  rw [HW10.out]; clear z1 z2 z3 HN9 HW10; obtain ⟨b0,b1,b2,b3,b4⟩ := HBx.out w10 (bnx H6.out H10.out.1)
  go_wp2_with fail
  refine (HCb'.out w10 (bnx H6.out H10.out.1)).mono ?_; rintro e w11 ⟨vX,rfl,hb11,hX⟩; obtain ⟨aX,lX,cX,rfl⟩ : ∃ aX lX cX,vX = .slice aX lX cX := by
    obtain ⟨aX,cX,rfl⟩ := hX.form; exact ⟨aX,_,cX,rfl⟩
  have k11 := blk_next H10.out.2.1 hb11; have f4 := fz_of k11 4; have c4 := cell_of k11 4; obtain ⟨w12,hw12⟩ : ∃ w12,w11.setCell ⟨Qb,4,none⟩ (.slice aX lX cX) = w12 := ⟨_,rfl⟩; have HW12 : Hid (w11.setCell ⟨Qb,4,none⟩ (.slice aX lX cX) = w12) := hw12; have ho : ∀ q,q ≠ Qb -> w12.heap[q]? = w11.heap[q]? := fun q hq => by rw [<- hw12]; exact heap_setCell_other _ _ _ _ hq
  have hsz : w12.heap.size = w11.heap.size := by rw [<- hw12]; simp
  have hb12 : Below w6.heap.size w6 w12 := by
    rw [<- hw12]; exact (H10.out.1.trans (hb11.mono H10.out.1.size)).setCell (p := ⟨Qb,4,none⟩) (by show _ <= Qb; rw [HQs.out]; exact Nat.le_refl _) _
  obtain ⟨PQ,hPQd⟩ : ∃ PQ : Nat -> Prop,PQ = fun q => P q ∨ q = g ∨ (w10.heap.size <= q /\ q < w11.heap.size) := ⟨_,rfl⟩
  have HQq : Hid (∀ W,Below w12.heap.size w12 W -> W.heap[Qb]? = some (.cells #[.string p.s,.int .i64 p.wd,.int .i64 p.ln,.slice (some ⟨g,0,none⟩) m cap,.slice aX lX cX] 25 (0,0)) /\ RDs W PQ (rnP a b p).Ds (.slice (some ⟨g,0,none⟩) m cap) /\ RB W PQ (N + 1) (n + 1) (rnP a b p).Bs (.slice aX lX cX) /\ (∀ j,PQ j -> j < W.heap.size) /\ PQ 0 /\ PQ 1 /\ Lf.TBL 1 W /\ Lf.TBF 0 W) := fun W h => by
    have hR := HR.out W (bnx H6.out (hb12.trans (h.mono hb12.size))); have h10 := H10.out; have hs11 := hb11.size; have hgl : g < w10.heap.size := by obtain ⟨cur,hgc,_⟩ := h10.2.2.1; exact (Array.getElem?_eq_some_iff.1 hgc).1
    have hQl : Qb < w10.heap.size := (Array.getElem?_eq_some_iff.1 h10.2.1).1; refine ⟨blk_next (by rw [<- hw12,heap_setCell_same _ _ 4 _ _ _ k11]; rfl) h,?_,?_,fun j hj => ?_,?_,?_,hR.2.2.2.1,hR.2.2.2.2⟩
    · have h8 := h10.2.2.1.rds cap
      rw [List.length_map,HM.out.1] at h8; have h9 := h8.keep (w' := W) (fun q hq => by
        have hq2 : q < w10.heap.size /\ q ≠ Qb := by
          rcases hq with hq | rfl
          · have := h10.2.2.2.2 q hq; exact ⟨by omega,by omega⟩
          exact ⟨hgl,by omega⟩
        rw [h.block q (by omega),ho q hq2.2,hb11.block q hq2.1])
      rw [hPQd]; exact h9.mono (fun q hq => by rcases hq with hq | hq; exact Or.inl hq; exact Or.inr (Or.inl hq))
    · rw [hPQd]
      have h9 : RB W (fun q => w10.heap.size <= q /\ q < w11.heap.size) (N + 1) (n + 1) (rnB a b p.Bs) (.slice aX lX cX) := hX.keep (fun q hq => by rw [h.block q (by omega),ho q (by omega)]); exact h9.mono (fun q hq => Or.inr (Or.inr hq))
    · rw [hPQd] at hj
      have hW := h.size
      rcases hj with hj | rfl | hj
      · have := h10.2.2.2.2 j hj; omega
      · omega
      omega
    · rw [hPQd]; exact Or.inl HM.out.2.1
    rw [hPQd]; exact Or.inl HM.out.2.2
  have H12 : Hid (Below w6.heap.size w6 w12) := hb12; clear b0 b1 b2 b3 b4 hb11 hX k11 hw12 ho hsz hb12 hPQd H10
  go_upto_region 13 with fail
  rw [HW12.out]; clear f4 c4 HW12; obtain ⟨b0,b1,b2,b3,b4⟩ := HBx.out w12 (bnx H6.out H12.out)
  go_wp2_with fail
  refine (HS1.out _ (bnx H6.out H12.out)).mono ?_; rintro e w13 ⟨c2,a2,er2,z,rfl,hA,hz,hb13⟩; obtain ⟨rfl,rfl,rfl⟩ := hA.uniq HRn.out.1; rw [if_pos rfl] at hz; have Hz : Hid (z = cs7 (p.Bs.map vS) /\ Below w12.heap.size w12 w13) := ⟨hz,hb13⟩; clear b0 b1 b2 b3 b4 hA hz hb13 HS1; have hq13 := HQq.out w13 Hz.out.2; have t0 := cell_of hq13.1 0; have t1 := cell_of hq13.1 1; have t2 := cell_of hq13.1 2; have t3 := cell_of hq13.1 3; have t4 := cell_of hq13.1 4; have HSq : Hid (Calls Tryz.prog 10 #[.agg #[.string p.s,.int .i64 p.wd,.int .i64 p.ln,.slice (some ⟨g,0,none⟩) m cap,.slice aX lX cX]] w13 fun e w' => e = .returned (.tuple #[.int .i64 (z : Int),.int .i64 0]) /\ Below w13.heap.size w13 w') := by
    refine (wsize_any (p := rnP a b p) (P := PQ) true ⟨fun _ => HOk.out,fun _ => rfl⟩ HRg.out hq13.2.1 hq13.2.2.1 hq13.2.2.2.1 hq13.2.2.2.2.1 hq13.2.2.2.2.2.1 hq13.2.2.2.2.2.2.1 hq13.2.2.2.2.2.2.2).mono ?_; rintro e w' ⟨c,a',er,z',rfl,hA,hz',hb'⟩; obtain ⟨_,_,rfl⟩ := hA.uniq HAq.out.1; rw [if_pos rfl] at hz'; rw [hz',HAq.out.2,Hz.out.1]; exact ⟨rfl,hb'⟩
  clear hq13
  go_wp2_with fail
  refine HSq.out.mono ?_; rintro e w14 ⟨rfl,hb14⟩; have H14 : Hid (Below w12.heap.size w12 w14) := bnx Hz.out.2 hb14; clear hb14 t0 t1 t2 t3 t4 HSq; have hq14 := HQq.out w14 H14.out; have t0 := cell_of hq14.1 0; have t1 := cell_of hq14.1 1; have t2 := cell_of hq14.1 2; have t3 := cell_of hq14.1 3; have t4 := cell_of hq14.1 4; have HCq : Hid (Calls Tryz.prog 12 #[.agg #[.string p.s,.int .i64 p.wd,.int .i64 p.ln,.slice (some ⟨g,0,none⟩) m cap,.slice aX lX cX]] w14 fun e w' => e = .returned (.int .i64 0) /\ Below w14.heap.size w14 w') := by
    refine (check_any (p := rnP a b p) (P := PQ) true ⟨fun _ => HOk.out,fun _ => rfl⟩ HRg.out hq14.2.1 hq14.2.2.1 hq14.2.2.2.1 hq14.2.2.2.2.1 hq14.2.2.2.2.2.1 hq14.2.2.2.2.2.2.1 hq14.2.2.2.2.2.2.2).mono ?_; rintro e w' ⟨c,a',er,rfl,hA,hb'⟩; obtain ⟨_,_,rfl⟩ := hA.uniq HAq.out.1; exact ⟨rfl,hb'⟩
  clear hq14
  go_wp2_with (go_at_call 11; refine (no_any _ _).mono ?_; rintro e w' ⟨rfl,hw'⟩; subst w')
  refine HCq.out.mono ?_; rintro e w15 ⟨rfl,hb15⟩; have HZ : Hid (Below w.heap.size w w15) := HBe.out _ (bnx H6.out (H12.out.trans ((bnx H14.out hb15).mono H12.out.size))); clear hb15 t0 t1 t2 t3 t4 HCq
  go_wp2_with (go_at_call 11; refine (no_any _ _).mono ?_; rintro e w' ⟨rfl,hw'⟩; subst w')
  go_ret
  exact ⟨rfl,HZ.out⟩
end Go.Proofs.YtfljcdccepnidaaGreatDoor
