import Derived.Test.YtkpapgfbnledpaaGreatDoorEwM
import Derived.Test.YtkpapgfbnledpaaGreatDoorEvQ
set_option maxHeartbeats 8000000
set_option maxRecDepth 100000
namespace Go.Proofs.YtkpapgfbnledpaaGreatDoor.GP
open Go.Proofs.YtkpapgfbnledpaaGreatDoor
open Go.ChangeShapes Go.WideShapes Go.ChangeAt Go.RowKit Go.Lib Go.Tm Go.Bw Go.Bn Go.WideMaps Go.Maps Go.ChangeMaps Go.Shelf

theorem row_rty {w : World} {B t k n m c q : Nat} {v : Value} {xs : List Value} {ad : Option Addr} (h : w.ownsRow B t k v n xs) (e : v = .slice ad m c) : RTY w ad q t := fun b o e0 _ => by
  rcases h.2 with ⟨e1,_⟩ | ⟨g,cap,cur,e1,_,h3,_⟩
  · rw [e] at e1
    injection e1 with e2
    rw [e2] at e0; cases e0
  rw [e] at e1
  injection e1 with e2
  rw [e2] at e0; cases e0; exact ⟨cur,(0,0),h3⟩
theorem lload_rt (l : List UInt8) (w : World) (hE : ENV w) (h9 : 10 <= w.heap.size) (hl : l.length <= 1048575) (L : List Nd) (rs : List Int) (kN : Nat) (cI : Int) (hG : ldG 0 (lgo [] l) [] [] = (L,rs,kN,cI)) :
    Calls Tryz.prog 8 #[.string ⟨l.toArray⟩] w fun e w' => Below w.heap.size w w' /\ ((∃ v1 v2,e = .returned (.tuple #[v1,v2,.bool false])) ∨ ∃ B aR cR,e = .returned (.tuple #[.pointer (some ⟨B,0,none⟩),.slice aR rs.length cR,.bool true]) /\ (GI.LDD w w' B aR cR L rs /\ RTY w' aR rs.length 3)) := by
  have HLd : Hid (Calls Tryz.prog 23 #[.string ⟨l.toArray⟩,.int .i64 0] w fun e w' => Below w.heap.size w w' /\ ((cI ≠ 0 /\ e = .returned (.tuple #[.pointer none,.slice none 0 0,.int .i64 (kN : Int),.int .i64 cI])) ∨ ∃ B aR cR,e = .returned (.tuple #[.pointer (some ⟨B,0,none⟩),.slice aR rs.length cR,.int .i64 0,.int .i64 0]) /\ (GI.LDD w w' B aR cR L rs /\ RTY w' aR rs.length 3))) := (load_any l 0 w (by omega) (by unfold I64; omega) hE h9 (by omega) _ hG).mono fun e w' ⟨hb,h⟩ => ⟨hb,by
    rcases h with ⟨h0,he⟩ | ⟨_,_,B,v,he,hrow,hsm⟩
    · exact Or.inl ⟨h0,he⟩
    obtain ⟨ad,c,rfl,hc,hi⟩ := GI.ir_ints2 (xs := rs) hrow; exact Or.inr ⟨B,ad,c,he,⟨hi,hc,hsm⟩,row_rty hrow rfl⟩⟩
  have HNo : Hid (∀ (e : Int) (W : World),Calls Tryz.prog 10 #[.int .i64 e] W fun E w' => E = .returned (.int .i64 e) /\ w' = W) := no_any; clear hE h9 hl hG
  generalize (⟨l.toArray⟩ : ByteArray) = s at *
  obtain ⟨kI,hkI⟩ : ∃ kI : Int,(kN : Int) = kI := ⟨_,rfl⟩; rw [hkI] at HLd; clear hkI
  generalize rs.length = q at *
  go_enter Tryz.func8,Tryz.ntmps8
  go_wp2_with fail
  refine HLd.out.mono ?_; rintro e w1 ⟨hb1,⟨h0,rfl⟩ | ⟨B,aR,cR,rfl,hld⟩⟩
  · have H1 : Hid (Below w.heap.size w w1) := hb1
    clear hb1 HLd; have q0 : (cI == 0) = false := by simpa using h0
    go_wp2_with fail
    refine (HNo.out cI w1).mono ?_; rintro e w' ⟨rfl,rfl⟩
    go_wp2_with fail
    first
      | exact ⟨H1.out,Or.inl ⟨_,_,rfl⟩⟩
      | (go_ret3; exact ⟨H1.out,Or.inl ⟨_,_,rfl⟩⟩)
  have H1 : Hid (Below w.heap.size w w1 /\ (GI.LDD w w1 B aR cR L rs /\ RTY w1 aR q 3)) := ⟨hb1,hld⟩; clear hb1 hld HLd
  go_wp2_with fail
  refine (HNo.out 0 w1).mono ?_; rintro e w' ⟨rfl,rfl⟩
  go_wp2_with fail
  first
    | exact ⟨H1.out.1,Or.inr ⟨B,aR,cR,rfl,H1.out.2⟩⟩
    | (go_ret3; exact ⟨H1.out.1,Or.inr ⟨B,aR,cR,rfl,H1.out.2⟩⟩)
end Go.Proofs.YtkpapgfbnledpaaGreatDoor.GP
namespace Go.Proofs.YtkpapgfbnledpaaGreatDoor.GP
open Go.Proofs.YtkpapgfbnledpaaGreatDoor
open Go.Proofs.YtkpapgfbnledpaaGreatDoor.G2 (V9 VK V9_ex UNQ vars_unq vars_in var_facts name_one no_name drL drV drL_len drL_at drL_in drV_ok getD_in tell_in tell_some)
open Go.Proofs.YtkpapgfbnledpaaGreatDoor.G3 (STO sto_nil ldG_sto ldG_roots ldG_len lgo_num)
open Go.ChangeShapes Go.WideShapes Go.ChangeAt Go.RowKit Go.Lib Go.Tm Go.Bw Go.Bn Go.WideMaps Go.Maps Go.ChangeMaps Go.Shelf

def ixF (L : List Nd) (x : Vl) : Nat := (mk 0 L ⟨4,x.w,0,0,0,0,x.nm⟩).2.1.toNat
theorem ix_at {L : List Nd} (h : STO L) {t : Nat} (h1 : 1 <= t) (h2 : t <= L.length) (h4 : (L.getD (t - 1) z0).op = 4) {x : Vl} (e1 : x.nm = (L.getD (t - 1) z0).name) (e2 : x.w = (L.getD (t - 1) z0).w) : ixF L x = t := by
  obtain ⟨hr,hp⟩ := mk_var h h1 h2 h4; unfold ixF mk; rw [e1,e2,if_neg (by omega),hp]
  show (((t - 1 : Nat) : Int) + 1).toNat = t
  omega
theorem po_mem (vs : List Vl) (ix : Nat -> Nat) : ∀ (n : Nat) (p : ByteArray × Nat),p ∈ poF vs ix n -> ∃ i,i < n /\ p = ((vs.getD i vZ).nm,ix i)
  | 0,p,h => by cases h
  | n + 1,p,h => by
    rcases List.mem_append.1 h with h | h
    · obtain ⟨i,hi,e⟩ := po_mem vs ix n p h
      exact ⟨i,by omega,e⟩
    exact ⟨n,by omega,List.mem_singleton.1 h⟩
theorem ps_mem (vs : List Vl) (rs : List Int) (nd : Nat -> Nd) (pk : List Int) : ∀ (n : Nat) (p : ByteArray × Nat),p ∈ psF vs rs nd pk n -> ∃ i j,i < n /\ j < rs.length /\ (nd j).w = (vs.getD i vZ).w /\ p = ((vs.getD i vZ).nm,(rs.getD j 0).toNat)
  | 0,p,h => by cases h
  | n + 1,p,h => by
    rcases List.mem_append.1 h with h | h
    · obtain ⟨i,j,hi,e⟩ := ps_mem vs rs nd pk n p h
      exact ⟨i,j,by omega,e⟩
    unfold psS at h
    split at h
    · cases h
    rename_i j hj
    split at h
    · rename_i hw
      refine ⟨n,j,by omega,?_,hw,List.mem_singleton.1 h⟩; unfold pkJ at hj
      split at hj
      · cases hj
      rename_i h0
      split at hj
      · cases hj
      cases hj; exact Nat.mod_lt _ (by omega)
    cases h
theorem po_pair {vs : List Vl} (hu : UNQ vs) (ix : Nat -> Nat) : ∀ n,n <= vs.length -> (poF vs ix n).Pairwise (fun a b => ¬ b.1 = a.1)
  | 0,_ => List.Pairwise.nil
  | n + 1,hn => by
    refine List.pairwise_append.2 ⟨po_pair hu ix n (by omega),List.pairwise_singleton _ _,fun a ha b hb => ?_⟩; obtain ⟨i,hi,rfl⟩ := po_mem vs ix n a ha; obtain rfl := List.mem_singleton.1 hb; exact hu.idx i n hi (by omega)
theorem ps_pair {vs : List Vl} (hu : UNQ vs) (rs : List Int) (nd : Nat -> Nd) (pk : List Int) : ∀ n,n <= vs.length -> (psF vs rs nd pk n).Pairwise (fun a b => ¬ b.1 = a.1)
  | 0,_ => List.Pairwise.nil
  | n + 1,hn => by
    refine List.pairwise_append.2 ⟨ps_pair hu rs nd pk n (by omega),?_,fun a ha b hb => ?_⟩
    · unfold psS
      split
      · exact List.Pairwise.nil
      split
      · exact List.pairwise_singleton _ _
      exact List.Pairwise.nil
    obtain ⟨i,j,hi,_,_,rfl⟩ := ps_mem vs rs nd pk n a ha; have hb2 : b.1 = (vs.getD n vZ).nm := by
      unfold psS at hb
      split at hb
      · cases hb
      split at hb
      · rw [List.mem_singleton.1 hb]
      cases hb
    rw [hb2]; exact hu.idx i n hi (by omega)
theorem pair_idx {ps : List (ByteArray × Nat)} (h : ps.Pairwise (fun a b => ¬ b.1 = a.1)) : ∀ i j,i < j -> j < ps.length -> ¬ (ps.getD j (ByteArray.empty,0)).1 = (ps.getD i (ByteArray.empty,0)).1 := fun i j h1 h2 => by
  have := List.pairwise_iff_getElem.1 h i j (by omega) h2 h1; rw [List.getD_eq_getElem?_getD,List.getElem?_eq_getElem h2,List.getD_eq_getElem?_getD,List.getElem?_eq_getElem (show i < ps.length by omega)]; exact this
theorem upN_val {V : V9} {L : List Nd} {ps : List (ByteArray × Nat)} {x2 : ByteArray -> Nat} {fi : Nat -> Nat} (hf : ∀ k,k < ps.length -> fi k = ev V L x2 (ps.getD k (ByteArray.empty,0)).2) (x : Vl) : valU ps fi ps.length x = valF V L ps x2 x := by
  have key : ∀ k,k <= ps.length -> (⟨x.nm,x.w,upN ps fi x k⟩ : Vl) = valF V L (ps.take k) x2 x := by
    intro k
    induction k with
    | zero =>
      intro _
      rfl
    | succ k ih =>
      intro hk; have h9 := ih (by omega); unfold valF at h9 ⊢; rw [tm_take (by omega),upN]
      by_cases e : (ps.getD k (ByteArray.empty,0)).1 = x.nm
      · rw [if_pos e,if_pos e.symm,hf k (by omega)]
      rw [if_neg e,if_neg (fun h => e h.symm)]; exact h9
  have := key ps.length (Nat.le_refl _); rw [List.take_length] at this; exact this
end Go.Proofs.YtkpapgfbnledpaaGreatDoor.GP
namespace Go.Proofs.YtkpapgfbnledpaaGreatDoor.GP
open Go.Proofs.YtkpapgfbnledpaaGreatDoor
open Go.Proofs.YtkpapgfbnledpaaGreatDoor.G2 (V9 VK V9_ex UNQ vars_unq vars_in var_facts name_one no_name drL drV drL_len drL_at drL_in drV_ok getD_in tell_in tell_some)
open Go.Proofs.YtkpapgfbnledpaaGreatDoor.G3 (STO sto_nil ldG_sto ldG_roots ldG_len lgo_num)
open Go.ChangeShapes Go.WideShapes Go.ChangeAt Go.RowKit Go.Lib Go.Tm Go.Bw Go.Bn Go.WideMaps Go.Maps Go.ChangeMaps Go.Shelf

theorem getD_mem {α : Type} {xs : List α} {i : Nat} {d : α} (h : i < xs.length) : xs.getD i d ∈ xs := by
  rw [List.getD_eq_getElem?_getD,List.getElem?_eq_getElem h]; exact List.getElem_mem _
theorem map_at {rs : List Int} {f : Int -> Int} {j : Nat} (h : j < rs.length) : (rs.map f).getD j 0 = f (rs.getD j 0) := by
  rw [List.getD_eq_getElem?_getD,List.getElem?_map,List.getD_eq_getElem?_getD,List.getElem?_eq_getElem h]
  rfl
theorem vr_blk {W5 W : World} {ad : Option Addr} {xs : List Vl} (h : VR W5 ad xs) (hs : W5.heap.size <= W.heap.size) (hk : ∀ b o,ad = some ⟨b,o,none⟩ -> 0 < xs.length -> b < W5.heap.size -> W.heap[b]? = W5.heap[b]?) : VR W ad xs := GI.vr_keep h hs hk
theorem pmf_of {w w' : World} {B cR nU cU : Nat} {aR aU : Option Addr} {L : List Nd} {rs pk : List Int} {nums : List Nat} (hb2 : Below w.heap.size w w') (hld : GI.LDD w w' B aR cR L rs) (hrt : RTY w' aR rs.length 3) (hst : STO L) (hr : ∀ x ∈ rs,isT L x = true) (hll : L.length <= 2000000) (hrl : rs.length <= 1048576) (hnU : nums.length = nU) (hnl : nU <= 1048576) (hnu : ∀ x ∈ nums,x <= 18446744073709551615) :
    ∃ vs ix nd fa fi fv vals Q,PMF w' B rs.length aR cR rs vs ix nd pk aU cU nU nums fa fi fv vals w.heap.size Q := by
  obtain ⟨V,hV⟩ := V9_ex; obtain ⟨v1,M1,M2,hsm⟩ := hld.sm; obtain ⟨hW,_,hroot,_⟩ := og_ok (R := fun _ => True) hst.pars.1 (toN rs) [] (PW.nil L) ⟨fun _ _ _ _ => Or.inl trivial,fun _ _ _ _ => Or.inl trivial⟩ (toN_b hr); have hrt' : ∀ j,j < rs.length -> 1 <= rs.getD j 0 /\ rs.getD j 0 <= (L.length : Int) /\ (rs.getD j 0).toNat ∈ og L [] (toN rs) := fun j hj => by
    have hm := getD_mem (d := (0 : Int)) hj; have h1 := (of_decide_eq_true (hr _ hm) : 1 <= rs.getD j 0 /\ rs.getD j 0 <= (L.length : Int)); exact ⟨h1.1,h1.2,hroot _ (List.mem_map.2 ⟨_,hm,rfl⟩)⟩
  obtain ⟨O,hO⟩ : ∃ O,og L [] (toN rs) = O := ⟨_,rfl⟩; obtain ⟨vs,hvs⟩ : ∃ vs,varsF L O = vs := ⟨_,rfl⟩; have hva := fun W (a : Option Addr) c (hX : Below w'.heap.size w' W) (hi : IR W a rs) => GI.varsfn_own w.heap.size B 0 L v1 M1 M2 (ad := a) (cp := c) W (hsm.below hX) hst.pars.1 hi (by omega) hr
  rw [hO] at hW hrt' hva; rw [hvs] at hva; have hlO : O.length <= L.length := by have := hW.len; simpa using this
  have hvl : vs.length <= L.length := by rw [<- hvs]; exact Nat.le_trans (varsF_len L O) hlO
  have hvin : ∀ x,x ∈ vs ↔ ∃ t ∈ O,(L.getD (t - 1) z0).op = 4 /\ x = ⟨(L.getD (t - 1) z0).name,(L.getD (t - 1) z0).w,0⟩ := fun x => by rw [<- hvs]; exact vars_in
  have hu : UNQ vs := by rw [<- hvs]; exact vars_unq hst hW.ob hW.on
  have hvi : ∀ i,i < vs.length -> ∃ t ∈ O,(1 <= t /\ t <= L.length) /\ (L.getD (t - 1) z0).op = 4 /\ (vs.getD i vZ).nm = (L.getD (t - 1) z0).name /\ (vs.getD i vZ).w = (L.getD (t - 1) z0).w /\ ixF L (vs.getD i vZ) = t := fun i hi => by
    obtain ⟨t,ht,h4,e⟩ := (hvin _).1 (getD_mem (d := vZ) hi); have hb := hW.ob t ht; exact ⟨t,ht,hb,h4,by rw [e],by rw [e],ix_at hst hb.1 hb.2 h4 (by rw [e]) (by rw [e])⟩
  have hvw : ∀ x ∈ vs,0 <= x.w /\ x.w <= 64 := fun x hx => by
    obtain ⟨t,ht,h4,rfl⟩ := (hvin x).1 hx; have hb := hW.ob t ht; exact (hst.pars.2 _ (getD_in (L := L) (i := t - 1) (by omega))).w
  have hvn : ∀ x ∈ vs,nmB x.nm = true /\ x.nm.size <= 140737488355328 := fun x hx => by
    obtain ⟨t,ht,h4,rfl⟩ := (hvin x).1 hx; have hb := hW.ob t ht; have h5 := var_facts hst (i := t - 1) (by omega) h4; exact ⟨h5.1,Nat.le_trans h5.2.1 (by omega)⟩
  obtain ⟨vals,hvals⟩ : ∃ vals,drL nums vs vs.length = vals := ⟨_,rfl⟩; have hlv : vals.length = vs.length := by rw [<- hvals,drL_len]
  have hvv : ∀ x ∈ vals,∃ i,i < vs.length /\ x.nm = (vs.getD i vZ).nm /\ x.w = (vs.getD i vZ).w /\ okV x := fun x hx => by
    rw [<- hvals] at hx; obtain ⟨j,hj,rfl⟩ := drL_in.1 hx; exact ⟨j,hj,rfl,rfl,drV_ok hnu (hvw _ (getD_mem hj))⟩
  have hvg : ∀ x ∈ vals,nmB x.nm = true /\ x.nm.size <= 140737488355328 /\ okV x := fun x hx => by
    obtain ⟨i,hi,e1,_,h5⟩ := hvv x hx; rw [e1]; exact ⟨(hvn _ (getD_mem hi)).1,(hvn _ (getD_mem hi)).2,h5⟩
  obtain ⟨nd,hnd⟩ : ∃ nd : Nat -> Nd,nd = fun j => L.getD ((rs.getD j 0).toNat - 1) z0 := ⟨_,rfl⟩
  obtain ⟨ps,hps⟩ : ∃ ps,psF vs rs nd pk vs.length = ps := ⟨_,rfl⟩; have hpsm : ∀ p ∈ ps,∃ i j,i < vs.length /\ j < rs.length /\ (nd j).w = (vs.getD i vZ).w /\ p = ((vs.getD i vZ).nm,(rs.getD j 0).toNat) := fun p hp => by rw [<- hps] at hp; exact ps_mem vs rs nd pk _ p hp
  have hpan : PAN V L O vals ps := by
    refine ⟨hV,hst,hsm.okL,hW,by rw [<- hvals]; exact unq_dr hu,fun x hx => (hvg x hx).2.2,fun x => ⟨?_,?_⟩,fun p hp => ?_⟩
    · rintro ⟨y,hy,e1,e2⟩
      obtain ⟨i,hi,q1,q2,_⟩ := hvv y hy; obtain ⟨t,ht,_,h4,q3,q4,_⟩ := hvi i hi; exact ⟨t,ht,h4,by rw [<- e1,q1,q3],by rw [<- e2,q2,q4]⟩
    · rintro ⟨t,ht,h4,e1,e2⟩
      have hx : (⟨(L.getD (t - 1) z0).name,(L.getD (t - 1) z0).w,0⟩ : Vl) ∈ vs := (hvin _).2 ⟨t,ht,h4,rfl⟩; obtain ⟨i,hi,q⟩ := List.getElem_of_mem hx; refine ⟨drV nums vs i,by rw [<- hvals]; exact drL_in.2 ⟨i,hi,rfl⟩,?_⟩; have e : vs.getD i vZ = ⟨(L.getD (t - 1) z0).name,(L.getD (t - 1) z0).w,0⟩ := by rw [List.getD_eq_getElem?_getD,List.getElem?_eq_getElem hi]; exact q
      exact ⟨by rw [e1]; show (vs.getD i vZ).nm = _; rw [e],by rw [e2]; show (vs.getD i vZ).w = _; rw [e]⟩
    obtain ⟨i,j,hi,hj,hw,rfl⟩ := hpsm p hp; obtain ⟨r1,r2,_⟩ := hrt' j hj; refine ⟨drV nums vs i,by rw [<- hvals]; exact drL_in.2 ⟨i,hi,rfl⟩,rfl,by dsimp only; omega,by dsimp only; omega,?_⟩; rw [hnd] at hw; exact hw
  obtain ⟨x2,hx2⟩ : ∃ x2,xM (tellF vals) = x2 := ⟨_,rfl⟩; obtain ⟨x1,hx1⟩ : ∃ x1,xM (tellF (vals.map (valF V L ps x2))) = x1 := ⟨_,rfl⟩; have hpth := hpan.pth; have hok2 := hpan.okv2; rw [hx2] at hpth hok2; rw [hx1] at hpth; obtain ⟨s1,hs1,hI⟩ := put_take hpth hW O.length (Nat.le_refl _); rw [List.take_of_length_le (by simp)] at hs1; rw [List.take_length] at hI; obtain ⟨X,eX,hX⟩ := hI.pre; have hST2 := hI.sto; have hL2 : s1.1.length <= 2 * L.length := by rw [eX,List.length_append]; omega
  have hr2 : ∀ x ∈ rs,isT s1.1 x = true := fun x hx => by
    have h1 := (of_decide_eq_true (hr x hx) : 1 <= x /\ x <= (L.length : Int)); exact decide_eq_true ⟨h1.1,by rw [eX,List.length_append]; omega⟩
  have hlow := fun k (hk : Own B v1 M1 M2 k) => hsm.lt hk
  have hB0 : w.heap.size <= w'.heap.size := hb2.size; have hfit2 : ∀ y,(y ∈ vals ∨ y ∈ vals.map (valF V L ps x2)) -> ∀ t,1 <= t -> t <= s1.1.length -> (s1.1.getD (t - 1) z0).op = 4 -> y.nm = (s1.1.getD (t - 1) z0).name -> y.w = (s1.1.getD (t - 1) z0).w := fun y hy t q1 q2 q4 e => by
    rcases hy with hy | hy
    · exact hpan.wid hST2 ⟨X,eX⟩ q1 q2 q4 hy e
    obtain ⟨z,hz,rfl⟩ := List.mem_map.1 hy; obtain ⟨e1,e2⟩ := valF_nm V L ps x2 z; rw [e1] at e; rw [e2]; exact hpan.wid hST2 ⟨X,eX⟩ q1 q2 q4 hz e
  have hP2 : PAR (L ++ X) := by rw [<- eX]; exact hST2.pars.1
  have hfi : ∀ k,k < ps.length -> 1 <= (ps.getD k (ByteArray.empty,0)).2 /\ (ps.getD k (ByteArray.empty,0)).2 <= L.length /\ ev V s1.1 x2 (ps.getD k (ByteArray.empty,0)).2 = ev V L x2 (ps.getD k (ByteArray.empty,0)).2 := fun k hk => by
    obtain ⟨i,j,hi,hj,_,e⟩ := hpsm _ (getD_mem (d := (ByteArray.empty,0)) hk); obtain ⟨r1,r2,_⟩ := hrt' j hj; rw [e]
    dsimp only
    exact ⟨by omega,by omega,by rw [eX]; exact ev_app hst.pars.1 hP2 _ _ (Nat.le_refl _) (by omega)⟩
  have hvmap : vals.map (valU ps (fun k => ev V s1.1 x2 (ps.getD k (ByteArray.empty,0)).2) ps.length) = vals.map (valF V L ps x2) := List.map_congr_left fun x _ => upN_val (fun k hk => (hfi k hk).2.2) x
  have hpt : ∀ p ∈ ps,1 <= p.2 /\ p.2 <= L.length := fun p hp => by
    obtain ⟨i,j,hi,hj,_,rfl⟩ := hpsm p hp; obtain ⟨r1,r2,_⟩ := hrt' j hj; exact ⟨by dsimp only; omega,by dsimp only; omega⟩
  have hpg : ∀ p ∈ ps,nmB p.1 = true /\ p.1.size <= 140737488355328 := fun p hp => by
    obtain ⟨i,j,hi,hj,_,rfl⟩ := hpsm p hp; exact hvn _ (getD_mem hi)
  have hpl : ps.length <= vs.length := by rw [<- hps]; exact ps_len vs rs nd pk vs.length
  have hpp : ps.Pairwise (fun a b => ¬ b.1 = a.1) := by rw [<- hps]; exact ps_pair hu rs nd pk vs.length (Nat.le_refl _)
  have hstart : ∀ W5,Below w'.heap.size w' W5 -> PS w' W5 w.heap.size B v1 M1 M2 aR rs L W5 := fun W5 h5 => ⟨Nat.le_refl _,fun _ _ _ => rfl,fun _ _ => rfl,⟨rfl,rfl,rfl⟩,hld.ir.below h5,hrt.below h5,Nat.le_trans hB0 h5.size,v1,hsm.below h5,fun k hk => Or.inl hk⟩
  have hown2 : ∀ (po : List (ByteArray × Nat)),(∀ p ∈ po,∃ i,i < vs.length /\ p = ((vs.getD i vZ).nm,ixF L (vs.getD i vZ))) -> (∀ t,1 <= t -> t <= s1.1.length -> ∀ r,tmF po (s1.1.getD (t - 1) z0).name = some r -> (s1.1.getD (t - 1) z0).op = 4 /\ r = t) := fun po hpo t q1 q2 r hr' => by
    obtain ⟨i,hi,e⟩ := hpo _ (tm_mem _ po rfl _ _ hr'); obtain ⟨t0,ht0,hb0,h40,n0,_,i0⟩ := hvi i hi
    injection e with e1 e2
    have eg : s1.1.getD (t0 - 1) z0 = L.getD (t0 - 1) z0 := by rw [eX]; exact getD_app (by omega)
    have hl0 : t0 <= s1.1.length := by rw [eX,List.length_append]; omega
    have h4 : (s1.1.getD (t - 1) z0).op = 4 := by
      by_cases h4 : (s1.1.getD (t - 1) z0).op = 4
      · exact h4
      have z1 := no_name hST2 (i := t - 1) (by omega) h4; have z2 := (hvn _ (getD_mem (d := vZ) hi)).1; rw [<- e1] at z2; exact absurd z1 (nm_ne z2)
    have := name_one hST2 (i := t0 - 1) (j := t - 1) (by omega) (by omega) (by rw [eg]; exact h40) h4 (by rw [e1,n0,eg]); exact ⟨h4,by rw [e2,i0]; omega⟩
  have hput2 : ∀ (po : List (ByteArray × Nat)),(∀ p ∈ po,∃ i,i < vs.length /\ p = ((vs.getD i vZ).nm,ixF L (vs.getD i vZ))) -> po.Pairwise (fun a b => ¬ b.1 = a.1) -> po.length <= vs.length -> ∀ W5 W aO cO aS cS,PS w' W5 w.heap.size B v1 M1 M2 aR rs s1.1 W -> NMR W aO (fsts po) -> IR W aS (snds po) -> Calls Tryz.prog 13 #[.pointer (some ⟨B,0,none⟩),.slice aR rs.length cR,.slice aO po.length cO,.slice aS po.length cS] W fun e w2 => ∃ g2,e = .returned (.tuple #[.slice (some ⟨g2,0,none⟩) rs.length rs.length,.int .i64 0]) /\ GI.UL w2 g2 rs.length (fun j => (rs.getD j 0).toNat) /\ PS w' W5 w.heap.size B v1 M1 M2 aR rs s1.1 w2 /\ ∀ g n f,GI.UL W g n f -> GI.UL w2 g n f := fun po hpo hpw hpol W5 W aO cO aS cS hQ hN hT => by
    have hown := hown2 po hpo; have hpth2 : PTH V 0 s1.1 (tmF po) (fun _ => 0) (fun _ => 0) := ⟨hST2.good,hST2.pars,Int.le_refl _,fun t q1 q2 r h => by
      obtain ⟨h4,rfl⟩ := hown t q1 q2 r h; exact ⟨h4,q1,q2,rfl,rfl⟩,fun _ _ _ _ => rfl⟩
    obtain ⟨hW2,_,hroot2,_⟩ := og_ok (R := fun _ => True) hST2.pars.1 (toN rs) [] (PW.nil s1.1) ⟨fun _ _ _ _ => Or.inl trivial,fun _ _ _ _ => Or.inl trivial⟩ (toN_b hr2); obtain ⟨f,hf,hf1,_⟩ := fP_id (lim := 0) (T := tmF po) hW2 (fun t ht r h => (hown t (hW2.ob t ht).1 (hW2.ob t ht).2 r h).2) _ (Nat.le_refl _); rw [List.take_of_length_le (by simp)] at hf; rw [List.take_length] at hf1; refine (PS.put (cR := cR) (cN := cO) (cT := cS) hlow hQ (by omega) hr2 (by omega) hN hT (by omega) (fun p hp => ?_) (pair_idx hpw) (fun p hp => ?_) hpth2).mono ?_
    · obtain ⟨i,hi,rfl⟩ := hpo p hp
      obtain ⟨t,ht,hb,_,_,_,e⟩ := hvi i hi
      dsimp only
      rw [e,eX,List.length_append]
      omega
    · obtain ⟨i,hi,rfl⟩ := hpo p hp
      exact hvn _ (getD_mem hi)
    rintro e w2 ⟨g2,s,rfl,hfs,hul,hps2,hk⟩; rw [hf] at hfs; obtain rfl := Option.some.inj hfs; refine ⟨g2,rfl,?_,hps2,hk⟩; obtain ⟨A,hA,a1,a2⟩ := hul.blk; refine ⟨⟨A,hA,a1,fun i hi => ?_⟩⟩; have h9 := a2 i hi
    dsimp only at h9
    rw [hf1 _ (hroot2 _ (List.mem_map.2 ⟨_,getD_mem (d := (0 : Int)) hi,rfl⟩))] at h9; exact h9
  have hval1 : ∀ j,j < rs.length -> ev V s1.1 x2 (s1.2 (rs.getD j 0).toNat) = ev V L x1 (rs.getD j 0).toNat := fun j hj => (hI.at_ _ (hrt' j hj).2.2).2.2.2.2.2
  have ulc : ∀ {W : World} {g n : Nat} {f f' : Nat -> Nat},UL W g n f -> (∀ j,j < n -> f j = f' j) -> UL W g n f' := fun h e => by
    obtain ⟨A,hA,a1,a2⟩ := h.blk; exact ⟨⟨A,hA,a1,fun i hi => by rw [<- e i hi]; exact a2 i hi⟩⟩
  refine ⟨vs,fun i => ixF L (vs.getD i vZ),nd,fun j => s1.2 (rs.getD j 0).toNat,fun k => ev V s1.1 x2 (ps.getD k (ByteArray.empty,0)).2,fun j => ev V L x1 (rs.getD j 0).toNat,vals,fun W5 W => PS w' W5 w.heap.size B v1 M1 M2 aR rs s1.1 W,?_⟩; refine { rq := rfl,ir := hld.ir,pos := fun x hx => by have := (of_decide_eq_true (hr x hx) : 1 <= x /\ x <= (L.length : Int)); omega,vn := by omega,va := ?_,vr := ?_,no := ?_,p1 := ?_,p2 := ?_,p3 := ?_,qb := fun W5 W W' h hb => h.below hb,qn := fun W5 W ad xs h h1 h2 => h.nmr h1 h2,qi := fun W5 W ad xs h h1 h2 => h.irs h1 h2,qv := fun W5 W ad xs h h1 h2 => vr_blk h1 h.size (fun b o e h0 hl => h.kept b (h2 b o e h0) hl),ql := fun W5 W k h hk => h.low k hk,qx := ?_,qs := fun W5 W h => h.size,qo := fun W5 W h => h.io,qr := fun W5 W h => h.ir,dr := ?_,vl := hlv,v1 := ?_,v2 := ?_,v3 := ?_ }
  · refine (hva w' aR cR (Below.refl _ _) hld.ir).mono ?_
    rintro e w2 ⟨v,rfl,ho,hb⟩; obtain ⟨ad,c,rfl,hv,hg⟩ := GI.own_form ho rfl; exact ⟨ad,c,rfl,hv,fun b o e h0 => (hg b (by rw [e]; rfl)).1,hb⟩
  · intro W i hb hi
    obtain ⟨t,_,hbt,h4,n0,w0,i0⟩ := hvi i hi; have h9 := var_old w.heap.size B 0 L v1 M1 M2 t W (hsm.below hb) (Nat.le_trans hB0 hb.size) (by omega) hst hbt.1 hbt.2 h4; rw [n0,w0,i0]; exact h9
  · intro W j hb hj
    obtain ⟨r1,r2,_⟩ := hrt' j hj; obtain ⟨t,ht⟩ : ∃ t : Nat,rs.getD j 0 = (t : Int) + 1 := ⟨(rs.getD j 0 - 1).toNat,by omega⟩; have h9 := node_ok w.heap.size B 0 L v1 M1 M2 t W (hsm.below hb) (by omega); have e : nd j = L.getD t z0 := by
      rw [hnd]
      dsimp only
      rw [ht]
      congr 1
    rw [e,ht]; exact h9
  · intro W5 aN cN aT cT h5 hN hT
    rw [hps] at hN hT ⊢; refine (PS.put (cR := cR) (cN := cN) (cT := cT) hlow (hstart W5 h5) (by omega) hr (by omega) hN hT (by omega) hpt (pair_idx hpp) hpg hpth).mono ?_; rintro e w2 ⟨g2,s,rfl,hfs,hul,hps2,_⟩; rw [hO,hs1] at hfs; obtain rfl := Option.some.inj hfs; exact ⟨g2,rfl,hul,hps2⟩
  · intro W5 W aO cO aS cS _ hQ hN hT
    have h9 := hput2 (poF vs (fun i => ixF L (vs.getD i vZ)) vs.length) (fun p hp => po_mem vs _ _ p hp) (po_pair hu _ _ (Nat.le_refl _)) (by rw [po_len]; exact Nat.le_refl _) W5 W aO cO aS cS hQ hN hT; rw [po_len] at h9; exact h9
  · intro W5 W _ hQ
    exact hput2 [] (fun p hp => by cases hp) List.Pairwise.nil (Nat.zero_le _) W5 W none 0 none 0 hQ (fun h => by cases h) (fun h => by cases h)
  · intro W5 W W' b A fr h hb hA hk hs hio
    obtain ⟨v',h1,h2⟩ := h.sm; have hne : ∀ k,(∃ cs t fr,W.heap[k]? = some (Obj.cells cs t fr) /\ t ≠ 38) -> W'.heap[k]? = W.heap[k]? := fun k ⟨cs,t,fr,hc,ht⟩ => hk k (fun e => by rw [e,hA] at hc; cases hc; exact ht rfl)
    refine ⟨Nat.le_trans h.size hs,fun k q1 q2 => (hk k (by omega)).trans (h.kept k q1 q2),fun k q1 => (hk k (fun e => by have h3 := h.low k q1; rw [e,hA,Array.getElem?_eq_none hb] at h3; cases h3)).trans (h.low k q1),⟨hio.1.trans h.io.1,hio.2.1.trans h.io.2.1,hio.2.2.trans h.io.2.2⟩,?_,?_,Nat.le_trans h.b0 hs,v',h1.stands (fun k ho => hk k (fun e => h1.not (hA) (by decide) (by decide) (e ▸ ho))),h2⟩
    · intro h0
      obtain ⟨c,o,e,hl,hc⟩ := h.ir h0; obtain ⟨cs,fr2,hcs⟩ := h.rt c o e h0; exact ⟨c,o,e,Nat.lt_of_lt_of_le hl hs,fun j hj => (World.cell?_of_block (a := ⟨c,o + j,none⟩) (hne c ⟨cs,_,fr2,hcs,by decide⟩)).trans (hc j hj)⟩
    intro c o e h0; obtain ⟨cs,fr2,hcs⟩ := h.rt c o e h0; exact ⟨cs,fr2,(hne c ⟨cs,_,fr2,hcs,by decide⟩).trans hcs⟩
  · intro W aV cV hVr hN
    have h9 := G2.drawn_any (cV := cV) (cN := cU) W hVr hN (by omega) (by omega) hnu hvw; rw [hvals,hnU] at h9; exact h9
  · intro W5 W g aV cV hQ hul hVr
    have hI2 : IR W (some ⟨g,0,none⟩) (rs.map fun x => ((s1.2 x.toNat : Nat) : Int)) := fun _ => by
      refine ⟨g,0,rfl,hul.lt,fun j hj => ?_⟩; rw [List.length_map] at hj; rw [Nat.zero_add,(hul.at_ hj).1,map_at hj]
    have hm : ∀ x ∈ rs.map (fun x => ((s1.2 x.toNat : Nat) : Int)),isT s1.1 x = true := fun x hx => by
      obtain ⟨y,hy,rfl⟩ := List.mem_map.1 hx; obtain ⟨j,hj,rfl⟩ := List.getElem_of_mem hy; have h3 := (hrt' j hj).2.2; rw [List.getD_eq_getElem?_getD,List.getElem?_eq_getElem hj] at h3; have h4 := hI.at_ _ h3; exact isT_n h4.2.2.1 h4.2.2.2.1
    have h9 := PS.vals hV (cX := rs.length) (cV := cV) hQ hST2 hI2 hm (by rw [List.length_map]; omega) hVr (by omega) (by rw [<- hvals]; exact unq_dr hu) hvg (fun t q1 q2 q4 y hy e => hfit2 y (Or.inl hy) t q1 q2 q4 e); rw [List.length_map,hlv,hx2] at h9; refine h9.mono ?_; rintro e w2 ⟨g2,rfl,hu2,hb⟩; refine ⟨g2,rfl,ulc hu2 (fun j hj => ?_),hb⟩; rw [map_at hj,Int.toNat_natCast]; exact hval1 j hj
  · intro W5 W aT cT aV cV hQ hT hVr
    rw [hps] at hT ⊢; have h9 := PS.vals hV (cX := cT) (cV := cV) hQ hST2 hT (fun x hx => by
      obtain ⟨p,hp,rfl⟩ := List.mem_map.1 hx; have h3 := hpt p hp; exact isT_n h3.1 (by rw [eX,List.length_append]; omega)) (by rw [List.length_map]; omega) hVr (by omega) (by rw [<- hvals]; exact unq_dr hu) hvg (fun t q1 q2 q4 y hy e => hfit2 y (Or.inl hy) t q1 q2 q4 e)
    rw [List.length_map,hlv,hx2] at h9; refine h9.mono ?_; rintro e w2 ⟨g2,rfl,hu2,hb⟩; refine ⟨g2,rfl,ulc hu2 (fun j hj => ?_),hb⟩; rw [snd_at hj]
    rfl
  intro W5 W aV cV hQ hVr; rw [hps,hvmap] at hVr; have h9 := PS.vals hV (cX := cR) (cV := cV) hQ hST2 hQ.ir hr2 (by omega) hVr (by rw [List.length_map]; omega) (by rw [<- hvals]; exact unq_map (fun x => (valF_nm V L ps x2 x).1) (unq_dr hu)) (fun x hx => by
    obtain ⟨y,hy,rfl⟩ := List.mem_map.1 hx; obtain ⟨g1,g2,_⟩ := hvg y hy; rw [(valF_nm V L ps x2 y).1]; exact ⟨g1,g2,hok2 _ hx⟩) (fun t q1 q2 q4 y hy e => hfit2 y (Or.inr hy) t q1 q2 q4 e)
  rw [List.length_map,hlv,hx1] at h9; refine h9.mono ?_; rintro e w2 ⟨g2,rfl,hu2,hb⟩; refine ⟨g2,rfl,ulc hu2 (fun j hj => ?_),hb⟩; obtain ⟨r1,r2,_⟩ := hrt' j hj; rw [eX]; exact ev_app hst.pars.1 hP2 _ _ (Nat.le_refl _) (by omega)
end Go.Proofs.YtkpapgfbnledpaaGreatDoor.GP
