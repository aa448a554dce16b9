import Derived.Test.YtfljcdccepnidaaGreatDoorWuI
import Derived.Laws.EntriesVeiled
import Derived.Laws.BitsAllLaws
import Derived.Laws.ShiftsVarLaws
import Derived.RowKit
namespace Go.Proofs.YtfljcdccepnidaaGreatDoor
open Go.ChangeShapes Go.WideShapes Go.ChangeAt Go.RowKit Go.Lib

structure TI (H0 X : Nat) (W0 w wr : World) (J : World -> Prop) (P : Nat -> Prop) (N Wb hb xb : Nat) (vio : Nat -> Th -> Bool) (T : List Th) (K M pl : Nat) (BL : List BEnt) : Prop where
  ws : WS H0 X W0 wr J P N Wb hb xb pl BL
  fr : FRM H0 X w wr
  fv : fv vio 0 T = fv vio pl (remT BL)
  k : wtS (bflat BL) + pl <= K
  m : ∀ e ∈ BL,e.dp + (bflat BL).length <= M + 1
  nm : ∀ d ∈ bflat BL,NB d.s /\ NMx d.A /\ NMx d.E
theorem sth_len (dp : Nat) (lp : List ByteArray) (d : Sd) : (sth dp lp d).length <= 1 + d.A.length + d.E.length := by
  have h1 := oE_len lp d.A; have h2 := oE_len lp d.E
  simp [sth]
  omega
theorem TI.next {H0 X : Nat} {W0 w wr : World} {J : World -> Prop} {P : Nat -> Prop} {N Wb hb xb : Nat} {vio : Nat -> Th -> Bool} {T : List Th} {K M pl : Nat} {S : List Sd} {Bs : List (List Sd)} {dp : Nat} {lp : List ByteArray} {BL : List BEnt} (hc : WC H0 X W0 J P) (hve : VE H0 X W0 J P hb xb vio) (hvs : VS H0 X W0 J P N hb xb vio) (hK : K <= 4000000) (hM : M <= 4000000) (hwt : wtS (bflat (⟨S :: Bs,dp,lp⟩ :: BL)) <= 1048576) (h : TI H0 X W0 w wr J P N Wb hb xb vio T K M pl (⟨S :: Bs,dp,lp⟩ :: BL)) :
    Calls Tryz.prog 63 #[.pointer (some ⟨Wb,0,none⟩)] wr fun e w' => FRM H0 X w w' /\ J w' /\ ((e = .returned (.tuple #[]) /\ ∃ pl2 BL2,TI H0 X W0 w w' J P N Wb hb xb vio T K M pl2 BL2 /\ (bflat BL2).length + 1 = (bflat (⟨S :: Bs,dp,lp⟩ :: BL)).length /\ wtS (bflat BL2) <= 1048576) ∨ ∃ (j : Nat) (a1 a2 a3 : Option Addr) (dp : Int) (tp : Bool) (a6 : Option Addr),Go.Proofs.YtfljcdccepnidaaGreatDoor.fv vio 0 T = some j /\ e = .panicked [{ v := .iface 87 (.agg (tcs (j : Int) a1 a2 a3 dp tp a6)),recovered := false }]) := by
  have hBR : BL.length + 1 <= wtS (bflat (⟨S :: Bs,dp,lp⟩ :: BL)) /\ Bs.length + 1 <= wtS (S :: Bs).flatten := by
    obtain ⟨cb,vB,vE,_,hbr⟩ := h.ws; have h1 := hbr.wt; exact ⟨by simpa using h1.1,by simpa using h1.2 _ (List.mem_cons_self)⟩
  have e8 : bflat (⟨S :: Bs,dp,lp⟩ :: BL) = S ++ Bs.flatten ++ bflat BL := by simp [bflat]
  have e9 : (S :: Bs).flatten = S ++ Bs.flatten := rfl; have hk := h.k; have hmm := h.m _ (List.mem_cons_self); have hfv := h.fv; rw [e9,wtS_app] at hBR; have hw8 : wtS (bflat (⟨S :: Bs,dp,lp⟩ :: BL)) = wtS S + wtS Bs.flatten + wtS (bflat BL) := by rw [e8,wtS_app,wtS_app]
  refine (step_any hc hve hvs h.ws (by omega) (by omega) (by omega) (by omega) (by simp only at hmm; omega) (fun d hd => h.nm d (by rw [e8]; simp [hd]))).mono ?_; rintro e w' ⟨d,BT,BE,hS,h1,h2,ho,hf,hj⟩; refine ⟨h.fr.trans hf,hj,?_⟩; rw [remT_step dp lp BL hS h1 h2,fv_app] at hfv; have hb2 := bflat_step (BT := BT) (BE := BE) (Bs := Bs) dp lp BL hS
  rcases ho with ⟨g1,g2,g3⟩ | ⟨j,a1,a2,a3,dpj,tp,a6,g1,g2⟩
  · refine Or.inl ⟨g2,_,_,⟨g3,h.fr.trans hf,by rw [hfv,g1],?_,fun x hx => ?_,fun x hx => h.nm x (by rw [hb2]; simp [hx])⟩,by rw [hb2]; simp,?_⟩
    · have h5 := sth_len dp lp d
      rw [hb2] at hk; simp only [wtS] at hk
      omega
    · rw [hb2] at hmm
      simp only [List.length_cons] at hmm
      rcases ent_mem hx with h6 | h6
      · omega
      rcases ent_mem h6 with h7 | h7
      · omega
      rcases ent_mem h7 with h8 | h8
      · omega
      have h9 := h.m x (List.mem_cons_of_mem _ h8); rw [hb2] at h9; simp only [List.length_cons] at h9
      omega
    rw [hb2] at hwt; simp only [wtS] at hwt
    omega
  exact Or.inr ⟨j,a1,a2,a3,dpj,tp,a6,by rw [hfv,g1],g2⟩
theorem TI.none {H0 X : Nat} {W0 w wr : World} {J : World -> Prop} {P : Nat -> Prop} {N Wb hb xb : Nat} {vio : Nat -> Th -> Bool} {T : List Th} {K M pl : Nat} (h : TI H0 X W0 w wr J P N Wb hb xb vio T K M pl []) : Go.Proofs.YtfljcdccepnidaaGreatDoor.fv vio 0 T = Option.none := by
  rw [h.fv]
  rfl
theorem TI.cons {H0 X : Nat} {W0 w wr : World} {J : World -> Prop} {P : Nat -> Prop} {N Wb hb xb : Nat} {vio : Nat -> Th -> Bool} {T : List Th} {K M pl : Nat} {e : BEnt} {BL : List BEnt} (h : TI H0 X W0 w wr J P N Wb hb xb vio T K M pl (e :: BL)) : ∃ S Bs dp lp,e = ⟨S :: Bs,dp,lp⟩ := by
  obtain ⟨cb,vB,vE,_,c,cr,_,⟨v,lpp,n,_,_,h3,_⟩,_⟩ := h.ws; obtain ⟨Bs,dp,lp⟩ := e; cases Bs with
  | nil => simp at h3
  | cons S Bs => exact ⟨S,Bs,dp,lp,rfl⟩
set_option maxHeartbeats 8000000 in
set_option maxRecDepth 100000 in
theorem things_any {H0 X Pb : Nat} {W0 : World} {J : World -> Prop} {P : Nat -> Prop} {N n : Nat} {p : Pg} {vD vB : Value} (hp : PC H0 X Pb W0 J P N n p vD vB) {hb xb : Nat} {vio : Nat -> Th -> Bool} (hvd : VD H0 X W0 J P hb xb p.Ds vio) (hve : VE H0 X W0 J P hb xb vio) (hvs : VS H0 X W0 J P N hb xb vio) {w : World} (hf : FRM H0 X W0 w) (hj : J w) (hD : p.Ds.length <= 1048576) (hB : wtS p.Bs.flatten <= 1048576) (hnm : ∀ d ∈ p.Bs.flatten,NB d.s /\ NMx d.A /\ NMx d.E) :
    Calls Tryz.prog 32 #[.pointer (some ⟨X,0,none⟩),.func (.func 50) #[] #[.pointer (some ⟨hb,0,none⟩),.pointer (some ⟨xb,0,none⟩)]] w fun e w' => OUT vio 0 (thP p) e True /\ FRM H0 X w w' /\ J w' := by
  have HDc : Hid (Calls Tryz.prog 31 #[.pointer (some ⟨X,0,none⟩),.func (.func 50) #[] #[.pointer (some ⟨hb,0,none⟩),.pointer (some ⟨xb,0,none⟩)]] w fun e w' => OUT vio 0 (p.Ds.map thD) e True /\ FRM H0 X w w' /\ J w') := decls_any hp hvd hf hj hD; obtain ⟨aD,cD,rfl,_⟩ := hp.ds; obtain ⟨aB,cB,rfl⟩ := hp.bs.form; have HPC : Hid (PC H0 X Pb W0 J P N n p (.slice aD p.Ds.length cD) (.slice aB p.Bs.length cB)) := hp; have HVE : Hid (VE H0 X W0 J P hb xb vio) := hve; have HVS : Hid (VS H0 X W0 J P N hb xb vio) := hvs; have HF0 : Hid (FRM H0 X W0 w) := hf
  generalize hPP : (fun (e : Ending) (w' : World) => OUT vio 0 (thP p) e True /\ FRM H0 X w w' /\ J w') = PP
  have HP : Hid (∀ e w',OUT vio 0 (thP p) e True -> FRM H0 X w w' -> J w' -> PP e w') := fun e w' h1 h2 h3 => by rw [<- hPP]; exact ⟨h1,h2,h3⟩
  have HAt : Hid (∀ w',FRM H0 X w w' -> J w' -> w'.cell? ⟨X,0,none⟩ = some (.pointer (some ⟨Pb,0,none⟩)) /\ w'.cell? ⟨Pb,3,none⟩ = some (.slice aD p.Ds.length cD) /\ w'.cell? ⟨Pb,4,none⟩ = some (.slice aB p.Bs.length cB)) := fun w' h1 h2 => by
    obtain ⟨y1,y2⟩ := hp.at (hf.trans h1) h2; exact ⟨y1,cell_of y2 3,cell_of y2 4⟩
  obtain ⟨nD,hnD⟩ : ∃ nD,p.Ds.length = nD := ⟨_,rfl⟩; obtain ⟨nB,hnB⟩ : ∃ nB,p.Bs.length = nB := ⟨_,rfl⟩; have HN : Hid (p.Ds.length = nD /\ p.Bs.length = nB) := ⟨hnD,hnB⟩; rw [hnD,hnB] at HAt; rw [hnD] at hD; clear hPP hp hvd hve hvs hf hj hnD hnB
  go_enter Tryz.func32,Tryz.ntmps32
  go_wp2_with fail
  refine HDc.out.mono ?_; rintro e w1 ⟨ho1,hf1,hj1⟩
  rcases ho1 with ⟨hv1,rfl,-⟩ | ⟨j,a1,a2,a3,dpj,tp,a6,hv1,rfl⟩
  rotate_left
  · have HZ : Hid (PP (.panicked [{ v := .iface 87 (.agg (tcs (j : Int) a1 a2 a3 dpj tp a6)),recovered := false }]) w1) := HP.out _ _ (OUT.left _ _ hv1 rfl) hf1 hj1
    clear hf1 hj1 hv1
    go_wp2_with fail
    exact ⟨rfl,HZ.out⟩
  obtain ⟨x0,x3,-⟩ := HAt.out w1 hf1 hj1; have HF1 : Hid (FRM H0 X w w1 /\ J w1) := ⟨hf1,hj1⟩; clear hf1 hj1 HDc; obtain ⟨w2,hw2⟩ : ∃ w2,w1.alloc (.cells #[.func (.func 50) #[] #[.pointer (some ⟨hb,0,none⟩),.pointer (some ⟨xb,0,none⟩)],.int .i64 (nD : Int),.slice none 0 0,.slice none 0 0] 104) = w2 := ⟨_,rfl⟩; obtain ⟨Wb,hWb⟩ : ∃ Wb,w1.heap.size = Wb := ⟨_,rfl⟩; have hb2 : Below w1.heap.size w1 w2 := by rw [<- hw2]; exact bel1 _ _
  have hf2 : FRM H0 X w w2 := HF1.out.1.trans (FRM.of hb2); have hszw : H0 <= w1.heap.size := by
    have h1 := HPC.out.wc.h; have h2 := (HF0.out.trans HF1.out.1).size
    omega
  have hj2 : J w2 := HPC.out.wc.js.below HF1.out.2 (by have := HPC.out.wc.x; omega) hb2; have hws2 : WS H0 X W0 w2 J P N Wb hb xb nD [] := by
    refine ⟨[],.slice none 0 0,.slice none 0 0,⟨HF0.out.trans hf2,hj2,?_,World.ownsRow_nil _ _ _ _,World.ownsRow_nil _ _ _ _,by omega,fun e he => by cases he⟩,rfl⟩; rw [<- hw2,<- hWb]; exact heap_alloc_new _ _
  have HE := enter_any (lp := []) (lpp := none) HPC.out.wc hws2 HPC.out.bs 1 rfl (by simp); rw [HN.out.2] at HE; replace HE : Hid (Calls Tryz.prog 62 #[.pointer (some ⟨Wb,0,none⟩),.agg #[.slice aB nB cB,.int .i64 1,.pointer none]] w2 fun e w' => e = .returned (.tuple #[]) /\ FRM H0 X w2 w' /\ WS H0 X W0 w' J P N Wb hb xb nD (ent p.Bs 1 [] [])) := HE; obtain ⟨y0,-,y4⟩ := HAt.out w2 hf2 hj2; have HF2 : Hid (FRM H0 X w w2) := hf2; have HW2 : Hid (w1.alloc (.cells #[.func (.func 50) #[] #[.pointer (some ⟨hb,0,none⟩),.pointer (some ⟨xb,0,none⟩)],.int .i64 (nD : Int),.slice none 0 0,.slice none 0 0] 104) = w2 /\ w1.heap.size = Wb) := ⟨hw2,hWb⟩; have HV1 : Hid (fv vio 0 (p.Ds.map thD) = none) := hv1; clear hw2 hWb hb2 hf2 hszw hj2 hws2 hv1
  go_upto_region 2 with fail
  rw [HW2.out.1,HW2.out.2]; clear x0 x3
  go_wp2_with fail
  refine HE.out.mono ?_; rintro e w3 ⟨rfl,hf3,hw3⟩; obtain ⟨M,hM⟩ : ∃ M,p.Bs.flatten.length = M := ⟨_,rfl⟩; have hMw : ∀ l : List Sd,l.length <= wtS l := fun l => by
    induction l with
    | nil => simp
    | cons d r ih => simp only [List.length_cons,wtS]; omega
  have hMb : M <= 1048576 := by rw [<- hM]; exact Nat.le_trans (hMw _) hB
  have hbe : bflat (ent p.Bs 1 [] []) = p.Bs.flatten := by rw [bflat_ent]; simp [bflat]
  have HI : Hid (∃ pl BL,TI H0 X W0 w w3 J P N Wb hb xb vio (thP p) (nD + 1048576) M pl BL /\ (bflat BL).length = M /\ wtS (bflat BL) <= 1048576) := by
    refine ⟨nD,_,⟨hw3,HF2.out.trans hf3,?_,?_,fun e he => ?_,fun d hd => hnm d (by rw [hbe] at hd; exact hd)⟩,?_,?_⟩
    · unfold thP
      rw [fv_app,HV1.out,List.length_map,HN.out.1,Nat.zero_add]
    · rw [hbe]; omega
    · rcases ent_mem he with h1 | h1
      · rw [h1,hbe,hM]; omega
      cases h1
    · rw [hbe]; exact hM
    rw [hbe]; exact hB
  clear hnm hf3 hw3 hM hMw hbe HE y0 y4 HV1 HAt
  go_wp2_with fail
  go_loopg [] M (fun gk wr => Aside (∃ pl BL,TI H0 X W0 w wr J P N Wb hb xb vio (thP p) (nD + 1048576) M pl BL /\ (bflat BL).length = gk /\ wtS (bflat BL) <= 1048576))
  case atStart => exact HI.out
  case round =>
    obtain ⟨pl,BL,hti,hgk,hwt⟩ := hrel.out; clear hrel HI; cases BL with
    | nil =>
      obtain ⟨cb,vB,vE,hwm,_⟩ := hti.ws; obtain ⟨a9,c9,rfl⟩ := row_form hwm.rowB; have b2 : wr.cell? ⟨Wb,2,none⟩ = some (.slice a9 0 c9) := cell_of hwm.box 2; have HZ : Hid (PP (.returned (.tuple #[])) wr) := HP.out _ _ (Or.inl ⟨hti.none,rfl,trivial⟩) hti.fr hwm.j; clear hti hgk hwt hwm
      go_wp2_with fail
      go_end0
      exact HZ.out
    | cons e BL =>
      obtain ⟨S,Bs,dp,lp,rfl⟩ := hti.cons; obtain ⟨cb,vB,vE,hwm,_⟩ := hti.ws; obtain ⟨a9,c9,rfl⟩ := row_form hwm.rowB; obtain ⟨nn,hnn⟩ : ∃ nn,(({ Bs := S :: Bs,dp := dp,lp := lp } : BEnt) :: BL).length = nn := ⟨_,rfl⟩; have b2 : wr.cell? ⟨Wb,2,none⟩ = some (.slice a9 nn c9) := by rw [<- hnn]; exact cell_of hwm.box 2
      have q1 : (0 : Int) < (nn : Int) := by rw [<- hnn,List.length_cons]; omega
      have HC := TI.next HPC.out.wc HVE.out HVS.out (by omega) (by omega) hwt hti; obtain ⟨tt,htt⟩ : ∃ tt,bflat (({ Bs := S :: Bs,dp := dp,lp := lp } : BEnt) :: BL) = tt := ⟨_,rfl⟩; rw [htt] at HC hgk; replace HC : Hid (Calls Tryz.prog 63 #[.pointer (some ⟨Wb,0,none⟩)] wr fun e w' => FRM H0 X w w' /\ J w' /\ ((e = .returned (.tuple #[]) /\ ∃ pl2 BL2,TI H0 X W0 w w' J P N Wb hb xb vio (thP p) (nD + 1048576) M pl2 BL2 /\ (bflat BL2).length + 1 = tt.length /\ wtS (bflat BL2) <= 1048576) ∨ ∃ (j : Nat) (a1 a2 a3 : Option Addr) (dp : Int) (tp : Bool) (a6 : Option Addr),fv vio 0 (thP p) = some j /\ e = .panicked [{ v := .iface 87 (.agg (tcs (j : Int) a1 a2 a3 dp tp a6)),recovered := false }])) := HC; have HG : Hid (tt.length = gk) := hgk; clear hti hwt hwm htt hnn hgk
      go_wp2_with fail
      refine HC.out.mono ?_; rintro e w5 ⟨hf5,hj5,hh⟩
      rcases hh with ⟨rfl,pl2,BL2,k1,k2,k3⟩ | ⟨j,a1,a2,a3,dpj,tp,a6,hv5,rfl⟩
      · have HN5 : Hid (∃ pl BL,TI H0 X W0 w w5 J P N Wb hb xb vio (thP p) (nD + 1048576) M pl BL /\ (bflat BL).length = gk - 1 /\ wtS (bflat BL) <= 1048576) := ⟨pl2,BL2,k1,by have := HG.out; omega,k3⟩
        have hgp : 0 < gk := by have := HG.out; omega
        clear k1 k2 k3 hf5 hj5 HC
        go_wp2_with fail
        go_roundg (gk - 1)
        case measure => omega
        case rel => exact HN5.out
      have HZ : Hid (PP (.panicked [{ v := .iface 87 (.agg (tcs (j : Int) a1 a2 a3 dpj tp a6)),recovered := false }]) w5) := HP.out _ _ (Or.inr ⟨j,_,_,_,_,_,_,hv5,rfl⟩) hf5 hj5; clear hf5 hj5 hv5 HC
      go_wp2_with fail
      exact ⟨rfl,HZ.out⟩
end Go.Proofs.YtfljcdccepnidaaGreatDoor
namespace Go.Bw
open Go.RowKit (wrap64)

theorem p64 : (2 : Int) ^ 64 = 18446744073709551616 := by decide
theorem pos (n : Nat) : (0 : Int) < 2 ^ n := Int.pow_pos (by decide)
theorem pow_lt64 (n : Nat) (h : n < 64) : (2 : Int) ^ n < 18446744073709551616 := by
  rw [<- p64]; exact Int.pow_lt_pow_of_lt (by decide) h
theorem wrap_pow (n : Nat) (h : n < 64) : IntKind.u64.wrap (2 ^ n) = 2 ^ n := by
  rw [IntKind.wrap_u64]; have := pos n; have := pow_lt64 n h; omega

theorem mask (x : Int) (n : Nat) (h : n < 64) (h0 : 0 <= x) (h1 : x < 18446744073709551616) :
    bits .and .u64 x (IntKind.u64.wrap (2 ^ n - 1)) = x % 2 ^ n := by
  have hp := pos n; have hl := pow_lt64 n h; rw [IntKind.wrap_u64,Int.emod_eq_of_lt (by omega) (by omega),u64_and x _ h0 h1 (by omega) (by omega)]; have e : ((2 : Int) ^ n - 1).toNat = 2 ^ n - 1 := by
    have : ((2 : Int) ^ n) = ((2 ^ n : Nat) : Int) := by simp
    rw [this]; omega
  rw [e,Nat.and_two_pow_sub_one_eq_mod]; obtain ⟨X,rfl⟩ := Int.eq_ofNat_of_zero_le h0
  simp

end Go.Bw
