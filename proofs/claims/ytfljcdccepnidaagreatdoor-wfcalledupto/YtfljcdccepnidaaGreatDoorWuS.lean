import Derived.Test.YtfljcdccepnidaaGreatDoorWuQ
namespace Go.Proofs.YtfljcdccepnidaaGreatDoor
open Go.ChangeShapes Go.WideShapes Go.ChangeAt Go.RowKit Go.Lib

theorem stR_le (d : Sd) (T E : List Nat) (hA : d.A.length <= 1048576) (hE : d.E.length <= 1048576) : stR d T E <= 4500000000 := by
  have h1 := cs7_le T; have h2 := cs7_le E; have h3 : tmS d <= 65537 := by unfold tmS; omega
  have h4 : tmS d * (1 + cs7 T) <= 65537 * 65538 := Nat.mul_le_mul h3 (by omega); unfold stR
  repeat' split
  all_goals omega
set_option maxHeartbeats 8000000 in
set_option maxRecDepth 100000 in
theorem ssize_any : ∀ (n : Nat) (Bs : List (List Sd)) (v : Value) (w : World) (P : Nat -> Prop) (N : Nat),RB w P N n Bs v -> (∀ j,P j -> j < w.heap.size) -> (∀ d ∈ Bs.flatten,okSd d) -> wtS Bs.flatten <= 1048576 ->
    Calls Tryz.prog 20 #[v] w fun e w' => e = .returned (.int .u64 (cs7 (Bs.map vS) : Int)) /\ Below w.heap.size w w' := by
  intro n
  induction n with
  | zero => intro Bs v w P N h; exact h.elim
  | succ n ih =>
    intro Bs v w P N h hP hok hwt; have hbl := h.len; obtain ⟨ad,cap,rfl,hS⟩ := h; obtain ⟨m,hm⟩ : ∃ m,Bs.length = m := ⟨_,rfl⟩; have HM : Hid (Bs.length = m) := hm; have HSt : Hid (0 < m -> ∃ b o,ad = some ⟨b,o,none⟩ /\ ∀ j,j < m -> ∃ x : Nat,vS (Bs.getD j []) = x /\ x <= 4500000000 /\ ∀ X,Below w.heap.size w X -> Calls Tryz.prog 29 #[.pointer (some ⟨b,o + j * 14,none⟩)] X fun e w' => e = .returned (.int .u64 (x : Int)) /\ Below X.heap.size X w') := fun h0 => by
      obtain ⟨b,o,e,hPb,hcc⟩ := hS (by omega); refine ⟨b,o,e,fun j hj => ?_⟩; obtain ⟨vs,hl,hc,hT⟩ := hcc j (by omega); have hsa : SA w P N (Bs.getD j []) b (o + j * 14) := ⟨n,vs,hPb.1,hl,hc,hT⟩; have hwj : wtS (Bs.getD j []) <= 1048576 := by
        have h1 := btake_wt (Bs := Bs) (j := j) (by omega); have h2 := btake_le Bs (j + 1)
        omega
      have hmem : ∀ d ∈ Bs.getD j [],okSd d := fun d hd => hok d (List.mem_flatten.2 ⟨Bs.getD j [],by rw [List.getD_eq_getElem?_getD,List.getElem?_eq_getElem (show j < Bs.length by omega)]; exact List.getElem_mem _,hd⟩)
      obtain ⟨k,s,a0,a1,a2,a3,e0,e1,e2,e3,lo,hi,t1,t2,LA,LE,BT,BE,hSe,rfl,hA,hE,hBT,hBE⟩ := hT; rw [hSe] at hwj hmem ⊢; simp only [wtS,wtS_app] at hwj; rw [vS_is hBT hBE]; refine ⟨_,rfl,stR_le _ _ _ (by simp only; omega) (by simp only; omega),fun X hX => ?_⟩; have hk : ∀ q,P q -> X.heap[q]? = w.heap[q]? := fun q hq => hX.block q (hP q hq)
      have hcX : ∀ i,i < 14 -> X.cell? ⟨b,o + j * 14 + i,none⟩ = some (([.int .i64 k,.string s,a0,a1,a2,a3,e0,e1,e2,e3,.int .u64 lo,.int .u64 hi,t1,t2] : List Value).getD i undef) := fun i hi2 => (World.cell?_of_block (a := ⟨b,_,none⟩) (hk b hPb.1)).trans (hc i hi2)
      have hPX : ∀ q,P q -> q < X.heap.size := fun q hq => Nat.lt_of_lt_of_le (hP q hq) hX.size
      have okc : okSd ⟨k,s,LA,LE,lo,hi,BT.length,BE.length⟩ := hmem _ (List.mem_cons_self); have okT : ∀ d ∈ BT.flatten,okSd d := fun d hd => hmem d (List.mem_cons_of_mem _ (List.mem_append_left _ hd))
      have okE : ∀ d ∈ BE.flatten,okSd d := fun d hd => hmem d (List.mem_cons_of_mem _ (List.mem_append_right _ hd))
      exact stsize (d := ⟨k,s,LA,LE,lo,hi,BT.length,BE.length⟩) hPX hPb.1 (hcX 0 (by omega)) (hcX 10 (by omega)) (hcX 11 (by omega)) (hcX 12 (by omega)) (hcX 13 (by omega)) ⟨N,a0,a1,a2,a3,hPb.1,hcX 2 (by omega),hcX 3 (by omega),hcX 4 (by omega),hcX 5 (by omega),hA.keep hk⟩ ⟨N,e0,e1,e2,e3,hPb.1,hcX 6 (by omega),hcX 7 (by omega),hcX 8 (by omega),hcX 9 (by omega),hE.keep hk⟩ (hBT.keep hk) (hBE.keep hk) okc rfl rfl (by simp only; omega) (by simp only; omega) (fun Y hY => ih BT t1 Y P N ((hBT.keep hk).keep (fun q hq => hY.block q (hPX q hq))) (fun q hq => Nat.lt_of_lt_of_le (hPX q hq) hY.size) okT (by omega)) (fun Y hY => ih BE t2 Y P N ((hBE.keep hk).keep (fun q hq => hY.block q (hPX q hq))) (fun q hq => Nat.lt_of_lt_of_le (hPX q hq) hY.size) okE (by omega))
    have HTk : Hid (∀ j,j < m -> (Bs.take (j + 1)).map vS = (Bs.take j).map vS ++ [vS (Bs.getD j [])]) := fun j hj => by
      rw [List.take_succ_eq_append_getElem (by omega),List.map_append,List.getD_eq_getElem?_getD,List.getElem?_eq_getElem (show j < Bs.length by omega)]
      rfl
    rw [hm] at hbl; rw [hm]; have hmb : m <= 1048576 := by omega
    clear hS ih hok hwt hm hP
    go_enter Tryz.func20,Tryz.ntmps20
    go_wp2_with fail
    go_loopg [3,4,7] m (fun gk v3 v4 v7 wr => ∃ j : Nat,v7 = .int .i64 (j : Int) /\ j + gk = m /\ v3 = .int .u64 (cs7 ((Bs.take j).map vS) : Int) /\ Aside (Below w.heap.size w wr))
    case atStart => exact ⟨0,rfl,by omega,by simp [cs7],Below.refl _ _⟩
    case round =>
      obtain ⟨j,rfl,hjg,rfl,HR⟩ := hrel
      by_cases hlt : j < m
      · have r1 : (j : Int) < (m : Int) := by omega
        obtain ⟨b,o,rfl,hst⟩ := HSt.out (by omega); obtain ⟨x,hx,hxb,hcall⟩ := hst j hlt; have HC : Hid (Calls Tryz.prog 29 #[.pointer (some ⟨b,o + j * 14,none⟩)] wr fun e w' => e = .returned (.int .u64 (x : Int)) /\ Below wr.heap.size wr w') := hcall wr HR.out; have hsn : cs7 ((Bs.take (j + 1)).map vS) = min (cs7 ((Bs.take j).map vS) + x) 65537 := by rw [HTk.out j hlt,cs7_snoc,hx]
        have hle := cs7_le ((Bs.take j).map vS); obtain ⟨c2,hc2⟩ : ∃ c2,cs7 ((Bs.take (j + 1)).map vS) = c2 := ⟨_,rfl⟩; have HC2 : Hid (cs7 ((Bs.take (j + 1)).map vS) = c2) := hc2; rw [hc2] at hsn; clear hst hcall hx hc2
        generalize cs7 ((Bs.take j).map vS) = c1 at *
        obtain ⟨sm,hsm⟩ : ∃ sm,c1 + x = sm := ⟨_,rfl⟩; rw [hsm] at hsn; have q5 : IntKind.u64.wrap ((c1 : Int) + (x : Int)) = (sm : Int) := by rw [IntKind.wrap_u64]; omega
        clear hsm hxb hle
        go_wp2_with fail
        refine HC.out.mono ?_; rintro e w5 ⟨rfl,hb5⟩; have HB5 : Hid (Below w.heap.size w w5) := bnx HR.out hb5; clear hb5 HC HR
        by_cases h6 : sm <= 65537
        · have q6 : (sm : Int) <= 65537 := by omega
          have q7 : ¬ (65537 : Int) < (sm : Int) := by omega
          have q8 : min (sm : Int) 65537 = (sm : Int) := by omega
          have HE : Hid (sm = c2) := by show _ = _; omega
          clear hsn
          go_wp2_with fail
          go_roundg (m - (j + 1))
          case measure => omega
          case rel => exact ⟨j + 1,by simp,by omega,by rw [HC2.out,<- HE.out],HB5.out⟩
        have q6 : ¬ (sm : Int) <= 65537 := by omega
        have q7 : (65537 : Int) < (sm : Int) := by omega
        have q8 : min (sm : Int) 65537 = 65537 := by omega
        have HE : Hid (65537 = c2) := by show _ = _; omega
        clear hsn
        go_wp2_with fail
        go_roundg (m - (j + 1))
        case measure => omega
        case rel => exact ⟨j + 1,by simp,by omega,by rw [HC2.out,<- HE.out]; rfl,HB5.out⟩
      have hjm : j = m := by omega
      have r1 : ¬ (j : Int) < (m : Int) := by omega
      have HB5 : Hid (Below w.heap.size w wr) := HR.out; have h5 : cs7 ((Bs.take j).map vS) = cs7 (Bs.map vS) := by rw [List.take_of_length_le (by rw [HM.out]; omega)]
      obtain ⟨cc,hcc⟩ : ∃ cc,cs7 (Bs.map vS) = cc := ⟨_,rfl⟩; rw [h5,hcc]; have HE : Hid (cs7 (Bs.map vS) = cc) := hcc; clear HR h5 hcc
      go_wp2_with fail
      go_ret
      exact ⟨by rw [HE.out]; rfl,HB5.out⟩
set_option maxHeartbeats 4000000 in
set_option maxRecDepth 100000 in
theorem grt_W {H0 X Pb : Nat} {W0 : World} {J : World -> Prop} {P : Nat -> Prop} {N n : Nat} {p : Pg} {vD vB : Value} (hp : PC H0 X Pb W0 J P N n p vD vB) (hok : ∀ d ∈ p.Bs.flatten,okSd d) (hwt : wtS p.Bs.flatten <= 1048576) {w : World} (hf : FRM H0 X W0 w) (hj : J w)  :
    Calls Tryz.prog 48 #[.pointer (some ⟨X,0,none⟩),.agg #[.int .i64 (-1),.pointer none,.pointer none,.pointer none,.int .i64 0,.bool false,.pointer none]] w fun e w' => e = .returned (.bool (decide (65536 < cs7 (p.Bs.map vS)))) /\ OTH X w w' /\ J w' := by
  obtain ⟨x0,xP⟩ := hp.at hf hj; obtain ⟨Eb,hEb⟩ : ∃ Eb,w.heap.size = Eb := ⟨_,rfl⟩; obtain ⟨W1,hW1⟩ : ∃ W1,w.alloc (.cells #[.int .i64 (-1),.pointer none,.pointer none,.pointer none,.int .i64 0,.bool false,.pointer none] 70) = W1 := ⟨_,rfl⟩; have HW1 : Hid (w.alloc (.cells #[.int .i64 (-1),.pointer none,.pointer none,.pointer none,.int .i64 0,.bool false,.pointer none] 70) = W1 /\ w.heap.size = Eb) := ⟨hW1,hEb⟩; have hb1 : Below w.heap.size w W1 := by rw [<- hW1]; exact bel1 _ _
  have hX : X < w.heap.size := by have h1 := hp.wc.x; have h2 := hp.wc.h; have h3 := hf.size; omega
  have HB1 : Hid (Below w.heap.size w W1 /\ FRM H0 X W0 W1 /\ J W1) := ⟨hb1,hf.trans (FRM.of hb1),hp.wc.js.below hj hX hb1⟩; have hbx : W1.heap[Eb]? = some (.cells #[.int .i64 (-1),.pointer none,.pointer none,.pointer none,.int .i64 0,.bool false,.pointer none] 70 (0,0)) := by rw [<- hW1,<- hEb]; exact heap_alloc_new _ _
  have HBx : Hid (W1.heap[Eb]? = some (.cells #[.int .i64 (-1),.pointer none,.pointer none,.pointer none,.int .i64 0,.bool false,.pointer none] 70 (0,0)) /\ Eb ≠ X) := ⟨hbx,by omega⟩; have HO1 : Hid (∀ w2,OTH X W1 w2 -> OTH X w w2) := fun w2 h2 => (OTH.of hb1).trans h2
  have t0 : W1.cell? ⟨Eb,0,none⟩ = some (.int .i64 (-1)) := cell_of hbx 0; have t1 : W1.cell? ⟨Eb,1,none⟩ = some (.pointer none) := cell_of hbx 1; have t2 : W1.cell? ⟨Eb,2,none⟩ = some (.pointer none) := cell_of hbx 2; have t3 : W1.cell? ⟨Eb,3,none⟩ = some (.pointer none) := cell_of hbx 3; have t4 : W1.cell? ⟨Eb,4,none⟩ = some (.int .i64 0) := cell_of hbx 4; have t5 : W1.cell? ⟨Eb,5,none⟩ = some (.bool false) := cell_of hbx 5; have t6 : W1.cell? ⟨Eb,6,none⟩ = some (.pointer none) := cell_of hbx 6; obtain ⟨x1,xQ⟩ := hp.at HB1.out.2.1 HB1.out.2.2; clear x0 xP; obtain ⟨aB,cB,rfl⟩ := hp.bs.form; have w4 : W1.cell? ⟨Pb,4,none⟩ = some (.slice aB p.Bs.length cB) := cell_of xQ 4; have HC := ssize_any n p.Bs _ W1 P N (hp.bs.keep (HB1.out.2.1.keepP hp.wc.p)) (fun j hj => by have h1 := (hp.wc.p j hj).2.2; have h3 := HB1.out.2.1.size; omega) hok hwt; have HJ : Hid (∀ w2,Below W1.heap.size W1 w2 -> J w2) := fun w2 h2 => hp.wc.js.below HB1.out.2.2 (Nat.lt_of_lt_of_le hX hb1.size) h2
  clear hW1 hEb hb1 hbx hX hp hf hj xQ hok hwt
  generalize p.Bs.length = nB at *
  obtain ⟨tt,htt⟩ : ∃ tt,cs7 (p.Bs.map vS) = tt := ⟨_,rfl⟩; rw [htt] at HC; rw [htt]; replace HC : Hid (Calls Tryz.prog 20 #[.slice aB nB cB] W1 fun e w' => e = .returned (.int .u64 (tt : Int)) /\ Below W1.heap.size W1 w') := HC; obtain ⟨VV,hVV⟩ : ∃ VV,decide (65536 < tt) = VV := ⟨_,rfl⟩; rw [hVV]; have hd5 : decide ((65536 : Int) < (tt : Int)) = VV /\ decide ((tt : Int) > (65536 : Int)) = VV := by rw [<- hVV]; constructor <;> rw [decide_eq_decide] <;> omega
  obtain ⟨hd5,hd6⟩ := hd5; clear htt hVV
  go_enter Tryz.func48,Tryz.ntmps48
  go_upto_region 1 with fail
  rw [HW1.out.1,HW1.out.2]
  go_wp2_with fail
  refine HC.out.mono ?_; rintro e w5 ⟨rfl,hb5⟩; have HZ : Hid (OTH X w w5 /\ J w5) := ⟨HO1.out _ (OTH.of hb5),HJ.out _ hb5⟩; clear hb5 t0 t1 t2 t3 t4 t5 t6 w4
  go_wp2_with fail
  go_ret
  exact ⟨rfl,HZ.out⟩
set_option maxHeartbeats 4000000 in
set_option maxRecDepth 100000 in
theorem whole_any {H0 X hb xb : Nat} {J : World -> Prop} (b : Bool) (w : World) (HV : Hid (Calls Tryz.prog 50 #[.agg (tcs (-1) none none none 0 false none),.pointer (some ⟨hb,0,none⟩),.pointer (some ⟨xb,0,none⟩)] w fun e w' => e = vans b (tcs (-1) none none none 0 false none) /\ OTH X w w' /\ J w')) :
    Calls Tryz.prog 30 #[.pointer (some ⟨X,0,none⟩),.func (.func 50) #[] #[.pointer (some ⟨hb,0,none⟩),.pointer (some ⟨xb,0,none⟩)]] w fun e w' => e = vans b (tcs (-1) none none none 0 false none) /\ FRM H0 X w w' /\ J w' := by
  go_enter Tryz.func30,Tryz.ntmps30
  go_wp2_with fail
  refine HV.out.mono ?_; rintro e w2 ⟨rfl,ho,hj⟩; have HZ : Hid (FRM H0 X w w2 /\ J w2) := ⟨FRM.oth ho,hj⟩; clear ho hj HV; cases b with
  | false =>
    dsimp only [vans]
    go_wp2_with fail
    go_end0
    exact ⟨rfl,HZ.out⟩
  | true =>
    dsimp only [vans]
    go_wp2_with fail
    exact ⟨rfl,rfl,HZ.out⟩
end Go.Proofs.YtfljcdccepnidaaGreatDoor
namespace Go.Proofs.YtfljcdccepnidaaGreatDoor
open Go.ChangeShapes Go.WideShapes Go.ChangeAt Go.RowKit Go.Lib

theorem PC.next {X Pb : Nat} {w w' : World} {J : World -> Prop} {P : Nat -> Prop} {N n : Nat} {p : Pg} {vD vB : Value} (h : PC w.heap.size X Pb w J P N n p vD vB) (ho : OTH X w w') (hj : J w') : PC w'.heap.size X Pb w' J P N n p vD vB := by
  have hk : ∀ j,P j -> w'.heap[j]? = w.heap[j]? := fun j hj => ho.block j (h.wc.p j hj).1 (h.wc.p j hj).2.1
  refine ⟨⟨fun j hj => ?_,Nat.lt_of_lt_of_le h.wc.x ho.size,Nat.le_refl _,h.wc.jx w' hj,h.wc.jx,h.wc.js⟩,Nat.lt_of_lt_of_le h.lt ho.size,h.ne,(ho.block Pb h.lt h.ne).trans h.box,h.ds.keep hk,h.bs.keep hk,h.jb⟩; have h1 := h.wc.p j hj; have h2 := ho.size; exact ⟨by omega,h1.2.1,by omega⟩
def DCA (X Pb : Nat) (J : World -> Prop) (P : Nat -> Prop) (N n : Nat) (p : Pg) (vD vB : Value) : Prop := ∀ (w : World) (s : ByteArray),NB s -> PC w.heap.size X Pb w J P N n p vD vB -> J w -> Calls Tryz.prog 66 #[.pointer (some ⟨X,0,none⟩),.string s] w fun e w' => e = .returned (.tuple #[.int .i64 (((dix p.Ds s).getD 0 : Nat) : Int),.bool (dix p.Ds s).isSome]) /\ OTH X w w' /\ J w'
theorem PC.frm {H0 X Pb : Nat} {W0 w : World} {J : World -> Prop} {P : Nat -> Prop} {N n : Nat} {p : Pg} {vD vB : Value} (h : PC H0 X Pb W0 J P N n p vD vB) (hf : FRM H0 X W0 w) (hj : J w) : PC w.heap.size X Pb w J P N n p vD vB := by
  have hk := hf.keepP h.wc.p; have hs := hf.size; have hh := h.wc.h; have hx := h.wc.x; refine ⟨⟨fun j hj => ?_,by omega,Nat.le_refl _,h.wc.jx w hj,h.wc.jx,h.wc.js⟩,by have := h.lt; omega,h.ne,hf.blk Pb _ h.box h.ne (Or.inl h.lt),h.ds.keep hk,h.bs.keep hk,h.jb⟩; have h1 := h.wc.p j hj; exact ⟨by omega,h1.2.1,by omega⟩
theorem DCA.dcl {H0 X Pb : Nat} {W0 : World} {J : World -> Prop} {P : Nat -> Prop} {N n : Nat} {p : Pg} {vD vB : Value} (hd : DCA X Pb J P N n p vD vB) (h : PC H0 X Pb W0 J P N n p vD vB) : DCL H0 X W0 J p.Ds := fun w s hs hf hj => hd w s hs (h.frm hf hj) hj
structure VB (H0 hb xb X h : Nat) (W0 : World) : Prop where
  hl : hb < H0
  xl : xb < H0
  hx : hb ≠ X
  xx : xb ≠ X
  hc : W0.cell? ⟨hb,0,none⟩ = some (.func (.func h) #[] #[])
  xc : W0.cell? ⟨xb,0,none⟩ = some (.pointer (some ⟨X,0,none⟩))
theorem cell_lt {w : World} {b i : Nat} {v : Value} (h : w.cell? ⟨b,i,none⟩ = some v) : b < w.heap.size := by
  cases hx : w.heap[b]? with
  | none => simp [World.cell?,hx] at h
  | some o => exact (Array.getElem?_eq_some_iff.1 hx).1
theorem FRM.cell {H0 X : Nat} {w w' : World} (h : FRM H0 X w w') {b i : Nat} {v : Value} (hl : b < H0) (hx : b ≠ X) (hc : w.cell? ⟨b,i,none⟩ = some v) : w'.cell? ⟨b,i,none⟩ = some v := by
  cases e : w.heap[b]? with
  | none => simp [World.cell?,e] at hc
  | some o => exact (World.cell?_of_block (a := ⟨b,i,none⟩) ((h.blk b o e hx (Or.inl hl)).trans e.symm)).trans hc
theorem visit_of {H0 X Pb hb xb h : Nat} {W0 w : World} {J : World -> Prop} {P : Nat -> Prop} {N n : Nat} {p : Pg} {vD vB : Value} (hp : PC H0 X Pb W0 J P N n p vD vB) (hv : VB H0 hb xb X h W0) (hcf : ∀ args W,(callFunc h args).run Tryz.prog W = .ok (.enter h args) W) (hf : FRM H0 X W0 w) (hj : J w) (b : Bool) (pl : Int) (a1 a2 a3 : Option Addr) (dp : Int) (tp : Bool) (a6 : Option Addr)
    (hC : ∀ W',FRM H0 X w W' -> J W' -> Calls Tryz.prog h #[.pointer (some ⟨X,0,none⟩),.agg (tcs pl a1 a2 a3 dp tp a6)] W' fun e w' => e = .returned (.bool b) /\ OTH X W' w' /\ J w') :
    Calls Tryz.prog 50 #[.agg (tcs pl a1 a2 a3 dp tp a6),.pointer (some ⟨hb,0,none⟩),.pointer (some ⟨xb,0,none⟩)] w fun e w' => e = vans b (tcs pl a1 a2 a3 dp tp a6) /\ OTH X w w' /\ J w' := by
  have hX : X < w.heap.size := by have h1 := hp.wc.x; have h2 := hp.wc.h; have h3 := hf.size; omega
  exact visit_any b h pl a1 a2 a3 dp tp a6 hb xb X w J hcf (hf.cell hv.hl hv.hx hv.hc) (hf.cell hv.xl hv.xx hv.xc) hX (fun W' hW => hC W' (FRM.of hW) (hp.wc.js.below hj hX hW))
theorem DA.up {H0 X : Nat} {W0 w w' : World} {P : Nat -> Prop} {J : World -> Prop} (hc : WC H0 X W0 J P) (hf : FRM H0 X W0 w) (hf2 : FRM H0 X w w') {d : Dd} {b o : Nat} (h : DA w P d b o) : DA w' P d b o := h.keep (fun j hj => ((hf.trans hf2).keepP hc.p j hj).trans (hf.keepP hc.p j hj).symm)
theorem EA.up {H0 X : Nat} {W0 w w' : World} {P : Nat -> Prop} {J : World -> Prop} (hc : WC H0 X W0 J P) (hf : FRM H0 X W0 w) (hf2 : FRM H0 X w w') {L : List Nd} {b o : Nat} (h : EA w P L b o) : EA w' P L b o := h.keep (fun j hj => ((hf.trans hf2).keepP hc.p j hj).trans (hf.keepP hc.p j hj).symm)
theorem SA.up {H0 X : Nat} {W0 w w' : World} {P : Nat -> Prop} {N : Nat} {J : World -> Prop} (hc : WC H0 X W0 J P) (hf : FRM H0 X W0 w) (hf2 : FRM H0 X w w') {S : List Sd} {b o : Nat} (h : SA w P N S b o) : SA w' P N S b o := h.keep (fun j hj => ((hf.trans hf2).keepP hc.p j hj).trans (hf.keepP hc.p j hj).symm)
def tkT (t : Th) : Int := if t.is = 1 then stT t.k else if t.is = 2 then exT t.k else 0
def vio11 (p : Pg) (_ : Nat) (t : Th) : Bool := v11 p.Ds (tkT t) t.lp t.s
def vio12 (p : Pg) (_ : Nat) (t : Th) : Bool := v12 p.Ds (tkT t) t.lp t.s
def vio10 (_ : Nat) (t : Th) : Bool := if t.is = 1 then decide (64 < (t.dp : Int)) else if t.is = 2 then t.tp && decide (64 < t.dp) else false
def vio13 (p : Pg) (_ : Nat) (t : Th) : Bool := if t.is = 2 then (t.k == 1 && !(rtrim p.wd t.x == t.x)) else false
def vio14 (p : Pg) (_ : Nat) (t : Th) : Bool := if t.is = 1 then v14 p.wd t.k t.lo t.hi else false
def vio15 (p : Pg) (_ : Nat) (t : Th) : Bool := if t.is = 1 then v15 p.Ds t.k t.lp t.s else false
def vio5 (p : Pg) (i : Nat) (t : Th) : Bool := (((dix p.Ds t.s).getD 0 : Nat) : Int) != (i : Int)
theorem cf40 (f : FuncId) (fn : Func) (h : Tryz.prog.funcs[f]? = some fn) (h1 : (fn.name == "runtime.NumGoroutine") = false) (h2 : fn.body.isNone = false) : ∀ args W,(callFunc f args).run Tryz.prog W = .ok (.enter f args) W := cf_of h h1 h2
section
variable {H0 X Pb hb xb : Nat} {W0 : World} {J : World -> Prop} {P : Nat -> Prop} {N n : Nat} {p : Pg} {vD vB : Value}
theorem vis11 (hD : DCA X Pb J P N n p vD vB) (hp : PC H0 X Pb W0 J P N n p vD vB) (hv : VB H0 hb xb X 43 W0) : VD H0 X W0 J P hb xb p.Ds (vio11 p) /\ VE H0 X W0 J P hb xb (vio11 p) /\ VS H0 X W0 J P N hb xb (vio11 p) := by
  have hcf := cf40 43 _ Tryz.func43 (by kernel_rfl) (by kernel_rfl); refine ⟨fun w i b o _ hf hj _ => ?_,fun w i L b o tp lp lpp hL hf hj hE hl => ?_,fun w i d r b o dp lp lpp hn hf hj hS hl => ?_⟩
  · exact visit_of hp hv hcf hf hj _ _ _ _ _ _ _ _ (fun W' h1 h2 => unk_D hp (hf.trans h1) h2 i b o)
  · exact visit_of hp hv hcf hf hj _ _ _ _ _ _ _ _ (fun W' h1 h2 => unk_E hp (hD.dcl hp) (hf.trans h1) h2 i tp hL.2 (hE.up hp.wc hf h1) (WM.lps hp.wc hj h1 hl))
  exact visit_of hp hv hcf hf hj _ _ _ _ _ _ _ _ (fun W' h1 h2 => unk_S hp (hD.dcl hp) (hf.trans h1) h2 i dp hn (hS.up hp.wc hf h1) (WM.lps hp.wc hj h1 hl))
theorem vis12 (hD : DCA X Pb J P N n p vD vB) (hp : PC H0 X Pb W0 J P N n p vD vB) (hv : VB H0 hb xb X 44 W0) : VD H0 X W0 J P hb xb p.Ds (vio12 p) /\ VE H0 X W0 J P hb xb (vio12 p) /\ VS H0 X W0 J P N hb xb (vio12 p) := by
  have hcf := cf40 44 _ Tryz.func44 (by kernel_rfl) (by kernel_rfl); refine ⟨fun w i b o _ hf hj _ => ?_,fun w i L b o tp lp lpp hL hf hj hE hl => ?_,fun w i d r b o dp lp lpp hn hf hj hS hl => ?_⟩
  · exact visit_of hp hv hcf hf hj _ _ _ _ _ _ _ _ (fun W' h1 h2 => oth_D hp (hf.trans h1) h2 i b o)
  · exact visit_of hp hv hcf hf hj _ _ _ _ _ _ _ _ (fun W' h1 h2 => oth_E hp (hD.dcl hp) (hf.trans h1) h2 i tp hL.2 (hE.up hp.wc hf h1) (WM.lps hp.wc hj h1 hl))
  exact visit_of hp hv hcf hf hj _ _ _ _ _ _ _ _ (fun W' h1 h2 => oth_S hp (hD.dcl hp) (hf.trans h1) h2 i dp hn (hS.up hp.wc hf h1) (WM.lps hp.wc hj h1 hl))
theorem vis10 (hp : PC H0 X Pb W0 J P N n p vD vB) (hv : VB H0 hb xb X 42 W0) : VD H0 X W0 J P hb xb p.Ds vio10 /\ VE H0 X W0 J P hb xb vio10 /\ VS H0 X W0 J P N hb xb vio10 := by
  have hcf := cf40 42 _ Tryz.func42 (by kernel_rfl) (by kernel_rfl); refine ⟨fun w i b o _ hf hj _ => ?_,fun w i L b o tp lp lpp hL hf hj hE _ => ?_,fun w i d r b o dp lp lpp _ hf hj hS _ => ?_⟩
  · exact visit_of hp hv hcf hf hj _ _ _ _ _ _ _ _ (fun W' h1 h2 => deep_D hp (hf.trans h1) h2 i b o)
  · exact visit_of hp hv hcf hf hj _ _ _ _ _ _ _ _ (fun W' h1 h2 => deep_E hp (hf.trans h1) h2 i tp hL.1 (hE.up hp.wc hf h1))
  exact visit_of hp hv hcf hf hj _ _ _ _ _ _ _ _ (fun W' h1 h2 => deep_S hp (hf.trans h1) h2 i dp (hS.up hp.wc hf h1))
theorem vis13 (hp : PC H0 X Pb W0 J P N n p vD vB) (hv : VB H0 hb xb X 45 W0) : VD H0 X W0 J P hb xb p.Ds (vio13 p) /\ VE H0 X W0 J P hb xb (vio13 p) /\ VS H0 X W0 J P N hb xb (vio13 p) := by
  have hcf := cf40 45 _ Tryz.func45 (by kernel_rfl) (by kernel_rfl); refine ⟨fun w i b o _ hf hj _ => ?_,fun w i L b o tp lp lpp _ hf hj hE _ => ?_,fun w i d r b o dp lp lpp _ hf hj hS _ => ?_⟩
  · exact visit_of hp hv hcf hf hj _ _ _ _ _ _ _ _ (fun W' h1 h2 => wnum_D hp (hf.trans h1) h2 i b o)
  · exact visit_of hp hv hcf hf hj _ _ _ _ _ _ _ _ (fun W' h1 h2 => wnum_E hp (hf.trans h1) h2 i tp (hE.up hp.wc hf h1))
  exact visit_of hp hv hcf hf hj _ _ _ _ _ _ _ _ (fun W' h1 h2 => wnum_S hp (hf.trans h1) h2 i dp (hS.up hp.wc hf h1))
theorem vis14 (hp : PC H0 X Pb W0 J P N n p vD vB) (hv : VB H0 hb xb X 46 W0) : VD H0 X W0 J P hb xb p.Ds (vio14 p) /\ VE H0 X W0 J P hb xb (vio14 p) /\ VS H0 X W0 J P N hb xb (vio14 p) := by
  have hcf := cf40 46 _ Tryz.func46 (by kernel_rfl) (by kernel_rfl); refine ⟨fun w i b o _ hf hj _ => ?_,fun w i L b o tp lp lpp _ hf hj hE _ => ?_,fun w i d r b o dp lp lpp _ hf hj hS _ => ?_⟩
  · exact visit_of hp hv hcf hf hj _ _ _ _ _ _ _ _ (fun W' h1 h2 => bnd_D hp (hf.trans h1) h2 i b o)
  · exact visit_of hp hv hcf hf hj _ _ _ _ _ _ _ _ (fun W' h1 h2 => bnd_E hp (hf.trans h1) h2 i tp (hE.up hp.wc hf h1))
  exact visit_of hp hv hcf hf hj _ _ _ _ _ _ _ _ (fun W' h1 h2 => bnd_S hp (hf.trans h1) h2 i dp (hS.up hp.wc hf h1))
theorem vis15 (hD : DCA X Pb J P N n p vD vB) (hp : PC H0 X Pb W0 J P N n p vD vB) (hv : VB H0 hb xb X 47 W0) : VD H0 X W0 J P hb xb p.Ds (vio15 p) /\ VE H0 X W0 J P hb xb (vio15 p) /\ VS H0 X W0 J P N hb xb (vio15 p) := by
  have hcf := cf40 47 _ Tryz.func47 (by kernel_rfl) (by kernel_rfl); refine ⟨fun w i b o _ hf hj _ => ?_,fun w i L b o tp lp lpp _ hf hj hE _ => ?_,fun w i d r b o dp lp lpp hn hf hj hS hl => ?_⟩
  · exact visit_of hp hv hcf hf hj _ _ _ _ _ _ _ _ (fun W' h1 h2 => usd_D hp (hf.trans h1) h2 i b o)
  · exact visit_of hp hv hcf hf hj _ _ _ _ _ _ _ _ (fun W' h1 h2 => usd_E hp (hf.trans h1) h2 i tp (hE.up hp.wc hf h1))
  exact visit_of hp hv hcf hf hj _ _ _ _ _ _ _ _ (fun W' h1 h2 => usd_S hp (hD.dcl hp) (hf.trans h1) h2 i dp hn (hS.up hp.wc hf h1) (WM.lps hp.wc hj h1 hl))
def vio6 (p : Pg) (i : Nat) (_ : Th) : Bool := (p.Ds.getD i dd0).z != 0 && !(arrB (p.Ds.getD i dd0).z)
def vio7 (p : Pg) (i : Nat) (_ : Th) : Bool := (p.Ds.getD i dd0).k == 3 && (((p.Ds.getD i dd0).vs.length : Int) != (p.Ds.getD i dd0).z)
def vio8 (p : Pg) (i : Nat) (_ : Th) : Bool := (p.Ds.getD i dd0).vs.any fun v => !(rtrim p.wd v == v)
theorem vis5 (hD : DCA X Pb J P N n p vD vB) (hnb : ∀ i,NB (p.Ds.getD i dd0).s) (hp : PC H0 X Pb W0 J P N n p vD vB) (hv : VB H0 hb xb X 37 W0) : VD H0 X W0 J P hb xb p.Ds (vio5 p) := by
  have hcf := cf40 37 _ Tryz.func37 (by kernel_rfl) (by kernel_rfl); intro w i b o _ hf hj hd; exact visit_of hp hv hcf hf hj _ _ _ _ _ _ _ _ (fun W' h1 h2 => ahead_C hp (hD.dcl hp) (hf.trans h1) h2 i (hnb i) (hd.up hp.wc hf h1))
theorem vis6 (hp : PC H0 X Pb W0 J P N n p vD vB) (hv : VB H0 hb xb X 38 W0) : VD H0 X W0 J P hb xb p.Ds (vio6 p) := by
  have hcf := cf40 38 _ Tryz.func38 (by kernel_rfl) (by kernel_rfl); intro w i b o _ hf hj hd; exact visit_of hp hv hcf hf hj _ _ _ _ _ _ _ _ (fun W' h1 h2 => nsz_C hp (hf.trans h1) h2 i (hd.up hp.wc hf h1))
theorem vis7 (hp : PC H0 X Pb W0 J P N n p vD vB) (hv : VB H0 hb xb X 39 W0) : VD H0 X W0 J P hb xb p.Ds (vio7 p) := by
  have hcf := cf40 39 _ Tryz.func39 (by kernel_rfl) (by kernel_rfl); intro w i b o _ hf hj hd; exact visit_of hp hv hcf hf hj _ _ _ _ _ _ _ _ (fun W' h1 h2 => olen_C hp (hf.trans h1) h2 i (hd.up hp.wc hf h1))
theorem vis8 (hp : PC H0 X Pb W0 J P N n p vD vB) (hv : VB H0 hb xb X 40 W0) (hvl : ∀ i,(p.Ds.getD i dd0).vs.length <= 1048576) : VD H0 X W0 J P hb xb p.Ds (vio8 p) := by
  have hcf := cf40 40 _ Tryz.func40 (by kernel_rfl) (by kernel_rfl); intro w i b o _ hf hj hd; exact visit_of hp hv hcf hf hj _ _ _ _ _ _ _ _ (fun W' h1 h2 => wval_C hp (hf.trans h1) h2 i (hd.up hp.wc hf h1) (hvl i))
end
end Go.Proofs.YtfljcdccepnidaaGreatDoor
