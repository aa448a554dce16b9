import Derived.Test.YtkpapgfbnledpaaGreatDoorTlG
import Derived.Test.YtkpapgfbnledpaaGreatDoorTlS
import Derived.Test.YtkpapgfbnledpaaGreatDoorTmJ
set_option maxHeartbeats 8000000
set_option maxRecDepth 100000
namespace Go.Proofs.YtkpapgfbnledpaaGreatDoor
open Go.ChangeShapes Go.WideShapes Go.ChangeAt Go.RowKit Go.Lib Go.Tm Go.Bw Go.Bn Go.Bd

theorem NST.all {w W W' : World} {R : Nat} {p tv : Value} {k : Int} {s : List UInt8} {n n' : Nd} (h : NST w W R p tv k s n) (ho : OTH (w.heap.size + 1) W W') (hb : W'.heap[w.heap.size + 1]? = some (.cells (ndV n') 40 (0,0))) : NST w W' R p tv k s n' := by
  have hlt := h.lt; have h1 := (Array.getElem?_eq_some_iff.1 h.b1).1; have hz := h.oth.size; exact ⟨⟨ho.os.trans h.oth.os,ho.tape.trans h.oth.tape,ho.output.trans h.oth.output,Nat.le_trans hz ho.size,fun j hj hn => (ho.block j (by omega) (by omega)).trans (h.oth.block j hj hn)⟩,(ho.block _ (by omega) (by omega)).trans h.box,h.sl,(ho.block _ (by omega) (by omega)).trans h.b0,hb,hlt⟩
theorem par_set (n : Nd) (j : Nat) (hj : j < 3) (t : Int) : (#[Value.int .i64 n.a,Value.int .i64 n.b,Value.int .i64 n.c]).set! j (.int .i64 t) = #[Value.int .i64 (setP n j t).a,Value.int .i64 (setP n j t).b,Value.int .i64 (setP n j t).c] := by
  have : j = 0 ∨ j = 1 ∨ j = 2 := by omega
  rcases this with rfl | rfl | rfl <;> rfl
theorem setP_is (n : Nd) (j : Nat) (t : Int) : (setP n j t).op = n.op /\ (setP n j t).w = n.w /\ (setP n j t).num = n.num /\ (setP n j t).name = n.name := by
  unfold setP
  split
  · exact ⟨rfl,rfl,rfl,rfl⟩
  split <;> exact ⟨rfl,rfl,rfl,rfl⟩
structure PST (w W : World) (R : Nat) (p tv : Value) (k : Int) (s : List UInt8) (op : Int) (n : Nd) : Prop where
  st : NST w W R p tv k s ⟨op,0,0,0,0,0,ByteArray.empty⟩
  b2 : W.heap[w.heap.size + 2]? = some (.cells #[.int .i64 n.a,.int .i64 n.b,.int .i64 n.c] 168 (0,0))
  nd : n.op = op /\ n.w = 0 /\ n.num = 0 /\ n.name = ByteArray.empty
theorem PST.step {w W W' : World} {R : Nat} {p tv : Value} {k op : Int} {s s' : List UInt8} {n : Nd} (h : PST w W R p tv k s op n) (ho : OTH R W W') (hb : RBx W' R p tv k s') (hl : s'.length <= 1048576) : PST w W' R p tv k s' op n := by
  have hlt := h.st.lt; have h1 := (Array.getElem?_eq_some_iff.1 h.b2).1; exact ⟨h.st.step ho hb hl,(ho.block _ (by omega) (by omega)).trans h.b2,h.nd⟩
theorem PST.put {w W : World} {R : Nat} {p tv : Value} {k op : Int} {s : List UInt8} {n : Nd} (h : PST w W R p tv k s op n) (j : Nat) (hj : j < 3) (t : Int) : PST w (W.setCell ⟨w.heap.size + 2,j,none⟩ (.int .i64 t)) R p tv k s op (setP n j t) := by
  have hlt := h.st.lt; have h1 := (Array.getElem?_eq_some_iff.1 h.b2).1; have oth : ∀ i,i ≠ w.heap.size + 2 -> (W.setCell ⟨w.heap.size + 2,j,none⟩ (.int .i64 t)).heap[i]? = W.heap[i]? := fun i hi => heap_setCell_other _ _ _ _ hi
  refine ⟨⟨⟨h.st.oth.os,h.st.oth.tape,h.st.oth.output,by rw [World.size_setCell]; exact h.st.oth.size,fun i hi hn => (oth i (by omega)).trans (h.st.oth.block i hi hn)⟩,(oth _ (by omega)).trans h.st.box,h.st.sl,(oth _ (by omega)).trans h.st.b0,(oth _ (by omega)).trans h.st.b1,hlt⟩,?_,?_⟩
  · rw [heap_setCell_same _ _ j _ _ _ h.b2,<- par_set n j hj t]
    simp
  obtain ⟨e1,e2,e3,e4⟩ := setP_is n j t; rw [e1,e2,e3,e4]; exact h.nd
theorem PST.start {w W : World} {R : Nat} {p tv : Value} {k op : Int} {s : List UInt8} (h : NST w W R p tv k s ⟨op,0,0,0,0,0,ByteArray.empty⟩) (hz : W.heap.size = w.heap.size + 2) : PST w (W.alloc (.cells #[.int .i64 0,.int .i64 0,.int .i64 0] 168)) R p tv k s op ⟨op,0,0,0,0,0,ByteArray.empty⟩ := by
  have hb := bel1 W (.cells #[.int .i64 0,.int .i64 0,.int .i64 0] 168); have hk := heap_alloc_new W (.cells #[.int .i64 0,.int .i64 0,.int .i64 0] 168); rw [hz] at hk; exact ⟨h.step (OTH.of hb) (h.box.over hb) h.sl,hk,rfl,rfl,rfl,rfl⟩
theorem node_d {w : World} {R B : Nat} {tv : Value} {k : Int} {s : List UInt8} {ts : List Int} {L : List Nd} (op : Nat) (hop : op ≠ 3 /\ op ≠ 4 /\ op ≠ 31 /\ op ≠ 32 /\ op ≠ 33) (h : RBx w R (.pointer (some ⟨B,0,none⟩)) tv k s) (hT : RW w R ts tv) (htl : ts.length <= 1048576) (hE : ENV w) (hR : 10 <= R) (hs : s.length <= 1048576)
    (HM : ∀ W a b c,OTH R w W -> Calls Tryz.prog 129 #[.pointer (some ⟨B,0,none⟩),.int .i64 (op : Int),.int .i64 a,.int .i64 b,.int .i64 c] W fun e w' => e = .returned (nodeV ⟨(op : Int),mw (op : Int) (wd L a) (wd L b),a,b,c,0,ByteArray.empty⟩) /\ Below W.heap.size W w') :
    Calls Tryz.prog 113 #[.pointer (some ⟨R,0,none⟩),.int .i64 (op : Int)] w fun e w' => OTH R w w' /\ ((fgS ts (List.replicate (pt op).toNat 112) (wds s) (nd1 op) 0 = none /\ e = gv k 3) ∨ ∃ n s',fgS ts (List.replicate (pt op).toNat 112) (wds s) (nd1 op) 0 = some (n,wds s') /\ e = .returned (nodeV { n with w := mw (op : Int) (wd L n.a) (wd L n.b) }) /\ RBx w' R (.pointer (some ⟨B,0,none⟩)) tv k s' /\ s'.length <= 1048576) := by
  generalize hp : Value.pointer (some ⟨B,0,none⟩) = p at *
  have HPp : Hid (Value.pointer (some ⟨B,0,none⟩) = p) := hp; have H0 := NST.start h hs (nd1 op); obtain ⟨W1,hW1⟩ : ∃ W1,(w.alloc (.cells (ndV z0) 40)).alloc (.cells (ndV (nd1 op)) 40) = W1 := ⟨_,rfl⟩; have hz1 : W1.heap.size = w.heap.size + 2 := by rw [<- hW1]; simp
  rw [hW1] at H0; obtain ⟨x,hx⟩ : ∃ x : Int,(op : Int) = x := ⟨_,rfl⟩; have H0' : NST w W1 R p tv k s ⟨x,0,0,0,0,0,ByteArray.empty⟩ := by rw [<- hx]; exact H0
  obtain ⟨W2,hW2⟩ : ∃ W2,W1.alloc (.cells #[.int .i64 0,.int .i64 0,.int .i64 0] 168) = W2 := ⟨_,rfl⟩; have HP0 : Hid (PST w W2 R p tv k s x ⟨x,0,0,0,0,0,ByteArray.empty⟩) := by rw [<- hW2]; exact PST.start H0' hz1
  have hW1' : (w.alloc (.cells #[.int .i64 0,.int .i64 0,.int .i64 0,.int .i64 0,.int .i64 0,.int .u64 0,.string ⟨#[]⟩] 40)).alloc (.cells #[.int .i64 x,.int .i64 0,.int .i64 0,.int .i64 0,.int .i64 0,.int .u64 0,.string ⟨#[]⟩] 40) = W1 := by rw [<- hx]; exact hW1
  have HW2 : Hid (((w.alloc (.cells #[.int .i64 0,.int .i64 0,.int .i64 0,.int .i64 0,.int .i64 0,.int .u64 0,.string ⟨#[]⟩] 40)).alloc (.cells #[.int .i64 x,.int .i64 0,.int .i64 0,.int .i64 0,.int .i64 0,.int .u64 0,.string ⟨#[]⟩] 40)).alloc (.cells #[.int .i64 0,.int .i64 0,.int .i64 0] 168) = W2) := by show _ = _; rw [hW1',hW2]
  have HE : Hid (∀ W,OTH R w W -> ENV W /\ RW W R ts tv) := fun W ho => ⟨hE.oth ho hR,hT.oth ho⟩
  have HR : Hid (10 <= R /\ ts.length <= 1048576) := ⟨hR,htl⟩; have HMx : Hid (∀ W a b c,OTH R w W -> Calls Tryz.prog 129 #[p,.int .i64 x,.int .i64 a,.int .i64 b,.int .i64 c] W fun e w' => e = .returned (nodeV ⟨x,mw x (wd L a) (wd L b),a,b,c,0,ByteArray.empty⟩) /\ Below W.heap.size W w') := by rw [<- hx]; exact HM
  obtain ⟨m,hm⟩ : ∃ m,(pt (op : Int)).toNat = m := ⟨_,rfl⟩; have hm3 : m <= 3 := by have := pt_lo (op : Int); omega
  have hmx : pt x = (m : Int) := by have := pt_lo (op : Int); rw [<- hx]; omega
  obtain ⟨Fo,hFo⟩ : ∃ Fo,fgS ts (List.replicate (pt (op : Int)).toNat 112) (wds s) (nd1 op) 0 = Fo := ⟨_,rfl⟩; have HF0 : Hid (fgS ts (List.replicate (m - 0) 112) (wds s) ⟨x,0,0,0,0,0,ByteArray.empty⟩ 0 = Fo) := by show _ = _; rw [<- hFo,<- hx,hm]; rfl
  have HPt : Hid (∀ W,Calls Tryz.prog 117 #[.int .i64 x] W fun e w' => e = .returned (.int .i64 (m : Int)) /\ w' = W) := fun W => by have := parts_any x W; rw [hmx] at this; exact this
  have q3 : (x == 3) = false := beq_eq_false_iff_ne.2 (by omega); have q4 : (x == 4) = false := beq_eq_false_iff_ne.2 (by omega); have q31 : (x == 31) = false := beq_eq_false_iff_ne.2 (by omega); have q32 : (x == 32) = false := beq_eq_false_iff_ne.2 (by omega); have q33 : (x == 33) = false := beq_eq_false_iff_ne.2 (by omega); rw [hFo,hx]; clear h H0 H0' hW1 hW1' hW2 hE hR hs hT htl HM hFo hx hmx hm hz1 hop hp
  go_enter Tryz.func113,Tryz.ntmps113
  go_upto_region 4 with fail
  rw [HW2.out]
  go_wp2_with (go_at_call 117; refine (HPt.out _).mono ?_; rintro e w' ⟨rfl,rfl⟩)
  go_loopg [13] m (fun gk v13 wr => ∃ j : Nat,v13 = .int .i64 (j : Int) /\ j + gk = m /\ Aside (∃ s' n,PST w wr R p tv k s' x n /\ fgS ts (List.replicate (m - j) 112) (wds s') n j = Fo))
  case atStart => exact ⟨0,rfl,by omega,s,_,HP0.out,HF0.out⟩
  case round =>
    obtain ⟨j,rfl,hj,HA⟩ := hrel; obtain ⟨s1,n1,hP,hF⟩ := HA.out; have HP : Hid (PST w wr R p tv k s1 x n1) := hP; have HF : Hid (fgS ts (List.replicate (m - j) 112) (wds s1) n1 j = Fo) := hF; clear HA hP hF HP0 HF0
    by_cases hlt : j < m
    · have q1 : (j : Int) < (m : Int) := by omega
      have q2 : (j : Int) < 3 := by omega
      have HJ : Hid (j < 3 /\ m - j = (m - (j + 1)) + 1) := ⟨by omega,by omega⟩
      go_wp2_with fail
      refine (part_any HP.out.st.box (HE.out _ HP.out.st.oth).2 HR.out.2 (HE.out _ HP.out.st.oth).1 HR.out.1 HP.out.st.sl).mono ?_; rintro e w2 ⟨ho,⟨h1,rfl⟩ | ⟨t,s2,h1,rfl,hb,hl,u,hu,hsm⟩⟩
      · have HZ : Hid (OTH R w w2 /\ Fo = none) := ⟨HP.out.st.oth.trans ho,by rw [<- HF.out,HJ.out.2,List.replicate_succ]; exact fgS_part_none ts _ _ _ h1⟩
        clear h1 ho; unfold gv
        go_wp2_with fail
        exact ⟨by first | trivial | rfl,HZ.out.1,Or.inl ⟨HZ.out.2,rfl⟩⟩
      have hX := HP.out.step ho hb hl; obtain ⟨vv,cc⟩ : ∃ vv,w2.cell? ⟨w.heap.size + 2,j,none⟩ = some vv := by
        have : j = 0 ∨ j = 1 ∨ j = 2 := by have := HJ.out.1; omega
        rcases this with rfl | rfl | rfl
        · exact ⟨_,cell_of hX.b2 0⟩
        · exact ⟨_,cell_of hX.b2 1⟩
        exact ⟨_,cell_of hX.b2 2⟩
      have fc := fz_of hX.b2 j; have HN : Aside (∃ s' n,PST w (w2.setCell ⟨w.heap.size + 2,j,none⟩ (.int .i64 t)) R p tv k s' x n /\ fgS ts (List.replicate (m - (j + 1)) 112) (wds s') n (j + 1) = Fo) := ⟨s2,setP n1 j t,hX.put j HJ.out.1 t,by rw [<- HF.out,HJ.out.2,List.replicate_succ,hu,fgS_p ts _ _ _ _ hsm]⟩; clear h1 ho hb hl hu hsm hX
      go_wp2_with fail
      go_roundg (gk - 1)
      case measure => omega
      case rel => exact ⟨j + 1,by simp,by omega,HN⟩
    have q1 : ¬ (j : Int) < (m : Int) := by omega
    have hn := HP.out.nd; have HF2 : Hid (Fo = some (n1,wds s1)) := by show _ = _; rw [<- HF.out,show m - j = 0 by omega]; rfl
    have c0 : wr.cell? ⟨w.heap.size + 2,0,none⟩ = some (.int .i64 n1.a) := cell_of HP.out.b2 0; have c1 : wr.cell? ⟨w.heap.size + 2,1,none⟩ = some (.int .i64 n1.b) := cell_of HP.out.b2 1; have c2 : wr.cell? ⟨w.heap.size + 2,2,none⟩ = some (.int .i64 n1.c) := cell_of HP.out.b2 2; have d0 : wr.cell? ⟨R,0,none⟩ = some p := cell_of HP.out.st.box 0; have c0' : wr.drew.cell? ⟨w.heap.size + 1 + 1,0,none⟩ = some (.int .i64 n1.a) := c0; have HM2 : Hid (∀ W,OTH R w W -> Calls Tryz.prog 129 #[p,.int .i64 x,.int .i64 n1.a,.int .i64 n1.b,.int .i64 n1.c] W fun e w' => e = .returned (.agg #[.int .i64 x,.int .i64 (mw x (wd L n1.a) (wd L n1.b)),.int .i64 n1.a,.int .i64 n1.b,.int .i64 n1.c,.int .u64 0,.string ⟨#[]⟩]) /\ Below W.heap.size W w') := fun W hW => HMx.out W n1.a n1.b n1.c hW
    have HOr : Hid (OTH R w wr.drew) := HP.out.st.oth.trans (OTH.drewN R wr 1)
    generalize hA : n1.a = A at *
    generalize hB : n1.b = Bb at *
    generalize hC : n1.c = C at *
    have hN : ∀ W,Below wr.drew.heap.size wr.drew W -> NST w W R p tv k s1 ⟨x,0,0,0,0,0,ByteArray.empty⟩ := fun W hW => (HP.out.st.step (OTH.drewN R wr 1) HP.out.st.box HP.out.st.sl).step (OTH.of hW) (RBx.over (show RBx wr.drew R p tv k s1 from HP.out.st.box) hW) HP.out.st.sl
    have HCC : Hid (∀ W,Below wr.drew.heap.size wr.drew W -> W.cell? ⟨w.heap.size + 1,0,none⟩ = some (.int .i64 x) /\ W.frozen? ⟨w.heap.size + 1,0,none⟩ = false /\ W.cell? ⟨w.heap.size + 1,1,none⟩ = some (.int .i64 0) /\ W.frozen? ⟨w.heap.size + 1,1,none⟩ = false /\ W.cell? ⟨w.heap.size + 1,2,none⟩ = some (.int .i64 0) /\ W.frozen? ⟨w.heap.size + 1,2,none⟩ = false /\ W.cell? ⟨w.heap.size + 1,3,none⟩ = some (.int .i64 0) /\ W.frozen? ⟨w.heap.size + 1,3,none⟩ = false /\ W.cell? ⟨w.heap.size + 1,4,none⟩ = some (.int .i64 0) /\ W.frozen? ⟨w.heap.size + 1,4,none⟩ = false /\ W.cell? ⟨w.heap.size + 1,5,none⟩ = some (.int .u64 0) /\ W.frozen? ⟨w.heap.size + 1,5,none⟩ = false /\ W.cell? ⟨w.heap.size + 1,6,none⟩ = some (.string ⟨#[]⟩) /\ W.frozen? ⟨w.heap.size + 1,6,none⟩ = false) := fun W hW => ⟨cell_of (hN W hW).b1 0,fz_of (hN W hW).b1 0,cell_of (hN W hW).b1 1,fz_of (hN W hW).b1 1,cell_of (hN W hW).b1 2,fz_of (hN W hW).b1 2,cell_of (hN W hW).b1 3,fz_of (hN W hW).b1 3,cell_of (hN W hW).b1 4,fz_of (hN W hW).b1 4,cell_of (hN W hW).b1 5,fz_of (hN W hW).b1 5,cell_of (hN W hW).b1 6,fz_of (hN W hW).b1 6⟩
    have HNN : Hid (∀ W,Below wr.drew.heap.size wr.drew W -> NST w W R p tv k s1 ⟨x,0,0,0,0,0,ByteArray.empty⟩) := hN; have HND : Hid (n1 = ⟨x,0,A,Bb,C,0,ByteArray.empty⟩) := by
      obtain ⟨e1,e2,e3,e4⟩ := hn
      show n1 = _
      rw [<- hA,<- hB,<- hC,<- e1,<- e3]; cases n1; simp only at e1 e2 e3 e4; subst e2 e3 e4
      rfl
    clear hN hn hA hB hC; have hHeld : (fun W => W.cell? ⟨R,0,none⟩ = some p /\ W.cell? ⟨w.heap.size + 1 + 1,0,none⟩ = some (.int .i64 A) /\ W.cell? ⟨w.heap.size + 1 + 1,1,none⟩ = some (.int .i64 Bb) /\ W.cell? ⟨w.heap.size + 1 + 1,2,none⟩ = some (.int .i64 C)) wr.drew := ⟨d0,c0,c1,c2⟩; have HHd : Hid (∀ W,Below wr.drew.heap.size wr.drew W -> (fun W => W.cell? ⟨R,0,none⟩ = some p /\ W.cell? ⟨w.heap.size + 1 + 1,0,none⟩ = some (.int .i64 A) /\ W.cell? ⟨w.heap.size + 1 + 1,1,none⟩ = some (.int .i64 Bb) /\ W.cell? ⟨w.heap.size + 1 + 1,2,none⟩ = some (.int .i64 C)) W) := fun W hW => by
      have hc : ∀ q i v,wr.drew.cell? ⟨q,i,none⟩ = some v -> W.cell? ⟨q,i,none⟩ = some v := fun q i v h => (hW.cell (p := ⟨q,i,none⟩) (cell_blt h)).trans h
      exact ⟨hc _ _ _ d0,hc _ _ _ c0,hc _ _ _ c1,hc _ _ _ c2⟩
    clear c0 c1 c2 c0' d0
    go_upto_region 9 with fail
    refine se_start (fun W => W.cell? ⟨R,0,none⟩ = some p /\ W.cell? ⟨w.heap.size + 1 + 1,0,none⟩ = some (.int .i64 A) /\ W.cell? ⟨w.heap.size + 1 + 1,1,none⟩ = some (.int .i64 Bb) /\ W.cell? ⟨w.heap.size + 1 + 1,2,none⟩ = some (.int .i64 C)) 12 [11,12] [0,1,2,3,4,5,6,7,8,9,10,11,12] (by kernel_rfl) (by kernel_rfl) ?_
    repeat (refine se_op (v := ?_) (by rfl) (by rfl) (by rfl) hHeld ?_ ?_; rotate_left; (focus (intro w hSw; (try dsimp only at hSw); go_simp <;> with_reducible rfl)); simp only [Act.put,List.setIfInBounds_toArray,List.set_cons_zero,List.set_cons_succ])
    refine se_do (by rfl) (by rfl) (by rfl) (fun K hK => ?_)
    go_simp
    go_at_call 129
    refine (HM2.out _ HOr.out).mono ?_; rintro e w4 ⟨rfl,hb4⟩; have hH4 := HHd.out w4 hb4; obtain ⟨y0,z0,y1,z1,y2,z2,y3,z3,y4,z4,y5,z5,y6,z6⟩ := HCC.out _ hb4; have HN4 : Hid (NST w w4 R p tv k s1 ⟨x,0,0,0,0,0,ByteArray.empty⟩) := HNN.out _ hb4; clear hb4 hHeld HHd HNN HCC HM2 HMx; refine hK.out _ _ hH4 ?_; clear hK K
    try simp only [Act.put,List.setIfInBounds_toArray,List.set_cons_zero,List.set_cons_succ]
    refine se_last (by rfl) (by rfl) (by rfl) (by rfl) (fun K hK => ?_)
    go_simp
    obtain ⟨w5,hw5,hb5,ho5⟩ := put7 HN4.out.b1 (.int .i64 x) (.int .i64 (mw x (wd L A) (wd L Bb))) (.int .i64 A) (.int .i64 Bb) (.int .i64 C) (.int .u64 0) (.string ⟨#[]⟩); rw [hw5]; have H5 : Hid (NST w w5 R p tv k s1 ⟨x,mw x (wd L A) (wd L Bb),A,Bb,C,0,ByteArray.empty⟩) := HN4.out.all ho5 hb5; refine hK.out _ _ ?_; clear hK K hw5 hb5 ho5 HN4 hH4 y0 z0 y1 z1 y2 z2 y3 z3 y4 z4 y5 z5 y6 z6; have e0 : w5.cell? ⟨w.heap.size,0,none⟩ = some (.int .i64 0) := cell_of H5.out.b0 0; have k0 := fz_of H5.out.b0 0; have g0 : w5.cell? ⟨w.heap.size + 1,0,none⟩ = some (.int .i64 x) := cell_of H5.out.b1 0; have e1 : w5.cell? ⟨w.heap.size,1,none⟩ = some (.int .i64 0) := cell_of H5.out.b0 1; have k1 := fz_of H5.out.b0 1; have g1 : w5.cell? ⟨w.heap.size + 1,1,none⟩ = some (.int .i64 (mw x (wd L A) (wd L Bb))) := cell_of H5.out.b1 1; have e2 : w5.cell? ⟨w.heap.size,2,none⟩ = some (.int .i64 0) := cell_of H5.out.b0 2; have k2 := fz_of H5.out.b0 2; have g2 : w5.cell? ⟨w.heap.size + 1,2,none⟩ = some (.int .i64 A) := cell_of H5.out.b1 2; have e3 : w5.cell? ⟨w.heap.size,3,none⟩ = some (.int .i64 0) := cell_of H5.out.b0 3; have k3 := fz_of H5.out.b0 3; have g3 : w5.cell? ⟨w.heap.size + 1,3,none⟩ = some (.int .i64 Bb) := cell_of H5.out.b1 3; have e4 : w5.cell? ⟨w.heap.size,4,none⟩ = some (.int .i64 0) := cell_of H5.out.b0 4; have k4 := fz_of H5.out.b0 4; have g4 : w5.cell? ⟨w.heap.size + 1,4,none⟩ = some (.int .i64 C) := cell_of H5.out.b1 4; have e5 : w5.cell? ⟨w.heap.size,5,none⟩ = some (.int .u64 0) := cell_of H5.out.b0 5; have k5 := fz_of H5.out.b0 5; have g5 : w5.cell? ⟨w.heap.size + 1,5,none⟩ = some (.int .u64 0) := cell_of H5.out.b1 5; have e6 : w5.cell? ⟨w.heap.size,6,none⟩ = some (.string ⟨#[]⟩) := cell_of H5.out.b0 6; have k6 := fz_of H5.out.b0 6; have g6 : w5.cell? ⟨w.heap.size + 1,6,none⟩ = some (.string ⟨#[]⟩) := cell_of H5.out.b1 6; obtain ⟨WE,hWE,hbE,hoE⟩ := put7 H5.out.b0 (.int .i64 x) (.int .i64 (mw x (wd L A) (wd L Bb))) (.int .i64 A) (.int .i64 Bb) (.int .i64 C) (.int .u64 0) (.string ⟨#[]⟩); have HE2 : Hid ((((((((w5.setCell ⟨w.heap.size,0,none⟩ (.int .i64 x)).setCell ⟨w.heap.size,1,none⟩ (.int .i64 (mw x (wd L A) (wd L Bb)))).setCell ⟨w.heap.size,2,none⟩ (.int .i64 A)).setCell ⟨w.heap.size,3,none⟩ (.int .i64 Bb)).setCell ⟨w.heap.size,4,none⟩ (.int .i64 C)).setCell ⟨w.heap.size,5,none⟩ (.int .u64 0)).setCell ⟨w.heap.size,6,none⟩ (.string ⟨#[]⟩)) = WE /\ WE.heap[w.heap.size]? = some (.cells #[.int .i64 x,.int .i64 (mw x (wd L A) (wd L Bb)),.int .i64 A,.int .i64 Bb,.int .i64 C,.int .u64 0,.string ⟨#[]⟩] 40 (0,0)) /\ OTH R w WE /\ RBx WE R p tv k s1 /\ s1.length <= 1048576) := ⟨hWE,hbE,(H5.out.fin hoE).1,(H5.out.fin hoE).2,H5.out.sl⟩; clear hWE hbE hoE
    go_wp2_with fail
    rw [HE2.out.1]; refine bodyPost_ret (v := nodeV ⟨x,mw x (wd L A) (wd L Bb),A,Bb,C,0,ByteArray.empty⟩) (results_cell_row (p := 4) rfl _ _ w.heap.size 40 _ (0,0) _ rfl HE2.out.2.1 Tryz.underlying40 rfl (by kernel_rfl)) rfl ?_; exact ⟨HE2.out.2.2.1,Or.inr ⟨n1,s1,HF2.out,by rw [HND.out],HE2.out.2.2.2⟩⟩
end Go.Proofs.YtkpapgfbnledpaaGreatDoor
namespace Go.Proofs.YtkpapgfbnledpaaGreatDoor
open Go.ChangeShapes Go.WideShapes Go.ChangeAt Go.RowKit Go.Lib Go.Tm Go.Bw Go.Bn Go.Bd

theorem fst1_op {ts : List Int} {f : UInt8} {u : List UInt8} {n m : Nd} {k : Nat} (h : fst1 ts f u n k = some m) : m.op = n.op := by
  unfold fst1 at h
  split at h
  · cases e : ptO ts u with
    | none => rw [e] at h; cases h
    | some t =>
      rw [e] at h; cases h; exact (setP_is n k t).1
  split at h
  · split at h
    · cases e : numO u with
      | none => rw [e] at h; cases h
      | some v => rw [e] at h; cases h; rfl
    cases e : smN u with
    | none => rw [e] at h; cases h
    | some v => rw [e] at h; cases h; rfl
  split at h
  · cases e : smN u with
    | none => rw [e] at h; cases h
    | some v => rw [e] at h; cases h; rfl
  cases h; rfl
theorem fgS_op {ts : List Int} : ∀ {fs : List UInt8} {us : List (List UInt8)} {n m : Nd} {k : Nat} {r : List (List UInt8)},fgS ts fs us n k = some (m,r) -> m.op = n.op
  | [],_,_,_,_,_,h => by cases h; rfl
  | _ :: _,[],_,_,_,_,h => by cases h
  | f :: fs,u :: us,n,m,k,r,h => by
    rw [fgS_cons] at h; cases e : fst1 ts f u n k with
    | none => rw [e] at h; cases h
    | some m1 =>
      rw [e] at h; exact (fgS_op h).trans (fst1_op e)
theorem node7_any {w : World} {R B : Nat} {tv : Value} {k : Int} {s : List UInt8} {ts : List Int} {L : List Nd} (op : Nat) (h1 : 1 <= op) (h2 : op <= 33) (h : RBx w R (.pointer (some ⟨B,0,none⟩)) tv k s) (hT : RW w R ts tv) (htl : ts.length <= 1048576) (hE : ENV w) (hR : 10 <= R) (hs : s.length <= 1048576)
    (HM : ∀ W a b c,OTH R w W -> Calls Tryz.prog 129 #[.pointer (some ⟨B,0,none⟩),.int .i64 (op : Int),.int .i64 a,.int .i64 b,.int .i64 c] W fun e w' => e = .returned (nodeV ⟨(op : Int),mw (op : Int) (wd L a) (wd L b),a,b,c,0,ByteArray.empty⟩) /\ Below W.heap.size W w') :
    Calls Tryz.prog 113 #[.pointer (some ⟨R,0,none⟩),.int .i64 (op : Int)] w fun e w' => OTH R w w' /\ ((fgS ts (flB (op : Int)) (wds s) (nd1 op) 0 = none /\ e = gv k 3) ∨ ∃ n s',fgS ts (flB (op : Int)) (wds s) (nd1 op) 0 = some (n,wds s') /\ e = .returned (nodeV (fin L n)) /\ RBx w' R (.pointer (some ⟨B,0,none⟩)) tv k s' /\ s'.length <= 1048576) := by
  have fi : ∀ n : Nd,(n.op = 3 ∨ n.op = 4 ∨ 31 <= n.op) -> nodeV n = nodeV (fin L n) := fun n hn => by unfold fin; rw [if_pos hn]
  by_cases q : op = 3 ∨ op = 4 ∨ op = 31 ∨ op = 32 ∨ op = 33
  · rcases q with rfl | rfl | rfl | rfl | rfl
    · refine (node_3 (ts := ts) h hE hR hs).mono ?_
      rintro e w' ⟨ho,hh | ⟨n,s',g1,g2,g3⟩⟩
      · exact ⟨ho,Or.inl hh⟩
      exact ⟨ho,Or.inr ⟨n,s',g1,g2.trans (by rw [fi n (Or.inl (fgS_op g1))]),g3⟩⟩
    · refine (node_4 (ts := ts) h hE hR hs).mono ?_
      rintro e w' ⟨ho,hh | ⟨n,s',g1,g2,g3⟩⟩
      · exact ⟨ho,Or.inl hh⟩
      exact ⟨ho,Or.inr ⟨n,s',g1,g2.trans (by rw [fi n (Or.inr (Or.inl (fgS_op g1)))]),g3⟩⟩
    · refine (node_31 h hT htl hE hR hs).mono ?_
      rintro e w' ⟨ho,hh | ⟨n,s',g1,g2,g3⟩⟩
      · exact ⟨ho,Or.inl hh⟩
      exact ⟨ho,Or.inr ⟨n,s',g1,g2.trans (by rw [fi n (Or.inr (Or.inr (by rw [fgS_op g1]; decide)))]),g3⟩⟩
    · refine (node_32 h hT htl hE hR hs).mono ?_
      rintro e w' ⟨ho,hh | ⟨n,s',g1,g2,g3⟩⟩
      · exact ⟨ho,Or.inl hh⟩
      exact ⟨ho,Or.inr ⟨n,s',g1,g2.trans (by rw [fi n (Or.inr (Or.inr (by rw [fgS_op g1]; decide)))]),g3⟩⟩
    refine (node_33 h hT htl hE hR hs).mono ?_; rintro e w' ⟨ho,hh | ⟨n,s',g1,g2,g3⟩⟩
    · exact ⟨ho,Or.inl hh⟩
    exact ⟨ho,Or.inr ⟨n,s',g1,g2.trans (by rw [fi n (Or.inr (Or.inr (by rw [fgS_op g1]; decide)))]),g3⟩⟩
  have hfl : flB (op : Int) = List.replicate (pt (op : Int)).toNat 112 := by
    unfold flB
    by_cases h3 : (op : Int) <= 2
    · rw [if_pos h3]
      have : pt (op : Int) = 0 := by unfold pt; rw [if_pos (by omega)]
      rw [this]
      rfl
    rw [if_neg h3,if_neg (by omega),if_neg (by omega),if_neg (by omega),if_neg (by omega)]
  rw [hfl]; refine (node_d op (by omega) h hT htl hE hR hs HM).mono ?_; rintro e w' ⟨ho,hh | ⟨n,s',g1,g2,g3⟩⟩
  · exact ⟨ho,Or.inl hh⟩
  have hop : n.op = (op : Int) := fgS_op g1; refine ⟨ho,Or.inr ⟨n,s',g1,g2.trans ?_,g3⟩⟩; unfold fin; rw [if_neg (by omega),hop]
structure OT2 (X Y : Nat) (w w' : World) : Prop where
  os : w'.os = w.os
  tape : w'.tape = w.tape
  output : w'.output = w.output
  size : w.heap.size <= w'.heap.size
  block : ∀ j,j < w.heap.size -> j ≠ X -> j ≠ Y -> w'.heap[j]? = w.heap[j]?
theorem next_any {w : World} {R T : Nat} {p tv : Value} {k : Int} {s l : List UInt8} (h : RBx w R p tv k s) (hT : w.heap[T]? = some (.cells #[.string ⟨l.toArray⟩] 9 (0,0))) (hRT : R ≠ T) (hk : 0 <= k /\ k <= 2000000) (hE : ENV w) (hl : l.length <= 1048576) :
    Calls Tryz.prog 82 #[.pointer (some ⟨R,0,none⟩),.pointer (some ⟨T,0,none⟩)] w fun e w' => e = .returned (.tuple #[]) /\ OT2 R T w w' /\ RBx w' R p tv (k + 1) (Lib.cut l [10]).1 /\ w'.heap[T]? = some (.cells #[.string ⟨(Lib.cut l [10]).2.1.toArray⟩] 9 (0,0)) := by
  obtain ⟨mx,hmx⟩ := hE.max; have HC : Hid (Calls Tryz.prog 110 #[.string ⟨l.toArray⟩,.string ⟨#[10]⟩] w fun e w' => e = .returned (.tuple #[.string ⟨(Lib.cut l [10]).1.toArray⟩,.string ⟨(Lib.cut l [10]).2.1.toArray⟩,.bool (Lib.cut l [10]).2.2]) /\ ∃ n,w' = w.drewN n) := Any.strings_Cut Tryz.cutL ⟨l.toArray⟩ ⟨#[10]⟩ mx w (by rw [size_ba]; omega) hmx
  generalize (Lib.cut l [10]).1 = cu at *
  generalize (Lib.cut l [10]).2.1 = cr at *
  generalize (Lib.cut l [10]).2.2 = cb at *
  have t0 : w.cell? ⟨T,0,none⟩ = some (.string ⟨l.toArray⟩) := cell_of hT 0; have tf := fz_of hT 0; have c3 : w.cell? ⟨R,3,none⟩ = some (.string ⟨s.toArray⟩) := cell_of h 3; have f3 := fz_of h 3; have c2 : w.cell? ⟨R,2,none⟩ = some (.int .i64 k) := cell_of h 2; have f2 := fz_of h 2; have hRT1 : ¬ R = T := hRT; have hRT2 : ¬ T = R := fun e => hRT e.symm
  have qk : IntKind.i64.wrap (k + 1) = k + 1 := by rw [IntKind.wrap_i64]; omega
  have H1 : Hid (∀ n,OT2 R T w ((((w.drewN n).setCell ⟨R,3,none⟩ (.string ⟨cu.toArray⟩)).setCell ⟨T,0,none⟩ (.string ⟨cr.toArray⟩)).setCell ⟨R,2,none⟩ (.int .i64 (k + 1))) /\ RBx ((((w.drewN n).setCell ⟨R,3,none⟩ (.string ⟨cu.toArray⟩)).setCell ⟨T,0,none⟩ (.string ⟨cr.toArray⟩)).setCell ⟨R,2,none⟩ (.int .i64 (k + 1))) R p tv (k + 1) cu /\ ((((w.drewN n).setCell ⟨R,3,none⟩ (.string ⟨cu.toArray⟩)).setCell ⟨T,0,none⟩ (.string ⟨cr.toArray⟩)).setCell ⟨R,2,none⟩ (.int .i64 (k + 1))).heap[T]? = some (.cells #[.string ⟨cr.toArray⟩] 9 (0,0))) := fun n => by
    obtain ⟨A,hA⟩ : ∃ A,(w.drewN n).setCell ⟨R,3,none⟩ (.string ⟨cu.toArray⟩) = A := ⟨_,rfl⟩; have a1 : A.heap[R]? = some (.cells #[p,tv,.int .i64 k,.string ⟨cu.toArray⟩] 121 (0,0)) := by
      rw [<- hA,heap_setCell_same _ _ 3 _ _ _ (show (w.drewN n).heap[R]? = _ from h)]
      simp
    have a2 : ∀ j,j ≠ R -> A.heap[j]? = w.heap[j]? := fun j hj => by rw [<- hA]; exact heap_setCell_other _ _ _ _ hj
    have a3 : A.os = w.os /\ A.tape = w.tape /\ A.output = w.output /\ A.heap.size = w.heap.size := by rw [<- hA]; exact ⟨rfl,rfl,rfl,by simp⟩
    rw [hA]; obtain ⟨Bx,hBx⟩ : ∃ Bx,A.setCell ⟨T,0,none⟩ (.string ⟨cr.toArray⟩) = Bx := ⟨_,rfl⟩; have b1 : Bx.heap[T]? = some (.cells #[.string ⟨cr.toArray⟩] 9 (0,0)) := by
      rw [<- hBx,heap_setCell_same _ _ 0 _ _ _ ((a2 T hRT2).trans hT)]
      simp
    have b2 : ∀ j,j ≠ T -> Bx.heap[j]? = A.heap[j]? := fun j hj => by rw [<- hBx]; exact heap_setCell_other _ _ _ _ hj
    have b3 : Bx.os = A.os /\ Bx.tape = A.tape /\ Bx.output = A.output /\ Bx.heap.size = A.heap.size := by rw [<- hBx]; exact ⟨rfl,rfl,rfl,by simp⟩
    rw [hBx]; obtain ⟨C,hC⟩ : ∃ C,Bx.setCell ⟨R,2,none⟩ (.int .i64 (k + 1)) = C := ⟨_,rfl⟩; have c1 : C.heap[R]? = some (.cells #[p,tv,.int .i64 (k + 1),.string ⟨cu.toArray⟩] 121 (0,0)) := by
      rw [<- hC,heap_setCell_same _ _ 2 _ _ _ ((b2 R hRT1).trans a1)]
      simp
    have c2 : ∀ j,j ≠ R -> C.heap[j]? = Bx.heap[j]? := fun j hj => by rw [<- hC]; exact heap_setCell_other _ _ _ _ hj
    have c3 : C.os = Bx.os /\ C.tape = Bx.tape /\ C.output = Bx.output /\ C.heap.size = Bx.heap.size := by rw [<- hC]; exact ⟨rfl,rfl,rfl,by simp⟩
    rw [hC]; refine ⟨⟨c3.1.trans (b3.1.trans a3.1),c3.2.1.trans (b3.2.1.trans a3.2.1),c3.2.2.1.trans (b3.2.2.1.trans a3.2.2.1),by rw [c3.2.2.2,b3.2.2.2,a3.2.2.2]; exact Nat.le_refl _,fun j _ h1 h2 => (c2 j h1).trans ((b2 j h2).trans (a2 j h1))⟩,c1,(c2 T hRT2).trans b1⟩
  clear h hT hRT hE hmx hk
  go_enter Tryz.func82,Tryz.ntmps82
  go_wp2_with fail
  refine HC.out.mono ?_; rintro e w2 ⟨rfl,n,rfl⟩
  go_wp2_with fail
  go_end0
  exact ⟨rfl,H1.out n⟩
end Go.Proofs.YtkpapgfbnledpaaGreatDoor
