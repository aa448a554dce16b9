import Derived.Test.YtkpapgfbnledpaaGreatDoorTlF
import Derived.Test.YtkpapgfbnledpaaGreatDoorTmW
set_option maxHeartbeats 8000000
set_option maxRecDepth 100000
namespace Go.Proofs.YtkpapgfbnledpaaGreatDoor
open Go.ChangeShapes Go.WideShapes Go.ChangeAt Go.RowKit Go.Lib Go.Tm Go.Bw Go.Bn Go.Bd

def fgS (ts : List Int) : List UInt8 -> List (List UInt8) -> Nd -> Nat -> Option (Nd × List (List UInt8))
  | [],us,n,_ => some (n,us)
  | _ :: _,[],_,_ => none
  | f :: fs,u :: us,n,k => match fst1 ts f u n k with
    | none => none
    | some m => fgS ts fs us m (if f = 112 then k + 1 else k)
theorem fgS_cons (ts : List Int) (f : UInt8) (fs : List UInt8) (u : List UInt8) (us : List (List UInt8)) (n : Nd) (k : Nat) : fgS ts (f :: fs) (u :: us) n k = (match fst1 ts f u n k with
    | none => none
    | some m => fgS ts fs us m (if f = 112 then k + 1 else k)) := rfl
theorem fgo_fgS (ts : List Int) : ∀ (fs : List UInt8) (us : List (List UInt8)) (n : Nd) (k : Nat),fgo ts fs us n k = (match fgS ts fs us n k with
    | some (m,[]) => some m
    | _ => none)
  | [],[],_,_ => rfl
  | [],_ :: _,_,_ => rfl
  | _ :: _,[],_,_ => rfl
  | f :: fs,u :: us,n,k => by
    rw [fgo,fgS_cons]; cases fst1 ts f u n k with
    | none => rfl
    | some m => exact fgo_fgS ts fs us m _
abbrev ndV (n : Nd) : Array Value := #[.int .i64 n.op,.int .i64 n.w,.int .i64 n.a,.int .i64 n.b,.int .i64 n.c,.int .u64 n.num,.string n.name]
structure NST (w W : World) (R : Nat) (p tv : Value) (k : Int) (s : List UInt8) (n : Nd) : Prop where
  oth : OTH R w W
  box : RBx W R p tv k s
  sl : s.length <= 1048576
  b0 : W.heap[w.heap.size]? = some (.cells (ndV z0) 40 (0,0))
  b1 : W.heap[w.heap.size + 1]? = some (.cells (ndV n) 40 (0,0))
  lt : R < w.heap.size
theorem NST.step {w W W' : World} {R : Nat} {p tv : Value} {k : Int} {s s' : List UInt8} {n : Nd} (h : NST w W R p tv k s n) (ho : OTH R W W') (hb : RBx W' R p tv k s') (hl : s'.length <= 1048576) : NST w W' R p tv k s' n := by
  have hlt := h.lt; have h1 := (Array.getElem?_eq_some_iff.1 h.b1).1; exact ⟨h.oth.trans ho,hb,hl,(ho.block _ (by omega) (by omega)).trans h.b0,(ho.block _ (by omega) (by omega)).trans h.b1,hlt⟩
theorem NST.set {w W : World} {R : Nat} {p tv : Value} {k : Int} {s : List UInt8} {n n' : Nd} (h : NST w W R p tv k s n) (i : Nat) (v : Value) (he : (ndV n).set! i v = ndV n') : NST w (W.setCell ⟨w.heap.size + 1,i,none⟩ v) R p tv k s n' := by
  have hlt := h.lt; have h1 := (Array.getElem?_eq_some_iff.1 h.b1).1; have oth : ∀ j,j ≠ w.heap.size + 1 -> (W.setCell ⟨w.heap.size + 1,i,none⟩ v).heap[j]? = W.heap[j]? := fun j hj => heap_setCell_other _ _ _ _ hj
  refine ⟨⟨h.oth.os,h.oth.tape,h.oth.output,by rw [World.size_setCell]; exact h.oth.size,fun j hj hn => (oth j (by omega)).trans (h.oth.block j hj hn)⟩,?_,h.sl,?_,?_,hlt⟩
  · exact (oth _ (by omega)).trans h.box
  · exact (oth _ (by omega)).trans h.b0
  rw [heap_setCell_same _ _ i _ _ _ h.b1,<- he]
  rfl
theorem NST.start {w : World} {R : Nat} {p tv : Value} {k : Int} {s : List UInt8} (h : RBx w R p tv k s) (hs : s.length <= 1048576) (n : Nd) : NST w ((w.alloc (.cells (ndV z0) 40)).alloc (.cells (ndV n) 40)) R p tv k s n := by
  have b1 := bel1 w (.cells (ndV z0) 40); have k1 := heap_alloc_new w (.cells (ndV z0) 40); obtain ⟨A,hA⟩ : ∃ A,w.alloc (.cells (ndV z0) 40) = A := ⟨_,rfl⟩; have s1 : A.heap.size = w.heap.size + 1 := by rw [<- hA]; simp
  rw [hA] at b1 k1 ⊢; have b2 := bel1 A (.cells (ndV n) 40); have k2 := heap_alloc_new A (.cells (ndV n) 40); rw [s1] at k2; have hb : Below w.heap.size w (A.alloc (.cells (ndV n) 40)) := b1.trans (b2.mono b1.size); exact ⟨OTH.of hb,h.over hb,hs,(b2.block _ (by omega)).trans k1,k2,h.lt⟩
theorem fgS_num_none (ts : List Int) (f : UInt8) (fs : List UInt8) {ws : List (List UInt8)} (n : Nd) (k : Nat) (h1 : f ≠ 112) (h2 : f = 110 -> n.op ≠ 3) (h3 : f = 110 ∨ f = 119) (h : numbO ws = none) : fgS ts (f :: fs) ws n k = none := by
  cases ws with
  | nil => rfl
  | cons u us =>
    rw [numbO_cons] at h; have hs : smN u = none := by
      cases e : smN u with
      | none => rfl
      | some v => rw [e] at h; cases h
    rw [fgS_cons]; have : fst1 ts f u n k = none := by
      unfold fst1; rw [if_neg h1]
      rcases h3 with e | e
      · rw [if_pos e,if_neg (h2 e),hs]; rfl
      rw [if_neg (by rw [e]; decide),if_pos e,hs]; rfl
    rw [this]
theorem fgS_part_none (ts : List Int) (fs : List UInt8) {ws : List (List UInt8)} (n : Nd) (k : Nat) (h : partO ts ws = none) : fgS ts (112 :: fs) ws n k = none := by
  cases ws with
  | nil => rfl
  | cons u us =>
    rw [partO_cons] at h; have hs : ptO ts u = none := by
      cases e : ptO ts u with
      | none => rfl
      | some v => rw [e] at h; cases h
    rw [fgS_cons]; have : fst1 ts 112 u n k = none := by
      unfold fst1; rw [if_pos rfl,hs]; rfl
    rw [this]
theorem fgS_w (ts : List Int) (fs : List UInt8) {u : List UInt8} {v : Nat} (us : List (List UInt8)) (op w a b c num : Int) (nm : ByteArray) (k : Nat) (h : smN u = some v) : fgS ts (119 :: fs) (u :: us) ⟨op,w,a,b,c,num,nm⟩ k = fgS ts fs us ⟨op,(v : Int),a,b,c,num,nm⟩ k := by
  rw [fgS_cons]; unfold fst1; rw [if_neg (by decide),if_neg (by decide),if_pos rfl,h]
  rfl
theorem fgS_n3 (ts : List Int) (fs : List UInt8) {u : List UInt8} {v : Nat} (us : List (List UInt8)) (w a b c num : Int) (nm : ByteArray) (k : Nat) (h : numO u = some v) : fgS ts (110 :: fs) (u :: us) ⟨3,w,a,b,c,num,nm⟩ k = fgS ts fs us ⟨3,w,a,b,c,(v : Int),nm⟩ k := by
  rw [fgS_cons]; unfold fst1; rw [if_neg (by decide),if_pos rfl]
  dsimp only
  rw [if_pos rfl,h]
  rfl
theorem fgS_n3_none (ts : List Int) (fs : List UInt8) {u : List UInt8} (us : List (List UInt8)) (w a b c num : Int) (nm : ByteArray) (k : Nat) (h : numO u = none) : fgS ts (110 :: fs) (u :: us) ⟨3,w,a,b,c,num,nm⟩ k = none := by
  rw [fgS_cons]; unfold fst1; rw [if_neg (by decide),if_pos rfl]
  dsimp only
  rw [if_pos rfl,h]
  rfl
theorem fgS_n (ts : List Int) (fs : List UInt8) {u : List UInt8} {v : Nat} (us : List (List UInt8)) (op w a b c num : Int) (nm : ByteArray) (k : Nat) (ho : op ≠ 3) (h : smN u = some v) : fgS ts (110 :: fs) (u :: us) ⟨op,w,a,b,c,num,nm⟩ k = fgS ts fs us ⟨op,w,a,b,c,(v : Int),nm⟩ k := by
  rw [fgS_cons]; unfold fst1; rw [if_neg (by decide),if_pos rfl]
  dsimp only
  rw [if_neg ho,h]
  rfl
theorem fgS_s (ts : List Int) (fs : List UInt8) (u : List UInt8) (us : List (List UInt8)) (op w a b c num : Int) (nm : ByteArray) (k : Nat) : fgS ts (115 :: fs) (u :: us) ⟨op,w,a,b,c,num,nm⟩ k = fgS ts fs us ⟨op,w,a,b,c,num,⟨u.toArray⟩⟩ k := by
  rw [fgS_cons]; unfold fst1; rw [if_neg (by decide),if_neg (by decide),if_neg (by decide)]
  rfl
theorem fgS_p (ts : List Int) (fs : List UInt8) {u : List UInt8} {t : Int} (us : List (List UInt8)) (n : Nd) (k : Nat) (h : ptO ts u = some t) : fgS ts (112 :: fs) (u :: us) n k = fgS ts fs us (setP n k t) (k + 1) := by
  rw [fgS_cons]; unfold fst1; rw [if_pos rfl,h]
  rfl
theorem put7 {W : World} {g : Nat} {t : TypeId} {a0 a1 a2 a3 a4 a5 a6 : Value} (h : W.heap[g]? = some (.cells #[a0,a1,a2,a3,a4,a5,a6] t (0,0))) (v0 v1 v2 v3 v4 v5 v6 : Value) : ∃ W',((((((W.setCell ⟨g,0,none⟩ v0).setCell ⟨g,1,none⟩ v1).setCell ⟨g,2,none⟩ v2).setCell ⟨g,3,none⟩ v3).setCell ⟨g,4,none⟩ v4).setCell ⟨g,5,none⟩ v5).setCell ⟨g,6,none⟩ v6 = W' /\ W'.heap[g]? = some (.cells #[v0,v1,v2,v3,v4,v5,v6] t (0,0)) /\ OTH g W W' := by
  obtain ⟨W0,h0⟩ : ∃ X,W.setCell ⟨g,0,none⟩ v0 = X := ⟨_,rfl⟩; obtain ⟨W1,h1⟩ : ∃ X,W0.setCell ⟨g,1,none⟩ v1 = X := ⟨_,rfl⟩; obtain ⟨W2,h2⟩ : ∃ X,W1.setCell ⟨g,2,none⟩ v2 = X := ⟨_,rfl⟩; obtain ⟨W3,h3⟩ : ∃ X,W2.setCell ⟨g,3,none⟩ v3 = X := ⟨_,rfl⟩; obtain ⟨W4,h4⟩ : ∃ X,W3.setCell ⟨g,4,none⟩ v4 = X := ⟨_,rfl⟩; obtain ⟨W5,h5⟩ : ∃ X,W4.setCell ⟨g,5,none⟩ v5 = X := ⟨_,rfl⟩; obtain ⟨W6,h6⟩ : ∃ X,W5.setCell ⟨g,6,none⟩ v6 = X := ⟨_,rfl⟩; rw [h0,h1,h2,h3,h4,h5,h6]; have one : ∀ {w X : World} {i : Nat} {v : Value} {cs : Array Value},w.setCell ⟨g,i,none⟩ v = X -> w.heap[g]? = some (.cells cs t (0,0)) -> X.heap[g]? = some (.cells (cs.set! i v) t (0,0)) := fun e h => by rw [<- e,heap_setCell_same _ g _ _ _ _ h]; simp
  have oth : ∀ {w X : World} {i : Nat} {v : Value},w.setCell ⟨g,i,none⟩ v = X -> OTH g w X := fun e => by rw [<- e]; exact OTH.set _ _ _ _
  have e6 := one h6 (one h5 (one h4 (one h3 (one h2 (one h1 (one h0 h)))))); exact ⟨W6,rfl,by rw [e6]; rfl,(oth h0).trans ((oth h1).trans ((oth h2).trans ((oth h3).trans ((oth h4).trans ((oth h5).trans (oth h6))))))⟩
theorem NST.fin {w W W' : World} {R : Nat} {p tv : Value} {k : Int} {s : List UInt8} {n : Nd} (h : NST w W R p tv k s n) (ho : OTH w.heap.size W W') : OTH R w W' /\ RBx W' R p tv k s := by
  have hlt := h.lt; have h1 := (Array.getElem?_eq_some_iff.1 h.b1).1; refine ⟨⟨ho.os.trans h.oth.os,ho.tape.trans h.oth.tape,ho.output.trans h.oth.output,Nat.le_trans h.oth.size ho.size,fun j hj hn => (ho.block j (by have := h.oth.size; omega) (by omega)).trans (h.oth.block j hj hn)⟩,(ho.block _ (by omega) (by omega)).trans h.box⟩
theorem node_3 {w : World} {R : Nat} {p tv : Value} {k : Int} {s : List UInt8} {ts : List Int} (h : RBx w R p tv k s) (hE : ENV w) (hR : 10 <= R) (hs : s.length <= 1048576) :
    Calls Tryz.prog 113 #[.pointer (some ⟨R,0,none⟩),.int .i64 3] w fun e w' => OTH R w w' /\ ((fgS ts [119,110] (wds s) (nd1 3) 0 = none /\ e = gv k 3) ∨ ∃ n s',fgS ts [119,110] (wds s) (nd1 3) 0 = some (n,wds s') /\ e = .returned (nodeV n) /\ RBx w' R p tv k s' /\ s'.length <= 1048576) := by
  have H0 := NST.start h hs (nd1 3); obtain ⟨W1,hW1⟩ : ∃ W1,(w.alloc (.cells (ndV z0) 40)).alloc (.cells (ndV (nd1 3)) 40) = W1 := ⟨_,rfl⟩; rw [hW1] at H0; have HS : Hid (NST w W1 R p tv k s ⟨3,0,0,0,0,0,ByteArray.empty⟩) := H0; have HW1 : Hid ((w.alloc (.cells #[.int .i64 0,.int .i64 0,.int .i64 0,.int .i64 0,.int .i64 0,.int .u64 0,.string ⟨#[]⟩] 40)).alloc (.cells #[.int .i64 3,.int .i64 0,.int .i64 0,.int .i64 0,.int .i64 0,.int .u64 0,.string ⟨#[]⟩] 40) = W1) := hW1; have HE : Hid (∀ W,OTH R w W -> ENV W) := fun W ho => hE.oth ho hR
  have HR : Hid (10 <= R) := hR; obtain ⟨Fo,hFo⟩ : ∃ Fo,fgS ts [119,110] (wds s) (nd1 3) 0 = Fo := ⟨_,rfl⟩; have HF0 : Hid (fgS ts [119,110] (wds s) ⟨3,0,0,0,0,0,ByteArray.empty⟩ 0 = Fo) := hFo; rw [hFo]; clear h H0 hW1 hE hR hs hFo
  go_enter Tryz.func113,Tryz.ntmps113
  go_upto_region 11 with fail
  rw [HW1.out]
  go_wp2_with fail
  refine (number7_any HS.out.box (HE.out _ HS.out.oth) HR.out HS.out.sl).mono ?_; rintro e w2 ⟨ho,⟨h1,rfl⟩ | ⟨v0,s1,h1,rfl,hb,hl,hv0,u1,hu,hsm⟩⟩
  · have HZ : Hid (OTH R w w2 /\ Fo = none) := ⟨HS.out.oth.trans ho,by rw [<- HF0.out]; exact fgS_num_none ts 119 _ _ _ (by decide) (fun e => by first | (cases e; done) | (show ((3 : Int) ≠ 3); decide)) (by decide) h1⟩
    clear h1 ho; unfold gv
    go_wp2_with fail
    exact ⟨by first | trivial | rfl,HZ.out.1,Or.inl ⟨HZ.out.2,rfl⟩⟩
  have HF1 : Hid (fgS ts [110] (wds s1) (⟨3,(v0 : Int),0,0,0,0,ByteArray.empty⟩ : Nd) 0 = Fo) := (fgS_w ts _ _ _ _ _ _ _ _ _ _ hsm : fgS ts (119 :: [110]) (u1 :: wds s1) (⟨3,0,0,0,0,0,ByteArray.empty⟩ : Nd) 0 = _).symm.trans (by rw [<- hu]; exact HF0.out); have HX0 : Hid (NST w w2 R p tv k s1 (⟨3,0,0,0,0,0,ByteArray.empty⟩ : Nd)) := HS.out.step ho hb hl; obtain ⟨vv,cc⟩ : ∃ vv,w2.cell? ⟨w.heap.size + 1,1,none⟩ = some vv := ⟨_,cell_of HX0.out.b1 1⟩; have fc := fz_of HX0.out.b1 1; obtain ⟨y0,hy⟩ : ∃ y : Int,(v0 : Int) = y := ⟨_,rfl⟩; rw [hy] at HF1; rw [hy]; clear hy hv0; have HY0 : Hid (NST w (w2.setCell ⟨w.heap.size + 1,1,none⟩ (.int .i64 y0)) R p tv k s1 (⟨3,y0,0,0,0,0,ByteArray.empty⟩ : Nd)) := HX0.out.set 1 _ rfl; clear h1 ho hb hl hu; clear hsm
  go_upto_region 12 with fail
  obtain ⟨W2,hW⟩ : ∃ W,w2.setCell ⟨w.heap.size + 1,1,none⟩ (.int .i64 y0) = W := ⟨_,rfl⟩; rw [hW] at HY0; rw [hW]; clear hW cc fc HX0
  go_wp2_with fail
  refine (word_any HY0.out.box (HE.out _ HY0.out.oth) HR.out HY0.out.sl).mono ?_; rintro e w3 ⟨ho,⟨h1,rfl⟩ | ⟨x1,s2,h1,rfl,hb,hl⟩⟩
  · have HZ : Hid (OTH R w w3 /\ Fo = none) := ⟨HY0.out.oth.trans ho,by rw [<- HF1.out]; rw [wordO_none h1]; rfl⟩
    clear h1 ho; unfold gv
    go_wp2_with fail
    exact ⟨by first | trivial | rfl,HZ.out.1,Or.inl ⟨HZ.out.2,rfl⟩⟩
  obtain ⟨u2,hu,rfl⟩ := wordO_some h1; have HS2 : Hid (NST w w3 R p tv k s2 (⟨3,y0,0,0,0,0,ByteArray.empty⟩ : Nd)) := HY0.out.step ho hb hl; have HU : Hid (wds s1 = u2 :: wds s2) := hu; have HUL : Hid (u2.length <= 1048576) := by have h5 := wds_len (l := s1) (u := u2) (by rw [hu]; exact List.mem_cons_self ..); have := HY0.out.sl; show _ <= _; omega
  clear h1 ho hb hl hu
  go_wp2_with fail
  refine (wide_any u2 HS2.out.box (HE.out _ HS2.out.oth) HUL.out).mono ?_; rintro e wx ⟨hbx,⟨h1,rfl⟩ | ⟨v1,hsm,rfl⟩⟩
  · have HZ : Hid (OTH R w wx /\ Fo = none) := ⟨HS2.out.oth.trans (OTH.of hbx),by rw [<- HF1.out,HU.out]; exact fgS_n3_none ts _ _ _ _ _ _ _ _ _ h1⟩
    clear h1 hbx; unfold gv
    go_wp2_with fail
    exact ⟨by first | trivial | rfl,HZ.out.1,Or.inl ⟨HZ.out.2,rfl⟩⟩
  have HF2 : Hid (fgS ts [] (wds s2) (⟨3,y0,0,0,0,(v1 : Int),ByteArray.empty⟩ : Nd) 0 = Fo) := (fgS_n3 ts _ _ _ _ _ _ _ _ _ hsm : fgS ts (110 :: []) (u2 :: wds s2) (⟨3,y0,0,0,0,0,ByteArray.empty⟩ : Nd) 0 = _).symm.trans (by rw [<- HU.out]; exact HF1.out); have HX1 : Hid (NST w wx R p tv k s2 (⟨3,y0,0,0,0,0,ByteArray.empty⟩ : Nd)) := HS2.out.step (OTH.of hbx) (HS2.out.box.over hbx) HS2.out.sl; obtain ⟨vv,cc⟩ : ∃ vv,wx.cell? ⟨w.heap.size + 1,5,none⟩ = some vv := ⟨_,cell_of HX1.out.b1 5⟩; have fc := fz_of HX1.out.b1 5; obtain ⟨y1,hy⟩ : ∃ y : Int,(v1 : Int) = y := ⟨_,rfl⟩; rw [hy] at HF2; rw [hy]; clear hy; have HY1 : Hid (NST w (wx.setCell ⟨w.heap.size + 1,5,none⟩ (.int .u64 y1)) R p tv k s2 (⟨3,y0,0,0,0,y1,ByteArray.empty⟩ : Nd)) := HX1.out.set 5 _ rfl; clear hbx hsm
  go_upto_region 24 with fail
  obtain ⟨W3,hW⟩ : ∃ W,wx.setCell ⟨w.heap.size + 1,5,none⟩ (.int .u64 y1) = W := ⟨_,rfl⟩; rw [hW] at HY1; rw [hW]; clear hW cc fc HX1; have hres : Hid (Fo = some ((⟨3,y0,0,0,0,y1,ByteArray.empty⟩ : Nd),wds s2)) := by show _ = _; rw [<- HF2.out]; rfl
  have e0 : W3.cell? ⟨w.heap.size,0,none⟩ = some (.int .i64 0) := cell_of HY1.out.b0 0; have k0 := fz_of HY1.out.b0 0; have g0 : W3.cell? ⟨w.heap.size + 1,0,none⟩ = some (.int .i64 3) := cell_of HY1.out.b1 0; have e1 : W3.cell? ⟨w.heap.size,1,none⟩ = some (.int .i64 0) := cell_of HY1.out.b0 1; have k1 := fz_of HY1.out.b0 1; have g1 : W3.cell? ⟨w.heap.size + 1,1,none⟩ = some (.int .i64 y0) := cell_of HY1.out.b1 1; have e2 : W3.cell? ⟨w.heap.size,2,none⟩ = some (.int .i64 0) := cell_of HY1.out.b0 2; have k2 := fz_of HY1.out.b0 2; have g2 : W3.cell? ⟨w.heap.size + 1,2,none⟩ = some (.int .i64 0) := cell_of HY1.out.b1 2; have e3 : W3.cell? ⟨w.heap.size,3,none⟩ = some (.int .i64 0) := cell_of HY1.out.b0 3; have k3 := fz_of HY1.out.b0 3; have g3 : W3.cell? ⟨w.heap.size + 1,3,none⟩ = some (.int .i64 0) := cell_of HY1.out.b1 3; have e4 : W3.cell? ⟨w.heap.size,4,none⟩ = some (.int .i64 0) := cell_of HY1.out.b0 4; have k4 := fz_of HY1.out.b0 4; have g4 : W3.cell? ⟨w.heap.size + 1,4,none⟩ = some (.int .i64 0) := cell_of HY1.out.b1 4; have e5 : W3.cell? ⟨w.heap.size,5,none⟩ = some (.int .u64 0) := cell_of HY1.out.b0 5; have k5 := fz_of HY1.out.b0 5; have g5 : W3.cell? ⟨w.heap.size + 1,5,none⟩ = some (.int .u64 y1) := cell_of HY1.out.b1 5; have e6 : W3.cell? ⟨w.heap.size,6,none⟩ = some (.string ⟨#[]⟩) := cell_of HY1.out.b0 6; have k6 := fz_of HY1.out.b0 6; have g6 : W3.cell? ⟨w.heap.size + 1,6,none⟩ = some (.string ⟨#[]⟩) := cell_of HY1.out.b1 6; obtain ⟨WE,hWE,hbE,hoE⟩ := put7 HY1.out.b0 (.int .i64 3) (.int .i64 y0) (.int .i64 0) (.int .i64 0) (.int .i64 0) (.int .u64 y1) (.string ⟨#[]⟩); have HE2 : Hid ((((((((W3.setCell ⟨w.heap.size,0,none⟩ (.int .i64 3)).setCell ⟨w.heap.size,1,none⟩ (.int .i64 y0)).setCell ⟨w.heap.size,2,none⟩ (.int .i64 0)).setCell ⟨w.heap.size,3,none⟩ (.int .i64 0)).setCell ⟨w.heap.size,4,none⟩ (.int .i64 0)).setCell ⟨w.heap.size,5,none⟩ (.int .u64 y1)).setCell ⟨w.heap.size,6,none⟩ (.string ⟨#[]⟩)) = WE /\ WE.heap[w.heap.size]? = some (.cells #[.int .i64 3,.int .i64 y0,.int .i64 0,.int .i64 0,.int .i64 0,.int .u64 y1,.string ⟨#[]⟩] 40 (0,0)) /\ OTH R w WE /\ RBx WE R p tv k s2 /\ s2.length <= 1048576) := ⟨hWE,hbE,(HY1.out.fin hoE).1,(HY1.out.fin hoE).2,HY1.out.sl⟩; clear hWE hbE hoE
  go_wp2_with fail
  rw [HE2.out.1]; refine bodyPost_ret (v := nodeV (⟨3,y0,0,0,0,y1,ByteArray.empty⟩ : Nd)) (results_cell_row (p := 4) rfl _ _ w.heap.size 40 _ (0,0) _ rfl HE2.out.2.1 Tryz.underlying40 rfl (by kernel_rfl)) rfl ?_; exact ⟨HE2.out.2.2.1,Or.inr ⟨_,_,hres.out,rfl,HE2.out.2.2.2⟩⟩
theorem node_4 {w : World} {R : Nat} {p tv : Value} {k : Int} {s : List UInt8} {ts : List Int} (h : RBx w R p tv k s) (hE : ENV w) (hR : 10 <= R) (hs : s.length <= 1048576) :
    Calls Tryz.prog 113 #[.pointer (some ⟨R,0,none⟩),.int .i64 4] w fun e w' => OTH R w w' /\ ((fgS ts [115,119] (wds s) (nd1 4) 0 = none /\ e = gv k 3) ∨ ∃ n s',fgS ts [115,119] (wds s) (nd1 4) 0 = some (n,wds s') /\ e = .returned (nodeV n) /\ RBx w' R p tv k s' /\ s'.length <= 1048576) := by
  have H0 := NST.start h hs (nd1 4); obtain ⟨W1,hW1⟩ : ∃ W1,(w.alloc (.cells (ndV z0) 40)).alloc (.cells (ndV (nd1 4)) 40) = W1 := ⟨_,rfl⟩; rw [hW1] at H0; have HS : Hid (NST w W1 R p tv k s ⟨4,0,0,0,0,0,ByteArray.empty⟩) := H0; have HW1 : Hid ((w.alloc (.cells #[.int .i64 0,.int .i64 0,.int .i64 0,.int .i64 0,.int .i64 0,.int .u64 0,.string ⟨#[]⟩] 40)).alloc (.cells #[.int .i64 4,.int .i64 0,.int .i64 0,.int .i64 0,.int .i64 0,.int .u64 0,.string ⟨#[]⟩] 40) = W1) := hW1; have HE : Hid (∀ W,OTH R w W -> ENV W) := fun W ho => hE.oth ho hR
  have HR : Hid (10 <= R) := hR; obtain ⟨Fo,hFo⟩ : ∃ Fo,fgS ts [115,119] (wds s) (nd1 4) 0 = Fo := ⟨_,rfl⟩; have HF0 : Hid (fgS ts [115,119] (wds s) ⟨4,0,0,0,0,0,ByteArray.empty⟩ 0 = Fo) := hFo; rw [hFo]; clear h H0 hW1 hE hR hs hFo
  go_enter Tryz.func113,Tryz.ntmps113
  go_upto_region 14 with fail
  rw [HW1.out]
  go_wp2_with fail
  refine (word_any HS.out.box (HE.out _ HS.out.oth) HR.out HS.out.sl).mono ?_; rintro e w2 ⟨ho,⟨h1,rfl⟩ | ⟨x0,s1,h1,rfl,hb,hl⟩⟩
  · have HZ : Hid (OTH R w w2 /\ Fo = none) := ⟨HS.out.oth.trans ho,by rw [<- HF0.out]; rw [wordO_none h1]; rfl⟩
    clear h1 ho; unfold gv
    go_wp2_with fail
    exact ⟨by first | trivial | rfl,HZ.out.1,Or.inl ⟨HZ.out.2,rfl⟩⟩
  obtain ⟨u1,hu,rfl⟩ := wordO_some h1; have HF1 : Hid (fgS ts [119] (wds s1) (⟨4,0,0,0,0,0,⟨u1.toArray⟩⟩ : Nd) 0 = Fo) := (fgS_s ts _ _ _ _ _ _ _ _ _ _ _ : fgS ts (115 :: [119]) (u1 :: wds s1) (⟨4,0,0,0,0,0,ByteArray.empty⟩ : Nd) 0 = _).symm.trans (by rw [<- hu]; exact HF0.out); have HX0 : Hid (NST w w2 R p tv k s1 (⟨4,0,0,0,0,0,ByteArray.empty⟩ : Nd)) := HS.out.step ho hb hl; obtain ⟨vv,cc⟩ : ∃ vv,w2.cell? ⟨w.heap.size + 1,6,none⟩ = some vv := ⟨_,cell_of HX0.out.b1 6⟩; have fc := fz_of HX0.out.b1 6; have HY0 : Hid (NST w (w2.setCell ⟨w.heap.size + 1,6,none⟩ (.string ⟨u1.toArray⟩)) R p tv k s1 (⟨4,0,0,0,0,0,⟨u1.toArray⟩⟩ : Nd)) := HX0.out.set 6 _ rfl; clear h1 ho hb hl hu
  go_upto_region 15 with fail
  obtain ⟨W2,hW⟩ : ∃ W,w2.setCell ⟨w.heap.size + 1,6,none⟩ (.string ⟨u1.toArray⟩) = W := ⟨_,rfl⟩; rw [hW] at HY0; rw [hW]; clear hW cc fc HX0
  go_wp2_with fail
  refine (number7_any HY0.out.box (HE.out _ HY0.out.oth) HR.out HY0.out.sl).mono ?_; rintro e w3 ⟨ho,⟨h1,rfl⟩ | ⟨v1,s2,h1,rfl,hb,hl,hv1,u2,hu,hsm⟩⟩
  · have HZ : Hid (OTH R w w3 /\ Fo = none) := ⟨HY0.out.oth.trans ho,by rw [<- HF1.out]; exact fgS_num_none ts 119 _ _ _ (by decide) (fun e => by first | (cases e; done) | (show ((4 : Int) ≠ 3); decide)) (by decide) h1⟩
    clear h1 ho; unfold gv
    go_wp2_with fail
    exact ⟨by first | trivial | rfl,HZ.out.1,Or.inl ⟨HZ.out.2,rfl⟩⟩
  have HF2 : Hid (fgS ts [] (wds s2) (⟨4,(v1 : Int),0,0,0,0,⟨u1.toArray⟩⟩ : Nd) 0 = Fo) := (fgS_w ts _ _ _ _ _ _ _ _ _ _ hsm : fgS ts (119 :: []) (u2 :: wds s2) (⟨4,0,0,0,0,0,⟨u1.toArray⟩⟩ : Nd) 0 = _).symm.trans (by rw [<- hu]; exact HF1.out); have HX1 : Hid (NST w w3 R p tv k s2 (⟨4,0,0,0,0,0,⟨u1.toArray⟩⟩ : Nd)) := HY0.out.step ho hb hl; obtain ⟨vv,cc⟩ : ∃ vv,w3.cell? ⟨w.heap.size + 1,1,none⟩ = some vv := ⟨_,cell_of HX1.out.b1 1⟩; have fc := fz_of HX1.out.b1 1; obtain ⟨y1,hy⟩ : ∃ y : Int,(v1 : Int) = y := ⟨_,rfl⟩; rw [hy] at HF2; rw [hy]; clear hy hv1; have HY1 : Hid (NST w (w3.setCell ⟨w.heap.size + 1,1,none⟩ (.int .i64 y1)) R p tv k s2 (⟨4,y1,0,0,0,0,⟨u1.toArray⟩⟩ : Nd)) := HX1.out.set 1 _ rfl; clear h1 ho hb hl hu; clear hsm
  go_upto_region 24 with fail
  obtain ⟨W3,hW⟩ : ∃ W,w3.setCell ⟨w.heap.size + 1,1,none⟩ (.int .i64 y1) = W := ⟨_,rfl⟩; rw [hW] at HY1; rw [hW]; clear hW cc fc HX1; have hres : Hid (Fo = some ((⟨4,y1,0,0,0,0,⟨u1.toArray⟩⟩ : Nd),wds s2)) := by show _ = _; rw [<- HF2.out]; rfl
  have e0 : W3.cell? ⟨w.heap.size,0,none⟩ = some (.int .i64 0) := cell_of HY1.out.b0 0; have k0 := fz_of HY1.out.b0 0; have g0 : W3.cell? ⟨w.heap.size + 1,0,none⟩ = some (.int .i64 4) := cell_of HY1.out.b1 0; have e1 : W3.cell? ⟨w.heap.size,1,none⟩ = some (.int .i64 0) := cell_of HY1.out.b0 1; have k1 := fz_of HY1.out.b0 1; have g1 : W3.cell? ⟨w.heap.size + 1,1,none⟩ = some (.int .i64 y1) := cell_of HY1.out.b1 1; have e2 : W3.cell? ⟨w.heap.size,2,none⟩ = some (.int .i64 0) := cell_of HY1.out.b0 2; have k2 := fz_of HY1.out.b0 2; have g2 : W3.cell? ⟨w.heap.size + 1,2,none⟩ = some (.int .i64 0) := cell_of HY1.out.b1 2; have e3 : W3.cell? ⟨w.heap.size,3,none⟩ = some (.int .i64 0) := cell_of HY1.out.b0 3; have k3 := fz_of HY1.out.b0 3; have g3 : W3.cell? ⟨w.heap.size + 1,3,none⟩ = some (.int .i64 0) := cell_of HY1.out.b1 3; have e4 : W3.cell? ⟨w.heap.size,4,none⟩ = some (.int .i64 0) := cell_of HY1.out.b0 4; have k4 := fz_of HY1.out.b0 4; have g4 : W3.cell? ⟨w.heap.size + 1,4,none⟩ = some (.int .i64 0) := cell_of HY1.out.b1 4; have e5 : W3.cell? ⟨w.heap.size,5,none⟩ = some (.int .u64 0) := cell_of HY1.out.b0 5; have k5 := fz_of HY1.out.b0 5; have g5 : W3.cell? ⟨w.heap.size + 1,5,none⟩ = some (.int .u64 0) := cell_of HY1.out.b1 5; have e6 : W3.cell? ⟨w.heap.size,6,none⟩ = some (.string ⟨#[]⟩) := cell_of HY1.out.b0 6; have k6 := fz_of HY1.out.b0 6; have g6 : W3.cell? ⟨w.heap.size + 1,6,none⟩ = some (.string ⟨u1.toArray⟩) := cell_of HY1.out.b1 6; obtain ⟨WE,hWE,hbE,hoE⟩ := put7 HY1.out.b0 (.int .i64 4) (.int .i64 y1) (.int .i64 0) (.int .i64 0) (.int .i64 0) (.int .u64 0) (.string ⟨u1.toArray⟩); have HE2 : Hid ((((((((W3.setCell ⟨w.heap.size,0,none⟩ (.int .i64 4)).setCell ⟨w.heap.size,1,none⟩ (.int .i64 y1)).setCell ⟨w.heap.size,2,none⟩ (.int .i64 0)).setCell ⟨w.heap.size,3,none⟩ (.int .i64 0)).setCell ⟨w.heap.size,4,none⟩ (.int .i64 0)).setCell ⟨w.heap.size,5,none⟩ (.int .u64 0)).setCell ⟨w.heap.size,6,none⟩ (.string ⟨u1.toArray⟩)) = WE /\ WE.heap[w.heap.size]? = some (.cells #[.int .i64 4,.int .i64 y1,.int .i64 0,.int .i64 0,.int .i64 0,.int .u64 0,.string ⟨u1.toArray⟩] 40 (0,0)) /\ OTH R w WE /\ RBx WE R p tv k s2 /\ s2.length <= 1048576) := ⟨hWE,hbE,(HY1.out.fin hoE).1,(HY1.out.fin hoE).2,HY1.out.sl⟩; clear hWE hbE hoE
  go_wp2_with fail
  rw [HE2.out.1]; refine bodyPost_ret (v := nodeV (⟨4,y1,0,0,0,0,⟨u1.toArray⟩⟩ : Nd)) (results_cell_row (p := 4) rfl _ _ w.heap.size 40 _ (0,0) _ rfl HE2.out.2.1 Tryz.underlying40 rfl (by kernel_rfl)) rfl ?_; exact ⟨HE2.out.2.2.1,Or.inr ⟨_,_,hres.out,rfl,HE2.out.2.2.2⟩⟩
theorem node_31 {w : World} {R : Nat} {p tv : Value} {k : Int} {s : List UInt8} {ts : List Int} (h : RBx w R p tv k s) (hT : RW w R ts tv) (htl : ts.length <= 1048576) (hE : ENV w) (hR : 10 <= R) (hs : s.length <= 1048576) :
    Calls Tryz.prog 113 #[.pointer (some ⟨R,0,none⟩),.int .i64 31] w fun e w' => OTH R w w' /\ ((fgS ts [112,110,119] (wds s) (nd1 31) 0 = none /\ e = gv k 3) ∨ ∃ n s',fgS ts [112,110,119] (wds s) (nd1 31) 0 = some (n,wds s') /\ e = .returned (nodeV n) /\ RBx w' R p tv k s' /\ s'.length <= 1048576) := by
  have H0 := NST.start h hs (nd1 31); obtain ⟨W1,hW1⟩ : ∃ W1,(w.alloc (.cells (ndV z0) 40)).alloc (.cells (ndV (nd1 31)) 40) = W1 := ⟨_,rfl⟩; rw [hW1] at H0; have HS : Hid (NST w W1 R p tv k s ⟨31,0,0,0,0,0,ByteArray.empty⟩) := H0; have HW1 : Hid ((w.alloc (.cells #[.int .i64 0,.int .i64 0,.int .i64 0,.int .i64 0,.int .i64 0,.int .u64 0,.string ⟨#[]⟩] 40)).alloc (.cells #[.int .i64 31,.int .i64 0,.int .i64 0,.int .i64 0,.int .i64 0,.int .u64 0,.string ⟨#[]⟩] 40) = W1) := hW1; have HE : Hid (∀ W,OTH R w W -> ENV W /\ RW W R ts tv) := fun W ho => ⟨hE.oth ho hR,hT.oth ho⟩
  have HR : Hid (10 <= R /\ ts.length <= 1048576) := ⟨hR,htl⟩; obtain ⟨Fo,hFo⟩ : ∃ Fo,fgS ts [112,110,119] (wds s) (nd1 31) 0 = Fo := ⟨_,rfl⟩; have HF0 : Hid (fgS ts [112,110,119] (wds s) ⟨31,0,0,0,0,0,ByteArray.empty⟩ 0 = Fo) := hFo; rw [hFo]; clear h H0 hW1 hE hR hs hFo hT htl
  go_enter Tryz.func113,Tryz.ntmps113
  go_upto_region 17 with fail
  rw [HW1.out]
  go_wp2_with fail
  refine (part_any HS.out.box (HE.out _ HS.out.oth).2 HR.out.2 (HE.out _ HS.out.oth).1 HR.out.1 HS.out.sl).mono ?_; rintro e w2 ⟨ho,⟨h1,rfl⟩ | ⟨v0,s1,h1,rfl,hb,hl,u1,hu,hsm⟩⟩
  · have HZ : Hid (OTH R w w2 /\ Fo = none) := ⟨HS.out.oth.trans ho,by rw [<- HF0.out]; exact fgS_part_none ts _ _ _ h1⟩
    clear h1 ho; unfold gv
    go_wp2_with fail
    exact ⟨by first | trivial | rfl,HZ.out.1,Or.inl ⟨HZ.out.2,rfl⟩⟩
  have HF1 : Hid (fgS ts [110,119] (wds s1) (⟨31,0,v0,0,0,0,ByteArray.empty⟩ : Nd) 1 = Fo) := (fgS_p ts _ _ _ _ hsm : fgS ts (112 :: [110,119]) (u1 :: wds s1) (⟨31,0,0,0,0,0,ByteArray.empty⟩ : Nd) 0 = _).symm.trans (by rw [<- hu]; exact HF0.out); have HX0 : Hid (NST w w2 R p tv k s1 (⟨31,0,0,0,0,0,ByteArray.empty⟩ : Nd)) := HS.out.step ho hb hl; obtain ⟨vv,cc⟩ : ∃ vv,w2.cell? ⟨w.heap.size + 1,2,none⟩ = some vv := ⟨_,cell_of HX0.out.b1 2⟩; have fc := fz_of HX0.out.b1 2; have HY0 : Hid (NST w (w2.setCell ⟨w.heap.size + 1,2,none⟩ (.int .i64 v0)) R p tv k s1 (⟨31,0,v0,0,0,0,ByteArray.empty⟩ : Nd)) := HX0.out.set 2 _ rfl; clear h1 ho hb hl hu; clear hsm
  go_upto_region 18 with fail
  obtain ⟨W2,hW⟩ : ∃ W,w2.setCell ⟨w.heap.size + 1,2,none⟩ (.int .i64 v0) = W := ⟨_,rfl⟩; rw [hW] at HY0; rw [hW]; clear hW cc fc HX0
  go_wp2_with fail
  refine (number7_any HY0.out.box (HE.out _ HY0.out.oth).1 HR.out.1 HY0.out.sl).mono ?_; rintro e w3 ⟨ho,⟨h1,rfl⟩ | ⟨v1,s2,h1,rfl,hb,hl,hv1,u2,hu,hsm⟩⟩
  · have HZ : Hid (OTH R w w3 /\ Fo = none) := ⟨HY0.out.oth.trans ho,by rw [<- HF1.out]; exact fgS_num_none ts 110 _ _ _ (by decide) (fun e => by first | (cases e; done) | (show ((31 : Int) ≠ 3); decide)) (by decide) h1⟩
    clear h1 ho; unfold gv
    go_wp2_with fail
    exact ⟨by first | trivial | rfl,HZ.out.1,Or.inl ⟨HZ.out.2,rfl⟩⟩
  have HF2 : Hid (fgS ts [119] (wds s2) (⟨31,0,v0,0,0,(v1 : Int),ByteArray.empty⟩ : Nd) 1 = Fo) := (fgS_n ts _ _ _ _ _ _ _ _ _ _ (by decide) hsm : fgS ts (110 :: [119]) (u2 :: wds s2) (⟨31,0,v0,0,0,0,ByteArray.empty⟩ : Nd) 1 = _).symm.trans (by rw [<- hu]; exact HF1.out); have HX1 : Hid (NST w w3 R p tv k s2 (⟨31,0,v0,0,0,0,ByteArray.empty⟩ : Nd)) := HY0.out.step ho hb hl; obtain ⟨vv,cc⟩ : ∃ vv,w3.cell? ⟨w.heap.size + 1,5,none⟩ = some vv := ⟨_,cell_of HX1.out.b1 5⟩; have fc := fz_of HX1.out.b1 5; obtain ⟨y1,hy⟩ : ∃ y : Int,(v1 : Int) = y := ⟨_,rfl⟩; have qy : IntKind.u64.wrap y1 = y1 := by rw [IntKind.wrap_u64]; omega
  rw [hy] at HF2; rw [hy]; clear hy hv1; have HY1 : Hid (NST w (w3.setCell ⟨w.heap.size + 1,5,none⟩ (.int .u64 y1)) R p tv k s2 (⟨31,0,v0,0,0,y1,ByteArray.empty⟩ : Nd)) := HX1.out.set 5 _ rfl; clear h1 ho hb hl hu; clear hsm
  go_upto_region 19 with fail
  obtain ⟨W3,hW⟩ : ∃ W,w3.setCell ⟨w.heap.size + 1,5,none⟩ (.int .u64 y1) = W := ⟨_,rfl⟩; rw [hW] at HY1; rw [hW]; clear hW cc fc HX1
  go_wp2_with fail
  refine (number7_any HY1.out.box (HE.out _ HY1.out.oth).1 HR.out.1 HY1.out.sl).mono ?_; rintro e w4 ⟨ho,⟨h1,rfl⟩ | ⟨v2,s3,h1,rfl,hb,hl,hv2,u3,hu,hsm⟩⟩
  · have HZ : Hid (OTH R w w4 /\ Fo = none) := ⟨HY1.out.oth.trans ho,by rw [<- HF2.out]; exact fgS_num_none ts 119 _ _ _ (by decide) (fun e => by first | (cases e; done) | (show ((31 : Int) ≠ 3); decide)) (by decide) h1⟩
    clear h1 ho; unfold gv
    go_wp2_with fail
    exact ⟨by first | trivial | rfl,HZ.out.1,Or.inl ⟨HZ.out.2,rfl⟩⟩
  have HF3 : Hid (fgS ts [] (wds s3) (⟨31,(v2 : Int),v0,0,0,y1,ByteArray.empty⟩ : Nd) 1 = Fo) := (fgS_w ts _ _ _ _ _ _ _ _ _ _ hsm : fgS ts (119 :: []) (u3 :: wds s3) (⟨31,0,v0,0,0,y1,ByteArray.empty⟩ : Nd) 1 = _).symm.trans (by rw [<- hu]; exact HF2.out); have HX2 : Hid (NST w w4 R p tv k s3 (⟨31,0,v0,0,0,y1,ByteArray.empty⟩ : Nd)) := HY1.out.step ho hb hl; obtain ⟨vv,cc⟩ : ∃ vv,w4.cell? ⟨w.heap.size + 1,1,none⟩ = some vv := ⟨_,cell_of HX2.out.b1 1⟩; have fc := fz_of HX2.out.b1 1; obtain ⟨y2,hy⟩ : ∃ y : Int,(v2 : Int) = y := ⟨_,rfl⟩; rw [hy] at HF3; rw [hy]; clear hy hv2; have HY2 : Hid (NST w (w4.setCell ⟨w.heap.size + 1,1,none⟩ (.int .i64 y2)) R p tv k s3 (⟨31,y2,v0,0,0,y1,ByteArray.empty⟩ : Nd)) := HX2.out.set 1 _ rfl; clear h1 ho hb hl hu; clear hsm
  go_upto_region 24 with fail
  obtain ⟨W4,hW⟩ : ∃ W,w4.setCell ⟨w.heap.size + 1,1,none⟩ (.int .i64 y2) = W := ⟨_,rfl⟩; rw [hW] at HY2; rw [hW]; clear hW cc fc HX2; have hres : Hid (Fo = some ((⟨31,y2,v0,0,0,y1,ByteArray.empty⟩ : Nd),wds s3)) := by show _ = _; rw [<- HF3.out]; rfl
  have e0 : W4.cell? ⟨w.heap.size,0,none⟩ = some (.int .i64 0) := cell_of HY2.out.b0 0; have k0 := fz_of HY2.out.b0 0; have g0 : W4.cell? ⟨w.heap.size + 1,0,none⟩ = some (.int .i64 31) := cell_of HY2.out.b1 0; have e1 : W4.cell? ⟨w.heap.size,1,none⟩ = some (.int .i64 0) := cell_of HY2.out.b0 1; have k1 := fz_of HY2.out.b0 1; have g1 : W4.cell? ⟨w.heap.size + 1,1,none⟩ = some (.int .i64 y2) := cell_of HY2.out.b1 1; have e2 : W4.cell? ⟨w.heap.size,2,none⟩ = some (.int .i64 0) := cell_of HY2.out.b0 2; have k2 := fz_of HY2.out.b0 2; have g2 : W4.cell? ⟨w.heap.size + 1,2,none⟩ = some (.int .i64 v0) := cell_of HY2.out.b1 2; have e3 : W4.cell? ⟨w.heap.size,3,none⟩ = some (.int .i64 0) := cell_of HY2.out.b0 3; have k3 := fz_of HY2.out.b0 3; have g3 : W4.cell? ⟨w.heap.size + 1,3,none⟩ = some (.int .i64 0) := cell_of HY2.out.b1 3; have e4 : W4.cell? ⟨w.heap.size,4,none⟩ = some (.int .i64 0) := cell_of HY2.out.b0 4; have k4 := fz_of HY2.out.b0 4; have g4 : W4.cell? ⟨w.heap.size + 1,4,none⟩ = some (.int .i64 0) := cell_of HY2.out.b1 4; have e5 : W4.cell? ⟨w.heap.size,5,none⟩ = some (.int .u64 0) := cell_of HY2.out.b0 5; have k5 := fz_of HY2.out.b0 5; have g5 : W4.cell? ⟨w.heap.size + 1,5,none⟩ = some (.int .u64 y1) := cell_of HY2.out.b1 5; have e6 : W4.cell? ⟨w.heap.size,6,none⟩ = some (.string ⟨#[]⟩) := cell_of HY2.out.b0 6; have k6 := fz_of HY2.out.b0 6; have g6 : W4.cell? ⟨w.heap.size + 1,6,none⟩ = some (.string ⟨#[]⟩) := cell_of HY2.out.b1 6; obtain ⟨WE,hWE,hbE,hoE⟩ := put7 HY2.out.b0 (.int .i64 31) (.int .i64 y2) (.int .i64 v0) (.int .i64 0) (.int .i64 0) (.int .u64 y1) (.string ⟨#[]⟩); have HE2 : Hid ((((((((W4.setCell ⟨w.heap.size,0,none⟩ (.int .i64 31)).setCell ⟨w.heap.size,1,none⟩ (.int .i64 y2)).setCell ⟨w.heap.size,2,none⟩ (.int .i64 v0)).setCell ⟨w.heap.size,3,none⟩ (.int .i64 0)).setCell ⟨w.heap.size,4,none⟩ (.int .i64 0)).setCell ⟨w.heap.size,5,none⟩ (.int .u64 y1)).setCell ⟨w.heap.size,6,none⟩ (.string ⟨#[]⟩)) = WE /\ WE.heap[w.heap.size]? = some (.cells #[.int .i64 31,.int .i64 y2,.int .i64 v0,.int .i64 0,.int .i64 0,.int .u64 y1,.string ⟨#[]⟩] 40 (0,0)) /\ OTH R w WE /\ RBx WE R p tv k s3 /\ s3.length <= 1048576) := ⟨hWE,hbE,(HY2.out.fin hoE).1,(HY2.out.fin hoE).2,HY2.out.sl⟩; clear hWE hbE hoE
  go_wp2_with fail
  rw [HE2.out.1]; refine bodyPost_ret (v := nodeV (⟨31,y2,v0,0,0,y1,ByteArray.empty⟩ : Nd)) (results_cell_row (p := 4) rfl _ _ w.heap.size 40 _ (0,0) _ rfl HE2.out.2.1 Tryz.underlying40 rfl (by kernel_rfl)) rfl ?_; exact ⟨HE2.out.2.2.1,Or.inr ⟨_,_,hres.out,rfl,HE2.out.2.2.2⟩⟩
theorem node_32 {w : World} {R : Nat} {p tv : Value} {k : Int} {s : List UInt8} {ts : List Int} (h : RBx w R p tv k s) (hT : RW w R ts tv) (htl : ts.length <= 1048576) (hE : ENV w) (hR : 10 <= R) (hs : s.length <= 1048576) :
    Calls Tryz.prog 113 #[.pointer (some ⟨R,0,none⟩),.int .i64 32] w fun e w' => OTH R w w' /\ ((fgS ts [112,119] (wds s) (nd1 32) 0 = none /\ e = gv k 3) ∨ ∃ n s',fgS ts [112,119] (wds s) (nd1 32) 0 = some (n,wds s') /\ e = .returned (nodeV n) /\ RBx w' R p tv k s' /\ s'.length <= 1048576) := by
  have H0 := NST.start h hs (nd1 32); obtain ⟨W1,hW1⟩ : ∃ W1,(w.alloc (.cells (ndV z0) 40)).alloc (.cells (ndV (nd1 32)) 40) = W1 := ⟨_,rfl⟩; rw [hW1] at H0; have HS : Hid (NST w W1 R p tv k s ⟨32,0,0,0,0,0,ByteArray.empty⟩) := H0; have HW1 : Hid ((w.alloc (.cells #[.int .i64 0,.int .i64 0,.int .i64 0,.int .i64 0,.int .i64 0,.int .u64 0,.string ⟨#[]⟩] 40)).alloc (.cells #[.int .i64 32,.int .i64 0,.int .i64 0,.int .i64 0,.int .i64 0,.int .u64 0,.string ⟨#[]⟩] 40) = W1) := hW1; have HE : Hid (∀ W,OTH R w W -> ENV W /\ RW W R ts tv) := fun W ho => ⟨hE.oth ho hR,hT.oth ho⟩
  have HR : Hid (10 <= R /\ ts.length <= 1048576) := ⟨hR,htl⟩; obtain ⟨Fo,hFo⟩ : ∃ Fo,fgS ts [112,119] (wds s) (nd1 32) 0 = Fo := ⟨_,rfl⟩; have HF0 : Hid (fgS ts [112,119] (wds s) ⟨32,0,0,0,0,0,ByteArray.empty⟩ 0 = Fo) := hFo; rw [hFo]; clear h H0 hW1 hE hR hs hFo hT htl
  go_enter Tryz.func113,Tryz.ntmps113
  go_upto_region 22 with fail
  rw [HW1.out]
  go_wp2_with fail
  refine (part_any HS.out.box (HE.out _ HS.out.oth).2 HR.out.2 (HE.out _ HS.out.oth).1 HR.out.1 HS.out.sl).mono ?_; rintro e w2 ⟨ho,⟨h1,rfl⟩ | ⟨v0,s1,h1,rfl,hb,hl,u1,hu,hsm⟩⟩
  · have HZ : Hid (OTH R w w2 /\ Fo = none) := ⟨HS.out.oth.trans ho,by rw [<- HF0.out]; exact fgS_part_none ts _ _ _ h1⟩
    clear h1 ho; unfold gv
    go_wp2_with fail
    exact ⟨by first | trivial | rfl,HZ.out.1,Or.inl ⟨HZ.out.2,rfl⟩⟩
  have HF1 : Hid (fgS ts [119] (wds s1) (⟨32,0,v0,0,0,0,ByteArray.empty⟩ : Nd) 1 = Fo) := (fgS_p ts _ _ _ _ hsm : fgS ts (112 :: [119]) (u1 :: wds s1) (⟨32,0,0,0,0,0,ByteArray.empty⟩ : Nd) 0 = _).symm.trans (by rw [<- hu]; exact HF0.out); have HX0 : Hid (NST w w2 R p tv k s1 (⟨32,0,0,0,0,0,ByteArray.empty⟩ : Nd)) := HS.out.step ho hb hl; obtain ⟨vv,cc⟩ : ∃ vv,w2.cell? ⟨w.heap.size + 1,2,none⟩ = some vv := ⟨_,cell_of HX0.out.b1 2⟩; have fc := fz_of HX0.out.b1 2; have HY0 : Hid (NST w (w2.setCell ⟨w.heap.size + 1,2,none⟩ (.int .i64 v0)) R p tv k s1 (⟨32,0,v0,0,0,0,ByteArray.empty⟩ : Nd)) := HX0.out.set 2 _ rfl; clear h1 ho hb hl hu; clear hsm
  go_upto_region 23 with fail
  obtain ⟨W2,hW⟩ : ∃ W,w2.setCell ⟨w.heap.size + 1,2,none⟩ (.int .i64 v0) = W := ⟨_,rfl⟩; rw [hW] at HY0; rw [hW]; clear hW cc fc HX0
  go_wp2_with fail
  refine (number7_any HY0.out.box (HE.out _ HY0.out.oth).1 HR.out.1 HY0.out.sl).mono ?_; rintro e w3 ⟨ho,⟨h1,rfl⟩ | ⟨v1,s2,h1,rfl,hb,hl,hv1,u2,hu,hsm⟩⟩
  · have HZ : Hid (OTH R w w3 /\ Fo = none) := ⟨HY0.out.oth.trans ho,by rw [<- HF1.out]; exact fgS_num_none ts 119 _ _ _ (by decide) (fun e => by first | (cases e; done) | (show ((32 : Int) ≠ 3); decide)) (by decide) h1⟩
    clear h1 ho; unfold gv
    go_wp2_with fail
    exact ⟨by first | trivial | rfl,HZ.out.1,Or.inl ⟨HZ.out.2,rfl⟩⟩
  have HF2 : Hid (fgS ts [] (wds s2) (⟨32,(v1 : Int),v0,0,0,0,ByteArray.empty⟩ : Nd) 1 = Fo) := (fgS_w ts _ _ _ _ _ _ _ _ _ _ hsm : fgS ts (119 :: []) (u2 :: wds s2) (⟨32,0,v0,0,0,0,ByteArray.empty⟩ : Nd) 1 = _).symm.trans (by rw [<- hu]; exact HF1.out); have HX1 : Hid (NST w w3 R p tv k s2 (⟨32,0,v0,0,0,0,ByteArray.empty⟩ : Nd)) := HY0.out.step ho hb hl; obtain ⟨vv,cc⟩ : ∃ vv,w3.cell? ⟨w.heap.size + 1,1,none⟩ = some vv := ⟨_,cell_of HX1.out.b1 1⟩; have fc := fz_of HX1.out.b1 1; obtain ⟨y1,hy⟩ : ∃ y : Int,(v1 : Int) = y := ⟨_,rfl⟩; rw [hy] at HF2; rw [hy]; clear hy hv1; have HY1 : Hid (NST w (w3.setCell ⟨w.heap.size + 1,1,none⟩ (.int .i64 y1)) R p tv k s2 (⟨32,y1,v0,0,0,0,ByteArray.empty⟩ : Nd)) := HX1.out.set 1 _ rfl; clear h1 ho hb hl hu; clear hsm
  go_upto_region 24 with fail
  obtain ⟨W3,hW⟩ : ∃ W,w3.setCell ⟨w.heap.size + 1,1,none⟩ (.int .i64 y1) = W := ⟨_,rfl⟩; rw [hW] at HY1; rw [hW]; clear hW cc fc HX1; have hres : Hid (Fo = some ((⟨32,y1,v0,0,0,0,ByteArray.empty⟩ : Nd),wds s2)) := by show _ = _; rw [<- HF2.out]; rfl
  have e0 : W3.cell? ⟨w.heap.size,0,none⟩ = some (.int .i64 0) := cell_of HY1.out.b0 0; have k0 := fz_of HY1.out.b0 0; have g0 : W3.cell? ⟨w.heap.size + 1,0,none⟩ = some (.int .i64 32) := cell_of HY1.out.b1 0; have e1 : W3.cell? ⟨w.heap.size,1,none⟩ = some (.int .i64 0) := cell_of HY1.out.b0 1; have k1 := fz_of HY1.out.b0 1; have g1 : W3.cell? ⟨w.heap.size + 1,1,none⟩ = some (.int .i64 y1) := cell_of HY1.out.b1 1; have e2 : W3.cell? ⟨w.heap.size,2,none⟩ = some (.int .i64 0) := cell_of HY1.out.b0 2; have k2 := fz_of HY1.out.b0 2; have g2 : W3.cell? ⟨w.heap.size + 1,2,none⟩ = some (.int .i64 v0) := cell_of HY1.out.b1 2; have e3 : W3.cell? ⟨w.heap.size,3,none⟩ = some (.int .i64 0) := cell_of HY1.out.b0 3; have k3 := fz_of HY1.out.b0 3; have g3 : W3.cell? ⟨w.heap.size + 1,3,none⟩ = some (.int .i64 0) := cell_of HY1.out.b1 3; have e4 : W3.cell? ⟨w.heap.size,4,none⟩ = some (.int .i64 0) := cell_of HY1.out.b0 4; have k4 := fz_of HY1.out.b0 4; have g4 : W3.cell? ⟨w.heap.size + 1,4,none⟩ = some (.int .i64 0) := cell_of HY1.out.b1 4; have e5 : W3.cell? ⟨w.heap.size,5,none⟩ = some (.int .u64 0) := cell_of HY1.out.b0 5; have k5 := fz_of HY1.out.b0 5; have g5 : W3.cell? ⟨w.heap.size + 1,5,none⟩ = some (.int .u64 0) := cell_of HY1.out.b1 5; have e6 : W3.cell? ⟨w.heap.size,6,none⟩ = some (.string ⟨#[]⟩) := cell_of HY1.out.b0 6; have k6 := fz_of HY1.out.b0 6; have g6 : W3.cell? ⟨w.heap.size + 1,6,none⟩ = some (.string ⟨#[]⟩) := cell_of HY1.out.b1 6; obtain ⟨WE,hWE,hbE,hoE⟩ := put7 HY1.out.b0 (.int .i64 32) (.int .i64 y1) (.int .i64 v0) (.int .i64 0) (.int .i64 0) (.int .u64 0) (.string ⟨#[]⟩); have HE2 : Hid ((((((((W3.setCell ⟨w.heap.size,0,none⟩ (.int .i64 32)).setCell ⟨w.heap.size,1,none⟩ (.int .i64 y1)).setCell ⟨w.heap.size,2,none⟩ (.int .i64 v0)).setCell ⟨w.heap.size,3,none⟩ (.int .i64 0)).setCell ⟨w.heap.size,4,none⟩ (.int .i64 0)).setCell ⟨w.heap.size,5,none⟩ (.int .u64 0)).setCell ⟨w.heap.size,6,none⟩ (.string ⟨#[]⟩)) = WE /\ WE.heap[w.heap.size]? = some (.cells #[.int .i64 32,.int .i64 y1,.int .i64 v0,.int .i64 0,.int .i64 0,.int .u64 0,.string ⟨#[]⟩] 40 (0,0)) /\ OTH R w WE /\ RBx WE R p tv k s2 /\ s2.length <= 1048576) := ⟨hWE,hbE,(HY1.out.fin hoE).1,(HY1.out.fin hoE).2,HY1.out.sl⟩; clear hWE hbE hoE
  go_wp2_with fail
  rw [HE2.out.1]; refine bodyPost_ret (v := nodeV (⟨32,y1,v0,0,0,0,ByteArray.empty⟩ : Nd)) (results_cell_row (p := 4) rfl _ _ w.heap.size 40 _ (0,0) _ rfl HE2.out.2.1 Tryz.underlying40 rfl (by kernel_rfl)) rfl ?_; exact ⟨HE2.out.2.2.1,Or.inr ⟨_,_,hres.out,rfl,HE2.out.2.2.2⟩⟩
theorem node_33 {w : World} {R : Nat} {p tv : Value} {k : Int} {s : List UInt8} {ts : List Int} (h : RBx w R p tv k s) (hT : RW w R ts tv) (htl : ts.length <= 1048576) (hE : ENV w) (hR : 10 <= R) (hs : s.length <= 1048576) :
    Calls Tryz.prog 113 #[.pointer (some ⟨R,0,none⟩),.int .i64 33] w fun e w' => OTH R w w' /\ ((fgS ts [112,119] (wds s) (nd1 33) 0 = none /\ e = gv k 3) ∨ ∃ n s',fgS ts [112,119] (wds s) (nd1 33) 0 = some (n,wds s') /\ e = .returned (nodeV n) /\ RBx w' R p tv k s' /\ s'.length <= 1048576) := by
  have H0 := NST.start h hs (nd1 33); obtain ⟨W1,hW1⟩ : ∃ W1,(w.alloc (.cells (ndV z0) 40)).alloc (.cells (ndV (nd1 33)) 40) = W1 := ⟨_,rfl⟩; rw [hW1] at H0; have HS : Hid (NST w W1 R p tv k s ⟨33,0,0,0,0,0,ByteArray.empty⟩) := H0; have HW1 : Hid ((w.alloc (.cells #[.int .i64 0,.int .i64 0,.int .i64 0,.int .i64 0,.int .i64 0,.int .u64 0,.string ⟨#[]⟩] 40)).alloc (.cells #[.int .i64 33,.int .i64 0,.int .i64 0,.int .i64 0,.int .i64 0,.int .u64 0,.string ⟨#[]⟩] 40) = W1) := hW1; have HE : Hid (∀ W,OTH R w W -> ENV W /\ RW W R ts tv) := fun W ho => ⟨hE.oth ho hR,hT.oth ho⟩
  have HR : Hid (10 <= R /\ ts.length <= 1048576) := ⟨hR,htl⟩; obtain ⟨Fo,hFo⟩ : ∃ Fo,fgS ts [112,119] (wds s) (nd1 33) 0 = Fo := ⟨_,rfl⟩; have HF0 : Hid (fgS ts [112,119] (wds s) ⟨33,0,0,0,0,0,ByteArray.empty⟩ 0 = Fo) := hFo; rw [hFo]; clear h H0 hW1 hE hR hs hFo hT htl
  go_enter Tryz.func113,Tryz.ntmps113
  go_upto_region 22 with fail
  rw [HW1.out]
  go_wp2_with fail
  refine (part_any HS.out.box (HE.out _ HS.out.oth).2 HR.out.2 (HE.out _ HS.out.oth).1 HR.out.1 HS.out.sl).mono ?_; rintro e w2 ⟨ho,⟨h1,rfl⟩ | ⟨v0,s1,h1,rfl,hb,hl,u1,hu,hsm⟩⟩
  · have HZ : Hid (OTH R w w2 /\ Fo = none) := ⟨HS.out.oth.trans ho,by rw [<- HF0.out]; exact fgS_part_none ts _ _ _ h1⟩
    clear h1 ho; unfold gv
    go_wp2_with fail
    exact ⟨by first | trivial | rfl,HZ.out.1,Or.inl ⟨HZ.out.2,rfl⟩⟩
  have HF1 : Hid (fgS ts [119] (wds s1) (⟨33,0,v0,0,0,0,ByteArray.empty⟩ : Nd) 1 = Fo) := (fgS_p ts _ _ _ _ hsm : fgS ts (112 :: [119]) (u1 :: wds s1) (⟨33,0,0,0,0,0,ByteArray.empty⟩ : Nd) 0 = _).symm.trans (by rw [<- hu]; exact HF0.out); have HX0 : Hid (NST w w2 R p tv k s1 (⟨33,0,0,0,0,0,ByteArray.empty⟩ : Nd)) := HS.out.step ho hb hl; obtain ⟨vv,cc⟩ : ∃ vv,w2.cell? ⟨w.heap.size + 1,2,none⟩ = some vv := ⟨_,cell_of HX0.out.b1 2⟩; have fc := fz_of HX0.out.b1 2; have HY0 : Hid (NST w (w2.setCell ⟨w.heap.size + 1,2,none⟩ (.int .i64 v0)) R p tv k s1 (⟨33,0,v0,0,0,0,ByteArray.empty⟩ : Nd)) := HX0.out.set 2 _ rfl; clear h1 ho hb hl hu; clear hsm
  go_upto_region 23 with fail
  obtain ⟨W2,hW⟩ : ∃ W,w2.setCell ⟨w.heap.size + 1,2,none⟩ (.int .i64 v0) = W := ⟨_,rfl⟩; rw [hW] at HY0; rw [hW]; clear hW cc fc HX0
  go_wp2_with fail
  refine (number7_any HY0.out.box (HE.out _ HY0.out.oth).1 HR.out.1 HY0.out.sl).mono ?_; rintro e w3 ⟨ho,⟨h1,rfl⟩ | ⟨v1,s2,h1,rfl,hb,hl,hv1,u2,hu,hsm⟩⟩
  · have HZ : Hid (OTH R w w3 /\ Fo = none) := ⟨HY0.out.oth.trans ho,by rw [<- HF1.out]; exact fgS_num_none ts 119 _ _ _ (by decide) (fun e => by first | (cases e; done) | (show ((33 : Int) ≠ 3); decide)) (by decide) h1⟩
    clear h1 ho; unfold gv
    go_wp2_with fail
    exact ⟨by first | trivial | rfl,HZ.out.1,Or.inl ⟨HZ.out.2,rfl⟩⟩
  have HF2 : Hid (fgS ts [] (wds s2) (⟨33,(v1 : Int),v0,0,0,0,ByteArray.empty⟩ : Nd) 1 = Fo) := (fgS_w ts _ _ _ _ _ _ _ _ _ _ hsm : fgS ts (119 :: []) (u2 :: wds s2) (⟨33,0,v0,0,0,0,ByteArray.empty⟩ : Nd) 1 = _).symm.trans (by rw [<- hu]; exact HF1.out); have HX1 : Hid (NST w w3 R p tv k s2 (⟨33,0,v0,0,0,0,ByteArray.empty⟩ : Nd)) := HY0.out.step ho hb hl; obtain ⟨vv,cc⟩ : ∃ vv,w3.cell? ⟨w.heap.size + 1,1,none⟩ = some vv := ⟨_,cell_of HX1.out.b1 1⟩; have fc := fz_of HX1.out.b1 1; obtain ⟨y1,hy⟩ : ∃ y : Int,(v1 : Int) = y := ⟨_,rfl⟩; rw [hy] at HF2; rw [hy]; clear hy hv1; have HY1 : Hid (NST w (w3.setCell ⟨w.heap.size + 1,1,none⟩ (.int .i64 y1)) R p tv k s2 (⟨33,y1,v0,0,0,0,ByteArray.empty⟩ : Nd)) := HX1.out.set 1 _ rfl; clear h1 ho hb hl hu; clear hsm
  go_upto_region 24 with fail
  obtain ⟨W3,hW⟩ : ∃ W,w3.setCell ⟨w.heap.size + 1,1,none⟩ (.int .i64 y1) = W := ⟨_,rfl⟩; rw [hW] at HY1; rw [hW]; clear hW cc fc HX1; have hres : Hid (Fo = some ((⟨33,y1,v0,0,0,0,ByteArray.empty⟩ : Nd),wds s2)) := by show _ = _; rw [<- HF2.out]; rfl
  have e0 : W3.cell? ⟨w.heap.size,0,none⟩ = some (.int .i64 0) := cell_of HY1.out.b0 0; have k0 := fz_of HY1.out.b0 0; have g0 : W3.cell? ⟨w.heap.size + 1,0,none⟩ = some (.int .i64 33) := cell_of HY1.out.b1 0; have e1 : W3.cell? ⟨w.heap.size,1,none⟩ = some (.int .i64 0) := cell_of HY1.out.b0 1; have k1 := fz_of HY1.out.b0 1; have g1 : W3.cell? ⟨w.heap.size + 1,1,none⟩ = some (.int .i64 y1) := cell_of HY1.out.b1 1; have e2 : W3.cell? ⟨w.heap.size,2,none⟩ = some (.int .i64 0) := cell_of HY1.out.b0 2; have k2 := fz_of HY1.out.b0 2; have g2 : W3.cell? ⟨w.heap.size + 1,2,none⟩ = some (.int .i64 v0) := cell_of HY1.out.b1 2; have e3 : W3.cell? ⟨w.heap.size,3,none⟩ = some (.int .i64 0) := cell_of HY1.out.b0 3; have k3 := fz_of HY1.out.b0 3; have g3 : W3.cell? ⟨w.heap.size + 1,3,none⟩ = some (.int .i64 0) := cell_of HY1.out.b1 3; have e4 : W3.cell? ⟨w.heap.size,4,none⟩ = some (.int .i64 0) := cell_of HY1.out.b0 4; have k4 := fz_of HY1.out.b0 4; have g4 : W3.cell? ⟨w.heap.size + 1,4,none⟩ = some (.int .i64 0) := cell_of HY1.out.b1 4; have e5 : W3.cell? ⟨w.heap.size,5,none⟩ = some (.int .u64 0) := cell_of HY1.out.b0 5; have k5 := fz_of HY1.out.b0 5; have g5 : W3.cell? ⟨w.heap.size + 1,5,none⟩ = some (.int .u64 0) := cell_of HY1.out.b1 5; have e6 : W3.cell? ⟨w.heap.size,6,none⟩ = some (.string ⟨#[]⟩) := cell_of HY1.out.b0 6; have k6 := fz_of HY1.out.b0 6; have g6 : W3.cell? ⟨w.heap.size + 1,6,none⟩ = some (.string ⟨#[]⟩) := cell_of HY1.out.b1 6; obtain ⟨WE,hWE,hbE,hoE⟩ := put7 HY1.out.b0 (.int .i64 33) (.int .i64 y1) (.int .i64 v0) (.int .i64 0) (.int .i64 0) (.int .u64 0) (.string ⟨#[]⟩); have HE2 : Hid ((((((((W3.setCell ⟨w.heap.size,0,none⟩ (.int .i64 33)).setCell ⟨w.heap.size,1,none⟩ (.int .i64 y1)).setCell ⟨w.heap.size,2,none⟩ (.int .i64 v0)).setCell ⟨w.heap.size,3,none⟩ (.int .i64 0)).setCell ⟨w.heap.size,4,none⟩ (.int .i64 0)).setCell ⟨w.heap.size,5,none⟩ (.int .u64 0)).setCell ⟨w.heap.size,6,none⟩ (.string ⟨#[]⟩)) = WE /\ WE.heap[w.heap.size]? = some (.cells #[.int .i64 33,.int .i64 y1,.int .i64 v0,.int .i64 0,.int .i64 0,.int .u64 0,.string ⟨#[]⟩] 40 (0,0)) /\ OTH R w WE /\ RBx WE R p tv k s2 /\ s2.length <= 1048576) := ⟨hWE,hbE,(HY1.out.fin hoE).1,(HY1.out.fin hoE).2,HY1.out.sl⟩; clear hWE hbE hoE
  go_wp2_with fail
  rw [HE2.out.1]; refine bodyPost_ret (v := nodeV (⟨33,y1,v0,0,0,0,ByteArray.empty⟩ : Nd)) (results_cell_row (p := 4) rfl _ _ w.heap.size 40 _ (0,0) _ rfl HE2.out.2.1 Tryz.underlying40 rfl (by kernel_rfl)) rfl ?_; exact ⟨HE2.out.2.2.1,Or.inr ⟨_,_,hres.out,rfl,HE2.out.2.2.2⟩⟩
end Go.Proofs.YtkpapgfbnledpaaGreatDoor
