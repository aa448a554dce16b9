import Derived.Test.YtfljcdccepnidaaGreatDoorWtK
import Derived.Maps.AppendAt
import Derived.Maps.OwnOps
import Derived.Deep.Upon
import Derived.Carry
import Derived.Test.YtfljcdccepnidaaGreatDoorWuZb
import Derived.Test.YtfljcdccepnidaaGreatDoorWuB
import Derived.Test.YtfljcdccepnidaaGreatDoorSqA
namespace Go.Proofs.YtfljcdccepnidaaGreatDoor
open Go.ChangeShapes Go.WideShapes Go.ChangeAt Go.RowKit Go.Lib

section
variable (a b : ByteArray)
def rn (s : ByteArray) : ByteArray := if (s.toList == a.toList) = true then b else s
def rnN (d : Nd) : Nd := { d with s := rn a b d.s }
def rnS (d : Sd) : Sd := { d with s := rn a b d.s,A := d.A.map (rnN a b),E := d.E.map (rnN a b) }
end
end Go.Proofs.YtfljcdccepnidaaGreatDoor
namespace Go.Proofs.YtfljcdccepnidaaGreatDoor
open Go.ChangeShapes Go.WideShapes Go.ChangeAt Go.RowKit Go.Lib Go.WideMaps Go.Maps Go.ChangeMaps

def KXc (W2 wr : World) (Qb : Nat) (k x : Int) (s : ByteArray) (n : Nat) (Ds : List (List Nd)) (vK : Value) (css : List (List Value)) : Prop := css.length = Ds.length /\ (∀ c ∈ css,c.length = 4) /\ wr.ownsRow W2.heap.size 43 4 vK Ds.length css.flatten /\ OTH Qb W2 wr /\ wr.heap[Qb]? = some (.cells #[.int .i64 k,.int .u64 x,.string s,vK] 43 (0,0)) /\ ∀ j,j < Ds.length -> RE wr (fun b => W2.heap.size <= b /\ b < wr.heap.size /\ vK.ownBlock ≠ some b) n (Ds.getD j []) (css.getD j [])
def KX (W2 wr : World) (Qb : Nat) (k x : Int) (s : ByteArray) (n : Nat) (Ds : List (List Nd)) (vK : Value) : Prop := ∃ css,KXc W2 wr Qb k x s n Ds vK css
theorem KX.nil (w : World) (Qb : Nat) (k x : Int) (s : ByteArray) (n : Nat) (h : w.heap[Qb]? = some (.cells #[.int .i64 k,.int .u64 x,.string s,.slice none 0 0] 43 (0,0))) : KX w w Qb k x s n [] (.slice none 0 0) := ⟨[],rfl,(fun c h => by cases h),World.ownsRow_nil _ _ _ _,OTH.refl _ _,h,fun j hj => absurd hj (by simp)⟩
theorem KX.push {W2 wr w5 w6 : World} {Qb nL : Nat} {k x : Int} {s : ByteArray} {n : Nat} {Ds : List (List Nd)} {d : List Nd} {vK : Value} {cs : List Value} {ob : Obj} {g6 cap6 : Nat} (hn : Ds.length = nL) (hQ : Qb < W2.heap.size) {css : List (List Value)} (h : KXc W2 wr Qb k x s n Ds vK css) (h5 : Below wr.heap.size wr w5) (hE : RE w5 (fun b => wr.heap.size <= b /\ b < w5.heap.size) n d cs) (hown : w6.ownsRow W2.heap.size 43 4 (.slice (some ⟨g6,0,none⟩) (nL + 1) cap6) (nL + 1) (css.flatten ++ cs)) (hg : (w5.alloc ob).grownBy w6 vK.ownBlock) (hat : vK.ownBlock = some g6 ∨ g6 = w5.heap.size + 1) : w6.heap[Qb]? = some (.cells #[.int .i64 k,.int .u64 x,.string s,vK] 43 (0,0)) /\ KX W2 (w6.setCell ⟨Qb,3,none⟩ (.slice (some ⟨g6,0,none⟩) (nL + 1) cap6)) Qb k x s n (Ds ++ [d]) (.slice (some ⟨g6,0,none⟩) (nL + 1) cap6) := by
  obtain ⟨hl,hc4,hrow,hoth,hbox,hall⟩ := h; subst hn; have hs0 := hoth.size; have hs5 := h5.size; have hs6 := hg.size
  simp at hs6
  obtain ⟨w7,hw7⟩ : ∃ w7,w6.setCell ⟨Qb,3,none⟩ (.slice (some ⟨g6,0,none⟩) (Ds.length + 1) cap6) = w7 := ⟨_,rfl⟩; have h7 : w7.heap.size = w6.heap.size /\ w7.os = w6.os /\ w7.tape = w6.tape /\ w7.output = w6.output := by rw [<- hw7]; exact ⟨by simp,rfl,rfl,rfl⟩
  have ho7 : ∀ q,q ≠ Qb -> w7.heap[q]? = w6.heap[q]? := fun q hq => by rw [<- hw7,heap_setCell_other _ _ _ _ hq]
  have hvlt : ∀ j,vK.ownBlock = some j -> W2.heap.size <= j /\ j < wr.heap.size := fun j hj => hrow.lt j hj
  have hbl6 : ∀ j,j < w5.heap.size -> vK.ownBlock ≠ some j -> w6.heap[j]? = w5.heap[j]? := fun j hj hn => by
    rw [hg.block j (by simp; omega) (fun e => hn e.symm),Below.heap_alloc _ _ j hj]
  have hbl : ∀ j,j < w5.heap.size -> vK.ownBlock ≠ some j -> j ≠ Qb -> w7.heap[j]? = w5.heap[j]? := fun j hj hn hq => (ho7 j hq).trans (hbl6 j hj hn)
  have hb6 : w6.heap[Qb]? = some (.cells #[.int .i64 k,.int .u64 x,.string s,vK] 43 (0,0)) := by
    rw [hbl6 Qb (by omega) (fun e => by have := hvlt Qb e; omega),h5.block Qb (by omega)]; exact hbox
  refine ⟨hb6,?_⟩; rw [hw7]; refine ⟨css ++ [cs],by simp [hl],fun c hc => ?_,?_,⟨?_,?_,?_,?_,fun j hj hn => ?_⟩,?_,fun j hj => ?_⟩
  · rcases List.mem_append.1 hc with e | e
    · exact hc4 c e
    rw [List.mem_singleton] at e; rw [e]; exact hE.four
  · have hown7 : w7.ownsRow W2.heap.size 43 4 (.slice (some ⟨g6,0,none⟩) (Ds.length + 1) cap6) (Ds.length + 1) (css.flatten ++ cs) := by
      refine ⟨hown.1,?_⟩
      rcases hown.2 with h3 | ⟨b,cap,cur,e,h4,h5,h6⟩
      · exact Or.inl h3
      exact Or.inr ⟨b,cap,cur,e,h4,(ho7 b (by omega)).trans h5,h6⟩
    rw [List.flatten_append,List.length_append]
    simpa using hown7
  · exact h7.2.1.trans (hg.os.trans (h5.os.trans hoth.os))
  · exact h7.2.2.1.trans (hg.tape.trans (h5.tape.trans hoth.tape))
  · exact h7.2.2.2.trans (hg.output.trans (h5.output.trans hoth.output))
  · omega
  · rw [hbl j (by omega) (fun e => by have := hvlt j e; omega) hn,h5.block j (by omega)]
    exact hoth.block j hj hn
  · rw [<- hw7,heap_setCell_same _ _ 3 _ _ _ hb6]
    simp
  rw [List.length_append] at hj; simp only [List.length_singleton] at hj; have hout : ∀ b,(vK.ownBlock ≠ some b /\ b < w5.heap.size) -> (Value.slice (some ⟨g6,0,none⟩) (Ds.length + 1) cap6).ownBlock ≠ some b := fun b hb e => by
    have e2 : some g6 = some b := e; have e3 := Option.some.inj e2
    rcases hat with h1 | h1
    · rw [h1] at hb
      exact hb.1 (by rw [e3])
    omega
  by_cases e : j = Ds.length
  · subst e
    have e1 : (css ++ [cs]).getD Ds.length [] = cs := by rw [<- hl]; exact getD_snoc _ _ _
    rw [getD_snoc,e1]; have h8 := hE.keep (w' := w7) (fun b hb => hbl b hb.2 (fun e => by have := hvlt b e; omega) (by omega)); refine h8.mono (fun b hb => ⟨by omega,by omega,hout b ⟨fun e => by have := hvlt b e; omega,hb.2⟩⟩)
  have hj2 : j < Ds.length := by omega
  rw [getD_app hj2,getD_app (by rw [hl]; exact hj2)]; have h8 := (hall j hj2).keep (w' := w7) (fun b hb => by rw [hbl b (by omega) hb.2.2 (by omega),h5.block b hb.2.1]); exact h8.mono (fun b hb => ⟨hb.1,by omega,hout b ⟨hb.2.2,by omega⟩⟩)
theorem KX.rs {W2 wr : World} {Qb : Nat} {k x : Int} {s : ByteArray} {n : Nat} {Ds : List (List Nd)} {aK : Option Addr} {cK : Nat} (h : KX W2 wr Qb k x s n Ds (.slice aK Ds.length cK)) : RS wr (fun b => W2.heap.size <= b /\ b < wr.heap.size) (RE wr (fun b => W2.heap.size <= b /\ b < wr.heap.size) n) Ds aK := by
  obtain ⟨css,hl,hc4,hrow,_,_,hall⟩ := h; intro h0
  rcases hrow.2 with ⟨e,e0⟩ | ⟨g,cap,cur,e,hg1,hg2,hg3,hg4,hg5,hg6⟩
  · omega
  cases e; have hg7 := (Array.getElem?_eq_some_iff.1 hg2).1; refine ⟨g,0,rfl,⟨hg1,hg7⟩,fun j hj => ?_⟩; have hj2 : j < css.length := by omega
  have h4 : (css.getD j []).length = 4 := hc4 _ (by rw [List.getD_eq_getElem?_getD,List.getElem?_eq_getElem hj2]; exact List.getElem_mem _); have hcell : ∀ i,i < 4 -> wr.cell? ⟨g,0 + j * 4 + i,none⟩ = (css.getD j [])[i]? := fun i hi => by
    rw [cell_of hg2,<- flat4 css hc4 j i hj2 hi,<- hg6,Nat.zero_add,List.getElem?_take_of_lt (by omega)]
    simp
  obtain ⟨v0,v1,v2,v3,hv⟩ : ∃ v0 v1 v2 v3,css.getD j [] = [v0,v1,v2,v3] := by
    match css.getD j [],h4 with
    | [v0,v1,v2,v3],_ => exact ⟨v0,v1,v2,v3,rfl⟩
  have hE := hall j hj; rw [hv] at hcell hE; refine ⟨v0,v1,v2,v3,by simpa using hcell 0 (by omega),by simpa using hcell 1 (by omega),by simpa using hcell 2 (by omega),by simpa using hcell 3 (by omega),hE.mono (fun b hb => ⟨hb.1,hb.2.1⟩)⟩
end Go.Proofs.YtfljcdccepnidaaGreatDoor
namespace Go.Proofs.YtfljcdccepnidaaGreatDoor

def chz (ops : Array Oper) (z : Nat) (cs : List Nat) : Array Bool -> List Nat -> Bool
  | listed,[] => (Region.ready .any ops listed).isEmpty
  | listed,i :: r => (if cs.contains i then Region.ready .any ops listed == [i] && (i != z || r.isEmpty) else Region.free .any ops listed i && ((Region.ready .any ops listed).contains i && awaits .any ops z i)) && chz ops z cs (listed.setIfInBounds i true) r
def SE (P : Program) (L : List Oper) (Q : Exit -> Act -> World -> Prop) (S : World -> Prop) (z : Nat) (cs l : List Nat) (a : Act) (w : World) : Prop := ∀ listed,Region.noSelect L.toArray = true -> chz L.toArray z cs listed l = true -> AnyE P .any L.toArray Q S z l.length listed a w
section
variable {P : Program} {L : List Oper} {Q : Exit -> Act -> World -> Prop} {S : World -> Prop} {z : Nat} {cs l : List Nat} {a : Act} {w : World}
theorem se_start {id : Nat} (S : World -> Prop) (z : Nat) (cs l : List Nat) (hm : P.follows .mixedOrders = true) (hc : (Region.noSelect L.toArray && (l.length == L.toArray.size && chz L.toArray z cs (Array.replicate L.toArray.size false) l)) = true) (h : SE P L Q S z cs l a w.drew) : (Code.region id L.toArray true).wp P Q a w := by
  simp only [Bool.and_eq_true,beq_iff_eq] at hc; have h5 := h _ hc.1 hc.2.2; rw [hc.2.1] at h5; exact AnyE.region S z hm h5
theorem se_op {i : Nat} {r : List Nat} {o : Oper} {v : Value} (hi : nthO L i = some o) (hm : cs.contains i = false) (hw : gst L a.tmps.toList o = true) (hS : S w) (hy : ∀ w,S w -> (execOp a.eval o).run P w = .ok (.value v) w) (h : SE P L Q S z cs r (a.put o.dst v) w) (hQ : ∀ c a w,Q (.panic c) (a.put o.dst v) w -> Q (.panic c) a w := by exact fun _ _ _ h => h) : SE P L Q S z cs (i :: r) a w := by
  intro listed hn hc; rw [<- gst_eq] at hw; simp only [chz,Bool.and_eq_true] at hc; obtain ⟨h1,h2⟩ := hc; rw [if_neg (by rw [hm]; simp),Bool.and_eq_true,Bool.and_eq_true] at h1; exact AnyE.take (nthO_at hi) hn h1.1 h1.2.1 h1.2.2 hQ (Or.inl ⟨hw,hy⟩) hS (h _ hn h2)
theorem se_do {i : Nat} {r : List Nat} {o : Oper} (hi : nthO L i = some o) (hm : cs.contains i = true) (hw : gst L a.tmps.toList o = true) (h : ∀ K' : Act -> World -> Prop,Shut (∀ a w,S w -> SE P L Q S z cs r a w -> K' a w) -> Oper.wp P o a w K' Q) : SE P L Q S z cs (i :: r) a w := by
  intro listed hn hc; rw [<- gst_eq] at hw; simp only [chz,Bool.and_eq_true] at hc; obtain ⟨h1,h2⟩ := hc; rw [if_pos hm,Bool.and_eq_true,beq_iff_eq] at h1; refine AnyE.one h1.1 (nthO_at hi) (fun K hK => ?_); rw [if_pos hw]; exact h K (fun a w hS hq => hK _ _ (fun _ => hS) (hq _ hn h2))
theorem se_last {i : Nat} {o : Oper} (hi : nthO L i = some o) (hm : cs.contains i = true) (hz : (i == z) = true) (hw : gst L a.tmps.toList o = true) (h : ∀ K' : Act -> World -> Prop,Shut (∀ a w,Q .normal a w -> K' a w) -> Oper.wp P o a w K' Q) : SE P L Q S z cs [i] a w := by
  intro listed hn hc; rw [<- gst_eq] at hw; simp only [chz,Bool.and_eq_true,List.isEmpty_iff] at hc; obtain ⟨h1,h2⟩ := hc; rw [if_pos hm,Bool.and_eq_true,beq_iff_eq] at h1; refine AnyE.one h1.1 (nthO_at hi) (fun K hK => ?_); rw [if_pos hw]; exact h K (fun a w hq => hK _ _ (fun e => absurd (by simpa using hz) e) (AnyE.done h2 hq _))
end
end Go.Proofs.YtfljcdccepnidaaGreatDoor
namespace Go.Proofs.YtfljcdccepnidaaGreatDoor
open Go.ChangeShapes Go.WideShapes Go.ChangeAt Go.RowKit Go.Lib

theorem threeE {w : World} {A B C : Obj} {W : World} {H : Nat} (hW : ((w.alloc A).alloc B).alloc C = W) (hH : w.heap.size = H) : Below w.heap.size w W /\ W.heap.size = H + 3 /\ W.heap[H]? = some A /\ W.heap[H + 1]? = some B /\ W.heap[H + 1 + 1]? = some C := by
  subst hW; subst hH; have h1 := heap_alloc_new w A; have h2 := heap_alloc_new (w.alloc A) B; have h3 := heap_alloc_new ((w.alloc A).alloc B) C; have e1 : (w.alloc A).heap.size = w.heap.size + 1 := by simp
  have e2 : ((w.alloc A).alloc B).heap.size = w.heap.size + 1 + 1 := by simp
  rw [e1] at h2; rw [e2] at h3; exact ⟨bnx (bnx (bel1 _ _) (bel1 _ _)) (bel1 _ _),by simp,blk_next (blk_next h1 (bel1 _ _)) (bel1 _ _),blk_next h2 (bel1 _ _),h3⟩
def anyN (s : ByteArray) (L : List Nd) : Bool := L.any (fun d => d.s.toList == s.toList)
theorem anyN_flat (s : ByteArray) (Ls : List (List Nd)) (j : Nat) (hj : j < Ls.length) : anyN s (Ls.take (j + 1)).flatten = (anyN s (Ls.take j).flatten || anyN s (Ls.getD j [])) := by
  unfold anyN; rw [take_flat hj,List.any_append]
theorem anyN_in (s : ByteArray) (Ls : List (List Nd)) (j : Nat) (hj : j < Ls.length) (h : anyN s (Ls.getD j []) = true) : anyN s Ls.flatten = true := by
  unfold anyN at h ⊢; rw [List.any_eq_true] at h ⊢; obtain ⟨d,hd,e⟩ := h; refine ⟨d,List.mem_flatten.2 ⟨_,?_,hd⟩,e⟩; rw [List.getD_eq_getElem?_getD,List.getElem?_eq_getElem hj]; exact List.getElem_mem _
set_option maxHeartbeats 8000000 in
set_option maxRecDepth 100000 in
theorem used_any (s : ByteArray) : ∀ (n : Nat) (L : List Nd) (cs : List Value) (w : World) (P : Nat -> Prop),RE w P n L cs -> (∀ j,P j -> j < w.heap.size) -> L.length <= 1048576 ->
    Calls Tryz.prog 18 #[.agg cs.toArray,.string s] w fun e w' => e = .returned (.bool (anyN s L)) /\ Below w.heap.size w w' := by
  intro n
  induction n with
  | zero => intro L cs w P h; exact h.elim
  | succ n ih =>
    intro L cs w P h hB hL; obtain ⟨k,x,s0,ad,cap,Ls,rfl,rfl,hS⟩ := h; have hlen := hS.len; have HS : Hid (∀ X,Below w.heap.size w X -> RS X P (RE X P n) Ls ad) := fun X hX => hS.over (fun j hj => hX.block j (hB j hj))
    have HI : Hid (∀ L cs X,Below w.heap.size w X -> RE X P n L cs -> L.length <= 1048576 -> Calls Tryz.prog 18 #[.agg cs.toArray,.string s] X fun e w' => e = .returned (.bool (anyN s L)) /\ Below X.heap.size X w') := fun L cs X hX hE hl => ih L cs X P hE (fun j hj => Nat.lt_of_lt_of_le (hB j hj) hX.size) hl
    have hcons : anyN s (⟨k,x,s0,Ls.length,hts Ls + 1⟩ :: Ls.flatten) = (s0.toList == s.toList || anyN s Ls.flatten) := rfl; rw [hcons]; obtain ⟨rb,hrb⟩ : ∃ rb,(s0.toList == s.toList || anyN s Ls.flatten) = rb := ⟨_,rfl⟩; rw [hrb]; have HRB : Hid ((s0.toList == s.toList || anyN s Ls.flatten) = rb) := hrb; clear hS ih hcons hrb; simp only [List.length_cons] at hL; obtain ⟨m,hm⟩ : ∃ m,Ls.length = m := ⟨_,rfl⟩; have HM : Hid (Ls.length = m) := hm; have HT : Hid (∀ j,(Ls.take j).flatten.length <= Ls.flatten.length) := fun j => take_le Ls j
    rw [hm] at hlen; rw [hm]; have hmm : m <= 1048576 := by omega
    obtain ⟨W1,hW1⟩ : ∃ W1,w.alloc (.cells #[.int .i64 k,.int .u64 x,.string s0,.slice ad m cap] 43) = W1 := ⟨_,rfl⟩; obtain ⟨Eb,hEb⟩ : ∃ Eb,w.heap.size = Eb := ⟨_,rfl⟩; have HB1 : Hid (Below w.heap.size w W1 /\ W1.heap[Eb]? = some (.cells #[.int .i64 k,.int .u64 x,.string s0,.slice ad m cap] 43 (0,0))) := by
      rw [<- hW1,<- hEb]; exact ⟨bel1 _ _,heap_alloc_new _ _⟩
    have HW1 : Hid (w.alloc (.cells #[.int .i64 k,.int .u64 x,.string s0,.slice ad m cap] 43) = W1 /\ w.heap.size = Eb) := ⟨hW1,hEb⟩; have c2 : W1.cell? ⟨Eb,2,none⟩ = some (.string s0) := cell_of HB1.out.2 2; clear hW1 hEb hm
    go_enter Tryz.func18,Tryz.ntmps18
    go_upto_region 1 with fail
    rw [HW1.out.1,HW1.out.2]; cases hx : (s0.toList == s.toList) with
    | true =>
      have HZ : Hid (rb = true) := by have h5 := HRB.out; rw [hx,Bool.true_or] at h5; exact h5.symm
      go_wp2_with fail
      go_ret
      exact ⟨by rw [HZ.out]; rfl,HB1.out.1⟩
    | false =>
      have HRB2 : Hid (anyN s Ls.flatten = rb) := by have h5 := HRB.out; rw [hx,Bool.false_or] at h5; exact h5
      clear HRB
      go_wp2_with fail
      clear c2
      go_loopg [5] m (fun gk v5 wr => ∃ j : Nat,v5 = .int .i64 (j : Int) /\ j + gk = m /\ Aside (Below W1.heap.size W1 wr /\ anyN s (Ls.take j).flatten = false))
      case atStart => exact ⟨0,rfl,by omega,Below.refl _ _,rfl⟩
      case round =>
        obtain ⟨j,rfl,hj,HR⟩ := hrel; have hbx := blk_next HB1.out.2 HR.out.1; have c3 : wr.cell? ⟨Eb,3,none⟩ = some (.slice ad m cap) := cell_of hbx 3; clear hbx
        by_cases hlt : j < m
        · have q1 : (j : Int) < (m : Int) := by omega
          have hbw : Below w.heap.size w wr := bnx HB1.out.1 HR.out.1; obtain ⟨b,o,rfl,hbB,hc⟩ := HS.out wr hbw (by rw [HM.out]; omega); obtain ⟨v0,v1,v2,v3,e0,e1,e2,e3,hE⟩ := hc j (by rw [HM.out]; exact hlt); have hl := take_len (Ls := Ls) (j := j) (by rw [HM.out]; exact hlt); have ht1 := HT.out (j + 1); have HC0 := HI.out _ _ wr hbw hE (by omega); obtain ⟨bb,hbb⟩ : ∃ bb,anyN s (Ls.getD j []) = bb := ⟨_,rfl⟩; rw [hbb] at HC0; have HC : Hid (Calls Tryz.prog 18 #[.agg #[v0,v1,v2,v3],.string s] wr fun e w' => e = .returned (.bool bb) /\ Below wr.heap.size wr w') := HC0; have HJ : Hid (j < Ls.length /\ anyN s (Ls.getD j []) = bb) := ⟨by rw [HM.out]; exact hlt,hbb⟩; clear hc hE hl ht1 HC0 hbb hbw
          go_wp2_with fail
          refine HC.out.mono ?_; rintro e w5 ⟨rfl,hb5⟩; have H5 : Hid (Below W1.heap.size W1 w5) := bnx HR.out.1 hb5; clear hb5 HC c3 e0 e1 e2 e3; cases bb with
          | true =>
            have HZ : Hid (rb = true /\ Below w.heap.size w w5) := ⟨HRB2.out.symm.trans (anyN_in s Ls j HJ.out.1 HJ.out.2),bnx HB1.out.1 H5.out⟩; clear HJ
            go_wp2_with fail
            go_ret
            exact ⟨by rw [HZ.out.1]; rfl,HZ.out.2⟩
          | false =>
            have HZ : Hid (Below W1.heap.size W1 w5 /\ anyN s (Ls.take (j + 1)).flatten = false) := ⟨H5.out,by rw [anyN_flat s Ls j HJ.out.1,HR.out.2,HJ.out.2]; rfl⟩; clear HJ HR
            go_wp2_with fail
            go_roundg (m - (j + 1))
            case measure => omega
            case rel => exact ⟨j + 1,by simp,by omega,HZ.out⟩
        obtain rfl : m = j := by omega
        have q1 : ¬ (m : Int) < (m : Int) := by omega
        have HZ : Hid (rb = false /\ Below w.heap.size w wr) := ⟨by have h5 := HR.out.2; rw [List.take_of_length_le (by rw [HM.out]; exact Nat.le_refl _)] at h5; exact HRB2.out.symm.trans h5,bnx HB1.out.1 HR.out.1⟩
        go_wp2_with fail
        go_ret
        exact ⟨by rw [HZ.out.1]; rfl,HZ.out.2⟩
theorem hts_rn (a b : ByteArray) : ∀ Ls : List (List Nd),hts (Ls.map (fun L => L.map (rnN a b))) = hts Ls
  | [] => rfl
  | L :: r => by
    simp only [List.map_cons,hts]; rw [hts_rn a b r]; cases L <;> rfl
theorem getD_map_nil (f : List Nd -> List Nd) (h0 : f [] = []) (Ls : List (List Nd)) (j : Nat) : (Ls.map f).getD j [] = f (Ls.getD j []) := by
  rw [List.getD_eq_getElem?_getD,List.getD_eq_getElem?_getD,List.getElem?_map]; cases Ls[j]? with
  | none => simp [h0]
  | some x => rfl
set_option maxHeartbeats 16000000 in
set_option maxRecDepth 100000 in
theorem called_any (a b : ByteArray) : ∀ (n : Nat) (L : List Nd) (cs : List Value) (w : World) (P : Nat -> Prop),RE w P n L cs -> (∀ j,P j -> j < w.heap.size) -> L.length <= 1048576 ->
    Calls Tryz.prog 19 #[.agg cs.toArray,.string a,.string b] w fun e w' => ∃ cs',e = .returned (.agg cs'.toArray) /\ Below w.heap.size w w' /\ RE w' (fun b => w.heap.size <= b /\ b < w'.heap.size) n (L.map (rnN a b)) cs' := by
  intro n
  induction n with
  | zero => intro L cs w P h; exact h.elim
  | succ n ih =>
    intro L cs w P h hB hL; obtain ⟨k,x,s0,ad,cap,Ls,rfl,rfl,hS⟩ := h; have hlen := hS.len; have HS : Hid (∀ X,Below w.heap.size w X -> RS X P (RE X P n) Ls ad) := fun X hX => hS.over (fun j hj => hX.block j (hB j hj))
    have HI : Hid (∀ L cs X,Below w.heap.size w X -> RE X P n L cs -> L.length <= 1048576 -> Calls Tryz.prog 19 #[.agg cs.toArray,.string a,.string b] X fun e w' => ∃ cs',e = .returned (.agg cs'.toArray) /\ Below X.heap.size X w' /\ RE w' (fun b => X.heap.size <= b /\ b < w'.heap.size) n (L.map (rnN a b)) cs') := fun L cs X hX hE hl => ih L cs X P hE (fun j hj => Nat.lt_of_lt_of_le (hB j hj) hX.size) hl
    obtain ⟨sn,hsn⟩ : ∃ sn,rn a b s0 = sn := ⟨_,rfl⟩; obtain ⟨Ms,hMs⟩ : ∃ Ms,Ls.map (fun L => L.map (rnN a b)) = Ms := ⟨_,rfl⟩; have HMs : Hid (∀ j,Ms.getD j [] = (Ls.getD j []).map (rnN a b)) := fun j => by rw [<- hMs]; exact getD_map_nil _ rfl Ls j
    have HMl : Hid (Ms.length = Ls.length) := by show _ = _; rw [<- hMs,List.length_map]
    have HFin : Hid (∀ X (aK : Option Addr) (cK : Nat),RS X (fun b => w.heap.size <= b /\ b < X.heap.size) (RE X (fun b => w.heap.size <= b /\ b < X.heap.size) n) Ms aK -> RE X (fun b => w.heap.size <= b /\ b < X.heap.size) (n + 1) ((⟨k,x,s0,Ls.length,hts Ls + 1⟩ :: Ls.flatten : List Nd).map (rnN a b)) [.int .i64 k,.int .u64 x,.string sn,.slice aK Ls.length cK]) := fun X aK cK h => by
      refine ⟨k,x,sn,aK,cK,Ms,?_,by rw [HMl.out],h⟩; rw [List.map_cons,<- hMs,List.length_map,hts_rn,List.map_flatten]
      show rnN a b _ :: _ = _
      unfold rnN; rw [hsn]
    clear hS ih hMs; simp only [List.length_cons] at hL; obtain ⟨m,hm⟩ : ∃ m,Ls.length = m := ⟨_,rfl⟩; have HM : Hid (Ls.length = m) := hm; have HT : Hid (∀ j,(Ls.take j).flatten.length <= Ls.flatten.length) := fun j => take_le Ls j
    have HBP : Hid (∀ j,P j -> j < w.heap.size) := hB; rw [hm] at hlen HFin HMl
    generalize hLL : ((⟨k,x,s0,Ls.length,hts Ls + 1⟩ :: Ls.flatten : List Nd).map (rnN a b)) = LL
    rw [hm] at hLL; rw [hLL] at HFin; clear hLL; rw [hm]; have hmm : m <= 1048576 := by omega
    obtain ⟨i0,hi,hz0,hz1,hz2⟩ := info_parts (P := Tryz.prog) (e := 43) (z := .agg #[.int .i64 0,.int .u64 0,.string ⟨#[]⟩,.slice none 0 0]) (size := 4) (bytes := 56) (by kernel_rfl); obtain ⟨Eb,hEb⟩ : ∃ Eb,w.heap.size = Eb := ⟨_,rfl⟩; obtain ⟨W0,hW0⟩ : ∃ W0,((w.alloc (.cells #[.int .i64 k,.int .u64 x,.string s0,.slice ad m cap] 43)).alloc (.cells #[.int .i64 0,.int .u64 0,.string ⟨#[]⟩,.slice none 0 0] 43)).alloc (.cells #[.int .i64 k,.int .u64 x,.string s0,.slice ad m cap] 43) = W0 := ⟨_,rfl⟩; have h3 := threeE hW0 hEb; have HW0 : Hid (((w.alloc (.cells #[.int .i64 k,.int .u64 x,.string s0,.slice ad m cap] 43)).alloc (.cells #[.int .i64 0,.int .u64 0,.string ⟨#[]⟩,.slice none 0 0] 43)).alloc (.cells #[.int .i64 k,.int .u64 x,.string s0,.slice ad m cap] 43) = W0 /\ w.heap.size = Eb) := ⟨hW0,hEb⟩; have c2 : W0.cell? ⟨Eb + 1 + 1,2,none⟩ = some (.string s0) := cell_of h3.2.2.2.2 2; have c3 : W0.cell? ⟨Eb + 1 + 1,3,none⟩ = some (.slice ad m cap) := cell_of h3.2.2.2.2 3; have f2 := fz_of h3.2.2.2.2 2; have f3 := fz_of h3.2.2.2.2 3; have H0 : Hid (Below w.heap.size w W0 /\ W0.heap.size = Eb + 3 /\ W0.heap[Eb]? = some (.cells #[.int .i64 k,.int .u64 x,.string s0,.slice ad m cap] 43 (0,0)) /\ W0.heap[Eb + 1]? = some (.cells #[.int .i64 0,.int .u64 0,.string ⟨#[]⟩,.slice none 0 0] 43 (0,0)) /\ W0.heap[Eb + 1 + 1]? = some (.cells #[.int .i64 k,.int .u64 x,.string s0,.slice ad m cap] 43 (0,0))) := h3; clear h3 hW0 hEb hm
    go_enter Tryz.func19,Tryz.ntmps19
    go_upto_region 2 with fail
    rw [HW0.out.2,HW0.out.1]; obtain ⟨W1,hB1⟩ : ∃ W1 : World,(Below w.heap.size w W1 /\ W1.heap.size = Eb + 3 /\ W1.heap[Eb]? = some (.cells #[.int .i64 k,.int .u64 x,.string s0,.slice ad m cap] 43 (0,0)) /\ W1.heap[Eb + 1]? = some (.cells #[.int .i64 0,.int .u64 0,.string ⟨#[]⟩,.slice none 0 0] 43 (0,0)) /\ W1.heap[Eb + 1 + 1]? = some (.cells #[.int .i64 k,.int .u64 x,.string sn,.slice none 0 0] 43 (0,0))) /\ W1 = (if (s0.toList == a.toList) = true then W0.setCell ⟨Eb + 1 + 1,2,none⟩ (.string b) else W0).setCell ⟨Eb + 1 + 1,3,none⟩ (.slice none 0 0) := by
      refine ⟨_,?_,rfl⟩; unfold rn at hsn
      by_cases hx : (s0.toList == a.toList) = true
      · rw [if_pos hx] at hsn ⊢
        subst hsn; refine ⟨(H0.out.1.setCell (p := ⟨Eb + 1 + 1,2,none⟩) (by show _ <= Eb + 1 + 1; have := HW0.out.2; omega) _).setCell (p := ⟨Eb + 1 + 1,3,none⟩) (by show _ <= Eb + 1 + 1; have := HW0.out.2; omega) _,by simp [H0.out.2.1],?_,?_,?_⟩
        · rw [heap_setCell_other _ _ _ _ (by show Eb ≠ Eb + 1 + 1; omega),heap_setCell_other _ _ _ _ (by show Eb ≠ Eb + 1 + 1; omega)]; exact H0.out.2.2.1
        · rw [heap_setCell_other _ _ _ _ (by show Eb + 1 ≠ Eb + 1 + 1; omega),heap_setCell_other _ _ _ _ (by show Eb + 1 ≠ Eb + 1 + 1; omega)]; exact H0.out.2.2.2.1
        rw [heap_setCell_same _ _ 3 _ _ _ (heap_setCell_same _ _ 2 _ _ _ H0.out.2.2.2.2)]; rfl
      rw [if_neg hx] at hsn ⊢; subst hsn; refine ⟨H0.out.1.setCell (p := ⟨Eb + 1 + 1,3,none⟩) (by show _ <= Eb + 1 + 1; have := HW0.out.2; omega) _,by simp [H0.out.2.1],?_,?_,?_⟩
      · rw [heap_setCell_other _ _ _ _ (by show Eb ≠ Eb + 1 + 1; omega)]; exact H0.out.2.2.1
      · rw [heap_setCell_other _ _ _ _ (by show Eb + 1 ≠ Eb + 1 + 1; omega)]; exact H0.out.2.2.2.1
      rw [heap_setCell_same _ _ 3 _ _ _ H0.out.2.2.2.2]; rfl
    obtain ⟨hB1,hW1⟩ := hB1; have HB1 : Hid (Below w.heap.size w W1 /\ W1.heap.size = Eb + 3 /\ W1.heap[Eb]? = some (.cells #[.int .i64 k,.int .u64 x,.string s0,.slice ad m cap] 43 (0,0)) /\ W1.heap[Eb + 1]? = some (.cells #[.int .i64 0,.int .u64 0,.string ⟨#[]⟩,.slice none 0 0] 43 (0,0)) /\ W1.heap[Eb + 1 + 1]? = some (.cells #[.int .i64 k,.int .u64 x,.string sn,.slice none 0 0] 43 (0,0))) := hB1; clear hB1 hsn; cases hx : (s0.toList == a.toList) with
    | true =>
      rw [hx,if_pos rfl] at hW1; have f3' : (W0.setCell ⟨Eb + 1 + 1,2,none⟩ (.string b)).frozen? ⟨Eb + 1 + 1,3,none⟩ = false := fz_of (heap_setCell_same _ _ 2 _ _ _ H0.out.2.2.2.2) 3; have c3' : (W0.setCell ⟨Eb + 1 + 1,2,none⟩ (.string b)).cell? ⟨Eb + 1 + 1,3,none⟩ = some (.slice ad m cap) := by rw [cell_of (heap_setCell_same _ _ 2 _ _ _ H0.out.2.2.2.2)]; rfl
      have HW1 : Hid ((W0.setCell ⟨Eb + 1 + 1,2,none⟩ (.string b)).setCell ⟨Eb + 1 + 1,3,none⟩ (.slice none 0 0) = W1) := hW1.symm; clear hW1
      go_upto_region 5 with fail
      rw [HW1.out]; clear c2 c3 f2 f3 f3' c3' HW1
      go_wp2_with fail
      go_loopg [8] m (fun gk v8 wr => ∃ j : Nat,v8 = .int .i64 (j : Int) /\ j + gk = m /\ Aside (∃ vK,KX W1 wr (Eb + 1 + 1) k x sn n (Ms.take j) vK))
      case atStart => exact ⟨0,rfl,by omega,_,KX.nil W1 (Eb + 1 + 1) k x sn n HB1.out.2.2.2.2⟩
      case round =>
        obtain ⟨j,rfl,hj,HR⟩ := hrel; obtain ⟨vK,css,hkx⟩ := HR.out; have hjM : j <= m := by omega
        have hlt2 : (Ms.take j).length = j := by rw [List.length_take,HMl.out]; omega
        obtain ⟨aK,cK,rfl,hcK⟩ : ∃ a c,vK = .slice a j c /\ j <= c := by
          have hrow := hkx.2.2.1; rw [hlt2] at hrow
          rcases hrow.2 with ⟨e,e0⟩ | ⟨g,cap,cur,e,_,_,h3,_⟩
          · exact ⟨none,0,by rw [e,e0],by omega⟩
          exact ⟨_,cap,e,h3⟩
        have HKX : Hid (KXc W1 wr (Eb + 1 + 1) k x sn n (Ms.take j) (.slice aK j cK) css) := hkx; have HLt : Hid ((Ms.take j).length = j) := hlt2; have hoth := hkx.2.2.2.1; have hbw : Below w.heap.size w wr := by
          have h5 := HB1.out.1; have h6 := HW0.out.2; exact ⟨hoth.os.trans h5.os,hoth.tape.trans h5.tape,hoth.output.trans h5.output,Nat.le_trans h5.size hoth.size,fun q hq => (hoth.block q (Nat.lt_of_lt_of_le hq h5.size) (by omega)).trans (h5.block q hq)⟩
        have k0 : wr.heap[Eb]? = some (.cells #[.int .i64 k,.int .u64 x,.string s0,.slice ad m cap] 43 (0,0)) := (hoth.block Eb (by have := HB1.out.2.1; omega) (by omega)).trans HB1.out.2.2.1; have kf : wr.heap[Eb + 1 + 1]? = some (.cells #[.int .i64 k,.int .u64 x,.string sn,.slice aK j cK] 43 (0,0)) := hkx.2.2.2.2.1; have kr : wr.heap[Eb + 1]? = some (.cells #[.int .i64 0,.int .u64 0,.string ⟨#[]⟩,.slice none 0 0] 43 (0,0)) := (hoth.block (Eb + 1) (by have := HB1.out.2.1; omega) (by omega)).trans HB1.out.2.2.2.1; have HKs : Hid (wr.heap[Eb]? = some (.cells #[.int .i64 k,.int .u64 x,.string s0,.slice ad m cap] 43 (0,0)) /\ wr.heap[Eb + 1]? = some (.cells #[.int .i64 0,.int .u64 0,.string ⟨#[]⟩,.slice none 0 0] 43 (0,0)) /\ wr.heap[Eb + 1 + 1]? = some (.cells #[.int .i64 k,.int .u64 x,.string sn,.slice aK j cK] 43 (0,0)) /\ Below w.heap.size w wr /\ W1.heap.size <= wr.heap.size) := ⟨k0,kr,kf,hbw,hoth.size⟩; have c3 : wr.cell? ⟨Eb,3,none⟩ = some (.slice ad m cap) := cell_of k0 3; clear hkx hoth hlt2 hbw k0 kr kf
        by_cases hlt : j < m
        · have q1 : (j : Int) < (m : Int) := by omega
          have hd0 : Below wr.heap.size wr wr.drew := ⟨rfl,rfl,rfl,Nat.le_refl _,fun _ _ => rfl⟩; obtain ⟨bS,oS,rfl,hbB,hc⟩ := HS.out wr.drew (bnx HKs.out.2.2.2.1 hd0) (by rw [HM.out]; omega); obtain ⟨v0,v1,v2,v3,e0,e1,e2,e3,hE⟩ := hc j (by rw [HM.out]; exact hlt); have hl := take_len (Ls := Ls) (j := j) (by rw [HM.out]; exact hlt); have ht1 := HT.out (j + 1); have HC0 := HI.out _ _ wr.drew (bnx HKs.out.2.2.2.1 hd0) hE (by omega); have HC : Hid (Calls Tryz.prog 19 #[.agg #[v0,v1,v2,v3],.string a,.string b] wr.drew fun e w' => ∃ cs',e = .returned (.agg cs'.toArray) /\ Below wr.drew.heap.size wr.drew w' /\ RE w' (fun b => wr.drew.heap.size <= b /\ b < w'.heap.size) n ((Ls.getD j []).map (rnN a b)) cs') := HC0; have HTk : Hid (Ms.take (j + 1) = Ms.take j ++ [(Ls.getD j []).map (rnN a b)]) := by
            show _ = _
            rw [<- HMs.out j,List.take_succ_eq_append_getElem (by rw [HMl.out]; exact hlt),List.getD_eq_getElem?_getD,List.getElem?_eq_getElem (by rw [HMl.out]; exact hlt)]
            rfl
          have hbS : bS < wr.heap.size := Nat.lt_of_lt_of_le (HBP.out bS hbB) HKs.out.2.2.2.1.size; have HSk : Hid (∀ W,Below wr.heap.size wr W -> W.cell? ⟨Eb + 1 + 1,3,none⟩ = some (.slice aK j cK) /\ W.cell? ⟨Eb,3,none⟩ = some (.slice (some ⟨bS,oS,none⟩) m cap) /\ W.cell? ⟨bS,oS + j * 4,none⟩ = some v0 /\ W.cell? ⟨bS,oS + j * 4 + 1,none⟩ = some v1 /\ W.cell? ⟨bS,oS + j * 4 + 2,none⟩ = some v2 /\ W.cell? ⟨bS,oS + j * 4 + 3,none⟩ = some v3) := fun W h => by
            have hcc : ∀ i,W.cell? ⟨bS,i,none⟩ = wr.cell? ⟨bS,i,none⟩ := fun i => h.cell (p := ⟨bS,i,none⟩) hbS
            refine ⟨cell_of (blk_next HKs.out.2.2.1 h) 3,cell_of (blk_next HKs.out.1 h) 3,(hcc _).trans e0,(hcc _).trans e1,(hcc _).trans e2,(hcc _).trans e3⟩
          have HbB : Hid (P bS) := hbB; clear hc hE hl ht1 HC0 e0 e1 e2 e3 hbS hbB
          go_upto_region 8 with fail
          refine se_start (fun W => W.cell? ⟨Eb + 1 + 1,3,none⟩ = some (.slice aK j cK) /\ W.cell? ⟨Eb,3,none⟩ = some (.slice (some ⟨bS,oS,none⟩) m cap) /\ W.cell? ⟨bS,oS + j * 4,none⟩ = some v0 /\ W.cell? ⟨bS,oS + j * 4 + 1,none⟩ = some v1 /\ W.cell? ⟨bS,oS + j * 4 + 2,none⟩ = some v2 /\ W.cell? ⟨bS,oS + j * 4 + 3,none⟩ = some v3) 13 [9,10,11,13] [0,1,2,3,4,5,6,7,8,9,10,11,12,13] (by kernel_rfl) (by kernel_rfl) ?_; have hHeld := HSk.out wr.drew hd0
          repeat (refine se_op (v := ?_) (by rfl) (by rfl) (by rfl) hHeld ?_ ?_; rotate_left; (focus (intro w hSw; (try dsimp only at hSw); go_simp <;> with_reducible rfl)); simp only [Act.put,z0,z1,z2])
          refine se_do (by rfl) (by rfl) (by rfl) (fun K hK => ?_)
          go_simp
          go_at_call 19
          refine HC.out.mono ?_; rintro e w5 ⟨cs',rfl,hb5,hE5⟩; obtain ⟨k5,x5,s5,a5,m5,c5,rfl⟩ := hE5.shape; have hb5' : Below wr.heap.size wr w5 := ⟨hb5.os,hb5.tape,hb5.output,hb5.size,hb5.block⟩; have HE5 : Hid (RE w5 (fun b => wr.heap.size <= b /\ b < w5.heap.size) n ((Ls.getD j []).map (rnN a b)) [.int .i64 k5,.int .u64 x5,.string s5,.slice a5 m5 c5] /\ Below wr.heap.size wr w5) := ⟨hE5,hb5'⟩; obtain ⟨G5,hG5⟩ : ∃ G5,w5.heap.size = G5 := ⟨_,rfl⟩; obtain ⟨w6,hw6⟩ : ∃ w6,w5.alloc (.cells #[.int .i64 k5,.int .u64 x5,.string s5,.slice a5 m5 c5] 43) = w6 := ⟨_,rfl⟩; have hb6 : Below w5.heap.size w5 w6 := by rw [<- hw6]; exact bel1 _ _
          have HW6 : Hid (w5.alloc (.cells #[.int .i64 k5,.int .u64 x5,.string s5,.slice a5 m5 c5] 43) = w6 /\ w5.heap.size = G5) := ⟨hw6,hG5⟩; have H6 : Hid (Below wr.heap.size wr w6 /\ w6.ownsRow W1.heap.size 43 4 (.slice aK j cK) j css.flatten /\ w6.heap.size = G5 + 1) := by
            have h5 := HKX.out.2.2.1; rw [HLt.out] at h5; exact ⟨bnx hb5' hb6,row_below h5 (bnx hb5' hb6),by rw [<- hw6,<- hG5]; simp⟩
          have HNw : Hid (∀ i u,([Value.int .i64 k5,.int .u64 x5,.string s5,.slice a5 m5 c5])[i]? = some u -> w6.cell? ((⟨G5,0,none⟩ : Addr).add i) = some u) := fun i u hu => by
            rw [Addr.add_lit,Nat.zero_add,<- hw6,<- hG5,cell_of (heap_alloc_new _ _)]
            simpa using hu
          have hH5 := HSk.out w5 hb5'; have hH6 := HSk.out w6 (bnx hb5' hb6); clear hE5 hb5 hb5' hw6 hG5 hb6 HC hHeld; refine hK.out _ _ hH5 ?_; clear hK K
          try simp only [Act.put,z0,z1,z2]
          refine se_do (by rfl) (by rfl) (by rfl) (fun K hK => ?_)
          go_simp
          rw [HW6.out.1,HW6.out.2]; refine hK.out _ _ hH6 ?_; clear hK K hH5
          try simp only [Act.put,z0,z1,z2]
          refine se_do (by rfl) (by rfl) (by rfl) (fun K hK => ?_)
          refine wp_append_lies _ _ _ 41 rfl W1.heap.size 43 i0 _ 4 56 Tryz.underlying41 hi hz0 hz1 hz2 rfl (by decide) (.slice aK j cK) j css.flatten (by rfl) H6.out.2.1 ⟨G5,0,none⟩ 1 1 [.int .i64 k5,.int .u64 x5,.string s5,.slice a5 m5 c5] (by rfl) rfl HNw.out (by intro u hu; simp only [List.mem_cons,List.not_mem_nil,or_false] at hu; rcases hu with rfl | rfl | rfl | rfl <;> rfl) (by omega) (by unfold maxLen; omega) (by omega) (Nat.le_trans HKs.out.2.2.2.2 H6.out.1.size) w6.heap.size rfl ?_; intro g7 cap7 w7 hown7 hgrow7 hat7 hlt7; have h7 := KX.push (hn := HLt.out) (by have := HB1.out.2.1; omega) HKX.out HE5.out.2 HE5.out.1 hown7 (by rw [HW6.out.1]; exact hgrow7) (by rcases hat7 with h | h; exact Or.inl h; exact Or.inr (by rw [h,H6.out.2.2,HW6.out.2])); have kf7 := h7.1; have HN7 : Hid (∃ vK,KX W1 (w7.setCell ⟨Eb + 1 + 1,3,none⟩ (.slice (some ⟨g7,0,none⟩) (j + 1) cap7)) (Eb + 1 + 1) k x sn n (Ms.take (j + 1)) vK) := by
            refine ⟨.slice (some ⟨g7,0,none⟩) (j + 1) cap7,?_⟩; rw [HTk.out]; exact h7.2
          have hH7 : w7.cell? ⟨Eb + 1 + 1,3,none⟩ = some (.slice aK j cK) /\ w7.cell? ⟨Eb,3,none⟩ = some (.slice (some ⟨bS,oS,none⟩) m cap) /\ w7.cell? ⟨bS,oS + j * 4,none⟩ = some v0 /\ w7.cell? ⟨bS,oS + j * 4 + 1,none⟩ = some v1 /\ w7.cell? ⟨bS,oS + j * 4 + 2,none⟩ = some v2 /\ w7.cell? ⟨bS,oS + j * 4 + 3,none⟩ = some v3 := by
            have ho : ∀ q i,q < wr.heap.size -> (Value.slice aK j cK).ownBlock ≠ some q -> w7.cell? ⟨q,i,none⟩ = w6.cell? ⟨q,i,none⟩ := fun q i hq hn => World.cell?_of_block (a := ⟨q,i,none⟩) (hgrow7.block q (Nat.lt_of_lt_of_le hq H6.out.1.size) (fun e => hn e.symm))
            have hv : ∀ q,(Value.slice aK j cK).ownBlock = some q -> W1.heap.size <= q := fun q hq => (H6.out.2.1.lt q hq).1
            have hW1s := HB1.out.2.1; have hbig := HKs.out.2.2.2.2; have hbS : bS < Eb := by have := HBP.out bS HbB.out; have := HW0.out.2; omega
            have hn : ∀ q,q < Eb + 3 -> (Value.slice aK j cK).ownBlock ≠ some q := fun q hq e => by have := hv q e; omega
            exact ⟨(ho _ _ (by omega) (hn _ (by omega))).trans hH6.1,(ho _ _ (by omega) (hn _ (by omega))).trans hH6.2.1,(ho _ _ (by omega) (hn _ (by omega))).trans hH6.2.2.1,(ho _ _ (by omega) (hn _ (by omega))).trans hH6.2.2.2.1,(ho _ _ (by omega) (hn _ (by omega))).trans hH6.2.2.2.2.1,(ho _ _ (by omega) (hn _ (by omega))).trans hH6.2.2.2.2.2⟩
          have f7 := fz_of kf7 3; have z7 := cell_of kf7 3; clear hown7 hgrow7 hat7 hlt7 h7 kf7 HNw hH6 HE5 H6 HKX; have hHeld := hH7; refine hK.out _ _ hH7 ?_; clear hK K hH7
          try simp only [Act.put,z0,z1,z2]
          repeat (refine se_op (v := ?_) (by rfl) (by rfl) (by rfl) hHeld ?_ ?_; rotate_left; (focus (intro w hSw; (try dsimp only at hSw); go_simp <;> with_reducible rfl)); simp only [Act.put,z0,z1,z2])
          refine se_last (by rfl) (by rfl) (by rfl) (by rfl) (fun K hK => ?_)
          go_simp
          refine hK.out _ _ ?_; clear hK K hHeld f7 z7
          go_wp2_with fail
          go_roundg (m - (j + 1))
          case measure => omega
          case rel => exact ⟨j + 1,by simp,by omega,HN7.out⟩
        obtain rfl : m = j := by omega
        have q1 : ¬ (m : Int) < (m : Int) := by omega
        have b0 := cell_of HKs.out.2.2.1 0; have b1 := cell_of HKs.out.2.2.1 1; have b2 := cell_of HKs.out.2.2.1 2; have b3 := cell_of HKs.out.2.2.1 3; have r0 := cell_of HKs.out.2.1 0; have r1 := cell_of HKs.out.2.1 1; have r2 := cell_of HKs.out.2.1 2; have r3 := cell_of HKs.out.2.1 3; have y0 := fz_of HKs.out.2.1 0; have y1 := fz_of HKs.out.2.1 1; have y2 := fz_of HKs.out.2.1 2; have y3 := fz_of HKs.out.2.1 3
        go_wp2_with fail
        obtain ⟨wy,hwy⟩ : ∃ wy,(((wr.setCell ⟨Eb + 1,0,none⟩ (.int .i64 k)).setCell ⟨Eb + 1,1,none⟩ (.int .u64 x)).setCell ⟨Eb + 1,2,none⟩ (.string sn)).setCell ⟨Eb + 1,3,none⟩ (.slice aK m cK) = wy := ⟨_,rfl⟩; have k1 : wy.heap[Eb + 1]? = some (.cells #[.int .i64 k,.int .u64 x,.string sn,.slice aK m cK] 43 (0,0)) := by
          rw [<- hwy,heap_setCell_same _ _ 3 _ _ _ (heap_setCell_same _ _ 2 _ _ _ (heap_setCell_same _ _ 1 _ _ _ (heap_setCell_same _ _ 0 _ _ _ HKs.out.2.1)))]
          simp
        have k2 : ∀ q,q ≠ Eb + 1 -> wy.heap[q]? = wr.heap[q]? := fun q h2 => by
          rw [<- hwy,heap_setCell_other _ _ _ _ h2,heap_setCell_other _ _ _ _ h2,heap_setCell_other _ _ _ _ h2,heap_setCell_other _ _ _ _ h2]
        have k3 : wy.heap.size = wr.heap.size /\ wy.os = wr.os /\ wy.tape = wr.tape /\ wy.output = wr.output := by rw [<- hwy]; exact ⟨by simp,rfl,rfl,rfl⟩
        have hwE := HW0.out.2; have hW1s := HB1.out.2.1; have hbw := HKs.out.2.2.2.1; rw [hwy]; refine bodyPost_ret (res1E rfl _ _ (Eb + 1) _ _ _ rfl k1 rfl) rfl ?_; refine ⟨[.int .i64 k,.int .u64 x,.string sn,.slice aK m cK],rfl,⟨k3.2.1.trans hbw.os,k3.2.2.1.trans hbw.tape,k3.2.2.2.trans hbw.output,by rw [k3.1]; exact hbw.size,fun q hq => ?_⟩,HFin.out wy aK cK ?_⟩
        · rw [k2 q (by omega)]
          exact hbw.block q hq
        have et : Ms.take m = Ms := List.take_of_length_le (by rw [HMl.out]; exact Nat.le_refl _); have hrs : RS wr (fun b => W1.heap.size <= b /\ b < wr.heap.size) (RE wr (fun b => W1.heap.size <= b /\ b < wr.heap.size) n) Ms aK := by
          have h5 : KX W1 wr (Eb + 1 + 1) k x sn n (Ms.take m) (.slice aK m cK) := ⟨css,HKX.out⟩; rw [et] at h5; have h6 : KX W1 wr (Eb + 1 + 1) k x sn n Ms (.slice aK Ms.length cK) := by rw [HMl.out]; exact h5
          exact KX.rs h6
        have h8 := hrs.over (X := wy) (fun b hb => k2 b (by omega)); intro h0; obtain ⟨b',o',e,hlt,hc⟩ := h8 h0; refine ⟨b',o',e,⟨by omega,by omega⟩,fun j hj => ?_⟩; obtain ⟨v0,v1,v2,v3,c0,c1,c2,c3,hE⟩ := hc j hj; exact ⟨v0,v1,v2,v3,c0,c1,c2,c3,hE.mono (fun b hb => ⟨by omega,by omega⟩)⟩
    | false =>
      rw [hx,if_neg (by simp)] at hW1; have HW1 : Hid (W0.setCell ⟨Eb + 1 + 1,3,none⟩ (.slice none 0 0) = W1) := hW1.symm; clear hW1
      go_upto_region 5 with fail
      rw [HW1.out]; clear c2 c3 f2 f3 HW1
      go_wp2_with fail
      go_loopg [8] m (fun gk v8 wr => ∃ j : Nat,v8 = .int .i64 (j : Int) /\ j + gk = m /\ Aside (∃ vK,KX W1 wr (Eb + 1 + 1) k x sn n (Ms.take j) vK))
      case atStart => exact ⟨0,rfl,by omega,_,KX.nil W1 (Eb + 1 + 1) k x sn n HB1.out.2.2.2.2⟩
      case round =>
        obtain ⟨j,rfl,hj,HR⟩ := hrel; obtain ⟨vK,css,hkx⟩ := HR.out; have hjM : j <= m := by omega
        have hlt2 : (Ms.take j).length = j := by rw [List.length_take,HMl.out]; omega
        obtain ⟨aK,cK,rfl,hcK⟩ : ∃ a c,vK = .slice a j c /\ j <= c := by
          have hrow := hkx.2.2.1; rw [hlt2] at hrow
          rcases hrow.2 with ⟨e,e0⟩ | ⟨g,cap,cur,e,_,_,h3,_⟩
          · exact ⟨none,0,by rw [e,e0],by omega⟩
          exact ⟨_,cap,e,h3⟩
        have HKX : Hid (KXc W1 wr (Eb + 1 + 1) k x sn n (Ms.take j) (.slice aK j cK) css) := hkx; have HLt : Hid ((Ms.take j).length = j) := hlt2; have hoth := hkx.2.2.2.1; have hbw : Below w.heap.size w wr := by
          have h5 := HB1.out.1; have h6 := HW0.out.2; exact ⟨hoth.os.trans h5.os,hoth.tape.trans h5.tape,hoth.output.trans h5.output,Nat.le_trans h5.size hoth.size,fun q hq => (hoth.block q (Nat.lt_of_lt_of_le hq h5.size) (by omega)).trans (h5.block q hq)⟩
        have k0 : wr.heap[Eb]? = some (.cells #[.int .i64 k,.int .u64 x,.string s0,.slice ad m cap] 43 (0,0)) := (hoth.block Eb (by have := HB1.out.2.1; omega) (by omega)).trans HB1.out.2.2.1; have kf : wr.heap[Eb + 1 + 1]? = some (.cells #[.int .i64 k,.int .u64 x,.string sn,.slice aK j cK] 43 (0,0)) := hkx.2.2.2.2.1; have kr : wr.heap[Eb + 1]? = some (.cells #[.int .i64 0,.int .u64 0,.string ⟨#[]⟩,.slice none 0 0] 43 (0,0)) := (hoth.block (Eb + 1) (by have := HB1.out.2.1; omega) (by omega)).trans HB1.out.2.2.2.1; have HKs : Hid (wr.heap[Eb]? = some (.cells #[.int .i64 k,.int .u64 x,.string s0,.slice ad m cap] 43 (0,0)) /\ wr.heap[Eb + 1]? = some (.cells #[.int .i64 0,.int .u64 0,.string ⟨#[]⟩,.slice none 0 0] 43 (0,0)) /\ wr.heap[Eb + 1 + 1]? = some (.cells #[.int .i64 k,.int .u64 x,.string sn,.slice aK j cK] 43 (0,0)) /\ Below w.heap.size w wr /\ W1.heap.size <= wr.heap.size) := ⟨k0,kr,kf,hbw,hoth.size⟩; have c3 : wr.cell? ⟨Eb,3,none⟩ = some (.slice ad m cap) := cell_of k0 3; clear hkx hoth hlt2 hbw k0 kr kf
        by_cases hlt : j < m
        · have q1 : (j : Int) < (m : Int) := by omega
          have hd0 : Below wr.heap.size wr wr.drew := ⟨rfl,rfl,rfl,Nat.le_refl _,fun _ _ => rfl⟩; obtain ⟨bS,oS,rfl,hbB,hc⟩ := HS.out wr.drew (bnx HKs.out.2.2.2.1 hd0) (by rw [HM.out]; omega); obtain ⟨v0,v1,v2,v3,e0,e1,e2,e3,hE⟩ := hc j (by rw [HM.out]; exact hlt); have hl := take_len (Ls := Ls) (j := j) (by rw [HM.out]; exact hlt); have ht1 := HT.out (j + 1); have HC0 := HI.out _ _ wr.drew (bnx HKs.out.2.2.2.1 hd0) hE (by omega); have HC : Hid (Calls Tryz.prog 19 #[.agg #[v0,v1,v2,v3],.string a,.string b] wr.drew fun e w' => ∃ cs',e = .returned (.agg cs'.toArray) /\ Below wr.drew.heap.size wr.drew w' /\ RE w' (fun b => wr.drew.heap.size <= b /\ b < w'.heap.size) n ((Ls.getD j []).map (rnN a b)) cs') := HC0; have HTk : Hid (Ms.take (j + 1) = Ms.take j ++ [(Ls.getD j []).map (rnN a b)]) := by
            show _ = _
            rw [<- HMs.out j,List.take_succ_eq_append_getElem (by rw [HMl.out]; exact hlt),List.getD_eq_getElem?_getD,List.getElem?_eq_getElem (by rw [HMl.out]; exact hlt)]
            rfl
          have hbS : bS < wr.heap.size := Nat.lt_of_lt_of_le (HBP.out bS hbB) HKs.out.2.2.2.1.size; have HSk : Hid (∀ W,Below wr.heap.size wr W -> W.cell? ⟨Eb + 1 + 1,3,none⟩ = some (.slice aK j cK) /\ W.cell? ⟨Eb,3,none⟩ = some (.slice (some ⟨bS,oS,none⟩) m cap) /\ W.cell? ⟨bS,oS + j * 4,none⟩ = some v0 /\ W.cell? ⟨bS,oS + j * 4 + 1,none⟩ = some v1 /\ W.cell? ⟨bS,oS + j * 4 + 2,none⟩ = some v2 /\ W.cell? ⟨bS,oS + j * 4 + 3,none⟩ = some v3) := fun W h => by
            have hcc : ∀ i,W.cell? ⟨bS,i,none⟩ = wr.cell? ⟨bS,i,none⟩ := fun i => h.cell (p := ⟨bS,i,none⟩) hbS
            refine ⟨cell_of (blk_next HKs.out.2.2.1 h) 3,cell_of (blk_next HKs.out.1 h) 3,(hcc _).trans e0,(hcc _).trans e1,(hcc _).trans e2,(hcc _).trans e3⟩
          have HbB : Hid (P bS) := hbB; clear hc hE hl ht1 HC0 e0 e1 e2 e3 hbS hbB
          go_upto_region 8 with fail
          refine se_start (fun W => W.cell? ⟨Eb + 1 + 1,3,none⟩ = some (.slice aK j cK) /\ W.cell? ⟨Eb,3,none⟩ = some (.slice (some ⟨bS,oS,none⟩) m cap) /\ W.cell? ⟨bS,oS + j * 4,none⟩ = some v0 /\ W.cell? ⟨bS,oS + j * 4 + 1,none⟩ = some v1 /\ W.cell? ⟨bS,oS + j * 4 + 2,none⟩ = some v2 /\ W.cell? ⟨bS,oS + j * 4 + 3,none⟩ = some v3) 13 [9,10,11,13] [0,1,2,3,4,5,6,7,8,9,10,11,12,13] (by kernel_rfl) (by kernel_rfl) ?_; have hHeld := HSk.out wr.drew hd0
          repeat (refine se_op (v := ?_) (by rfl) (by rfl) (by rfl) hHeld ?_ ?_; rotate_left; (focus (intro w hSw; (try dsimp only at hSw); go_simp <;> with_reducible rfl)); simp only [Act.put,z0,z1,z2])
          refine se_do (by rfl) (by rfl) (by rfl) (fun K hK => ?_)
          go_simp
          go_at_call 19
          refine HC.out.mono ?_; rintro e w5 ⟨cs',rfl,hb5,hE5⟩; obtain ⟨k5,x5,s5,a5,m5,c5,rfl⟩ := hE5.shape; have hb5' : Below wr.heap.size wr w5 := ⟨hb5.os,hb5.tape,hb5.output,hb5.size,hb5.block⟩; have HE5 : Hid (RE w5 (fun b => wr.heap.size <= b /\ b < w5.heap.size) n ((Ls.getD j []).map (rnN a b)) [.int .i64 k5,.int .u64 x5,.string s5,.slice a5 m5 c5] /\ Below wr.heap.size wr w5) := ⟨hE5,hb5'⟩; obtain ⟨G5,hG5⟩ : ∃ G5,w5.heap.size = G5 := ⟨_,rfl⟩; obtain ⟨w6,hw6⟩ : ∃ w6,w5.alloc (.cells #[.int .i64 k5,.int .u64 x5,.string s5,.slice a5 m5 c5] 43) = w6 := ⟨_,rfl⟩; have hb6 : Below w5.heap.size w5 w6 := by rw [<- hw6]; exact bel1 _ _
          have HW6 : Hid (w5.alloc (.cells #[.int .i64 k5,.int .u64 x5,.string s5,.slice a5 m5 c5] 43) = w6 /\ w5.heap.size = G5) := ⟨hw6,hG5⟩; have H6 : Hid (Below wr.heap.size wr w6 /\ w6.ownsRow W1.heap.size 43 4 (.slice aK j cK) j css.flatten /\ w6.heap.size = G5 + 1) := by
            have h5 := HKX.out.2.2.1; rw [HLt.out] at h5; exact ⟨bnx hb5' hb6,row_below h5 (bnx hb5' hb6),by rw [<- hw6,<- hG5]; simp⟩
          have HNw : Hid (∀ i u,([Value.int .i64 k5,.int .u64 x5,.string s5,.slice a5 m5 c5])[i]? = some u -> w6.cell? ((⟨G5,0,none⟩ : Addr).add i) = some u) := fun i u hu => by
            rw [Addr.add_lit,Nat.zero_add,<- hw6,<- hG5,cell_of (heap_alloc_new _ _)]
            simpa using hu
          have hH5 := HSk.out w5 hb5'; have hH6 := HSk.out w6 (bnx hb5' hb6); clear hE5 hb5 hb5' hw6 hG5 hb6 HC hHeld; refine hK.out _ _ hH5 ?_; clear hK K
          try simp only [Act.put,z0,z1,z2]
          refine se_do (by rfl) (by rfl) (by rfl) (fun K hK => ?_)
          go_simp
          rw [HW6.out.1,HW6.out.2]; refine hK.out _ _ hH6 ?_; clear hK K hH5
          try simp only [Act.put,z0,z1,z2]
          refine se_do (by rfl) (by rfl) (by rfl) (fun K hK => ?_)
          refine wp_append_lies _ _ _ 41 rfl W1.heap.size 43 i0 _ 4 56 Tryz.underlying41 hi hz0 hz1 hz2 rfl (by decide) (.slice aK j cK) j css.flatten (by rfl) H6.out.2.1 ⟨G5,0,none⟩ 1 1 [.int .i64 k5,.int .u64 x5,.string s5,.slice a5 m5 c5] (by rfl) rfl HNw.out (by intro u hu; simp only [List.mem_cons,List.not_mem_nil,or_false] at hu; rcases hu with rfl | rfl | rfl | rfl <;> rfl) (by omega) (by unfold maxLen; omega) (by omega) (Nat.le_trans HKs.out.2.2.2.2 H6.out.1.size) w6.heap.size rfl ?_; intro g7 cap7 w7 hown7 hgrow7 hat7 hlt7; have h7 := KX.push (hn := HLt.out) (by have := HB1.out.2.1; omega) HKX.out HE5.out.2 HE5.out.1 hown7 (by rw [HW6.out.1]; exact hgrow7) (by rcases hat7 with h | h; exact Or.inl h; exact Or.inr (by rw [h,H6.out.2.2,HW6.out.2])); have kf7 := h7.1; have HN7 : Hid (∃ vK,KX W1 (w7.setCell ⟨Eb + 1 + 1,3,none⟩ (.slice (some ⟨g7,0,none⟩) (j + 1) cap7)) (Eb + 1 + 1) k x sn n (Ms.take (j + 1)) vK) := by
            refine ⟨.slice (some ⟨g7,0,none⟩) (j + 1) cap7,?_⟩; rw [HTk.out]; exact h7.2
          have hH7 : w7.cell? ⟨Eb + 1 + 1,3,none⟩ = some (.slice aK j cK) /\ w7.cell? ⟨Eb,3,none⟩ = some (.slice (some ⟨bS,oS,none⟩) m cap) /\ w7.cell? ⟨bS,oS + j * 4,none⟩ = some v0 /\ w7.cell? ⟨bS,oS + j * 4 + 1,none⟩ = some v1 /\ w7.cell? ⟨bS,oS + j * 4 + 2,none⟩ = some v2 /\ w7.cell? ⟨bS,oS + j * 4 + 3,none⟩ = some v3 := by
            have ho : ∀ q i,q < wr.heap.size -> (Value.slice aK j cK).ownBlock ≠ some q -> w7.cell? ⟨q,i,none⟩ = w6.cell? ⟨q,i,none⟩ := fun q i hq hn => World.cell?_of_block (a := ⟨q,i,none⟩) (hgrow7.block q (Nat.lt_of_lt_of_le hq H6.out.1.size) (fun e => hn e.symm))
            have hv : ∀ q,(Value.slice aK j cK).ownBlock = some q -> W1.heap.size <= q := fun q hq => (H6.out.2.1.lt q hq).1
            have hW1s := HB1.out.2.1; have hbig := HKs.out.2.2.2.2; have hbS : bS < Eb := by have := HBP.out bS HbB.out; have := HW0.out.2; omega
            have hn : ∀ q,q < Eb + 3 -> (Value.slice aK j cK).ownBlock ≠ some q := fun q hq e => by have := hv q e; omega
            exact ⟨(ho _ _ (by omega) (hn _ (by omega))).trans hH6.1,(ho _ _ (by omega) (hn _ (by omega))).trans hH6.2.1,(ho _ _ (by omega) (hn _ (by omega))).trans hH6.2.2.1,(ho _ _ (by omega) (hn _ (by omega))).trans hH6.2.2.2.1,(ho _ _ (by omega) (hn _ (by omega))).trans hH6.2.2.2.2.1,(ho _ _ (by omega) (hn _ (by omega))).trans hH6.2.2.2.2.2⟩
          have f7 := fz_of kf7 3; have z7 := cell_of kf7 3; clear hown7 hgrow7 hat7 hlt7 h7 kf7 HNw hH6 HE5 H6 HKX; have hHeld := hH7; refine hK.out _ _ hH7 ?_; clear hK K hH7
          try simp only [Act.put,z0,z1,z2]
          repeat (refine se_op (v := ?_) (by rfl) (by rfl) (by rfl) hHeld ?_ ?_; rotate_left; (focus (intro w hSw; (try dsimp only at hSw); go_simp <;> with_reducible rfl)); simp only [Act.put,z0,z1,z2])
          refine se_last (by rfl) (by rfl) (by rfl) (by rfl) (fun K hK => ?_)
          go_simp
          refine hK.out _ _ ?_; clear hK K hHeld f7 z7
          go_wp2_with fail
          go_roundg (m - (j + 1))
          case measure => omega
          case rel => exact ⟨j + 1,by simp,by omega,HN7.out⟩
        obtain rfl : m = j := by omega
        have q1 : ¬ (m : Int) < (m : Int) := by omega
        have b0 := cell_of HKs.out.2.2.1 0; have b1 := cell_of HKs.out.2.2.1 1; have b2 := cell_of HKs.out.2.2.1 2; have b3 := cell_of HKs.out.2.2.1 3; have r0 := cell_of HKs.out.2.1 0; have r1 := cell_of HKs.out.2.1 1; have r2 := cell_of HKs.out.2.1 2; have r3 := cell_of HKs.out.2.1 3; have y0 := fz_of HKs.out.2.1 0; have y1 := fz_of HKs.out.2.1 1; have y2 := fz_of HKs.out.2.1 2; have y3 := fz_of HKs.out.2.1 3
        go_wp2_with fail
        obtain ⟨wy,hwy⟩ : ∃ wy,(((wr.setCell ⟨Eb + 1,0,none⟩ (.int .i64 k)).setCell ⟨Eb + 1,1,none⟩ (.int .u64 x)).setCell ⟨Eb + 1,2,none⟩ (.string sn)).setCell ⟨Eb + 1,3,none⟩ (.slice aK m cK) = wy := ⟨_,rfl⟩; have k1 : wy.heap[Eb + 1]? = some (.cells #[.int .i64 k,.int .u64 x,.string sn,.slice aK m cK] 43 (0,0)) := by
          rw [<- hwy,heap_setCell_same _ _ 3 _ _ _ (heap_setCell_same _ _ 2 _ _ _ (heap_setCell_same _ _ 1 _ _ _ (heap_setCell_same _ _ 0 _ _ _ HKs.out.2.1)))]
          simp
        have k2 : ∀ q,q ≠ Eb + 1 -> wy.heap[q]? = wr.heap[q]? := fun q h2 => by
          rw [<- hwy,heap_setCell_other _ _ _ _ h2,heap_setCell_other _ _ _ _ h2,heap_setCell_other _ _ _ _ h2,heap_setCell_other _ _ _ _ h2]
        have k3 : wy.heap.size = wr.heap.size /\ wy.os = wr.os /\ wy.tape = wr.tape /\ wy.output = wr.output := by rw [<- hwy]; exact ⟨by simp,rfl,rfl,rfl⟩
        have hwE := HW0.out.2; have hW1s := HB1.out.2.1; have hbw := HKs.out.2.2.2.1; rw [hwy]; refine bodyPost_ret (res1E rfl _ _ (Eb + 1) _ _ _ rfl k1 rfl) rfl ?_; refine ⟨[.int .i64 k,.int .u64 x,.string sn,.slice aK m cK],rfl,⟨k3.2.1.trans hbw.os,k3.2.2.1.trans hbw.tape,k3.2.2.2.trans hbw.output,by rw [k3.1]; exact hbw.size,fun q hq => ?_⟩,HFin.out wy aK cK ?_⟩
        · rw [k2 q (by omega)]
          exact hbw.block q hq
        have et : Ms.take m = Ms := List.take_of_length_le (by rw [HMl.out]; exact Nat.le_refl _); have hrs : RS wr (fun b => W1.heap.size <= b /\ b < wr.heap.size) (RE wr (fun b => W1.heap.size <= b /\ b < wr.heap.size) n) Ms aK := by
          have h5 : KX W1 wr (Eb + 1 + 1) k x sn n (Ms.take m) (.slice aK m cK) := ⟨css,HKX.out⟩; rw [et] at h5; have h6 : KX W1 wr (Eb + 1 + 1) k x sn n Ms (.slice aK Ms.length cK) := by rw [HMl.out]; exact h5
          exact KX.rs h6
        have h8 := hrs.over (X := wy) (fun b hb => k2 b (by omega)); intro h0; obtain ⟨b',o',e,hlt,hc⟩ := h8 h0; refine ⟨b',o',e,⟨by omega,by omega⟩,fun j hj => ?_⟩; obtain ⟨v0,v1,v2,v3,c0,c1,c2,c3,hE⟩ := hc j hj; exact ⟨v0,v1,v2,v3,c0,c1,c2,c3,hE.mono (fun b hb => ⟨by omega,by omega⟩)⟩
end Go.Proofs.YtfljcdccepnidaaGreatDoor
