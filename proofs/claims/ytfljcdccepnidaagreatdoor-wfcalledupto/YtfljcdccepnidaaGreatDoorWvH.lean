import Derived.Test.YtfljcdccepnidaaGreatDoorWvD
import Derived.Test.YtfljcdccepnidaaGreatDoorSqA
import Derived.Deep.AppendLies
import Derived.Deep.Upon
namespace Go.Proofs.YtfljcdccepnidaaGreatDoor
open Go.ChangeShapes Go.WideShapes Go.ChangeAt Go.RowKit Go.Lib

def th0 : Th := ⟨0,0,ByteArray.empty,0,0,0,0,false,[]⟩
theorem LR.mono {w : World} {P P' : Nat -> Prop} (h : ∀ j,P j -> P' j) {ls : List ByteArray} {v : Value} (hl : LR w P ls v) : LR w P' ls v := by
  obtain ⟨ad,cap,e,h3⟩ := hl; refine ⟨ad,cap,e,fun h0 => ?_⟩; obtain ⟨b,o,e2,hP,hc⟩ := h3 h0; exact ⟨b,o,e2,h b hP,hc⟩
def TC (w : World) (P : Nat -> Prop) (t : Th) (cs : List Value) : Prop := ∃ (is dD sk : Int) (ss : ByteArray) (a0 a1 a2 a3 e0 e1 e2 e3 : Value) (lo hi : Int) (t1 t2 : Value) (ek ex : Int) (es : ByteArray) (kv : Value) (dp : Int) (lv : Value),cs = [.int .i64 is,.int .i64 dD,.int .i64 sk,.string ss,a0,a1,a2,a3,e0,e1,e2,e3,.int .u64 lo,.int .u64 hi,t1,t2,.int .i64 ek,.int .u64 ex,.string es,kv,.int .i64 dp,lv] /\ is = (t.is : Int) /\ dp = (t.dp : Int) /\ LR w P t.lp.reverse lv /\ (t.is = 0 ∨ (t.is = 1 /\ sk = t.k /\ ss = t.s /\ lo = t.lo /\ hi = t.hi) ∨ (t.is = 2 /\ ek = t.k /\ es = t.s /\ ex = t.x))
theorem TC.many {w : World} {P : Nat -> Prop} {t : Th} {cs : List Value} (h : TC w P t cs) : cs.length = 22 := by
  obtain ⟨_,_,_,_,_,_,_,_,_,_,_,_,_,_,_,_,_,_,_,_,_,_,e,_⟩ := h; rw [e]
  rfl
theorem TC.keep {w w' : World} {P P' : Nat -> Prop} {t : Th} {cs : List Value} (h : TC w P t cs) (hb : ∀ j,P j -> w'.heap[j]? = w.heap[j]?) (hP : ∀ j,P j -> P' j) : TC w' P' t cs := by
  obtain ⟨is,dD,sk,ss,a0,a1,a2,a3,e0,e1,e2,e3,lo,hi,t1,t2,ek,ex,es,kv,dp,lv,e,h1,h2,h3,h4⟩ := h; exact ⟨is,dD,sk,ss,a0,a1,a2,a3,e0,e1,e2,e3,lo,hi,t1,t2,ek,ex,es,kv,dp,lv,e,h1,h2,(h3.keep hb).mono hP,h4⟩
def NO (wr : World) (vK : Value) (b : Nat) : Prop := b < wr.heap.size /\ vK.ownBlock ≠ some b
def KTc (B : Nat) (w0 wr : World) (Ts : List Th) (vK : Value) (css : List (List Value)) : Prop := css.length = Ts.length /\ (∀ c ∈ css,c.length = 22) /\ wr.ownsRow B 80 22 vK Ts.length css.flatten /\ Below B w0 wr /\ ∀ j,j < Ts.length -> TC wr (NO wr vK) (Ts.getD j th0) (css.getD j [])
def KT (B : Nat) (w0 wr : World) (Ts : List Th) (vK : Value) : Prop := ∃ css,KTc B w0 wr Ts vK css
theorem KT.nil (w : World) : KT w.heap.size w w [] (.slice none 0 0) := ⟨[],rfl,(fun c h => by cases h),World.ownsRow_nil _ _ _ _,Below.refl _ _,fun j hj => absurd hj (by simp)⟩
theorem KT.next {B : Nat} {w0 wr w5 : World} {Ts : List Th} {vK : Value} (h : KT B w0 wr Ts vK) (hB : B <= wr.heap.size) (hb : Below wr.heap.size wr w5) : KT B w0 w5 Ts vK := by
  obtain ⟨css,hl,hc,hrow,hbel,hall⟩ := h; exact ⟨css,hl,hc,row_below hrow hb,hbel.trans (hb.mono hB),fun j hj => (hall j hj).keep (fun k hk => hb.block k hk.1) (fun k hk => ⟨Nat.lt_of_lt_of_le hk.1 hb.size,hk.2⟩)⟩
theorem KT.push {B : Nat} {w0 w5 w6 : World} {nL : Nat} {Ts : List Th} {t : Th} {vK : Value} {cs : List Value} {ob : Obj} {g6 cap6 : Nat} (hn : Ts.length = nL) (hB : B <= w5.heap.size) {css : List (List Value)} (h : KTc B w0 w5 Ts vK css) (hE : TC w5 (NO w5 vK) t cs) (hown : w6.ownsRow B 80 22 (.slice (some ⟨g6,0,none⟩) (nL + 1) cap6) (nL + 1) (css.flatten ++ cs)) (hg : (w5.alloc ob).grownBy w6 vK.ownBlock) (hat : vK.ownBlock = some g6 ∨ g6 = w5.heap.size + 1) : KT B w0 w6 (Ts ++ [t]) (.slice (some ⟨g6,0,none⟩) (nL + 1) cap6) /\ (∀ j,NO w5 vK j -> w6.heap[j]? = w5.heap[j]? /\ NO w6 (.slice (some ⟨g6,0,none⟩) (nL + 1) cap6) j) := by
  obtain ⟨hl,hc4,hrow,hbel,hall⟩ := h; subst hn; have hs0 := hbel.size; have hs6 := hg.size
  simp at hs6
  have hbl : ∀ j,j < w5.heap.size -> vK.ownBlock ≠ some j -> w6.heap[j]? = w5.heap[j]? := fun j hj hn => by
    rw [hg.block j (by simp; omega) (fun e => hn e.symm),Below.heap_alloc _ _ j hj]
  have hvlt : ∀ j,vK.ownBlock = some j -> B <= j /\ j < w5.heap.size := fun j hj => hrow.lt j hj
  have hkp : ∀ j,NO w5 vK j -> w6.heap[j]? = w5.heap[j]? /\ NO w6 (.slice (some ⟨g6,0,none⟩) (Ts.length + 1) cap6) j := fun j hj => by
    refine ⟨hbl j hj.1 hj.2,by have := hj.1; omega,fun e => ?_⟩; have e2 : some g6 = some j := e; have e3 := Option.some.inj e2
    rcases hat with h1 | h1
    · exact hj.2 (by rw [h1,e3])
    have := hj.1; omega
  refine ⟨⟨css ++ [cs],by simp [hl],fun c hc => ?_,by rw [List.flatten_append,List.length_append]; simpa using hown,⟨?_,?_,?_,?_,fun j hj => ?_⟩,fun j hj => ?_⟩,hkp⟩
  · rcases List.mem_append.1 hc with e | e
    · exact hc4 c e
    rw [List.mem_singleton] at e; rw [e]; exact hE.many
  · exact hg.os.trans hbel.os
  · exact hg.tape.trans hbel.tape
  · exact hg.output.trans hbel.output
  · omega
  · rw [hbl j (by omega) (fun e => by have := hvlt j e; omega)]
    exact hbel.block j hj
  rw [List.length_append] at hj; simp only [List.length_singleton] at hj
  by_cases e : j = Ts.length
  · subst e
    have e1 : (css ++ [cs]).getD Ts.length [] = cs := by rw [<- hl]; exact getD_snoc _ _ _
    rw [getD_snoc,e1]; exact hE.keep (fun b hb => (hkp b hb).1) (fun b hb => (hkp b hb).2)
  have hj2 : j < Ts.length := by omega
  rw [getD_app hj2,getD_app (by rw [hl]; exact hj2)]; exact (hall j hj2).keep (fun b hb => (hkp b hb).1) (fun b hb => (hkp b hb).2)
theorem cells_new (w : World) (L : List Value) (t : TypeId) : ∀ j u,L[j]? = some u -> (w.alloc (.cells L.toArray t)).cell? ((⟨w.heap.size,0,none⟩ : Addr).add j) = some u := fun j u hu => by
  rw [Addr.add_lit,cell_of (heap_alloc_new w _),Nat.zero_add]
  simpa using hu
end Go.Proofs.YtfljcdccepnidaaGreatDoor
namespace Go.Proofs.YtfljcdccepnidaaGreatDoor
open Go.ChangeShapes Go.WideShapes Go.ChangeAt Go.RowKit Go.Lib

def KPN (w : World) (vK : Value) (w' : World) (vK' : Value) : Prop := ∀ j,NO w vK j -> w'.heap[j]? = w.heap[j]? /\ NO w' vK' j
theorem KPN.trans {w w1 w2 : World} {v v1 v2 : Value} (h : KPN w v w1 v1) (h2 : KPN w1 v1 w2 v2) : KPN w v w2 v2 := fun j hj => ⟨(h2 j (h j hj).2).1.trans (h j hj).1,(h2 j (h j hj).2).2⟩
theorem KPN.below {w w' : World} (v : Value) (h : Below w.heap.size w w') : KPN w v w' v := fun j hj => ⟨h.block j hj.1,Nat.lt_of_lt_of_le hj.1 h.size,hj.2⟩
theorem KT.no {B : Nat} {w0 wr : World} {Ts : List Th} {v : Value} (h : KT B w0 wr Ts v) (hB : B <= wr.heap.size) {b : Nat} (hb : b < B) : NO wr v b := by
  obtain ⟨css,_,_,hrow,_,_⟩ := h; exact ⟨by omega,fun e => by have := hrow.lt b e; omega⟩
theorem KT.size {B : Nat} {w0 wr : World} {Ts : List Th} {v : Value} (h : KT B w0 wr Ts v) (hB : B <= w0.heap.size) : B <= wr.heap.size := by
  obtain ⟨css,_,_,_,hb,_⟩ := h; exact Nat.le_trans hB hb.size
theorem KT.slice {B : Nat} {w0 wr : World} {Ts : List Th} {v : Value} (h : KT B w0 wr Ts v) : ∃ a c,v = .slice a Ts.length c := by
  obtain ⟨css,_,_,hrow,_,_⟩ := h
  rcases hrow.2 with ⟨e,e0⟩ | ⟨g,cap,cur,e,_⟩
  · exact ⟨none,0,by rw [e,e0]⟩
  exact ⟨_,cap,e⟩
theorem KPN.lr {w w' : World} {v v' : Value} (h : KPN w v w' v') {ls : List ByteArray} {lv : Value} (hl : LR w (NO w v) ls lv) : LR w' (NO w' v') ls lv := (hl.keep (fun j hj => (h j hj).1)).mono (fun j hj => (h j hj).2)
set_option maxRecDepth 100000 in
set_option maxHeartbeats 16000000 in
theorem exprs_any : ∀ (n : Nat) (L : List Nd) (cs : List Value) (B : Nat) (w0 w : World) (P : Nat -> Prop) (Ts : List Th) (vK : Value) (lp : List ByteArray) (lv : Value),RE w P n L cs -> B <= w0.heap.size -> (∀ j,P j -> j < B) -> KT B w0 w Ts vK -> LR w (NO w vK) lp.reverse lv -> L.length <= 1048576 -> Ts.length + L.length <= 10000000 ->
    Calls Tryz.prog 74 #[vK,.agg cs.toArray,lv] w fun e w' => ∃ vK',e = .returned vK' /\ KT B w0 w' (Ts ++ L.map (thX false lp)) vK' /\ KPN w vK w' vK' := by
  intro n
  induction n with
  | zero => intro L cs B w0 w P Ts vK lp lv h; exact h.elim
  | succ n ih =>
    intro L cs B w0 w P Ts vK lp lv h hB hP hK hlr hL hTL; have h0 := h; obtain ⟨k,x,s,ad,cap,Ls,rfl,rfl,hS⟩ := h; have hBw : B <= w.heap.size := hK.size hB; obtain ⟨aK,cK,rfl⟩ := hK.slice; obtain ⟨lT,hlT⟩ : ∃ lT,Ts.length = lT := ⟨_,rfl⟩; obtain ⟨aL,cL,rfl,hlr3⟩ := hlr; have hlr : LR w (NO w (.slice aK Ts.length cK)) lp.reverse (.slice aL lp.reverse.length cL) := ⟨aL,cL,rfl,hlr3⟩; clear hlr3; obtain ⟨nLp,hlv⟩ : ∃ nLp,lp.reverse.length = nLp := ⟨_,rfl⟩; rw [hlv] at hlr; rw [hlv]; have hlen := hS.len; simp only [List.length_cons] at hL hTL; obtain ⟨m,hm⟩ : ∃ m,Ls.length = m := ⟨_,rfl⟩; have HM : Hid (Ls.length = m) := hm; obtain ⟨Eb,hEb⟩ : ∃ Eb,w.heap.size = Eb := ⟨_,rfl⟩; obtain ⟨W1,hW1⟩ : ∃ W1,w.alloc (.cells #[.int .i64 k,.int .u64 x,.string s,.slice ad Ls.length cap] 43) = W1 := ⟨_,rfl⟩; have hb1 : Below w.heap.size w W1 := by rw [<- hW1]; exact bel1 _ _
    have hbx : W1.heap[Eb]? = some (.cells #[.int .i64 k,.int .u64 x,.string s,.slice ad Ls.length cap] 43 (0,0)) := by rw [<- hW1,<- hEb]; exact heap_alloc_new _ _
    have HDp : Hid (Calls Tryz.prog 87 #[.agg #[.int .i64 k,.int .u64 x,.string s,.slice ad Ls.length cap]] W1.drew fun e w' => e = .returned (.int .i64 ((hts Ls + 1 : Nat) : Int)) /\ Below W1.drew.heap.size W1.drew w') := deep_any (n + 1) (⟨k,x,s,Ls.length,hts Ls + 1⟩ :: Ls.flatten) [.int .i64 k,.int .u64 x,.string s,.slice ad Ls.length cap] W1.drew P (RE.keep (w' := W1.drew) (fun j hj => hb1.block j (Nat.lt_of_lt_of_le (hP j hj) hBw)) h0) (fun j hj => Nat.lt_of_lt_of_le (hP j hj) (Nat.le_trans hBw hb1.size)) (by simp only [List.length_cons]; omega); have HKT : Hid (∀ W,Below W1.drew.heap.size W1.drew W -> KT B w0 W Ts (.slice aK lT cK) /\ LR W (NO W (.slice aK lT cK)) lp.reverse (.slice aL nLp cL) /\ KPN w (.slice aK lT cK) W (.slice aK lT cK) /\ NO W (.slice aK lT cK) Eb /\ B <= W.heap.size /\ W.heap[Eb]? = some (.cells #[.int .i64 k,.int .u64 x,.string s,.slice ad Ls.length cap] 43 (0,0))) := fun W hW => by
      rw [<- hlT]; have hb2 : Below w.heap.size w W := hb1.trans (Below.mono (⟨hW.os,hW.tape,hW.output,hW.size,hW.block⟩ : Below W1.heap.size W1 W) hb1.size); have hk := KPN.below (.slice aK Ts.length cK) hb2; have hW1' : Below W1.heap.size W1 W := ⟨hW.os,hW.tape,hW.output,hW.size,hW.block⟩; refine ⟨hK.next hBw hb2,hk.lr hlr,hk,⟨?_,fun e => ?_⟩,Nat.le_trans hBw hb2.size,blk_next hbx hW1'⟩
      · have := (Array.getElem?_eq_some_iff.1 (blk_next hbx hW1')).1
        exact this
      obtain ⟨css,_,_,hrow,_,_⟩ := hK; have := (hrow.lt Eb e).2
      omega
    have HI : Hid (∀ L cs X Ts v,KPN w (.slice aK lT cK) X v -> RE X P n L cs -> KT B w0 X Ts v -> LR X (NO X v) lp.reverse (.slice aL nLp cL) -> L.length <= 1048576 -> Ts.length + L.length <= 10000000 -> Calls Tryz.prog 74 #[v,.agg cs.toArray,.slice aL nLp cL] X fun e w' => ∃ vK',e = .returned vK' /\ KT B w0 w' (Ts ++ L.map (thX false lp)) vK' /\ KPN X v w' vK') := fun L cs X Ts v _ h1 h2 h3 h4 h5 => ih L cs B w0 X P Ts v lp (.slice aL nLp cL) h1 hB hP h2 h3 h4 h5
    have HS : Hid (∀ X v,KPN w (.slice aK lT cK) X v -> RS X P (RE X P n) Ls ad) := fun X v hX => hS.over (fun j hj => (hX j (by rw [<- hlT]; exact hK.no hBw (hP j hj))).1)
    have HT : Hid (∀ j,(Ls.take j).flatten.length <= Ls.flatten.length /\ (Ls.take m).flatten = Ls.flatten) := fun j => ⟨take_le Ls j,by rw [<- hm,List.take_length]⟩
    have HLr : Hid (∀ X v,KPN w (.slice aK lT cK) X v -> LR X (NO X v) lp.reverse (.slice aL nLp cL)) := fun X v hX => KPN.lr hX (by rw [<- hlT]; exact hlr)
    rw [hm] at HDp HKT hlen hbx hW1; have HW1 : Hid (w.alloc (.cells #[.int .i64 k,.int .u64 x,.string s,.slice ad m cap] 43) = W1 /\ w.heap.size = Eb) := ⟨hW1,hEb⟩; obtain ⟨dpp,hdpp⟩ : ∃ dpp,((hts Ls + 1 : Nat) : Int) = dpp := ⟨_,rfl⟩; rw [hdpp] at HDp; have HTC : Hid (∀ W v,LR W (NO W v) lp.reverse (.slice aL nLp cL) -> TC W (NO W v) (thX false lp ⟨k,x,s,m,hts Ls + 1⟩) [.int .i64 2,.int .i64 0,.int .i64 0,.string ⟨#[]⟩,.int .i64 0,.int .u64 0,.string ⟨#[]⟩,.slice none 0 0,.int .i64 0,.int .u64 0,.string ⟨#[]⟩,.slice none 0 0,.int .u64 0,.int .u64 0,.slice none 0 0,.slice none 0 0,.int .i64 k,.int .u64 x,.string s,.slice ad m cap,.int .i64 dpp,.slice aL nLp cL]) := fun W v hl => ⟨2,0,0,⟨#[]⟩,_,_,_,_,_,_,_,_,0,0,_,_,k,x,s,_,dpp,.slice aL nLp cL,rfl,rfl,hdpp.symm,hl,Or.inr (Or.inr ⟨rfl,rfl,rfl,rfl⟩)⟩
    rw [hm,hlT]; rw [hlT] at hTL; obtain ⟨i0,hi,hz0,hz1,hz2⟩ := info_parts (P := Tryz.prog) (e := 80) (z := .agg #[.int .i64 0,.int .i64 0,.int .i64 0,.string ⟨#[]⟩,.int .i64 0,.int .u64 0,.string ⟨#[]⟩,.slice none 0 0,.int .i64 0,.int .u64 0,.string ⟨#[]⟩,.slice none 0 0,.int .u64 0,.int .u64 0,.slice none 0 0,.slice none 0 0,.int .i64 0,.int .u64 0,.string ⟨#[]⟩,.slice none 0 0,.int .i64 0,.slice none 0 0]) (size := 22) (bytes := 304) (by kernel_rfl); have hmm : m <= 1048576 := by omega
    have HlT : Hid (Ts.length = lT) := hlT; have HBd : Hid (lT + (m + 1) <= 10000000 /\ lT + (Ls.flatten.length + 1) <= 10000000 /\ Ls.flatten.length + 1 <= 1048576) := ⟨by omega,hTL,hL⟩; clear hW1 hEb hb1 hbx hK hlr hlv hS h0 ih hP hdpp hm hlT hBw hL hTL hlen
    go_enter Tryz.func74,Tryz.ntmps74
    go_upto_region 1 with fail
    rw [HW1.out.1,HW1.out.2]; have HKp : Hid (∀ W : World,W.heap[Eb]? = some (.cells #[.int .i64 k,.int .u64 x,.string s,.slice ad m cap] 43 (0,0)) -> W.cell? ⟨Eb,0,none⟩ = some (.int .i64 k) /\ W.cell? ⟨Eb,1,none⟩ = some (.int .u64 x) /\ W.cell? ⟨Eb,2,none⟩ = some (.string s) /\ W.cell? ⟨Eb,3,none⟩ = some (.slice ad m cap)) := fun W hW => ⟨cell_of hW 0,cell_of hW 1,cell_of hW 2,cell_of hW 3⟩
    refine wp_region_held_drew (S := (fun W => W.cell? ⟨Eb,0,none⟩ = some (.int .i64 k) /\ W.cell? ⟨Eb,1,none⟩ = some (.int .u64 x) /\ W.cell? ⟨Eb,2,none⟩ = some (.string s) /\ W.cell? ⟨Eb,3,none⟩ = some (.slice ad m cap))) (by kernel_rfl) (HKp.out _ (HKT.out W1.drew (Below.refl _ _)).2.2.2.2.2) (fun hHeld => ?_); refine sq_of [3,6,7] [0,1,2,4,3,5,6,7,8] (by kernel_rfl) hHeld ?_
    repeat (refine sq_op (v := ?_) (by rfl) (by rfl) (by rfl) ?_ ?_; rotate_left; (focus (intro w hSw; (try dsimp only at hSw); go_simp <;> with_reducible rfl)); simp only [Act.put,z0,z1,z2])
    refine sq_do (by rfl) (by rfl) (by rfl) (fun K hK => ?_)
    go_simp
    go_at_call 87
    refine HDp.out.mono ?_; rintro e w5 ⟨rfl,hb5⟩; obtain ⟨q1,q2,q3,q4,q5,q6⟩ := HKT.out w5 hb5; have H5 : Hid (KT B w0 w5 Ts (.slice aK lT cK) /\ LR w5 (NO w5 (.slice aK lT cK)) lp.reverse (.slice aL nLp cL) /\ KPN w (.slice aK lT cK) w5 (.slice aK lT cK) /\ NO w5 (.slice aK lT cK) Eb /\ B <= w5.heap.size /\ w5.heap[Eb]? = some (.cells #[.int .i64 k,.int .u64 x,.string s,.slice ad m cap] 43 (0,0))) := ⟨q1,q2,q3,q4,q5,q6⟩; clear q1 q2 q3 q4 q5 q6 hb5 hHeld HDp HKT; have hx5 := HKp.out w5 H5.out.2.2.2.2.2; refine hK.out _ _ hx5 (fun _ => ?_); clear hK K
    try simp only [Act.put,z0,z1,z2]
    refine sq_op (by rfl) (by rfl) (by rfl) (fun W _ => exec_build _ _ rfl #[.int .i64 2,.int .i64 0,.int .i64 0,.string ⟨#[]⟩,.int .i64 0,.int .u64 0,.string ⟨#[]⟩,.slice none 0 0,.int .i64 0,.int .u64 0,.string ⟨#[]⟩,.slice none 0 0,.int .u64 0,.int .u64 0,.slice none 0 0,.slice none 0 0,.int .i64 k,.int .u64 x,.string s,.slice ad m cap,.int .i64 dpp,.slice aL nLp cL] (by kernel_rfl)) ?_; simp only [Act.put,z0,z1,z2]; refine sq_do (by rfl) (by rfl) (by rfl) (fun K hK => ?_)
    go_simp
    have H6 : Hid ((w5.alloc (.cells #[.int .i64 2,.int .i64 0,.int .i64 0,.string ⟨#[]⟩,.int .i64 0,.int .u64 0,.string ⟨#[]⟩,.slice none 0 0,.int .i64 0,.int .u64 0,.string ⟨#[]⟩,.slice none 0 0,.int .u64 0,.int .u64 0,.slice none 0 0,.slice none 0 0,.int .i64 k,.int .u64 x,.string s,.slice ad m cap,.int .i64 dpp,.slice aL nLp cL] 80)).heap[Eb]? = some (.cells #[.int .i64 k,.int .u64 x,.string s,.slice ad m cap] 43 (0,0))) := blk_next H5.out.2.2.2.2.2 (bel1 _ _); refine hK.out _ _ (HKp.out _ H6.out) (fun _ => ?_); clear hK K hx5
    try simp only [Act.put,z0,z1,z2]
    obtain ⟨css,hcss⟩ := H5.out.1; have HC : Hid (KTc B w0 w5 Ts (.slice aK lT cK) css) := hcss; clear hcss; have HRw : Hid (w5.ownsRow B 80 22 (.slice aK lT cK) lT css.flatten) := by
      have h5 := HC.out.2.2.1; rw [HlT.out] at h5; exact h5
    refine sq_do (by rfl) (by rfl) (by rfl) (fun K hK => ?_)
    refine wp_append_lies _ _ _ 75 rfl B 80 i0 _ 22 304 Tryz.underlying75 hi hz0 hz1 hz2 rfl (by omega) (.slice aK lT cK) lT css.flatten (by rfl) (HRw.out.alloc _) ⟨w5.heap.size,0,none⟩ 1 1 [.int .i64 2,.int .i64 0,.int .i64 0,.string ⟨#[]⟩,.int .i64 0,.int .u64 0,.string ⟨#[]⟩,.slice none 0 0,.int .i64 0,.int .u64 0,.string ⟨#[]⟩,.slice none 0 0,.int .u64 0,.int .u64 0,.slice none 0 0,.slice none 0 0,.int .i64 k,.int .u64 x,.string s,.slice ad m cap,.int .i64 dpp,.slice aL nLp cL] (by rfl) (by rfl) (cells_new w5 [.int .i64 2,.int .i64 0,.int .i64 0,.string ⟨#[]⟩,.int .i64 0,.int .u64 0,.string ⟨#[]⟩,.slice none 0 0,.int .i64 0,.int .u64 0,.string ⟨#[]⟩,.slice none 0 0,.int .u64 0,.int .u64 0,.slice none 0 0,.slice none 0 0,.int .i64 k,.int .u64 x,.string s,.slice ad m cap,.int .i64 dpp,.slice aL nLp cL] 80) (by intro u hu; simp only [List.mem_cons,List.not_mem_nil,or_false] at hu; rcases hu with rfl | rfl | rfl | rfl | rfl | rfl | rfl | rfl | rfl | rfl | rfl | rfl | rfl | rfl | rfl | rfl | rfl | rfl | rfl | rfl | rfl | rfl <;> rfl) (by omega) (by have := HBd.out; unfold maxLen; omega) (by have := HBd.out; omega) (by have := H5.out.2.2.2.2.1; simp; omega) (w5.heap.size + 1) (by simp) ?_; intro g6 cap6 w6 hown6 hgrow6 hat6 hlt6; obtain ⟨hkt6,hkp6⟩ := KT.push HlT.out H5.out.2.2.2.2.1 HC.out (HTC.out w5 _ H5.out.2.1) hown6 hgrow6 hat6; have H7 : Hid (KT B w0 w6 (Ts ++ [thX false lp ⟨k,x,s,m,hts Ls + 1⟩]) (.slice (some ⟨g6,0,none⟩) (lT + 1) cap6) /\ KPN w (.slice aK lT cK) w6 (.slice (some ⟨g6,0,none⟩) (lT + 1) cap6) /\ NO w6 (.slice (some ⟨g6,0,none⟩) (lT + 1) cap6) Eb /\ w6.heap[Eb]? = some (.cells #[.int .i64 k,.int .u64 x,.string s,.slice ad m cap] 43 (0,0))) := ⟨hkt6,H5.out.2.2.1.trans hkp6,(hkp6 Eb H5.out.2.2.2.1).2,(hkp6 Eb H5.out.2.2.2.1).1.trans H5.out.2.2.2.2.2⟩; clear hown6 hgrow6 hat6 hlt6 hkt6 hkp6 HC HRw H6 H5 hi hz0 hz1 hz2; refine hK.out _ _ (HKp.out w6 H7.out.2.2.2) (fun _ => ?_); clear hK K
    try simp only [Act.put,z0,z1,z2]
    repeat (refine sq_op (v := ?_) (by rfl) (by rfl) (by rfl) ?_ ?_; rotate_left; (focus (intro w hSw; (try dsimp only at hSw); go_simp <;> with_reducible rfl)); simp only [Act.put,List.setIfInBounds_toArray,List.set_cons_zero])
    refine sq_end (fun _ => ?_); obtain ⟨v6,hv6⟩ : ∃ v6,Value.slice (some ⟨g6,0,none⟩) (lT + 1) cap6 = v6 := ⟨_,rfl⟩; rw [hv6] at H7; rw [hv6]; clear hv6
    go_wp2_with fail
    go_loopg [0,7] m (fun gk v0 v7 wr => ∃ j : Nat,v7 = .int .i64 (j : Int) /\ j + gk = m /\ Aside (KT B w0 wr (Ts ++ (thX false lp ⟨k,x,s,m,hts Ls + 1⟩ :: (Ls.take j).flatten.map (thX false lp))) v0 /\ KPN w6 v6 wr v0))
    case atStart => exact ⟨0,rfl,by omega,H7.out.1,fun j hj => ⟨rfl,hj⟩⟩
    case round =>
      obtain ⟨j,rfl,hj,HR⟩ := hrel; have hbx := (HR.out.2 Eb H7.out.2.2.1).1.trans H7.out.2.2.2; have c3 : wr.cell? ⟨Eb,3,none⟩ = some (.slice ad m cap) := cell_of hbx 3; have hkw := H7.out.2.1.trans HR.out.2
      by_cases hlt : j < m
      · have q1 : (j : Int) < (m : Int) := by omega
        obtain ⟨b,o,rfl,hbB,hc⟩ := HS.out wr _ hkw (by rw [HM.out]; omega); obtain ⟨v0,v1,v2,v3,e0,e1,e2,e3,hE⟩ := hc j (by rw [HM.out]; exact hlt); have hl := take_len (Ls := Ls) (j := j) (by rw [HM.out]; exact hlt); have ht1 := (HT.out (j + 1)).1; have HC := HI.out _ _ wr _ _ hkw hE HR.out.1 (HLr.out wr _ hkw) (by have := HBd.out; omega) (by have := HBd.out; have := HlT.out; simp only [List.length_append,List.length_cons,List.length_map]; omega); have HTk : Hid ((Ls.take (j + 1)).flatten = (Ls.take j).flatten ++ Ls.getD j []) := take_flat (by rw [HM.out]; exact hlt); replace HC : Hid (Calls Tryz.prog 74 #[u0,.agg #[v0,v1,v2,v3],.slice aL nLp cL] wr fun e w' => ∃ vK',e = .returned vK' /\ KT B w0 w' ((Ts ++ (thX false lp ⟨k,x,s,m,hts Ls + 1⟩ :: (Ls.take j).flatten.map (thX false lp))) ++ (Ls.getD j []).map (thX false lp)) vK' /\ KPN wr u0 w' vK') := HC; clear hc hE hbx hl ht1 hkw
        go_wp2_with fail
        refine HC.out.mono ?_; rintro e w9 ⟨v9,rfl,hkt9,hkp9⟩; have H9 : Hid (KT B w0 w9 (Ts ++ (thX false lp ⟨k,x,s,m,hts Ls + 1⟩ :: (Ls.take (j + 1)).flatten.map (thX false lp))) v9 /\ KPN w6 v6 w9 v9) := by
          rw [HTk.out,List.map_append]; refine ⟨?_,HR.out.2.trans hkp9⟩; rw [List.append_assoc,List.cons_append] at hkt9; exact hkt9
        clear hkt9 hkp9 HC HR c3 e0 e1 e2 e3 HTk
        go_wp2_with fail
        go_roundg (m - (j + 1))
        case measure => omega
        case rel => exact ⟨j + 1,by simp,by omega,H9.out⟩
      obtain rfl : m = j := by omega
      have q1 : ¬ (m : Int) < (m : Int) := by omega
      have HZ : Hid (KT B w0 wr (Ts ++ (thX false lp ⟨k,x,s,m,hts Ls + 1⟩ :: Ls.flatten.map (thX false lp))) u0 /\ KPN w (.slice aK lT cK) wr u0) := by
        have h5 := HR.out.1; rw [(HT.out 0).2] at h5; exact ⟨h5,hkw⟩
      clear HR hbx hkw
      go_wp2_with fail
      go_ret
      have h9 := HZ.out; rw [List.map_flatten] at h9; exact ⟨_,rfl,h9⟩
end Go.Proofs.YtfljcdccepnidaaGreatDoor
namespace Go.Proofs.YtfljcdccepnidaaGreatDoor
open Go.ChangeShapes Go.WideShapes Go.ChangeAt Go.RowKit Go.Lib

section
variable {P : Program} {L : List Oper} {Q : Exit -> Act -> World -> Prop} {S : World -> Prop} {cs l : List Nat} {a : Act} {w : World}
def SX (P : Program) (L : List Oper) (Q : Exit -> Act -> World -> Prop) (S : World -> Prop) (C : Array Bool -> Bool) (n : Nat) (a : Act) (w : World) : Prop := ∀ listed,Region.noSelect L.toArray = true -> C listed = true -> S w -> wpAnyH P .any L.toArray Q S n listed a w
def cFork (i j : Nat) (C1 C2 : Array Oper -> Array Bool -> Bool) (ops : Array Oper) (listed : Array Bool) : Bool := Region.ready .any ops listed == [i,j] && (C1 ops (listed.setIfInBounds i true) && C2 ops (listed.setIfInBounds j true))
def cSeq (cs l : List Nat) (ops : Array Oper) (listed : Array Bool) : Bool := chq ops cs listed l
theorem sx_of (cs l : List Nat) (C : Array Oper -> Array Bool -> Bool) (n : Nat) (hc : (Region.noSelect L.toArray && (l.length + n == L.toArray.size && chr L.toArray (C L.toArray) cs (Array.replicate L.toArray.size false) l)) = true) (hS : S w) (h : SR P L Q S (C L.toArray) n cs l a w) : wpAnyH P .any L.toArray Q S L.toArray.size (Array.replicate L.toArray.size false) a w := by
  simp only [Bool.and_eq_true,beq_iff_eq] at hc; have h5 := h _ hc.1 hc.2.2 hS; rw [hc.2.1] at h5; exact h5
theorem sr_end {C : Array Bool -> Bool} {n : Nat} (h : SX P L Q S C n a w) : SR P L Q S C n cs [] a w := by
  intro listed hn hc hS; rw [List.length_nil,Nat.zero_add]; exact h listed hn hc hS
theorem sx_seq {n : Nat} (hn : l.length = n) (h : SQ P L Q S cs l a w) : SX P L Q S (cSeq cs l L.toArray) n a w := by
  subst hn; exact fun listed hn hc hS => h listed hn hc hS
theorem sx_fork {i j : Nat} {C1 C2 : Array Oper -> Array Bool -> Bool} {n : Nat} {oi oj : Oper} (hi : nthO L i = some oi) (hj : nthO L j = some oj) (wi : gst L a.tmps.toList oi = true) (wj : gst L a.tmps.toList oj = true)
    (h1 : ∀ K' : Act -> World -> Prop,Shut (∀ a w,S w -> SX P L Q S (C1 L.toArray) n a w -> K' a w) -> Oper.wp P oi a w K' Q) (h2 : ∀ K' : Act -> World -> Prop,Shut (∀ a w,S w -> SX P L Q S (C2 L.toArray) n a w -> K' a w) -> Oper.wp P oj a w K' Q) :
    SX P L Q S (cFork i j C1 C2 L.toArray) (n + 1) a w := by
  intro listed hn hc hS; rw [<- gst_eq] at wi wj; simp only [cFork,Bool.and_eq_true,beq_iff_eq] at hc; obtain ⟨g1,g3,g4⟩ := hc; refine wpAnyH_ready g1 (by simp) (AllReadyH.cons (nthO_at hi) (fun K hK => ?_) (AllReadyH.cons (nthO_at hj) (fun K hK => ?_) AllReadyH.nil))
  · rw [if_pos wi]
    exact h1 K (fun a w hS hq => hK _ _ hS (fun hS => hq _ hn g3 hS))
  rw [if_pos wj]; exact h2 K (fun a w hS hq => hK _ _ hS (fun hS => hq _ hn g4 hS))
end
theorem pl_do {P : Program} {L : List Oper} {Q : Exit -> Act -> World -> Prop} {a : Act} {w : World} {o : Oper} {rest : List Oper} (hw : gst L a.tmps.toList o = true) (h : ∀ K : Act -> World -> Prop,Shut (∀ a w,wpList P L.toArray Q rest a w -> K a w) -> o.wp P a w K Q) : wpList P L.toArray Q (o :: rest) a w := by
  rw [<- gst_eq] at hw; refine wpList_step (fun K hK => ?_); rw [if_pos hw]; exact h K hK
theorem map_str_get {xs : List ByteArray} {j : Nat} {u : Value} (h : (xs.map Value.string)[j]? = some u) : j < xs.length /\ u = .string (xs.getD j ByteArray.empty) := by
  rw [List.getElem?_map] at h; cases e : xs[j]? with
  | none => rw [e] at h; cases h
  | some x =>
    rw [e] at h; have hj := (List.getElem?_eq_some_iff.1 e).1; refine ⟨hj,?_⟩; rw [List.getD_eq_getElem?_getD,e]; exact (Option.some.inj h).symm
theorem wp_copyS {o : Oper} {a : Act} {W : World} {K : Act -> World -> Prop} {Q : Exit -> Act -> World -> Prop} (s x : Operand) (ho : o.op = .call { callee := .builtin .append,args := #[s,x],argTypes := #[78,78] }) (B g0 : Nat) (h0 : W.heap[g0]? = some (.cells #[] 9 (0,0))) (hB : B <= g0) (P2 : Nat -> Prop) (ls : List ByteArray) (ad : Option Addr) (n cp : Nat) (hsrc : LR W P2 ls (.slice ad n cp)) (hl : n <= 1048576)
    (hs : a.eval s = .slice (some ⟨g0,0,none⟩) 0 0) (hx : a.eval x = .slice ad n cp)
    (h : ∀ g cap w',w'.ownsRow B 9 1 (.slice (some ⟨g,0,none⟩) n cap) n (ls.map Value.string) -> W.grownBy w' (some g0) -> (g = g0 ∨ g = W.heap.size) -> g < w'.heap.size -> K (a.put o.dst (.slice (some ⟨g,0,none⟩) n cap)) w') : Oper.wp Tryz.prog o a W K Q := by
  obtain ⟨i0,hi,hz0,hz1,hz2⟩ := info_parts (P := Tryz.prog) (e := 9) (z := .string ⟨#[]⟩) (size := 1) (bytes := 16) (by kernel_rfl); have hlit : W.ownsRow B 9 1 (.slice (some ⟨g0,0,none⟩) 0 0) 0 [] := ⟨rfl,Or.inr ⟨g0,0,#[],rfl,hB,h0,Nat.le_refl _,Nat.zero_le _,rfl,rfl⟩⟩; have hg0 := (Array.getElem?_eq_some_iff.1 h0).1; obtain ⟨ad2,cap2,e,h3⟩ := hsrc; cases e
  by_cases hn : 0 < ls.length
  · obtain ⟨b,of,rfl,hPb,hc⟩ := h3 hn
    refine wp_append_lies W s x 78 ho B 9 i0 _ 1 16 Tryz.underlying78 hi hz0 hz1 hz2 rfl (by decide) _ 0 [] hs hlit ⟨b,of,none⟩ ls.length cp (ls.map Value.string) hx (by simp) (fun j u hu => ?_) (fun u hu => ?_) hn (by unfold maxLen; omega) (by omega) (by omega) W.heap.size rfl ?_
    · obtain ⟨hj,rfl⟩ := map_str_get hu
      rw [Addr.add_lit]; exact hc j hj
    · obtain ⟨x,_,rfl⟩ := List.mem_map.1 hu
      rfl
    intro g cap w' h1 h2 h3 h4; rw [Nat.zero_add,List.nil_append] at h1; rw [Nat.zero_add]; refine h g cap w' h1 h2 ?_ h4
    rcases h3 with h3 | h3
    · exact Or.inl (Option.some.inj (show some g0 = some g from h3)).symm
    exact Or.inr h3
  have e : ls = [] := List.eq_nil_of_length_eq_zero (by omega); subst e; have hr := run_append_nothing (P := Tryz.prog) W 78 78 o.type 9 i0 Tryz.underlying78 hi (some ⟨g0,0,none⟩) 0 0 (Nat.le_refl _) (.slice ad 0 cp) (by
    cases ad with
    | none => exact Src.ofNil _ Tryz.underlying78 _
    | some a => exact Src.ofSlice _ Tryz.underlying78 a 0 _ [] (by simp) (fun j u hu => by simp at hu) (fun u hu => by simp at hu))
  unfold Oper.wp execOp; simp only [ho,resolve,invoke,builtin,Sem.run_bind,Sem.run_pure,Result.andThen_ok,List.map_toArray,List.map_cons,List.map_nil,hs,hx,List.length_nil,hr]; exact h g0 0 W hlit ⟨rfl,rfl,rfl,Nat.le_refl _,fun _ _ _ => rfl⟩ (Or.inl rfl) hg0
theorem row_lr {w : World} {base n c : Nat} {ad : Option Addr} {ls : List ByteArray} (h : w.ownsRow base 9 1 (.slice ad n c) n (ls.map Value.string)) : LR w (fun b => base <= b /\ b < w.heap.size) ls (.slice ad n c) := by
  have hl : ls.length = n := by have := h.1; rw [List.length_map] at this; omega
  subst hl; refine ⟨ad,c,rfl,fun h0 => ?_⟩
  rcases h.2 with ⟨_,e0⟩ | ⟨b,cap,cur,e,h4,h5,h6,h7,h8,h9⟩
  · omega
  cases e; refine ⟨b,0,rfl,⟨h4,(Array.getElem?_eq_some_iff.1 h5).1⟩,fun j hj => ?_⟩; rw [cell_of h5,Nat.zero_add]; have h10 : (cur.toList.take (ls.length * 1))[j]? = (ls.map Value.string)[j]? := by rw [h9]
  rw [List.getElem?_take_of_lt (by omega),List.getElem?_map,List.getElem?_eq_getElem hj] at h10; rw [List.getD_eq_getElem?_getD,List.getElem?_eq_getElem hj]
  simpa using h10
end Go.Proofs.YtfljcdccepnidaaGreatDoor
namespace Go.Proofs.YtfljcdccepnidaaGreatDoor
open Go.ChangeShapes Go.WideShapes Go.ChangeAt Go.RowKit Go.Lib

def eR (lp : List ByteArray) (d : Sd) : List Th := if d.k = 1 ∨ d.k = 3 then d.E.map (thX false lp) else if d.k = 2 then d.A.map (thX false lp) ++ d.E.map (thX false lp) else []
def dS : List Sd -> List (Nat × Nat × List ByteArray) -> List Th
  | [],_ => []
  | _ :: _,[] => []
  | d :: r,(c,dp,lp) :: st => thT dp lp d :: (eR lp d ++ dS r (cen d.mT (dp + 1) (lpI d lp) (cen d.mE (dp + 1) (lpI d lp) (cen (c - 1) dp lp st))))
def oneD (dp : Nat) (lp : List ByteArray) (S : List Sd) : List Th := dS S [(1,dp,lp)]
def dL (Bs : List (List Sd)) (dp : Nat) (lp : List ByteArray) : List Th := (Bs.map (oneD dp lp)).flatten
def DOK (Bs : List (List Sd)) : Prop := ∀ r st dp lp,dS (Bs.flatten ++ r) (cen Bs.length dp lp st) = dL Bs dp lp ++ dS r st
theorem one_step {d : Sd} {BT BE : List (List Sd)} (hT : DOK BT) (hE : DOK BE) (h1 : d.mT = BT.length) (h2 : d.mE = BE.length) (r : List Sd) (c dp : Nat) (lp : List ByteArray) (st : List (Nat × Nat × List ByteArray)) :
    dS (d :: (BT.flatten ++ BE.flatten) ++ r) ((c + 1,dp,lp) :: st) = thT dp lp d :: (eR lp d ++ (dL BT (dp + 1) (lpI d lp) ++ (dL BE (dp + 1) (lpI d lp) ++ dS r (cen c dp lp st)))) := by
  rw [List.cons_append,dS,h1,h2,List.append_assoc,hT,hE,Nat.add_sub_cancel]
theorem oneD_is {d : Sd} {BT BE : List (List Sd)} (hT : DOK BT) (hE : DOK BE) (h1 : d.mT = BT.length) (h2 : d.mE = BE.length) (dp : Nat) (lp : List ByteArray) :
    oneD dp lp (d :: (BT.flatten ++ BE.flatten)) = thT dp lp d :: (eR lp d ++ (dL BT (dp + 1) (lpI d lp) ++ dL BE (dp + 1) (lpI d lp))) := by
  have h := one_step hT hE h1 h2 [] 0 dp lp []; rw [List.append_nil] at h; unfold oneD; rw [h]
  simp [dS]
theorem one_app {d : Sd} {BT BE : List (List Sd)} (hT : DOK BT) (hE : DOK BE) (h1 : d.mT = BT.length) (h2 : d.mE = BE.length) (r : List Sd) (c dp : Nat) (lp : List ByteArray) (st : List (Nat × Nat × List ByteArray)) :
    dS (d :: (BT.flatten ++ BE.flatten) ++ r) ((c + 1,dp,lp) :: st) = oneD dp lp (d :: (BT.flatten ++ BE.flatten)) ++ dS r (cen c dp lp st) := by
  rw [one_step hT hE h1 h2,oneD_is hT hE h1 h2]
  simp
theorem RB.ds {w : World} {P : Nat -> Prop} {N : Nat} : ∀ {n : Nat} {Bs : List (List Sd)} {v : Value},RB w P N n Bs v -> DOK Bs
  | 0,_,_,h => h.elim
  | n + 1,Bs,v,h => by
    obtain ⟨ad,cap,_,h3⟩ := h; have key : ∀ k,k <= Bs.length -> DOK (Bs.drop (Bs.length - k)) := by
      intro k
      induction k with
      | zero =>
        intro _ r st dp lp; rw [Nat.sub_zero,List.drop_length]
        simp [cen,dL]
      | succ k ih =>
        intro hk r st dp lp; have hi : Bs.length - (k + 1) < Bs.length := by omega
        obtain ⟨b,o,_,_,hc⟩ := h3 (by omega); obtain ⟨vs,_,_,hE⟩ := hc (Bs.length - (k + 1)) hi; obtain ⟨kk,s,a0,a1,a2,a3,e0,e1,e2,e3,lo,hi2,t1,t2,LA,LE,BT,BE,hSe,_,_,_,hT,hEl⟩ := hE; have e5 : Bs.drop (Bs.length - (k + 1)) = (⟨kk,s,LA,LE,lo,hi2,BT.length,BE.length⟩ :: (BT.flatten ++ BE.flatten)) :: Bs.drop (Bs.length - k) := by
          rw [List.drop_eq_getElem_cons hi,show Bs.length - (k + 1) + 1 = Bs.length - k by omega]
          congr 1
          rw [<- hSe,List.getD_eq_getElem?_getD,List.getElem?_eq_getElem hi]
          rfl
        have hl : (Bs.drop (Bs.length - k)).length = k := by rw [List.length_drop]; omega
        have h5 := ih (by omega); rw [e5]; have e6 : (((⟨kk,s,LA,LE,lo,hi2,BT.length,BE.length⟩ : Sd) :: (BT.flatten ++ BE.flatten)) :: Bs.drop (Bs.length - k)).flatten ++ r = (⟨kk,s,LA,LE,lo,hi2,BT.length,BE.length⟩ :: (BT.flatten ++ BE.flatten)) ++ ((Bs.drop (Bs.length - k)).flatten ++ r) := by simp
        have e7 : cen (((⟨kk,s,LA,LE,lo,hi2,BT.length,BE.length⟩ : Sd) :: (BT.flatten ++ BE.flatten)) :: Bs.drop (Bs.length - k)).length dp lp st = (k + 1,dp,lp) :: st := by
          rw [List.length_cons,hl]; unfold cen; rw [if_neg (by omega)]
        rw [e6,e7,one_app (RB.ds hT) (RB.ds hEl) rfl rfl]; have h6 := h5 r st dp lp; rw [hl] at h6; rw [h6]; unfold dL; rw [List.map_cons,List.flatten_cons,List.append_assoc]
    have := key Bs.length (Nat.le_refl _); rw [Nat.sub_self,List.drop_zero] at this; exact this
theorem dL_take {Bs : List (List Sd)} {j : Nat} (h : j < Bs.length) (dp : Nat) (lp : List ByteArray) : dL (Bs.take (j + 1)) dp lp = dL (Bs.take j) dp lp ++ oneD dp lp (Bs.getD j []) := by
  unfold dL; rw [List.take_succ_eq_append_getElem h,List.map_append,List.flatten_append,List.getD_eq_getElem?_getD,List.getElem?_eq_getElem h]
  simp
theorem eR_len (lp : List ByteArray) (d : Sd) : (eR lp d).length <= d.A.length + d.E.length := by
  unfold eR
  split
  · simp
  split
  · simp
  simp
theorem RB.dlen {w : World} {P : Nat -> Prop} {N : Nat} : ∀ {n : Nat} {Bs : List (List Sd)} {v : Value},RB w P N n Bs v -> ∀ dp lp,(dL Bs dp lp).length <= wtS Bs.flatten
  | 0,_,_,h => h.elim
  | n + 1,Bs,v,h => by
    intro dp lp; obtain ⟨ad,cap,_,h3⟩ := h; have key : ∀ k,k <= Bs.length -> (dL (Bs.take k) dp lp).length <= wtS (Bs.take k).flatten := by
      intro k
      induction k with
      | zero => intro _; simp [dL]
      | succ k ih =>
        intro hk; obtain ⟨b,o,_,_,hc⟩ := h3 (by omega); obtain ⟨vs,_,_,hE⟩ := hc k (by omega); obtain ⟨kk,s,a0,a1,a2,a3,e0,e1,e2,e3,lo,hi2,t1,t2,LA,LE,BT,BE,hSe,_,_,_,hT,hEl⟩ := hE; have h6 := ih (by omega); have h7 := hT.dlen (dp + 1) (lpI ⟨kk,s,LA,LE,lo,hi2,BT.length,BE.length⟩ lp); have h8 := hEl.dlen (dp + 1) (lpI ⟨kk,s,LA,LE,lo,hi2,BT.length,BE.length⟩ lp); have h9 := eR_len lp ⟨kk,s,LA,LE,lo,hi2,BT.length,BE.length⟩; rw [dL_take (by omega),btake_wt (by omega),hSe,oneD_is hT.ds hEl.ds rfl rfl]; simp only [List.length_append,List.length_cons,wtS,wtS_app]; simp only at h9
        omega
    have := key Bs.length (Nat.le_refl _); rw [List.take_length] at this; exact this
end Go.Proofs.YtfljcdccepnidaaGreatDoor
