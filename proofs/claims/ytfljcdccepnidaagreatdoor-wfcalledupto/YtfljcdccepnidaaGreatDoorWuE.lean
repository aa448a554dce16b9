import Derived.Test.YtfljcdccepnidaaGreatDoorSqA
import Derived.Test.YtfljcdccepnidaaGreatDoorWuD
namespace Go.Proofs.YtfljcdccepnidaaGreatDoor
open Go.ChangeShapes Go.WideShapes Go.ChangeAt Go.RowKit Go.Lib

structure BEnt where
  Bs : List (List Sd)
  dp : Nat
  lp : List ByteArray
def ent (Bs : List (List Sd)) (dp : Nat) (lp : List ByteArray) (BL : List BEnt) : List BEnt := if Bs.length = 0 then BL else ⟨Bs,dp,lp⟩ :: BL
def BR (W0 : World) (P : Nat -> Prop) (N : Nat) (w : World) : List BEnt -> List (List Value) -> Prop
  | [],cs => cs = []
  | e :: r,cs => ∃ c cr,cs = c :: cr /\ (∃ v lpp n,c = [v,.int .i64 (e.dp : Int),.pointer lpp] /\ RB W0 P N n e.Bs v /\ 0 < e.Bs.length /\ LPS w e.lp lpp) /\ BR W0 P N w r cr
theorem BR.keep {W0 : World} {P : Nat -> Prop} {N : Nat} {w w' : World} (h : ∀ lp lpp,LPS w lp lpp -> LPS w' lp lpp) : ∀ {BL : List BEnt} {cs : List (List Value)},BR W0 P N w BL cs -> BR W0 P N w' BL cs
  | [],_,h1 => h1
  | e :: r,cs,h1 => by
    obtain ⟨c,cr,e1,⟨v,lpp,n,e2,h2,h3,h4⟩,h5⟩ := h1; exact ⟨c,cr,e1,⟨v,lpp,n,e2,h2,h3,h _ _ h4⟩,BR.keep h h5⟩
theorem BR.len {W0 : World} {P : Nat -> Prop} {N : Nat} {w : World} : ∀ {BL : List BEnt} {cs : List (List Value)},BR W0 P N w BL cs -> cs.length = BL.length
  | [],_,h1 => by rw [show _ = [] from h1]; rfl
  | e :: r,cs,h1 => by
    obtain ⟨c,cr,e1,_,h5⟩ := h1; rw [e1,List.length_cons,List.length_cons,BR.len h5]
theorem row3 {w : World} {base e g n cap : Nat} {xs : List Value} {a b c : Value} (h : w.ownsRow base e 3 (.slice (some ⟨g,0,none⟩) (n + 1) cap) (n + 1) (xs ++ [a,b,c])) : w.ownsRow base e 3 (.slice (some ⟨g,0,none⟩) n cap) n xs /\ w.cell? ⟨g,n * 3,none⟩ = some a /\ w.cell? ⟨g,n * 3 + 1,none⟩ = some b /\ w.cell? ⟨g,n * 3 + 2,none⟩ = some c /\ w.frozen? ⟨g,n * 3,none⟩ = false /\ n + 1 <= cap /\ cap <= maxLen /\ ∀ a',(w.setCell ⟨g,n * 3,none⟩ a').ownsRow base e 3 (.slice (some ⟨g,0,none⟩) (n + 1) cap) (n + 1) (xs ++ [a',b,c]) := by
  obtain ⟨hl,h2⟩ := h; rw [List.length_append] at hl; simp only [List.length_cons,List.length_nil] at hl
  rcases h2 with ⟨h3,_⟩ | ⟨g2,cap2,cur,e5,h4,h5,h6,h7,h8,h9⟩
  · cases h3
  cases e5; have hxl : xs.length = n * 3 := by omega
  have hx : xs = cur.toList.take (n * 3) := by
    have h10 := congrArg (List.take (n * 3)) h9; rw [List.take_take,List.take_left' hxl] at h10; rw [<- h10]
    congr 1
    omega
  have hat : ∀ i,i < 3 -> cur[n * 3 + i]? = [a,b,c][i]? := fun i hi => by
    have h10 : (cur.toList.take ((n + 1) * 3))[n * 3 + i]? = (xs ++ [a,b,c])[n * 3 + i]? := by rw [h9]
    rw [List.getElem?_take_of_lt (by omega),List.getElem?_append_right (by omega),show n * 3 + i - xs.length = i by omega] at h10
    simpa using h10
  refine ⟨⟨hxl,Or.inr ⟨_,cap,cur,rfl,h4,h5,by omega,h7,h8,hx.symm⟩⟩,?_,?_,?_,fz_of h5 _,h6,h7,fun a' => ⟨by simp; omega,Or.inr ⟨_,cap,cur.setIfInBounds (n * 3) a',rfl,h4,?_,h6,h7,by simpa using h8,?_⟩⟩⟩
  · rw [cell_of h5]; simpa using hat 0 (by omega)
  · rw [cell_of h5]; simpa using hat 1 (by omega)
  · rw [cell_of h5]; simpa using hat 2 (by omega)
  · rw [heap_setCell_same _ _ _ _ _ _ h5]
  rw [Array.toList_setIfInBounds]
  apply List.ext_getElem?
  intro i
  by_cases hi : i < (n + 1) * 3
  · rw [List.getElem?_take_of_lt hi,List.getElem?_set]
    by_cases e0 : n * 3 = i
    · subst e0
      have hs : n * 3 < cur.size := by omega
      simp [hs,hxl]
    rw [if_neg e0]
    by_cases h11 : i < n * 3
    · rw [List.getElem?_append_left (by omega),hx,List.getElem?_take_of_lt h11]
    obtain ⟨j,rfl⟩ : ∃ j,i = n * 3 + j := ⟨i - n * 3,by omega⟩; rw [List.getElem?_append_right (by omega),show n * 3 + j - xs.length = j by omega]; have h12 := hat j (by omega); have hj0 : j ≠ 0 := by omega
    cases j with
    | zero => exact absurd rfl hj0
    | succ j => simpa using h12
  rw [List.getElem?_eq_none (by simp; omega),List.getElem?_eq_none (by simp; omega)]
def SA (w : World) (P : Nat -> Prop) (N : Nat) (S : List Sd) (b o : Nat) : Prop := ∃ (n : Nat) (vs : List Value),P b /\ vs.length = 14 /\ (∀ i,i < 14 -> w.cell? ⟨b,o + i,none⟩ = some (vs.getD i undef)) /\ RT w P N (RB w P N n) S vs
theorem SA.keep {w w' : World} {P : Nat -> Prop} {N : Nat} (hb : ∀ j,P j -> w'.heap[j]? = w.heap[j]?) {S : List Sd} {b o : Nat} (h : SA w P N S b o) : SA w' P N S b o := by
  obtain ⟨n,vs,hP,hl,hc,hT⟩ := h; exact ⟨n,vs,hP,hl,fun i hi => (World.cell?_of_block (a := ⟨b,_,none⟩) (hb b hP)).trans (hc i hi),hT.keep hb (fun B v h => RB.keep hb h)⟩
theorem RB.first {w : World} {P : Nat -> Prop} {N n : Nat} {S : List Sd} {Bs : List (List Sd)} {v : Value} (h : RB w P N n (S :: Bs) v) : ∃ b o c,v = .slice (some ⟨b,o,none⟩) (Bs.length + 1) (c + 1) /\ SA w P N S b o /\ (0 < c -> RB w P N n Bs (.slice (some ⟨b,o + 14,none⟩) Bs.length c)) /\ Bs.length <= c := by
  cases n with
  | zero => exact h.elim
  | succ n =>
    obtain ⟨ad,cap,e1,h3⟩ := h; obtain ⟨b,o,e,hP,hc⟩ := h3 (by simp); subst e; obtain ⟨hP,hcap⟩ := hP; simp only [List.length_cons] at hcap; obtain ⟨c,rfl⟩ : ∃ c,cap = c + 1 := ⟨cap - 1,by omega⟩; refine ⟨b,o,c,e1,?_,fun _ => ⟨_,_,rfl,fun _ => ⟨b,o + 14,rfl,⟨hP,by omega⟩,fun j hj => ?_⟩⟩,by omega⟩
    · obtain ⟨vs,hl,hcc,hT⟩ := hc 0 (by simp)
      exact ⟨n,vs,hP,hl,fun i hi => by have := hcc i hi; simpa using this,by simpa using hT⟩
    obtain ⟨vs,hl,hcc,hT⟩ := hc (j + 1) (by simpa using hj); exact ⟨vs,hl,fun i hi => by have := hcc i hi; rw [show o + (j + 1) * 14 + i = o + 14 + j * 14 + i by omega] at this; exact this,by simpa using hT⟩
def WS (H0 X : Nat) (W0 w : World) (J : World -> Prop) (P : Nat -> Prop) (N Wb hb xb pl : Nat) (BL : List BEnt) : Prop := ∃ cb vB vE,WM H0 X W0 w J P Wb hb xb pl vB BL.length cb.reverse.flatten [] vE /\ BR W0 P N w BL cb
theorem WS.j {H0 X : Nat} {W0 w : World} {J : World -> Prop} {P : Nat -> Prop} {N Wb hb xb pl : Nat} {BL : List BEnt} (h : WS H0 X W0 w J P N Wb hb xb pl BL) : J w := by
  obtain ⟨cb,vB,vE,h1,_⟩ := h; exact h1.j
theorem grown_frm {H0 X : Nat} {wd W w8 : World} {t : TypeId} {row : Option Nat} (hW : Below wd.heap.size wd W) (hg : W.grownBy w8 row) (hrow : ∀ g,row = some g -> H0 <= g /\ ∃ c,wd.heap[g]? = some (.cells c t (0,0))) (ht : t = 107 ∨ t = 67) : FRM H0 X wd w8 := by
  refine ⟨hg.os.trans hW.os,hg.tape.trans hW.tape,hg.output.trans hW.output,Nat.le_trans hW.size hg.size,fun j ob hj hn hcc => ?_⟩; have hlt := (Array.getElem?_eq_some_iff.1 hj).1; refine (hg.block j (Nat.lt_of_lt_of_le hlt hW.size) (fun e => ?_)).trans ((hW.block j hlt).trans hj); obtain ⟨h1,c5,h2⟩ := hrow j e.symm; rw [h2] at hj; cases hj
  rcases hcc with h3 | h3
  · omega
  rcases ht with rfl | rfl
  · exact (h3 _ _ _ rfl).2.1 rfl
  exact (h3 _ _ _ rfl).2.2 rfl
theorem WM.pushB {H0 X : Nat} {W0 w W w7 : World} {J : World -> Prop} {P : Nat -> Prop} {Wb hb xb pl : Nat} {nB : Nat} {cB new : List Value} {ES : List (List Nd × Nat × Nat)} {vE : Value} {aB : Option Addr} {capB g7 c7 : Nat} (hc : WC H0 X W0 J P) (h : WM H0 X W0 w J P Wb hb xb pl (.slice aB nB capB) nB cB ES vE) (hW : Below w.heap.size w W) (hown : w7.ownsRow H0 107 3 (.slice (some ⟨g7,0,none⟩) (nB + 1) c7) (nB + 1) (cB ++ new)) (hg : W.grownBy w7 (Value.slice aB nB capB).ownBlock) :
    (w7.cell? ⟨Wb,2,none⟩ = some (.slice aB nB capB) /\ w7.frozen? ⟨Wb,2,none⟩ = false) /\ WM H0 X W0 (w7.setCell ⟨Wb,2,none⟩ (.slice (some ⟨g7,0,none⟩) (nB + 1) c7)) J P Wb hb xb pl (.slice (some ⟨g7,0,none⟩) (nB + 1) c7) (nB + 1) (cB ++ new) ES vE /\ FRM H0 X w (w7.setCell ⟨Wb,2,none⟩ (.slice (some ⟨g7,0,none⟩) (nB + 1) c7)) /\ FRM H0 X w w7 := by
  have hrow : ∀ g,(Value.slice aB nB capB).ownBlock = some g -> H0 <= g /\ ∃ c,w.heap[g]? = some (.cells c 107 (0,0)) := fun g e => ⟨(row_lt h.rowB e).1,row_ty h.rowB e⟩
  obtain ⟨f1,f2,f3,f4,f5⟩ := fld_frm (i := 2) (v := .slice (some ⟨g7,0,none⟩) (nB + 1) c7) hW hg hrow (Or.inl rfl) h.box h.lo hc.x; refine ⟨⟨cell_of f2 2,fz_of f2 2⟩,⟨h.fr.trans f1,hc.js _ _ h.j f3 f4,by rw [heap_setCell_same _ Wb 2 _ _ _ f2]; rfl,row_is hown (fun j hj => heap_setCell_other _ _ _ _ (fun e => by subst e; exact row_no hown f2 (by decide) hj)),row_is h.rowE (fun j hj => f5 j (row_lt h.rowE hj).2 (fun e => ?_) (fun e => ?_)),h.lo,h.es⟩,f1,grown_frm hW hg hrow (Or.inl rfl)⟩
  · subst e
    exact row_no h.rowE h.box (by decide) hj
  obtain ⟨c,h2⟩ := row_ty h.rowB e; exact row_no h.rowE h2 (by decide) hj
set_option maxHeartbeats 8000000 in
set_option maxRecDepth 100000 in
theorem enter_raw {H0 X : Nat} {W0 : World} {J : World -> Prop} {P : Nat -> Prop} (hc : WC H0 X W0 J P) {w : World} {Wb hb xb pl : Nat} {vB : Value} {nB : Nat} {cB : List Value} {ES : List (List Nd × Nat × Nat)} {vE : Value} (h : WM H0 X W0 w J P Wb hb xb pl vB nB cB ES vE) (aS : Option Addr) (nS cS : Nat) (dp : Int) (lpp : Option Addr) (hn : nB <= 100000000) :
    Calls Tryz.prog 62 #[.pointer (some ⟨Wb,0,none⟩),.agg #[.slice aS nS cS,.int .i64 dp,.pointer lpp]] w fun e w' => e = .returned (.tuple #[]) /\ FRM H0 X w w' /\ if nS = 0 then WM H0 X W0 w' J P Wb hb xb pl vB nB cB ES vE else ∃ vB2,WM H0 X W0 w' J P Wb hb xb pl vB2 (nB + 1) (cB ++ [.slice aS nS cS,.int .i64 dp,.pointer lpp]) ES vE := by
  obtain ⟨i0,hi,hz0,hz1,hz2⟩ := info_parts (P := Tryz.prog) (e := 107) (z := .agg #[.slice none 0 0,.int .i64 0,.pointer none]) (size := 3) (bytes := 40) (by kernel_rfl); obtain ⟨Eb,hEb⟩ : ∃ Eb,w.heap.size = Eb := ⟨_,rfl⟩; obtain ⟨W1,hW1⟩ : ∃ W1,w.alloc (.cells #[.slice aS nS cS,.int .i64 dp,.pointer lpp] 107) = W1 := ⟨_,rfl⟩; have HW1 : Hid (w.alloc (.cells #[.slice aS nS cS,.int .i64 dp,.pointer lpp] 107) = W1 /\ w.heap.size = Eb) := ⟨hW1,hEb⟩; have hb1 : Below w.heap.size w W1 := by rw [<- hW1]; exact bel1 _ _
  have hE1 : W1.heap[Eb]? = some (.cells #[.slice aS nS cS,.int .i64 dp,.pointer lpp] 107 (0,0)) := by rw [<- hW1,<- hEb]; exact heap_alloc_new _ _
  have hm1 := h.over hc hb1; have e0 : W1.cell? ⟨Eb,0,none⟩ = some (.slice aS nS cS) := cell_of hE1 0
  generalize hPP : (fun (e : Ending) (w' : World) => e = Ending.returned (.tuple #[]) /\ FRM H0 X w w' /\ if nS = 0 then WM H0 X W0 w' J P Wb hb xb pl vB nB cB ES vE else ∃ vB2,WM H0 X W0 w' J P Wb hb xb pl vB2 (nB + 1) (cB ++ [.slice aS nS cS,.int .i64 dp,.pointer lpp]) ES vE) = PP
  by_cases hs : nS = 0
  · subst hs
    have HZ : Hid (PP (.returned (.tuple #[])) W1) := by rw [<- hPP]; exact ⟨rfl,FRM.of hb1,by rw [if_pos rfl]; exact hm1⟩
    clear hW1 hEb hPP hb1 hE1 hm1 h hc
    go_enter Tryz.func62,Tryz.ntmps62
    go_upto_region 1 with fail
    rw [HW1.out.1,HW1.out.2]
    go_wp2_with fail
    go_end0
    exact HZ.out
  have q1 : (0 : Int) < (nS : Int) := by omega
  obtain ⟨aB,capB,rfl⟩ := row_form h.rowB; obtain ⟨wd,hwd⟩ : ∃ wd,W1.drew = wd := ⟨_,rfl⟩; have HWd : Hid (W1.drew = wd) := hwd; have hbd : Below W1.heap.size W1 wd := by rw [<- hwd]; exact ⟨rfl,rfl,rfl,Nat.le_refl _,fun _ _ => rfl⟩
  have hmd := hm1.over hc hbd; have hEd := blk_next hE1 hbd; have HS0 : Hid (wd.cell? ⟨Wb,2,none⟩ = some (.slice aB nB capB) /\ wd.heap[Eb]? = some (.cells #[.slice aS nS cS,.int .i64 dp,.pointer lpp] 107 (0,0))) := ⟨cell_of hmd.box 2,hEd⟩; have HS1 : Hid ((wd.alloc (.cells #[.slice aS nS cS,.int .i64 dp,.pointer lpp] 107)).cell? ⟨Wb,2,none⟩ = some (.slice aB nB capB) /\ (wd.alloc (.cells #[.slice aS nS cS,.int .i64 dp,.pointer lpp] 107)).heap[Eb]? = some (.cells #[.slice aS nS cS,.int .i64 dp,.pointer lpp] 107 (0,0))) := ⟨cell_of (blk_next hmd.box (bel1 _ _)) 2,blk_next hEd (bel1 _ _)⟩; have HRw : Hid (wd.ownsRow H0 107 3 (.slice aB nB capB) nB cB) := hmd.rowB; have HNw : Hid (∀ j u,[Value.slice aS nS cS,.int .i64 dp,.pointer lpp][j]? = some u -> (wd.alloc (.cells #[.slice aS nS cS,.int .i64 dp,.pointer lpp] 107)).cell? ((⟨wd.heap.size,0,none⟩ : Addr).add j) = some u) := World.news_of_block (heap_alloc_new wd _); have HSz : Hid (H0 <= wd.heap.size) := by have h1 := hc.h; have h2 := hmd.fr.size; show _ <= _; omega
  have HPut : Hid (∀ w8 g8 c8,w8.ownsRow H0 107 3 (.slice (some ⟨g8,0,none⟩) (nB + 1) c8) (nB + 1) (cB ++ [.slice aS nS cS,.int .i64 dp,.pointer lpp]) -> (wd.alloc (.cells #[.slice aS nS cS,.int .i64 dp,.pointer lpp] 107)).grownBy w8 (Value.slice aB nB capB).ownBlock -> (w8.cell? ⟨Wb,2,none⟩ = some (.slice aB nB capB) /\ w8.frozen? ⟨Wb,2,none⟩ = false) /\ WM H0 X W0 (w8.setCell ⟨Wb,2,none⟩ (.slice (some ⟨g8,0,none⟩) (nB + 1) c8)) J P Wb hb xb pl (.slice (some ⟨g8,0,none⟩) (nB + 1) c8) (nB + 1) (cB ++ [.slice aS nS cS,.int .i64 dp,.pointer lpp]) ES vE /\ FRM H0 X w (w8.setCell ⟨Wb,2,none⟩ (.slice (some ⟨g8,0,none⟩) (nB + 1) c8)) /\ w8.heap[Eb]? = some (.cells #[.slice aS nS cS,.int .i64 dp,.pointer lpp] 107 (0,0))) := fun w8 g8 c8 ho hgr => by
    obtain ⟨y1,y2,y3,y4⟩ := WM.pushB hc hmd (bel1 _ _) ho hgr; refine ⟨y1,y2,((FRM.of hb1).trans (FRM.of hbd)).trans y3,(hgr.block Eb ?_ (fun e => ?_)).trans (blk_next hEd (bel1 _ _))⟩
    · exact (Array.getElem?_eq_some_iff.1 (blk_next hEd (bel1 wd (.cells #[.slice aS nS cS,.int .i64 dp,.pointer lpp] 107)))).1
    have h5 := row_lt h.rowB e.symm
    omega
  have HP : Hid (∀ w' vB2,FRM H0 X w w' -> WM H0 X W0 w' J P Wb hb xb pl vB2 (nB + 1) (cB ++ [.slice aS nS cS,.int .i64 dp,.pointer lpp]) ES vE -> PP (.returned (.tuple #[])) w') := fun w' vB2 h1 h2 => by rw [<- hPP]; exact ⟨rfl,h1,by rw [if_neg hs]; exact ⟨vB2,h2⟩⟩
  clear hW1 hEb hPP hb1 hE1 hm1 h hc hwd hbd hmd hEd
  go_enter Tryz.func62,Tryz.ntmps62
  go_upto_region 1 with fail
  rw [HW1.out.1,HW1.out.2]
  go_upto_region 2 with fail
  refine AnyE.region (fun Wc => Hid (Wc.cell? ⟨Wb,2,none⟩ = some (.slice aB nB capB) /\ Wc.heap[Eb]? = some (.cells #[.slice aS nS cS,.int .i64 dp,.pointer lpp] 107 (0,0)))) 10 (by kernel_rfl) ?_; rw [HWd.out]; refine AnyE.take (i := 0) (oi := { dst := some 8,op := Op.move (Operand.tmp 0),type := 119,pos := "walk.go:92",after := #[],guard := none }) (v := .pointer (some ⟨Wb,0,none⟩)) rfl (by kernel_rfl) (by kernel_rfl) (by kernel_rfl) (by kernel_rfl) (fun _ _ _ h => h) (Or.inl ⟨by rfl,?_⟩) HS0 ?_
  · intro W _
    go_simp
  try simp only [Act.put,z0,z1,z2]
  refine AnyE.take (i := 1) (oi := { dst := some 9,op := Op.move (Operand.tmp 0),type := 119,pos := "walk.go:92",after := #[],guard := none }) (v := .pointer (some ⟨Wb,0,none⟩)) rfl (by kernel_rfl) (by kernel_rfl) (by kernel_rfl) (by kernel_rfl) (fun _ _ _ h => h) (Or.inl ⟨by rfl,?_⟩) HS0 ?_
  · intro W _
    go_simp
  try simp only [Act.put,z0,z1,z2]
  refine AnyE.take (i := 2) (oi := { dst := some 10,op := Op.nilCheck (Operand.tmp 9),type := 0,pos := "walk.go:92",after := #[{ on := 1,ground := Ground.data }],guard := none }) (v := .pointer (some ⟨Wb,0,none⟩)) rfl (by kernel_rfl) (by kernel_rfl) (by kernel_rfl) (by kernel_rfl) (fun _ _ _ h => h) (Or.inl ⟨by rfl,?_⟩) HS0 ?_
  · intro W _
    go_simp
  try simp only [Act.put,z0,z1,z2]
  refine AnyE.take (i := 3) (oi := { dst := some 11,op := Op.fieldAddr 104 (Operand.tmp 10) 2,type := 0,pos := "walk.go:92",after := #[{ on := 2,ground := Ground.data }],guard := none }) (v := .pointer (some ⟨Wb,2,none⟩)) rfl (by kernel_rfl) (by kernel_rfl) (by kernel_rfl) (by kernel_rfl) (fun _ _ _ h => h) (Or.inl ⟨by rfl,?_⟩) HS0 ?_
  · intro W _
    go_simp
  try simp only [Act.put,z0,z1,z2]
  refine AnyE.take (i := 4) (oi := { dst := some 12,op := Op.load 101 (Operand.tmp 11),type := 101,pos := "walk.go:92",after := #[{ on := 3,ground := Ground.data }],guard := none }) (v := .slice aB nB capB) rfl (by kernel_rfl) (by kernel_rfl) (by kernel_rfl) (by kernel_rfl) (fun _ _ _ h => h) (Or.inl ⟨by rfl,?_⟩) HS0 ?_
  · intro W hW
    have s1 := hW.out.1
    go_simp
  try simp only [Act.put,z0,z1,z2]
  refine AnyE.take (i := 5) (oi := { dst := some 13,op := Op.load 107 (Operand.tmp 3),type := 107,pos := "walk.go:92",after := #[],guard := none }) (v := .agg #[.slice aS nS cS,.int .i64 dp,.pointer lpp]) rfl (by kernel_rfl) (by kernel_rfl) (by kernel_rfl) (by kernel_rfl) (fun _ _ _ h => h) (Or.inl ⟨by rfl,?_⟩) HS0 ?_
  · intro W hW
    have s2 : W.cell? ⟨Eb,0,none⟩ = some (.slice aS nS cS) := cell_of hW.out.2 0; have s3 : W.cell? ⟨Eb,1,none⟩ = some (.int .i64 dp) := cell_of hW.out.2 1; have s4 : W.cell? ⟨Eb,2,none⟩ = some (.pointer lpp) := cell_of hW.out.2 2
    go_simp
  try simp only [Act.put,z0,z1,z2]
  refine AnyE.one (i := 6) (o := { dst := some 14,op := Op.buildSlice 101 1 #[(0,Operand.tmp 13)],type := 101,pos := "walk.go:92",after := #[{ on := 5,ground := Ground.data }],guard := none }) (by kernel_rfl) rfl (fun K hK => ?_)
  go_simp
  refine hK.out _ _ (fun _ => HS1) ?_; clear hK K
  try simp only [Act.put,z0,z1,z2]
  refine AnyE.one (i := 7) (o := { dst := some 15,op := Op.call { callee := Callee.builtin Builtin.append,args := #[Operand.tmp 12,Operand.tmp 14],argTypes := #[101,101] },type := 101,pos := "walk.go:92",after := #[{ on := 4,ground := Ground.data },{ on := 6,ground := Ground.data }],guard := none }) (by kernel_rfl) rfl (fun K hK => ?_); refine step_append_lies _ (by rfl) _ _ _ (by rfl) H0 107 i0 _ 3 40 Tryz.underlying101 hi hz0 hz1 hz2 rfl (by omega) (.slice aB nB capB) nB cB (by rfl) (HRw.out.alloc _) ⟨wd.heap.size,0,none⟩ 1 1 [.slice aS nS cS,.int .i64 dp,.pointer lpp] (by rfl) (by rfl) HNw.out (by intro u hu; simp at hu; rcases hu with rfl | rfl | rfl <;> rfl) (by omega) (by unfold maxLen; omega) (by omega) (by have := HSz.out; simp; omega) (wd.heap.size + 1) (by simp) ?_; intro g8 c8 w8 hown8 hgrow8 _ _; obtain ⟨⟨y1,y2⟩,y3,y4,y5⟩ := HPut.out w8 g8 c8 hown8 hgrow8; have HS8 : Hid (w8.cell? ⟨Wb,2,none⟩ = some (.slice aB nB capB) /\ w8.heap[Eb]? = some (.cells #[.slice aS nS cS,.int .i64 dp,.pointer lpp] 107 (0,0))) := ⟨y1,y5⟩; have HY3 : Hid _ := And.intro y3 y4; clear y3 y4 y5 hown8 hgrow8; refine hK.out _ _ (fun _ => HS8) ?_; clear hK K
  try simp only [Act.put,z0,z1,z2]
  refine AnyE.one (i := 8) (o := { dst := some 16,op := Op.nilCheck (Operand.tmp 8),type := 0,pos := "walk.go:92",after := #[{ on := 0,ground := Ground.data },{ on := 0,ground := Ground.phase },{ on := 1,ground := Ground.phase },{ on := 2,ground := Ground.phase },{ on := 3,ground := Ground.phase },{ on := 4,ground := Ground.phase },{ on := 5,ground := Ground.phase },{ on := 6,ground := Ground.phase },{ on := 7,ground := Ground.phase }],guard := none }) (by kernel_rfl) rfl (fun K hK => ?_)
  go_simp
  refine hK.out _ _ (fun _ => HS8) ?_; clear hK K
  try simp only [Act.put,z0,z1,z2]
  refine AnyE.one (i := 9) (o := { dst := some 17,op := Op.fieldAddr 104 (Operand.tmp 16) 2,type := 0,pos := "walk.go:92",after := #[{ on := 8,ground := Ground.data },{ on := 0,ground := Ground.phase },{ on := 1,ground := Ground.phase },{ on := 2,ground := Ground.phase },{ on := 3,ground := Ground.phase },{ on := 4,ground := Ground.phase },{ on := 5,ground := Ground.phase },{ on := 6,ground := Ground.phase },{ on := 7,ground := Ground.phase }],guard := none }) (by kernel_rfl) rfl (fun K hK => ?_)
  go_simp
  refine hK.out _ _ (fun _ => HS8) ?_; clear hK K
  try simp only [Act.put,z0,z1,z2]
  refine AnyE.one (i := 10) (o := { dst := none,op := Op.store 101 (Operand.tmp 17) (Operand.tmp 15),type := 0,pos := "walk.go:92",after := #[{ on := 9,ground := Ground.data },{ on := 7,ground := Ground.data },{ on := 7,ground := Ground.chain },{ on := 0,ground := Ground.phase },{ on := 1,ground := Ground.phase },{ on := 2,ground := Ground.phase },{ on := 3,ground := Ground.phase },{ on := 4,ground := Ground.phase },{ on := 5,ground := Ground.phase },{ on := 6,ground := Ground.phase },{ on := 7,ground := Ground.phase }],guard := none }) (by kernel_rfl) rfl (fun K hK => ?_)
  go_simp
  refine hK.out _ _ (fun h => absurd rfl h) (AnyE.done (by kernel_rfl) ?_ _); clear hK K
  try simp only [Act.put,z0,z1,z2]
  have HZ : Hid (PP (.returned (.tuple #[])) (w8.setCell ⟨Wb,2,none⟩ (.slice (some ⟨g8,0,none⟩) (nB + 1) c8))) := HP.out _ _ HY3.out.2 HY3.out.1
  go_wp2_with fail
  go_end0
  exact HZ.out
theorem enter_any {H0 X : Nat} {W0 : World} {J : World -> Prop} {P : Nat -> Prop} (hc : WC H0 X W0 J P) {w : World} {N Wb hb xb pl : Nat} {BL : List BEnt} (h : WS H0 X W0 w J P N Wb hb xb pl BL) {n : Nat} {Bs : List (List Sd)} {v : Value} (hB : RB W0 P N n Bs v) (dp : Nat) {lp : List ByteArray} {lpp : Option Addr} (hlp : LPS w lp lpp) (hn : BL.length <= 100000000) :
    Calls Tryz.prog 62 #[.pointer (some ⟨Wb,0,none⟩),.agg #[v,.int .i64 (dp : Int),.pointer lpp]] w fun e w' => e = .returned (.tuple #[]) /\ FRM H0 X w w' /\ WS H0 X W0 w' J P N Wb hb xb pl (ent Bs dp lp BL) := by
  obtain ⟨cb,vB,vE,hm,hbr⟩ := h; obtain ⟨aS,cS,rfl⟩ := hB.form; refine (enter_raw hc hm aS Bs.length cS (dp : Int) lpp hn).mono ?_; rintro e w' ⟨rfl,hf,hh⟩; refine ⟨rfl,hf,?_⟩; have hlk : ∀ lp lpp,LPS w lp lpp -> LPS w' lp lpp := fun lp lpp h => WM.lps hc hm.j hf h
  unfold ent
  by_cases h0 : Bs.length = 0
  · rw [if_pos h0] at hh
    rw [if_pos h0]; exact ⟨cb,vB,vE,hh,hbr.keep hlk⟩
  rw [if_neg h0] at hh; rw [if_neg h0]; obtain ⟨vB2,h2⟩ := hh; refine ⟨[.slice aS Bs.length cS,.int .i64 (dp : Int),.pointer lpp] :: cb,vB2,vE,?_,_,cb,rfl,⟨_,lpp,n,rfl,hB,Nat.pos_of_ne_zero h0,hlk _ _ hlp⟩,hbr.keep hlk⟩
  simpa using h2
end Go.Proofs.YtfljcdccepnidaaGreatDoor
