import Derived.Test.YtfljcdccepnidaaGreatDoorSqA
import Derived.Test.YtfljcdccepnidaaGreatDoorWuB
namespace Go.Proofs.YtfljcdccepnidaaGreatDoor
open Go.ChangeShapes Go.WideShapes Go.ChangeAt Go.RowKit Go.Lib

def NB (s : ByteArray) : Prop := s.size <= 140737488355328
def NMx (L : List Nd) : Prop := ∀ nd ∈ L,NB nd.s
structure Th where
  is : Nat
  k : Int
  s : ByteArray
  x : Int
  lo : Int
  hi : Int
  dp : Nat
  tp : Bool
  lp : List ByteArray
def thX (tp : Bool) (lp : List ByteArray) (d : Nd) : Th := ⟨2,d.k,d.s,d.x,0,0,d.h,tp,lp⟩
def thE (lp : List ByteArray) (L : List Nd) : List Th := match L with
  | [] => []
  | d :: r => thX true lp d :: r.map (thX false lp)
def fv (vio : Nat -> Th -> Bool) : Nat -> List Th -> Option Nat
  | _,[] => none
  | p,t :: r => if vio p t = true then some p else fv vio (p + 1) r
theorem fv_app (vio : Nat -> Th -> Bool) : ∀ (a b : List Th) (p : Nat),fv vio p (a ++ b) = (match fv vio p a with | some j => some j | none => fv vio (p + a.length) b)
  | [],b,p => by simp [fv]
  | t :: r,b,p => by
    simp only [List.cons_append,fv,List.length_cons]
    by_cases h : vio p t = true
    · simp [h]
    rw [if_neg h,if_neg h,fv_app vio r b (p + 1),show p + 1 + r.length = p + (r.length + 1) by omega]
def OUT (vio : Nat -> Th -> Bool) (p : Nat) (T : List Th) (e : Ending) (ok : Prop) : Prop := (fv vio p T = none /\ e = .returned (.tuple #[]) /\ ok) ∨ ∃ (j : Nat) (a1 a2 a3 : Option Addr) (dp : Int) (tp : Bool) (a6 : Option Addr),fv vio p T = some j /\ e = .panicked [{ v := .iface 87 (.agg (tcs (j : Int) a1 a2 a3 dp tp a6)),recovered := false }]
structure FRM (H0 X : Nat) (w w' : World) : Prop where
  os : w'.os = w.os
  tape : w'.tape = w.tape
  output : w'.output = w.output
  size : w.heap.size <= w'.heap.size
  blk : ∀ j o,w.heap[j]? = some o -> j ≠ X -> (j < H0 ∨ ∀ c t m,o = .cells c t m -> t ≠ 104 /\ t ≠ 107 /\ t ≠ 67) -> w'.heap[j]? = some o
theorem FRM.refl (H0 X : Nat) (w : World) : FRM H0 X w w := ⟨rfl,rfl,rfl,Nat.le_refl _,fun _ _ h _ _ => h⟩
theorem FRM.trans {H0 X : Nat} {w w1 w2 : World} (h : FRM H0 X w w1) (h2 : FRM H0 X w1 w2) : FRM H0 X w w2 := ⟨h2.os.trans h.os,h2.tape.trans h.tape,h2.output.trans h.output,Nat.le_trans h.size h2.size,fun j o hj hn hc => h2.blk j o (h.blk j o hj hn hc) hn hc⟩
theorem FRM.oth {H0 X : Nat} {w w1 : World} (h : OTH X w w1) : FRM H0 X w w1 := ⟨h.os,h.tape,h.output,h.size,fun j _ hj hn _ => (h.block j (Array.getElem?_eq_some_iff.1 hj).1 hn).trans hj⟩
theorem FRM.of {H0 X : Nat} {w w1 : World} (h : Below w.heap.size w w1) : FRM H0 X w w1 := FRM.oth (OTH.of h)
theorem FRM.ot2 {H0 X Wb : Nat} {w w1 : World} {cs : Array Value} (h : OT2 X Wb w w1) (hb : w.heap[Wb]? = some (.cells cs 104 (0,0))) (hlo : H0 <= Wb) : FRM H0 X w w1 := ⟨h.os,h.tape,h.output,h.size,fun j o hj hn hc => (h.block j (Array.getElem?_eq_some_iff.1 hj).1 hn (fun e => by
  subst e; rw [hb] at hj; cases hj
  rcases hc with h1 | h1
  · omega
  exact (h1 _ _ _ rfl).1 rfl)).trans hj⟩
def JST (X : Nat) (J : World -> Prop) : Prop := ∀ w w',J w -> w'.heap[X]? = w.heap[X]? -> (∀ (j : Nat) (o : Obj),w.heap[j]? = some o -> (∀ c t m,o ≠ .cells c t m) -> w'.heap[j]? = some o) -> J w'
theorem JST.below {X : Nat} {J : World -> Prop} (hJ : JST X J) {w w' : World} (h : J w) (hX : X < w.heap.size) (hb : Below w.heap.size w w') : J w' := hJ w w' h (hb.block X hX) (fun j _ hj _ => (hb.block j (Array.getElem?_eq_some_iff.1 hj).1).trans hj)
theorem JST.drew {X : Nat} {J : World -> Prop} (hJ : JST X J) {w : World} (h : J w) : J w.drew := hJ w _ h rfl (fun _ _ hj _ => hj)
def LPS (w : World) : List ByteArray -> Option Addr -> Prop
  | [],a => a = none
  | s :: r,a => ∃ b o,a = some ⟨b,0,none⟩ /\ w.heap[b]? = some (.cells #[.string s,.pointer o] 124 (0,0)) /\ LPS w r o
theorem LPS.keep {H0 X : Nat} {w w' : World} (h : FRM H0 X w w') (hX : ∀ cs m,w.heap[X]? ≠ some (.cells cs 124 m)) : ∀ {lp : List ByteArray} {a : Option Addr},LPS w lp a -> LPS w' lp a
  | [],_,h1 => h1
  | s :: r,a,h1 => by
    obtain ⟨b,o,e,h2,h3⟩ := h1; refine ⟨b,o,e,h.blk b _ h2 (fun e => ?_) (Or.inr fun c t m e2 => ?_),LPS.keep h hX h3⟩
    · subst e
      exact hX _ _ h2
    cases e2
    decide
def EA (w : World) (P : Nat -> Prop) (L : List Nd) (b o : Nat) : Prop := ∃ (n : Nat) (v0 v1 v2 v3 : Value),P b /\ w.cell? ⟨b,o,none⟩ = some v0 /\ w.cell? ⟨b,o + 1,none⟩ = some v1 /\ w.cell? ⟨b,o + 2,none⟩ = some v2 /\ w.cell? ⟨b,o + 3,none⟩ = some v3 /\ RE w P n L [v0,v1,v2,v3]
theorem FRM.keepP {H0 X : Nat} {w w' : World} (h : FRM H0 X w w') {P : Nat -> Prop} (hP : ∀ j,P j -> j < H0 /\ j ≠ X /\ j < w.heap.size) : ∀ j,P j -> w'.heap[j]? = w.heap[j]? := fun j hj => by
  obtain ⟨h1,h2,h3⟩ := hP j hj; cases e : w.heap[j]? with
  | none => rw [Array.getElem?_eq_none_iff] at e; omega
  | some ob => exact h.blk j ob e h2 (Or.inl h1)
theorem EA.keep {w w' : World} {P : Nat -> Prop} (hb : ∀ j,P j -> w'.heap[j]? = w.heap[j]?) {L : List Nd} {b o : Nat} (h : EA w P L b o) : EA w' P L b o := by
  obtain ⟨n,v0,v1,v2,v3,hP,c0,c1,c2,c3,hE⟩ := h; have hc' : ∀ i,w'.cell? ⟨b,i,none⟩ = w.cell? ⟨b,i,none⟩ := fun i => World.cell?_of_block (a := ⟨b,i,none⟩) (hb b hP)
  exact ⟨n,v0,v1,v2,v3,hP,(hc' _).trans c0,(hc' _).trans c1,(hc' _).trans c2,(hc' _).trans c3,hE.keep hb⟩
def kE (b o : Nat) : Nat -> List (List Nd) -> List (List Nd × Nat × Nat)
  | _,[] => []
  | j,L :: r => (L,b,o + j * 4) :: kE b o (j + 1) r
theorem kE_drop (b o : Nat) (Ls : List (List Nd)) {g : Nat} (h : g < Ls.length) : kE b o g (Ls.drop g) = (Ls.getD g [],b,o + g * 4) :: kE b o (g + 1) (Ls.drop (g + 1)) := by
  rw [List.drop_eq_getElem_cons h,kE,List.getD_eq_getElem?_getD,List.getElem?_eq_getElem h]
  rfl
theorem kE_flat (b o : Nat) : ∀ (Ls : List (List Nd)) (j : Nat),((kE b o j Ls).map (fun e => e.1)).flatten = Ls.flatten
  | [],_ => rfl
  | L :: r,j => by simp only [kE,List.map_cons,List.flatten_cons,kE_flat b o r (j + 1)]
def pE (e : List Nd × Nat × Nat) : Value := .pointer (some ⟨e.2.1,e.2.2,none⟩)
theorem row_is {w w' : World} {base e size n : Nat} {v : Value} {L : List Value} (h : w.ownsRow base e size v n L) (hb : ∀ j,v.ownBlock = some j -> w'.heap[j]? = w.heap[j]?) : w'.ownsRow base e size v n L := by
  refine ⟨h.1,?_⟩
  rcases h.2 with h3 | ⟨b,cap,cur,e,h4,h5,h6⟩
  · exact Or.inl h3
  exact Or.inr ⟨b,cap,cur,e,h4,(hb b (by rw [e]; rfl)).trans h5,h6⟩
theorem row_ty {w : World} {base e size n g : Nat} {v : Value} {L : List Value} (h : w.ownsRow base e size v n L) (hg : v.ownBlock = some g) : ∃ cs,w.heap[g]? = some (.cells cs e (0,0)) := by
  rcases h.2 with ⟨h3,_⟩ | ⟨b,cap,cur,e5,h4,h5,h6⟩
  · rw [h3] at hg
    cases hg
  rw [e5] at hg; cases hg; exact ⟨_,h5⟩
theorem row_no {w : World} {base e size n g : Nat} {v : Value} {L : List Value} {cs : Array Value} {t : TypeId} {m : Nat × Nat} (h : w.ownsRow base e size v n L) (hg : w.heap[g]? = some (.cells cs t m)) (ht : e ≠ t) : v.ownBlock ≠ some g := fun e2 => by
  obtain ⟨cs2,h2⟩ := row_ty h e2; rw [hg] at h2; cases h2; exact ht rfl
structure WM (H0 X : Nat) (W0 w : World) (J : World -> Prop) (P : Nat -> Prop) (Wb hb xb pl : Nat) (vB : Value) (nB : Nat) (cB : List Value) (ES : List (List Nd × Nat × Nat)) (vE : Value) : Prop where
  fr : FRM H0 X W0 w
  j : J w
  box : w.heap[Wb]? = some (.cells #[.func (.func 50) #[] #[.pointer (some ⟨hb,0,none⟩),.pointer (some ⟨xb,0,none⟩)],.int .i64 (pl : Int),vB,vE] 104 (0,0))
  rowB : w.ownsRow H0 107 3 vB nB cB
  rowE : w.ownsRow H0 67 1 vE ES.length (ES.map pE).reverse
  lo : H0 <= Wb
  es : ∀ e ∈ ES,EA W0 P e.1 e.2.1 e.2.2
structure WC (H0 X : Nat) (W0 : World) (J : World -> Prop) (P : Nat -> Prop) : Prop where
  p : ∀ j,P j -> j < H0 /\ j ≠ X /\ j < W0.heap.size
  x : X < H0
  h : H0 <= W0.heap.size
  xt : ∃ cs,W0.heap[X]? = some (.cells cs 57 (0,0))
  jx : ∀ w,J w -> ∃ cs,w.heap[X]? = some (.cells cs 57 (0,0))
  js : JST X J
theorem row_form {w : World} {base e size n : Nat} {v : Value} {L : List Value} (h : w.ownsRow base e size v n L) : ∃ a c,v = .slice a n c := by
  rcases h.2 with ⟨h3,h4⟩ | ⟨b,cap,cur,e5,_⟩
  · exact ⟨none,0,by rw [h3,h4]⟩
  exact ⟨_,_,e5⟩
theorem row_lt {w : World} {base e size n g : Nat} {v : Value} {L : List Value} (h : w.ownsRow base e size v n L) (hg : v.ownBlock = some g) : base <= g /\ g < w.heap.size := h.lt g hg
theorem fld_frm {H0 X : Nat} {w W w7 : World} {Wb i : Nat} {v : Value} {cs : Array Value} {row : Option Nat} {t : TypeId} (hW : Below w.heap.size w W) (hg : W.grownBy w7 row) (hrow : ∀ g,row = some g -> H0 <= g /\ ∃ c,w.heap[g]? = some (.cells c t (0,0))) (ht : t = 107 ∨ t = 67) (hb : w.heap[Wb]? = some (.cells cs 104 (0,0))) (hlo : H0 <= Wb) (hX : X < H0) : FRM H0 X w (w7.setCell ⟨Wb,i,none⟩ v) /\ w7.heap[Wb]? = some (.cells cs 104 (0,0)) /\ (w7.setCell ⟨Wb,i,none⟩ v).heap[X]? = w.heap[X]? /\ (∀ (j : Nat) (ob : Obj),w.heap[j]? = some ob -> (∀ c t m,ob ≠ .cells c t m) -> (w7.setCell ⟨Wb,i,none⟩ v).heap[j]? = some ob) /\ (∀ j,j < w.heap.size -> j ≠ Wb -> row ≠ some j -> (w7.setCell ⟨Wb,i,none⟩ v).heap[j]? = w.heap[j]?) := by
  have hall : ∀ j,j < w.heap.size -> j ≠ Wb -> row ≠ some j -> (w7.setCell ⟨Wb,i,none⟩ v).heap[j]? = w.heap[j]? := fun j hj hn hr => by
    rw [heap_setCell_other _ _ _ _ hn,hg.block j (Nat.lt_of_lt_of_le hj hW.size) (fun e => hr e.symm),hW.block j hj]
  have hwlt := (Array.getElem?_eq_some_iff.1 hb).1; have hXlt : X < w.heap.size := by omega
  refine ⟨⟨hg.os.trans hW.os,hg.tape.trans hW.tape,hg.output.trans hW.output,by have := hW.size; have := hg.size; simp; omega,fun j ob hj hn hc => ?_⟩,?_,?_,fun j ob hj hc => ?_,hall⟩
  · refine (hall j (Array.getElem?_eq_some_iff.1 hj).1 (fun e => ?_) (fun e => ?_)).trans hj
    · subst e
      rw [hb] at hj; cases hj
      rcases hc with h1 | h1
      · omega
      exact (h1 _ _ _ rfl).1 rfl
    obtain ⟨h1,c,h2⟩ := hrow j e; rw [h2] at hj; cases hj
    rcases hc with h3 | h3
    · omega
    rcases ht with rfl | rfl
    · exact (h3 _ _ _ rfl).2.1 rfl
    exact (h3 _ _ _ rfl).2.2 rfl
  · rw [hg.block Wb (Nat.lt_of_lt_of_le hwlt hW.size) (fun e => ?_),hW.block Wb hwlt]
    · exact hb
    obtain ⟨h1,c,h2⟩ := hrow Wb e.symm; rw [hb] at h2; cases h2
    rcases ht with h | h <;> exact absurd h (by decide)
  · exact hall X hXlt (by omega) (fun e => by have := (hrow X e).1; omega)
  refine (hall j (Array.getElem?_eq_some_iff.1 hj).1 (fun e => ?_) (fun e => ?_)).trans hj
  · subst e
    rw [hb] at hj; cases hj; exact hc _ _ _ rfl
  obtain ⟨h1,c,h2⟩ := hrow j e; rw [h2] at hj; cases hj; exact hc _ _ _ rfl
theorem WM.pushE {H0 X : Nat} {W0 w W w7 : World} {J : World -> Prop} {P : Nat -> Prop} {Wb hb xb pl : Nat} {vB : Value} {nB : Nat} {cB : List Value} {ES : List (List Nd × Nat × Nat)} {aE : Option Addr} {cE g7 c7 : Nat} (hc : WC H0 X W0 J P) (h : WM H0 X W0 w J P Wb hb xb pl vB nB cB ES (.slice aE ES.length cE)) (e : List Nd × Nat × Nat) (he : EA W0 P e.1 e.2.1 e.2.2) (hW : Below w.heap.size w W) (hown : w7.ownsRow H0 67 1 (.slice (some ⟨g7,0,none⟩) (ES.length + 1) c7) (ES.length + 1) ((ES.map pE).reverse ++ [pE e])) (hg : W.grownBy w7 (Value.slice aE ES.length cE).ownBlock) :
    (w7.cell? ⟨Wb,3,none⟩ = some (.slice aE ES.length cE) /\ w7.frozen? ⟨Wb,3,none⟩ = false) /\ WM H0 X W0 (w7.setCell ⟨Wb,3,none⟩ (.slice (some ⟨g7,0,none⟩) (ES.length + 1) c7)) J P Wb hb xb pl vB nB cB (e :: ES) (.slice (some ⟨g7,0,none⟩) (ES.length + 1) c7) /\ FRM H0 X w (w7.setCell ⟨Wb,3,none⟩ (.slice (some ⟨g7,0,none⟩) (ES.length + 1) c7)) := by
  obtain ⟨f1,f2,f3,f4,f5⟩ := fld_frm (i := 3) (v := .slice (some ⟨g7,0,none⟩) (ES.length + 1) c7) hW hg (fun g e => ⟨(row_lt h.rowE e).1,row_ty h.rowE e⟩) (Or.inr rfl) h.box h.lo hc.x; refine ⟨⟨cell_of f2 3,fz_of f2 3⟩,⟨h.fr.trans f1,hc.js _ _ h.j f3 f4,by rw [heap_setCell_same _ Wb 3 _ _ _ f2]; rfl,row_is h.rowB (fun j hj => f5 j (row_lt h.rowB hj).2 (fun e => ?_) (fun e => ?_)),?_,h.lo,fun x hx => ?_⟩,f1⟩
  · subst e
    exact row_no h.rowB h.box (by decide) hj
  · obtain ⟨c,h2⟩ := row_ty h.rowE e
    exact row_no h.rowB h2 (by decide) hj
  · have h5 := row_is (w' := w7.setCell ⟨Wb,3,none⟩ (.slice (some ⟨g7,0,none⟩) (ES.length + 1) c7)) hown (fun j hj => heap_setCell_other _ _ _ _ (fun e => by subst e; exact row_no hown f2 (by decide) hj))
    simpa using h5
  rcases List.mem_cons.1 hx with rfl | hx
  · exact he
  exact h.es x hx
theorem WM.over {H0 X : Nat} {W0 w w' : World} {J : World -> Prop} {P : Nat -> Prop} {Wb hb xb pl : Nat} {vB : Value} {nB : Nat} {cB : List Value} {ES : List (List Nd × Nat × Nat)} {vE : Value} (hc : WC H0 X W0 J P) (h : WM H0 X W0 w J P Wb hb xb pl vB nB cB ES vE) (hb' : Below w.heap.size w w') : WM H0 X W0 w' J P Wb hb xb pl vB nB cB ES vE :=
  ⟨h.fr.trans (FRM.of hb'),hc.js.below h.j (by have := hc.x; have := hc.h; have := h.fr.size; omega) hb',blk_next h.box hb',row_below h.rowB hb',row_below h.rowE hb',h.lo,h.es⟩
theorem WM.ea {H0 X : Nat} {W0 w : World} {J : World -> Prop} {P : Nat -> Prop} {Wb hb xb pl : Nat} {vB : Value} {nB : Nat} {cB : List Value} {ES : List (List Nd × Nat × Nat)} {vE : Value} (hc : WC H0 X W0 J P) (h : WM H0 X W0 w J P Wb hb xb pl vB nB cB ES vE) {L : List Nd} {b o : Nat} (he : EA W0 P L b o) : EA w P L b o := he.keep (h.fr.keepP hc.p)
set_option maxHeartbeats 8000000 in
set_option maxRecDepth 100000 in
theorem wparts_any {H0 X : Nat} {W0 : World} {J : World -> Prop} {P : Nat -> Prop} (hc : WC H0 X W0 J P) {w : World} {Wb hb xb pl : Nat} {vB : Value} {nB : Nat} {cB : List Value} {ES : List (List Nd × Nat × Nat)} {vE : Value} (h : WM H0 X W0 w J P Wb hb xb pl vB nB cB ES vE) {L : List Nd} {b o : Nat} (hE : EA W0 P L b o) (hL : L.length <= 1048576) (hES : ES.length <= 1048576) :
    Calls Tryz.prog 88 #[.pointer (some ⟨Wb,0,none⟩),.pointer (some ⟨b,o,none⟩)] w fun e w' => e = .returned (.tuple #[]) /\ ∃ Ls bk ok vE2,L.tail = List.flatten Ls /\ Ls.length <= L.tail.length /\ WM H0 X W0 w' J P Wb hb xb pl vB nB cB (kE bk ok 0 Ls ++ ES) vE2 /\ FRM H0 X w w' := by
  have HEA : Hid (∀ w',FRM H0 X w w' -> EA w' P L b o) := fun w' h' => (h.ea hc hE).keep (h'.keepP (fun j hj => ⟨(hc.p j hj).1,(hc.p j hj).2.1,by have := (hc.p j hj).2.2; have := h.fr.size; omega⟩))
  obtain ⟨n,v0,v1,v2,v3,hPb,c0,c1,c2,c3,hRE⟩ := h.ea hc hE; cases n with
  | zero => exact hRE.elim
  | succ n =>
  obtain ⟨k,x,s,ad,cap,Ls,rfl,e5,hS⟩ := hRE; cases e5; have hlen := hS.len; simp only [List.length_cons] at hL; have hPw : ∀ j,P j -> j < H0 /\ j ≠ X /\ j < w.heap.size := fun j hj => ⟨(hc.p j hj).1,(hc.p j hj).2.1,by have := (hc.p j hj).2.2; have := h.fr.size; omega⟩
  obtain ⟨i0,hi,hz0,hz1,hz2⟩ := info_parts (P := Tryz.prog) (e := 67) (z := .pointer none) (size := 1) (bytes := 8) (by kernel_rfl); obtain ⟨m,hm⟩ : ∃ m,Ls.length = m := ⟨_,rfl⟩; have HC3 : Hid (∀ w',FRM H0 X w w' -> w'.cell? ⟨b,o + 3,none⟩ = some (.slice ad m cap)) := fun w' h' => by rw [<- hm]; exact (World.cell?_of_block (a := ⟨b,_,none⟩) (h'.keepP hPw b hPb)).trans c3
  have HKid : Hid (0 < m -> ∃ bk ok,ad = some ⟨bk,ok,none⟩ /\ ∀ j,j < m -> EA W0 P (Ls.getD j []) bk (ok + j * 4)) := fun h0 => by
    obtain ⟨bk,ok,e,hP2,hcc⟩ := hS (by omega); refine ⟨bk,ok,e,fun j hj => ?_⟩; obtain ⟨u0,u1,u2,u3,d0,d1,d2,d3,hEE⟩ := hcc j (by omega); have h1 : EA w P (Ls.getD j []) bk (ok + j * 4) := ⟨n,u0,u1,u2,u3,hP2,d0,d1,d2,d3,hEE⟩; exact h1.keep (fun j hj => (h.fr.keepP hc.p j hj).symm)
  have HM : Hid (WM H0 X W0 w J P Wb hb xb pl vB nB cB ES vE) := h; have HWC : Hid (WC H0 X W0 J P) := hc; have HML : Hid (Ls.length = m) := hm; have hmm : m <= 1048576 := by omega
  have n3 := HC3.out w (FRM.refl _ _ _); rw [hm] at hlen
  generalize hPP : (fun (e : Ending) (w' : World) => e = Ending.returned (.tuple #[]) /\ ∃ Ls_1 bk ok vE2,(({ k := k,x := x,s := s,m := Ls.length,h := hts Ls + 1 } : Nd) :: Ls.flatten).tail = List.flatten Ls_1 /\ Ls_1.length <= (({ k := k,x := x,s := s,m := Ls.length,h := hts Ls + 1 } : Nd) :: Ls.flatten).tail.length /\ WM H0 X W0 w' J P Wb hb xb pl vB nB cB (kE bk ok 0 Ls_1 ++ ES) vE2 /\ FRM H0 X w w') = PP
  have HP : Hid (∀ w' bk ok vE2,WM H0 X W0 w' J P Wb hb xb pl vB nB cB (kE bk ok 0 Ls ++ ES) vE2 -> FRM H0 X w w' -> PP (.returned (.tuple #[])) w') := fun w' bk ok vE2 h' h2 => by rw [<- hPP]; exact ⟨rfl,Ls,bk,ok,vE2,rfl,by simp only [List.tail_cons]; omega,h',h2⟩
  clear hPP hS hc h c0 c1 c2 c3 hE hPw hL hm hPb HEA; have q0 : IntKind.i64.wrap ((m : Int) - 1) = (m : Int) - 1 := by rw [IntKind.wrap_i64]; omega
  by_cases hm0 : m = 0
  · subst hm0
    have hLn : Ls = [] := List.eq_nil_of_length_eq_zero HML.out
    go_enter Tryz.func88,Tryz.ntmps88
    go_wp2_with fail
    go_loopg [4] 0 (fun gk v4 wr => v4 = .int .i64 (-1) /\ wr = w)
    case atStart => exact ⟨rfl,rfl⟩
    case round =>
      obtain ⟨rfl,rfl⟩ := hrel
      go_wp2_with fail
      go_end0
      exact HP.out _ 0 0 vE (by rw [hLn]; exact HM.out) (FRM.refl _ _ _)
  obtain ⟨bk,ok,rfl,hkid⟩ := HKid.out (by omega); replace hkid : Hid (∀ j,j < m -> EA W0 P (Ls.getD j []) bk (ok + j * 4)) := hkid; clear HKid
  go_enter Tryz.func88,Tryz.ntmps88
  go_wp2_with fail
  go_loopg [4] m (fun gk v4 wr => gk <= m /\ v4 = .int .i64 ((gk : Int) - 1) /\ Aside (∃ vE2,WM H0 X W0 wr J P Wb hb xb pl vB nB cB (kE bk ok gk (Ls.drop gk) ++ ES) vE2 /\ FRM H0 X w wr /\ (kE bk ok gk (Ls.drop gk) ++ ES).length + gk = m + ES.length))
  case atStart => exact ⟨Nat.le_refl _,rfl,vE,by rw [List.drop_of_length_le (by rw [HML.out]; exact Nat.le_refl _)]; exact HM.out,FRM.refl _ _ _,by rw [List.drop_of_length_le (by rw [HML.out]; exact Nat.le_refl _)]; simp [kE]; omega⟩
  case round =>
    obtain ⟨hgm,rfl,HR⟩ := hrel; obtain ⟨vE1,hwm,hfr,hln⟩ := HR.out; clear HR; cases hg : gk with
    | zero =>
      subst hg; have q1 : ¬ (0 : Int) <= ((0 : Nat) : Int) - 1 := by omega
      have HZ : Hid (PP (.returned (.tuple #[])) wr) := HP.out _ bk ok vE1 (by rw [List.drop_zero] at hwm; exact hwm) hfr; clear hwm hfr hln
      go_wp2_with fail
      go_end0
      exact HZ.out
    | succ g =>
      subst hg; have q1 : (0 : Int) <= ((g + 1 : Nat) : Int) - 1 := by omega
      have q2 : ((g + 1 : Nat) : Int) - 1 = (g : Int) := by omega
      have q4 : (g : Int) < (m : Int) := by omega
      have q5 : g < m := by omega
      rw [q2]; have q3 : (0 : Int) <= (g : Int) := by omega
      have q6 : IntKind.i64.wrap ((g : Int) - 1) = (g : Int) - 1 := by rw [IntKind.wrap_i64]; omega
      obtain ⟨aE,cE,rfl⟩ := row_form hwm.rowE; obtain ⟨nE,hnE⟩ : ∃ nE,(kE bk ok (g + 1) (Ls.drop (g + 1)) ++ ES).length = nE := ⟨_,rfl⟩; obtain ⟨cs1,hcs1⟩ : ∃ cs1,((kE bk ok (g + 1) (Ls.drop (g + 1)) ++ ES).map pE).reverse = cs1 := ⟨_,rfl⟩; obtain ⟨wd,hwd⟩ : ∃ wd,wr.drew = wd := ⟨_,rfl⟩; have HWd : Hid (wr.drew = wd) := hwd; have hbd : Below wr.heap.size wr wd := by rw [<- hwd]; exact ⟨rfl,rfl,rfl,Nat.le_refl _,fun _ _ => rfl⟩
      have hwd2 := hwm.over HWC.out hbd; have hfd := hfr.trans (FRM.of hbd); rw [hnE] at hwd2; have HS0 : Hid (wd.cell? ⟨Wb,3,none⟩ = some (.slice aE nE cE) /\ wd.cell? ⟨b,o + 3,none⟩ = some (.slice (some ⟨bk,ok,none⟩) m cap)) := ⟨cell_of hwd2.box 3,HC3.out wd hfd⟩; have HRw : Hid (wd.ownsRow H0 67 1 (.slice aE nE cE) nE cs1) := by have := hwd2.rowE; rw [hnE,hcs1] at this; exact this
      have HS1 : Hid ((wd.alloc (.cells #[.pointer (some ⟨bk,ok + g * 4,none⟩)] 67)).cell? ⟨Wb,3,none⟩ = some (.slice aE nE cE) /\ (wd.alloc (.cells #[.pointer (some ⟨bk,ok + g * 4,none⟩)] 67)).cell? ⟨b,o + 3,none⟩ = some (.slice (some ⟨bk,ok,none⟩) m cap)) := ⟨cell_of (blk_next hwd2.box (bel1 _ _)) 3,HC3.out _ (hfd.trans (FRM.of (bel1 _ _)))⟩; have HNw : Hid (∀ j u,[Value.pointer (some ⟨bk,ok + g * 4,none⟩)][j]? = some u -> (wd.alloc (.cells #[.pointer (some ⟨bk,ok + g * 4,none⟩)] 67)).cell? ((⟨wd.heap.size,0,none⟩ : Addr).add j) = some u) := World.news_of_block (heap_alloc_new wd _); have HSz : Hid (H0 <= wd.heap.size) := by have h1 := HWC.out.h; have h2 := hwd2.fr.size; show _ <= _; omega
      have HPut : Hid (∀ w8 g8 c8,w8.ownsRow H0 67 1 (.slice (some ⟨g8,0,none⟩) (nE + 1) c8) (nE + 1) (cs1 ++ [.pointer (some ⟨bk,ok + g * 4,none⟩)]) -> (wd.alloc (.cells #[.pointer (some ⟨bk,ok + g * 4,none⟩)] 67)).grownBy w8 (Value.slice aE nE cE).ownBlock -> (w8.cell? ⟨Wb,3,none⟩ = some (.slice aE nE cE) /\ w8.frozen? ⟨Wb,3,none⟩ = false) /\ (WM H0 X W0 (w8.setCell ⟨Wb,3,none⟩ (.slice (some ⟨g8,0,none⟩) (nE + 1) c8)) J P Wb hb xb pl vB nB cB (kE bk ok g (Ls.drop g) ++ ES) (.slice (some ⟨g8,0,none⟩) (nE + 1) c8) /\ FRM H0 X w (w8.setCell ⟨Wb,3,none⟩ (.slice (some ⟨g8,0,none⟩) (nE + 1) c8))) /\ FRM H0 X wd w8) := fun w8 g8 c8 ho hgr => by
        rw [<- hnE] at ho hgr ⊢; rw [<- hcs1] at ho; have hke := kE_drop bk ok Ls (g := g) (by rw [HML.out]; exact q5); have hw2 := hwd2; rw [<- hnE] at hw2; obtain ⟨y1,y2,y3⟩ := WM.pushE HWC.out hw2 (Ls.getD g [],bk,ok + g * 4) (hkid.out g q5) (bel1 _ _) ho hgr; refine ⟨y1,⟨by rw [hke]; exact y2,hfd.trans y3⟩,⟨hgr.os,hgr.tape,hgr.output,by have := hgr.size; simp at this; omega,fun j ob hj hn hcc => ?_⟩⟩; have hlt := (Array.getElem?_eq_some_iff.1 hj).1; refine (hgr.block j (by simp; omega) (fun e => ?_)).trans ((Below.heap_alloc _ _ j hlt).trans hj); obtain ⟨h1,c5,h2⟩ := And.intro (row_lt hw2.rowE e.symm).1 (row_ty hw2.rowE e.symm); rw [h2] at hj; cases hj
        rcases hcc with h3 | h3
        · omega
        exact (h3 _ _ _ rfl).2.2 rfl
      have HRd : Hid (∀ w8,FRM H0 X wd w8 -> w8.cell? ⟨b,o + 3,none⟩ = some (.slice (some ⟨bk,ok,none⟩) m cap)) := fun w8 h8 => HC3.out w8 (hfd.trans h8)
      have hnE2 : nE <= 3000000 := by omega
      have HLn : Hid ((kE bk ok g (Ls.drop g) ++ ES).length + g = m + ES.length) := by
        have hke := kE_drop bk ok Ls (g := g) (by rw [HML.out]; exact q5)
        show _ = _
        rw [hke]; simp only [List.cons_append,List.length_cons]
        omega
      clear hwd hbd hwd2 hfd hwm hfr hnE hcs1 hln
      go_upto_region 3 with fail
      refine AnyE.region (fun Wc => Hid (Wc.cell? ⟨Wb,3,none⟩ = some (.slice aE nE cE) /\ Wc.cell? ⟨b,o + 3,none⟩ = some (.slice (some ⟨bk,ok,none⟩) m cap))) 15 (by kernel_rfl) ?_; rw [HWd.out]; refine AnyE.take (i := 0) (oi := { dst := some 15,op := Op.move (Operand.tmp 0),type := 119,pos := "walk.go:138",after := #[],guard := none }) (v := .pointer (some ⟨Wb,0,none⟩)) rfl (by kernel_rfl) (by kernel_rfl) (by kernel_rfl) (by kernel_rfl) (fun _ _ _ h => h) (Or.inl ⟨by rfl,?_⟩) HS0 ?_
      · intro W _
        go_simp
      try simp only [Act.put,z0,z1,z2]
      refine AnyE.take (i := 1) (oi := { dst := some 16,op := Op.move (Operand.tmp 0),type := 119,pos := "walk.go:138",after := #[],guard := none }) (v := .pointer (some ⟨Wb,0,none⟩)) rfl (by kernel_rfl) (by kernel_rfl) (by kernel_rfl) (by kernel_rfl) (fun _ _ _ h => h) (Or.inl ⟨by rfl,?_⟩) HS0 ?_
      · intro W _
        go_simp
      try simp only [Act.put,z0,z1,z2]
      refine AnyE.take (i := 2) (oi := { dst := some 17,op := Op.nilCheck (Operand.tmp 16),type := 0,pos := "walk.go:138",after := #[{ on := 1,ground := Ground.data }],guard := none }) (v := .pointer (some ⟨Wb,0,none⟩)) rfl (by kernel_rfl) (by kernel_rfl) (by kernel_rfl) (by kernel_rfl) (fun _ _ _ h => h) (Or.inl ⟨by rfl,?_⟩) HS0 ?_
      · intro W _
        go_simp
      try simp only [Act.put,z0,z1,z2]
      refine AnyE.take (i := 3) (oi := { dst := some 18,op := Op.fieldAddr 104 (Operand.tmp 17) 3,type := 0,pos := "walk.go:138",after := #[{ on := 2,ground := Ground.data }],guard := none }) (v := .pointer (some ⟨Wb,3,none⟩)) rfl (by kernel_rfl) (by kernel_rfl) (by kernel_rfl) (by kernel_rfl) (fun _ _ _ h => h) (Or.inl ⟨by rfl,?_⟩) HS0 ?_
      · intro W _
        go_simp
      try simp only [Act.put,z0,z1,z2]
      refine AnyE.take (i := 4) (oi := { dst := some 19,op := Op.load 102 (Operand.tmp 18),type := 102,pos := "walk.go:138",after := #[{ on := 3,ground := Ground.data }],guard := none }) (v := .slice aE nE cE) rfl (by kernel_rfl) (by kernel_rfl) (by kernel_rfl) (by kernel_rfl) (fun _ _ _ h => h) (Or.inl ⟨by rfl,?_⟩) HS0 ?_
      · intro W hW
        have s1 := hW.out.1
        go_simp
      try simp only [Act.put,z0,z1,z2]
      refine AnyE.take (i := 5) (oi := { dst := some 20,op := Op.move (Operand.tmp 1),type := 67,pos := "walk.go:138",after := #[],guard := none }) (v := .pointer (some ⟨b,o,none⟩)) rfl (by kernel_rfl) (by kernel_rfl) (by kernel_rfl) (by kernel_rfl) (fun _ _ _ h => h) (Or.inl ⟨by rfl,?_⟩) HS0 ?_
      · intro W _
        go_simp
      try simp only [Act.put,z0,z1,z2]
      refine AnyE.take (i := 6) (oi := { dst := some 21,op := Op.nilCheck (Operand.tmp 20),type := 0,pos := "walk.go:138",after := #[{ on := 5,ground := Ground.data }],guard := none }) (v := .pointer (some ⟨b,o,none⟩)) rfl (by kernel_rfl) (by kernel_rfl) (by kernel_rfl) (by kernel_rfl) (fun _ _ _ h => h) (Or.inl ⟨by rfl,?_⟩) HS0 ?_
      · intro W _
        go_simp
      try simp only [Act.put,z0,z1,z2]
      refine AnyE.take (i := 7) (oi := { dst := some 22,op := Op.fieldAddr 43 (Operand.tmp 21) 3,type := 0,pos := "walk.go:138",after := #[{ on := 6,ground := Ground.data }],guard := none }) (v := .pointer (some ⟨b,o + 3,none⟩)) rfl (by kernel_rfl) (by kernel_rfl) (by kernel_rfl) (by kernel_rfl) (fun _ _ _ h => h) (Or.inl ⟨by rfl,?_⟩) HS0 ?_
      · intro W _
        go_simp
      try simp only [Act.put,z0,z1,z2]
      refine AnyE.take (i := 8) (oi := { dst := some 23,op := Op.load 41 (Operand.tmp 22),type := 41,pos := "walk.go:138",after := #[{ on := 7,ground := Ground.data }],guard := none }) (v := .slice (some ⟨bk,ok,none⟩) m cap) rfl (by kernel_rfl) (by kernel_rfl) (by kernel_rfl) (by kernel_rfl) (fun _ _ _ h => h) (Or.inl ⟨by rfl,?_⟩) HS0 ?_
      · intro W hW
        have s2 := hW.out.2
        go_simp
      try simp only [Act.put,z0,z1,z2]
      refine AnyE.take (i := 9) (oi := { dst := some 24,op := Op.move (Operand.tmp 4),type := 3,pos := "walk.go:138",after := #[],guard := none }) (v := .int .i64 (g : Int)) rfl (by kernel_rfl) (by kernel_rfl) (by kernel_rfl) (by kernel_rfl) (fun _ _ _ h => h) (Or.inl ⟨by rfl,?_⟩) HS0 ?_
      · intro W _
        go_simp
      try simp only [Act.put,z0,z1,z2]
      refine AnyE.take (i := 10) (oi := { dst := some 25,op := Op.indexAddr 41 (Operand.tmp 23) (Operand.tmp 24),type := 0,pos := "walk.go:138",after := #[{ on := 8,ground := Ground.data },{ on := 9,ground := Ground.data }],guard := none }) (v := .pointer (some ⟨bk,ok + g * 4,none⟩)) rfl (by kernel_rfl) (by kernel_rfl) (by kernel_rfl) (by kernel_rfl) (fun _ _ _ h => h) (Or.inl ⟨by rfl,?_⟩) HS0 ?_
      · intro W _
        go_simp
      try simp only [Act.put,z0,z1,z2]
      refine AnyE.one (i := 11) (o := { dst := some 26,op := Op.buildSlice 102 1 #[(0,Operand.tmp 25)],type := 102,pos := "walk.go:138",after := #[{ on := 10,ground := Ground.data }],guard := none }) (by kernel_rfl) rfl (fun K hK => ?_)
      go_simp
      refine hK.out _ _ (fun _ => HS1) ?_; clear hK K
      try simp only [Act.put,z0,z1,z2]
      refine AnyE.one (i := 12) (o := { dst := some 27,op := Op.call { callee := Callee.builtin Builtin.append,args := #[Operand.tmp 19,Operand.tmp 26],argTypes := #[102,102] },type := 102,pos := "walk.go:138",after := #[{ on := 4,ground := Ground.data },{ on := 11,ground := Ground.data }],guard := none }) (by kernel_rfl) rfl (fun K hK => ?_); refine step_append_lies _ (by rfl) _ _ _ (by rfl) H0 67 i0 _ 1 8 Tryz.underlying102 hi hz0 hz1 hz2 rfl (by omega) (.slice aE nE cE) nE cs1 (by rfl) (HRw.out.alloc _) ⟨wd.heap.size,0,none⟩ 1 1 [.pointer (some ⟨bk,ok + g * 4,none⟩)] (by rfl) (by rfl) HNw.out (by intro u hu; simp at hu; subst hu; rfl) (by omega) (by unfold maxLen; omega) (by omega) (by have := HSz.out; simp; omega) (wd.heap.size + 1) (by simp) ?_; intro g8 c8 w8 hown8 hgrow8 _ _; obtain ⟨⟨y1,y2⟩,y3,y4⟩ := HPut.out w8 g8 c8 hown8 hgrow8; have HS8 : Hid (w8.cell? ⟨Wb,3,none⟩ = some (.slice aE nE cE) /\ w8.cell? ⟨b,o + 3,none⟩ = some (.slice (some ⟨bk,ok,none⟩) m cap)) := ⟨y1,HRd.out w8 y4⟩; have HY3 : Hid _ := y3; clear y3 y4 hown8 hgrow8; refine hK.out _ _ (fun _ => HS8) ?_; clear hK K
      try simp only [Act.put,z0,z1,z2]
      refine AnyE.one (i := 13) (o := { dst := some 28,op := Op.nilCheck (Operand.tmp 15),type := 0,pos := "walk.go:138",after := #[{ on := 0,ground := Ground.data },{ on := 0,ground := Ground.phase },{ on := 1,ground := Ground.phase },{ on := 2,ground := Ground.phase },{ on := 3,ground := Ground.phase },{ on := 4,ground := Ground.phase },{ on := 5,ground := Ground.phase },{ on := 6,ground := Ground.phase },{ on := 7,ground := Ground.phase },{ on := 8,ground := Ground.phase },{ on := 9,ground := Ground.phase },{ on := 10,ground := Ground.phase },{ on := 11,ground := Ground.phase },{ on := 12,ground := Ground.phase }],guard := none }) (by kernel_rfl) rfl (fun K hK => ?_)
      go_simp
      refine hK.out _ _ (fun _ => HS8) ?_; clear hK K
      try simp only [Act.put,z0,z1,z2]
      refine AnyE.one (i := 14) (o := { dst := some 29,op := Op.fieldAddr 104 (Operand.tmp 28) 3,type := 0,pos := "walk.go:138",after := #[{ on := 13,ground := Ground.data },{ on := 0,ground := Ground.phase },{ on := 1,ground := Ground.phase },{ on := 2,ground := Ground.phase },{ on := 3,ground := Ground.phase },{ on := 4,ground := Ground.phase },{ on := 5,ground := Ground.phase },{ on := 6,ground := Ground.phase },{ on := 7,ground := Ground.phase },{ on := 8,ground := Ground.phase },{ on := 9,ground := Ground.phase },{ on := 10,ground := Ground.phase },{ on := 11,ground := Ground.phase },{ on := 12,ground := Ground.phase }],guard := none }) (by kernel_rfl) rfl (fun K hK => ?_)
      go_simp
      refine hK.out _ _ (fun _ => HS8) ?_; clear hK K
      try simp only [Act.put,z0,z1,z2]
      refine AnyE.one (i := 15) (o := { dst := none,op := Op.store 102 (Operand.tmp 29) (Operand.tmp 27),type := 0,pos := "walk.go:138",after := #[{ on := 14,ground := Ground.data },{ on := 12,ground := Ground.data },{ on := 12,ground := Ground.chain },{ on := 0,ground := Ground.phase },{ on := 1,ground := Ground.phase },{ on := 2,ground := Ground.phase },{ on := 3,ground := Ground.phase },{ on := 4,ground := Ground.phase },{ on := 5,ground := Ground.phase },{ on := 6,ground := Ground.phase },{ on := 7,ground := Ground.phase },{ on := 8,ground := Ground.phase },{ on := 9,ground := Ground.phase },{ on := 10,ground := Ground.phase },{ on := 11,ground := Ground.phase },{ on := 12,ground := Ground.phase }],guard := none }) (by kernel_rfl) rfl (fun K hK => ?_)
      go_simp
      refine hK.out _ _ (fun h => absurd rfl h) (AnyE.done (by kernel_rfl) ?_ _); clear hK K
      try simp only [Act.put,z0,z1,z2]
      have HY : Hid (WM H0 X W0 (w8.setCell ⟨Wb,3,none⟩ (.slice (some ⟨g8,0,none⟩) (nE + 1) c8)) J P Wb hb xb pl vB nB cB (kE bk ok g (Ls.drop g) ++ ES) (.slice (some ⟨g8,0,none⟩) (nE + 1) c8) /\ FRM H0 X w (w8.setCell ⟨Wb,3,none⟩ (.slice (some ⟨g8,0,none⟩) (nE + 1) c8))) := HY3.out; clear HY3 y1 y2 HS8 HS0 HS1
      generalize w8.setCell ⟨Wb,3,none⟩ (.slice (some ⟨g8,0,none⟩) (nE + 1) c8) = w9 at *
      go_wp2_with fail
      go_roundg g
      case measure => omega
      case rel => exact ⟨by omega,by simp,_,HY.out.1,HY.out.2,HLn.out⟩
end Go.Proofs.YtfljcdccepnidaaGreatDoor
