import Derived.Test.YtfljcdccepnidaaGreatDoorSqA
import Derived.Test.YtfljcdccepnidaaGreatDoorWuC
namespace Go.Proofs.YtfljcdccepnidaaGreatDoor
open Go.ChangeShapes Go.WideShapes Go.ChangeAt Go.RowKit Go.Lib

theorem row_cut {w : World} {base e g n cap : Nat} {xs : List Value} {v : Value} (h : w.ownsRow base e 1 (.slice (some ⟨g,0,none⟩) (n + 1) cap) (n + 1) (xs ++ [v])) : w.ownsRow base e 1 (.slice (some ⟨g,0,none⟩) n cap) n xs /\ w.cell? ⟨g,n,none⟩ = some v /\ n + 1 <= cap /\ cap <= maxLen := by
  obtain ⟨hl,h2⟩ := h; rw [List.length_append,List.length_singleton] at hl
  rcases h2 with ⟨h3,_⟩ | ⟨b,cap2,cur,e5,h4,h5,h6,h7,h8,h9⟩
  · cases h3
  cases e5; simp only [Nat.mul_one] at *; have hx : xs = cur.toList.take n := by
    have h10 := congrArg (List.take n) h9; rw [List.take_take,List.take_left' (by omega)] at h10; rw [<- h10]
    congr 1
    omega
  refine ⟨⟨by omega,Or.inr ⟨_,cap,cur,rfl,h4,h5,by omega,h7,by omega,by rw [Nat.mul_one]; exact hx.symm⟩⟩,?_,h6,h7⟩; rw [cell_of h5]; have h10 : (cur.toList.take (n + 1))[n]? = (xs ++ [v])[n]? := by rw [h9]
  rw [List.getElem?_take_of_lt (by omega),List.getElem?_append_right (by omega),show n - xs.length = 0 by omega] at h10
  simpa using h10
theorem row_some {w : World} {base e size n : Nat} {a : Option Addr} {c : Nat} {L : List Value} (h : w.ownsRow base e size (.slice a (n + 1) c) (n + 1) L) : ∃ g,a = some ⟨g,0,none⟩ := by
  rcases h.2 with ⟨h3,h4⟩ | ⟨b,cap,cur,e5,_⟩
  · omega
  cases e5; exact ⟨_,rfl⟩
theorem WM.popE {H0 X : Nat} {W0 w : World} {J : World -> Prop} {P : Nat -> Prop} {Wb hb xb pl : Nat} {vB : Value} {nB : Nat} {cB : List Value} {ES : List (List Nd × Nat × Nat)} {e : List Nd × Nat × Nat} {g cE n : Nat} (hn : ES.length = n) (hc : WC H0 X W0 J P) (h : WM H0 X W0 w J P Wb hb xb pl vB nB cB (e :: ES) (.slice (some ⟨g,0,none⟩) (n + 1) cE)) :
    w.cell? ⟨g,n,none⟩ = some (pE e) /\ n + 1 <= cE /\ cE <= maxLen /\ EA W0 P e.1 e.2.1 e.2.2 /\ WM H0 X W0 (w.setCell ⟨Wb,3,none⟩ (.slice (some ⟨g,0,none⟩) n cE)) J P Wb hb xb pl vB nB cB ES (.slice (some ⟨g,0,none⟩) n cE) /\ FRM H0 X w (w.setCell ⟨Wb,3,none⟩ (.slice (some ⟨g,0,none⟩) n cE)) := by
  subst hn; have hr := h.rowE; rw [List.map_cons,List.reverse_cons,List.length_cons] at hr; obtain ⟨r1,r2,r3,r4⟩ := row_cut hr; obtain ⟨f1,f2,f3,f4,f5⟩ := fld_frm (H0 := H0) (X := X) (t := 107) (row := none) (i := 3) (v := .slice (some ⟨g,0,none⟩) ES.length cE) (Below.refl w.heap.size w) (⟨rfl,rfl,rfl,Nat.le_refl _,fun _ _ _ => rfl⟩ : w.grownBy w none) (fun g e => by cases e) (Or.inl rfl) h.box h.lo hc.x; refine ⟨r2,r3,r4,h.es e (by simp),⟨h.fr.trans f1,hc.js _ _ h.j f3 f4,by rw [heap_setCell_same _ Wb 3 _ _ _ f2]; rfl,row_is h.rowB (fun j hj => f5 j (row_lt h.rowB hj).2 (fun e => ?_) (by simp)),row_is r1 (fun j hj => f5 j (row_lt r1 hj).2 (fun e => ?_) (by simp)),h.lo,fun x hx => h.es x (by simp [hx])⟩,f1⟩
  · subst e
    exact row_no h.rowB h.box (by decide) hj
  subst e; exact row_no r1 h.box (by decide) hj
theorem es_len {W0 : World} {P : Nat -> Prop} : ∀ {ES : List (List Nd × Nat × Nat)},(∀ e ∈ ES,EA W0 P e.1 e.2.1 e.2.2) -> ES.length <= ((ES.map (fun e => e.1)).flatten).length
  | [],_ => by simp
  | e :: r,h => by
    have h1 := es_len (ES := r) (fun x hx => h x (by simp [hx])); obtain ⟨n,v0,v1,v2,v3,_,_,_,_,_,hRE⟩ := h e (by simp); have := hRE.pos; simp only [List.map_cons,List.flatten_cons,List.length_append,List.length_cons]
    omega
def VE (H0 X : Nat) (W0 : World) (J : World -> Prop) (P : Nat -> Prop) (hb xb : Nat) (vio : Nat -> Th -> Bool) : Prop := ∀ (w : World) (i : Nat) (L : List Nd) (b o : Nat) (tp : Bool) (lp : List ByteArray) (lpp : Option Addr),L.length <= 1048576 /\ NB (L.headD nd0).s -> FRM H0 X W0 w -> J w -> EA w P L b o -> LPS w lp lpp -> Calls Tryz.prog 50 #[.agg (tcs (i : Int) none none (some ⟨b,o,none⟩) 0 tp lpp),.pointer (some ⟨hb,0,none⟩),.pointer (some ⟨xb,0,none⟩)] w fun e w' => e = vans (vio i (thX tp lp (L.headD nd0))) (tcs (i : Int) none none (some ⟨b,o,none⟩) 0 tp lpp) /\ OTH X w w' /\ J w'
theorem WM.lps {H0 X : Nat} {W0 w w' : World} {J : World -> Prop} {P : Nat -> Prop} (hc : WC H0 X W0 J P) (hJ : J w) (hf : FRM H0 X w w') {lp : List ByteArray} {lpp : Option Addr} (h : LPS w lp lpp) : LPS w' lp lpp := h.keep hf (fun cs m e => by
  obtain ⟨c,h2⟩ := hc.jx w hJ; rw [h2] at e; cases e)
theorem WM.told {H0 X : Nat} {W0 w w' : World} {J : World -> Prop} {P : Nat -> Prop} {Wb hb xb pl : Nat} {vB : Value} {nB : Nat} {cB : List Value} {ES : List (List Nd × Nat × Nat)} {vE : Value} (hc : WC H0 X W0 J P) (h : WM H0 X W0 w J P Wb hb xb pl vB nB cB ES vE) (ho : OT2 X Wb w w') (hj : J w') (hbox : w'.heap[Wb]? = some (.cells #[.func (.func 50) #[] #[.pointer (some ⟨hb,0,none⟩),.pointer (some ⟨xb,0,none⟩)],.int .i64 ((pl : Int) + 1),vB,vE] 104 (0,0))) : WM H0 X W0 w' J P Wb hb xb (pl + 1) vB nB cB ES vE := by
  have hx := hc.x; refine ⟨h.fr.trans (FRM.ot2 ho h.box h.lo),hj,by rw [hbox]; simp,row_is h.rowB (fun j hj => ho.block j (row_lt h.rowB hj).2 (fun e => by have := (row_lt h.rowB hj).1; omega) (fun e => ?_)),row_is h.rowE (fun j hj => ho.block j (row_lt h.rowE hj).2 (fun e => by have := (row_lt h.rowE hj).1; omega) (fun e => ?_)),h.lo,h.es⟩
  · subst e
    exact row_no h.rowB h.box (by decide) hj
  subst e; exact row_no h.rowE h.box (by decide) hj
theorem WM.ne {H0 X : Nat} {W0 w : World} {J : World -> Prop} {P : Nat -> Prop} {Wb hb xb pl : Nat} {vB : Value} {nB : Nat} {cB : List Value} {ES : List (List Nd × Nat × Nat)} {vE : Value} (hc : WC H0 X W0 J P) (h : WM H0 X W0 w J P Wb hb xb pl vB nB cB ES vE) : Wb ≠ X /\ X < w.heap.size := by
  have h1 := hc.x; have h2 := hc.h; have h3 := h.lo; have h4 := h.fr.size; exact ⟨by omega,by omega⟩
theorem tellE_any {H0 X : Nat} {W0 : World} {J : World -> Prop} {P : Nat -> Prop} (hc : WC H0 X W0 J P) {vio : Nat -> Th -> Bool} {w : World} {Wb hb xb pl : Nat} (hv : VE H0 X W0 J P hb xb vio) {vB : Value} {nB : Nat} {cB : List Value} {ES : List (List Nd × Nat × Nat)} {vE : Value} (h : WM H0 X W0 w J P Wb hb xb pl vB nB cB ES vE) {L : List Nd} {b o : Nat} (tp : Bool) {lp : List ByteArray} {lpp : Option Addr} (hE : EA W0 P L b o) (hlp : LPS w lp lpp) (hpl : pl <= 100000000) (hL : L.length <= 1048576 /\ NB (L.headD nd0).s) :
    Calls Tryz.prog 76 #[.pointer (some ⟨Wb,0,none⟩),.agg (tcs 0 none none (some ⟨b,o,none⟩) 0 tp lpp)] w fun e w' => e = vans (vio pl (thX tp lp (L.headD nd0))) (tcs (pl : Int) none none (some ⟨b,o,none⟩) 0 tp lpp) /\ WM H0 X W0 w' J P Wb hb xb (pl + 1) vB nB cB ES vE /\ FRM H0 X w w' := by
  have hne := h.ne hc; refine (tell_any (vio pl (thX tp lp (L.headD nd0))) (pl : Int) none none (some ⟨b,o,none⟩) 0 tp lpp hb xb X Wb vB vE w J (by rw [IntKind.wrap_i64]; omega) h.box hne.1 hne.2 (fun w' ho => ?_)).mono (fun e w' hr => ?_)
  · have hf : FRM H0 X w w' := FRM.ot2 (OT2.right ho) h.box h.lo
    have hj : J w' := hc.js w w' h.j (ho.block X hne.2 hne.1.symm) (fun j ob hj hno => (ho.block j (Array.getElem?_eq_some_iff.1 hj).1 (fun e => by subst e; rw [h.box] at hj; cases hj; exact hno _ _ _ rfl)).trans hj); exact hv w' pl L b o tp lp lpp hL (h.fr.trans hf) hj (hE.keep ((h.fr.trans hf).keepP hc.p)) (WM.lps hc h.j hf hlp)
  obtain ⟨r1,r2,r3,r4⟩ := hr; exact ⟨r1,h.told hc r2 r3 r4,FRM.ot2 r2 h.box h.lo⟩
set_option maxHeartbeats 8000000 in
set_option maxRecDepth 100000 in
theorem wexpr_any {H0 X : Nat} {W0 : World} {J : World -> Prop} {P : Nat -> Prop} (hc : WC H0 X W0 J P) {vio : Nat -> Th -> Bool} {w : World} {Wb hb xb pl : Nat} (hv : VE H0 X W0 J P hb xb vio) {vB : Value} {nB : Nat} {cB : List Value} {vE : Value} (h : WM H0 X W0 w J P Wb hb xb pl vB nB cB [] vE) {L : List Nd} {b o : Nat} {lp : List ByteArray} {lpp : Option Addr} (hE : EA W0 P L b o) (hlp : LPS w lp lpp) (hL : L.length <= 1048576) (hN : NMx L) (hpl : pl + L.length <= 100000000) (hk : (L.headD nd0).k ≠ 0) :
    Calls Tryz.prog 77 #[.pointer (some ⟨Wb,0,none⟩),.pointer (some ⟨b,o,none⟩),.pointer lpp] w fun e w' => OUT vio pl (thE lp L) e (∃ vE2,WM H0 X W0 w' J P Wb hb xb (pl + L.length) vB nB cB [] vE2) /\ FRM H0 X w w' /\ J w' := by
  have HT1 : Hid (Calls Tryz.prog 76 #[.pointer (some ⟨Wb,0,none⟩),.agg (tcs 0 none none (some ⟨b,o,none⟩) 0 true lpp)] w fun e w' => e = vans (vio pl (thX true lp (L.headD nd0))) (tcs (pl : Int) none none (some ⟨b,o,none⟩) 0 true lpp) /\ WM H0 X W0 w' J P Wb hb xb (pl + 1) vB nB cB [] vE /\ FRM H0 X w w') := tellE_any hc hv h true hE hlp (by omega) ⟨hL,by
    obtain ⟨_,_,_,_,_,_,_,_,_,_,h5⟩ := hE; have h6 := h5.pos; cases L with
    | nil => simp at h6
    | cons d r => exact hN d (by simp)⟩
  have HTE : Hid (∀ w' pl1 ES1 vE1 L1 b1 o1,WM H0 X W0 w' J P Wb hb xb pl1 vB nB cB ES1 vE1 -> FRM H0 X w w' -> EA W0 P L1 b1 o1 -> pl1 <= 100000000 -> L1.length <= 1048576 /\ NB (L1.headD nd0).s -> Calls Tryz.prog 76 #[.pointer (some ⟨Wb,0,none⟩),.agg (tcs 0 none none (some ⟨b1,o1,none⟩) 0 false lpp)] w' fun e w'' => e = vans (vio pl1 (thX false lp (L1.headD nd0))) (tcs (pl1 : Int) none none (some ⟨b1,o1,none⟩) 0 false lpp) /\ WM H0 X W0 w'' J P Wb hb xb (pl1 + 1) vB nB cB ES1 vE1 /\ FRM H0 X w' w'') := fun w' pl1 ES1 vE1 L1 b1 o1 h' hf he hp hl => tellE_any hc hv h' false he (WM.lps hc h.j hf hlp) hp hl
  have HPA : Hid (∀ w' pl1 ES1 vE1 L1 b1 o1,WM H0 X W0 w' J P Wb hb xb pl1 vB nB cB ES1 vE1 -> EA W0 P L1 b1 o1 -> L1.length <= 1048576 -> ES1.length <= 1048576 -> Calls Tryz.prog 88 #[.pointer (some ⟨Wb,0,none⟩),.pointer (some ⟨b1,o1,none⟩)] w' fun e w'' => e = .returned (.tuple #[]) /\ ∃ Ls bk ok vE2,L1.tail = List.flatten Ls /\ Ls.length <= L1.tail.length /\ WM H0 X W0 w'' J P Wb hb xb pl1 vB nB cB (kE bk ok 0 Ls ++ ES1) vE2 /\ FRM H0 X w' w'') := fun w' pl1 ES1 vE1 L1 b1 o1 h' he h1 h2 => wparts_any hc h' he h1 h2
  obtain ⟨n,v0,v1,v2,v3,hPb,c0,c1,c2,c3,hRE⟩ := h.ea hc hE; have hpos := hRE.pos; obtain ⟨d,r,rfl⟩ : ∃ d r,L = d :: r := by
    cases L with
    | nil => simp at hpos
    | cons d r => exact ⟨d,r,rfl⟩
  have hv0 : v0 = .int .i64 d.k := by
    cases n with
    | zero => exact hRE.elim
    | succ n =>
      obtain ⟨k,x,s,ad,cap,Ls,e1,e2,_⟩ := hRE; cases e2; cases e1
      rfl
  subst hv0; simp only [List.headD_cons] at hk HT1; have q0 : (d.k == 0) = false := by simp [hk]
  simp only [List.length_cons] at hL hpl; have HWC : Hid (WC H0 X W0 J P) := hc; have HEA : Hid (EA W0 P (d :: r) b o) := hE
  generalize hPP : (fun (e : Ending) (w' : World) => OUT vio pl (thE lp (d :: r)) e (∃ vE2,WM H0 X W0 w' J P Wb hb xb (pl + (d :: r).length) vB nB cB [] vE2) /\ FRM H0 X w w' /\ J w') = PP
  have HP : Hid (∀ e w',(OUT vio pl (thE lp (d :: r)) e (∃ vE2,WM H0 X W0 w' J P Wb hb xb (pl + (d :: r).length) vB nB cB [] vE2) /\ FRM H0 X w w' /\ J w') -> PP e w') := fun e w' h' => by rw [<- hPP]; exact h'
  clear hPP hRE hPb c1 c2 c3 hc h hE hlp hv hpos
  go_enter Tryz.func77,Tryz.ntmps77
  go_wp2_with fail
  refine HT1.out.mono ?_; rintro e w1 ⟨rfl,hw1,hf1⟩
  by_cases hvi : vio pl (thX true lp d) = true
  · have HZ : Hid (PP (.panicked [{ v := .iface 87 (.agg (tcs (pl : Int) none none (some ⟨b,o,none⟩) 0 true lpp)),recovered := false }]) w1) := HP.out _ _ ⟨Or.inr ⟨pl,_,_,_,_,_,_,by simp [thE,fv,hvi],rfl⟩,hf1,hw1.j⟩
    rw [hvi]; clear hw1 hf1
    dsimp only [vans]
    go_wp2_with fail
    exact ⟨rfl,HZ.out⟩
  have hvf : vio pl (thX true lp d) = false := by simpa using hvi
  rw [hvf]; have HW1 : Hid (WM H0 X W0 w1 J P Wb hb xb (pl + 1) vB nB cB [] vE /\ FRM H0 X w w1) := ⟨hw1,hf1⟩; clear hw1 hf1
  dsimp only [vans]
  go_wp2_with fail
  refine (HPA.out w1 _ _ _ _ _ _ HW1.out.1 HEA.out (by simp; omega) (by simp)).mono ?_; rintro e w2 ⟨rfl,Ls,bk,ok,vE2,hfl,hll,hw2,hf2⟩; rw [List.append_nil] at hw2; simp only [List.tail_cons] at hfl hll; have HI : Hid (WM H0 X W0 w2 J P Wb hb xb (pl + 1) vB nB cB (kE bk ok 0 Ls) vE2 /\ FRM H0 X w w2 /\ (((kE bk ok 0 Ls).map (fun e => e.1)).flatten).length = r.length /\ fv vio pl (thE lp (d :: r)) = fv vio (pl + 1) ((((kE bk ok 0 Ls).map (fun e => e.1)).flatten).map (thX false lp)) /\ NMx ((kE bk ok 0 Ls).map (fun e => e.1)).flatten) := by
    refine ⟨hw2,HW1.out.2.trans hf2,by rw [kE_flat,hfl],?_,by rw [kE_flat,<- hfl]; exact fun nd hnd => hN nd (List.mem_cons_of_mem _ hnd)⟩; rw [kE_flat,<- hfl]
    simp [thE,fv,hvf]
  generalize kE bk ok 0 Ls = ES0 at *
  obtain ⟨m,hm⟩ : ∃ m,r.length = m := ⟨_,rfl⟩; have HMl : Hid (r.length = m) := hm; rw [hm] at hL hpl HI; clear hw2 hf2 hfl hll HW1 hm hvf hvi HT1 c0 hN
  go_wp2_with fail
  go_loopg [1,6] m (fun gk v1 v6 wr => Aside (∃ cur ES vE,WM H0 X W0 wr J P Wb hb xb cur vB nB cB ES vE /\ FRM H0 X w wr /\ ((ES.map (fun e => e.1)).flatten).length = gk /\ cur + gk = pl + 1 + m /\ pl + 1 <= cur /\ fv vio pl (thE lp (d :: r)) = fv vio cur (((ES.map (fun e => e.1)).flatten).map (thX false lp)) /\ NMx (ES.map (fun e => e.1)).flatten))
  case atStart => exact ⟨_,_,_,HI.out.1,HI.out.2.1,HI.out.2.2.1,rfl,Nat.le_refl _,HI.out.2.2.2⟩
  case round =>
    obtain ⟨cur,ES,vE3,hwm,hfr,hgk,hcur,hcu2,hfv,hnm⟩ := hrel.out; clear hrel HI; cases ES with
    | nil =>
      obtain ⟨aE,cE,rfl⟩ := row_form hwm.rowE; have b3 : wr.cell? ⟨Wb,3,none⟩ = some (.slice aE 0 cE) := cell_of hwm.box 3; simp only [List.map_nil,List.flatten_nil,List.length_nil] at hgk; have HZ : Hid (PP (.returned (.tuple #[])) wr) := HP.out _ _ ⟨Or.inl ⟨by rw [hfv]; simp [fv],rfl,_,by rw [List.length_cons,HMl.out,show pl + (m + 1) = cur by omega]; exact hwm⟩,hfr,hwm.j⟩; clear hwm hfr hfv hgk hnm
      go_wp2_with fail
      go_end0
      exact HZ.out
    | cons e1 ES1 =>
      obtain ⟨L1,b1,o1⟩ := e1; have hel := es_len hwm.es; obtain ⟨aE,cE,rfl⟩ := row_form hwm.rowE; obtain ⟨n,hn⟩ : ∃ n,ES1.length = n := ⟨_,rfl⟩; rw [List.length_cons,hn] at hwm; obtain ⟨gE,rfl⟩ := row_some (by have := hwm.rowE; rw [List.length_cons,hn] at this; exact this); obtain ⟨wd,hwd⟩ : ∃ wd,wr.drew = wd := ⟨_,rfl⟩; have HWd : Hid (wr.drew = wd) := hwd; have hbd : Below wr.heap.size wr wd := by rw [<- hwd]; exact ⟨rfl,rfl,rfl,Nat.le_refl _,fun _ _ => rfl⟩
      have hwd2 := hwm.over HWC.out hbd; obtain ⟨p1,p2,p3,p4,p5,p6⟩ := WM.popE hn HWC.out hwd2; have b3 : wr.cell? ⟨Wb,3,none⟩ = some (.slice (some ⟨gE,0,none⟩) (n + 1) cE) := cell_of hwm.box 3; have b4 : wd.cell? ⟨Wb,3,none⟩ = some (.slice (some ⟨gE,0,none⟩) (n + 1) cE) := cell_of hwd2.box 3; obtain ⟨nn,hnn⟩ : ∃ nn,n + 1 = nn := ⟨_,rfl⟩; rw [hnn] at b3 b4; have HS0 : Hid (wd.cell? ⟨Wb,3,none⟩ = some (.slice (some ⟨gE,0,none⟩) nn cE) /\ wd.cell? ⟨gE,n,none⟩ = some (.pointer (some ⟨b1,o1,none⟩)) /\ wd.frozen? ⟨Wb,3,none⟩ = false) := ⟨b4,p1,fz_of hwd2.box 3⟩; clear b4; simp only [List.map_cons,List.flatten_cons,List.length_append] at hgk; simp only [List.length_cons,List.map_cons,List.flatten_cons,List.length_append] at hel; have q1 : (0 : Int) < (nn : Int) := by omega
      have q2 : IntKind.i64.wrap ((nn : Int) - 1) = (n : Int) := by rw [IntKind.wrap_i64]; omega
      have q3 : (n : Int) < (nn : Int) := by omega
      have q10 : n < nn := by omega
      have q4 : (n : Int) <= (cE : Int) := by omega
      have q5 : (0 : Int) <= (n : Int) := by omega
      have q6 : n <= cE := by omega
      have q7 : ¬ cE = 0 := by omega
      have HY : Hid (WM H0 X W0 (wd.setCell ⟨Wb,3,none⟩ (.slice (some ⟨gE,0,none⟩) n cE)) J P Wb hb xb cur vB nB cB ES1 (.slice (some ⟨gE,0,none⟩) n cE) /\ FRM H0 X w (wd.setCell ⟨Wb,3,none⟩ (.slice (some ⟨gE,0,none⟩) n cE)) /\ EA W0 P L1 b1 o1) := ⟨p5,(hfr.trans (FRM.of hbd)).trans p6,p4⟩; have HN : Hid (ES1.length = n) := hn; have HNm : Hid (NMx (L1 ++ (ES1.map (fun e => e.1)).flatten)) := by show NMx _; simpa using hnm
      have HF : Hid (fv vio pl (thE lp (d :: r)) = fv vio cur ((L1 ++ ((ES1.map (fun e => e.1)).flatten)).map (thX false lp))) := by show _ = _; rw [hfv]; simp
      clear hnm hwd hbd hwd2 hwm hfr hfv p1 p2 p3 p4 p5 p6 hn hnn
      go_upto_region 5 with fail
      refine AnyE.region (fun Wc => Hid (Wc.cell? ⟨Wb,3,none⟩ = some (.slice (some ⟨gE,0,none⟩) nn cE) /\ Wc.cell? ⟨gE,n,none⟩ = some (.pointer (some ⟨b1,o1,none⟩)) /\ Wc.frozen? ⟨Wb,3,none⟩ = false)) 17 (by kernel_rfl) ?_; rw [HWd.out]; refine AnyE.take (i := 0) (oi := { dst := some 32,op := Op.move (Operand.tmp 0),type := 119,pos := "walk.go:129",after := #[{ on := 14,ground := Ground.gcOnly Departure.lateStores }],guard := none }) (v := .pointer (some ⟨Wb,0,none⟩)) rfl (by kernel_rfl) (by kernel_rfl) (by kernel_rfl) (by kernel_rfl) (fun _ _ _ h => h) (Or.inl ⟨by rfl,?_⟩) HS0 ?_
      · intro W _
        go_simp
      try simp only [Act.put,z0,z1,z2]
      refine AnyE.take (i := 1) (oi := { dst := some 33,op := Op.move (Operand.tmp 0),type := 119,pos := "walk.go:129",after := #[],guard := none }) (v := .pointer (some ⟨Wb,0,none⟩)) rfl (by kernel_rfl) (by kernel_rfl) (by kernel_rfl) (by kernel_rfl) (fun _ _ _ h => h) (Or.inl ⟨by rfl,?_⟩) HS0 ?_
      · intro W _
        go_simp
      try simp only [Act.put,z0,z1,z2]
      refine AnyE.take (i := 2) (oi := { dst := some 34,op := Op.nilCheck (Operand.tmp 33),type := 0,pos := "walk.go:129",after := #[{ on := 1,ground := Ground.data }],guard := none }) (v := .pointer (some ⟨Wb,0,none⟩)) rfl (by kernel_rfl) (by kernel_rfl) (by kernel_rfl) (by kernel_rfl) (fun _ _ _ h => h) (Or.inl ⟨by rfl,?_⟩) HS0 ?_
      · intro W _
        go_simp
      try simp only [Act.put,z0,z1,z2]
      refine AnyE.take (i := 3) (oi := { dst := some 35,op := Op.fieldAddr 104 (Operand.tmp 34) 3,type := 0,pos := "walk.go:129",after := #[{ on := 2,ground := Ground.data }],guard := none }) (v := .pointer (some ⟨Wb,3,none⟩)) rfl (by kernel_rfl) (by kernel_rfl) (by kernel_rfl) (by kernel_rfl) (fun _ _ _ h => h) (Or.inl ⟨by rfl,?_⟩) HS0 ?_
      · intro W _
        go_simp
      try simp only [Act.put,z0,z1,z2]
      refine AnyE.take (i := 4) (oi := { dst := some 36,op := Op.load 102 (Operand.tmp 35),type := 102,pos := "walk.go:129",after := #[{ on := 3,ground := Ground.data }],guard := none }) (v := .slice (some ⟨gE,0,none⟩) nn cE) rfl (by kernel_rfl) (by kernel_rfl) (by kernel_rfl) (by kernel_rfl) (fun _ _ _ h => h) (Or.inl ⟨by rfl,?_⟩) HS0 ?_
      · intro W hW
        have s1 := hW.out.1
        go_simp
      try simp only [Act.put,z0,z1,z2]
      refine AnyE.take (i := 5) (oi := { dst := some 37,op := Op.move (Operand.tmp 6),type := 3,pos := "walk.go:129",after := #[],guard := none }) (v := .int .i64 (n : Int)) rfl (by kernel_rfl) (by kernel_rfl) (by kernel_rfl) (by kernel_rfl) (fun _ _ _ h => h) (Or.inl ⟨by rfl,?_⟩) HS0 ?_
      · intro W _
        go_simp
      try simp only [Act.put,z0,z1,z2]
      refine AnyE.take (i := 6) (oi := { dst := some 38,op := Op.indexAddr 102 (Operand.tmp 36) (Operand.tmp 37),type := 0,pos := "walk.go:129",after := #[{ on := 4,ground := Ground.data },{ on := 5,ground := Ground.data }],guard := none }) (v := .pointer (some ⟨gE,n,none⟩)) rfl (by kernel_rfl) (by kernel_rfl) (by kernel_rfl) (by kernel_rfl) (fun _ _ _ h => h) (Or.inl ⟨by rfl,?_⟩) HS0 ?_
      · intro W _
        go_simp
      try simp only [Act.put,z0,z1,z2]
      refine AnyE.take (i := 7) (oi := { dst := some 39,op := Op.load 67 (Operand.tmp 38),type := 67,pos := "walk.go:129",after := #[{ on := 6,ground := Ground.data }],guard := none }) (v := .pointer (some ⟨b1,o1,none⟩)) rfl (by kernel_rfl) (by kernel_rfl) (by kernel_rfl) (by kernel_rfl) (fun _ _ _ h => h) (Or.inl ⟨by rfl,?_⟩) HS0 ?_
      · intro W hW
        have s2 := hW.out.2.1
        go_simp
      try simp only [Act.put,z0,z1,z2]
      refine AnyE.take (i := 8) (oi := { dst := some 40,op := Op.move (Operand.tmp 0),type := 119,pos := "walk.go:129",after := #[],guard := none }) (v := .pointer (some ⟨Wb,0,none⟩)) rfl (by kernel_rfl) (by kernel_rfl) (by kernel_rfl) (by kernel_rfl) (fun _ _ _ h => h) (Or.inl ⟨by rfl,?_⟩) HS0 ?_
      · intro W _
        go_simp
      try simp only [Act.put,z0,z1,z2]
      refine AnyE.take (i := 9) (oi := { dst := some 41,op := Op.nilCheck (Operand.tmp 40),type := 0,pos := "walk.go:129",after := #[{ on := 8,ground := Ground.data }],guard := none }) (v := .pointer (some ⟨Wb,0,none⟩)) rfl (by kernel_rfl) (by kernel_rfl) (by kernel_rfl) (by kernel_rfl) (fun _ _ _ h => h) (Or.inl ⟨by rfl,?_⟩) HS0 ?_
      · intro W _
        go_simp
      try simp only [Act.put,z0,z1,z2]
      refine AnyE.take (i := 10) (oi := { dst := some 42,op := Op.fieldAddr 104 (Operand.tmp 41) 3,type := 0,pos := "walk.go:129",after := #[{ on := 9,ground := Ground.data }],guard := none }) (v := .pointer (some ⟨Wb,3,none⟩)) rfl (by kernel_rfl) (by kernel_rfl) (by kernel_rfl) (by kernel_rfl) (fun _ _ _ h => h) (Or.inl ⟨by rfl,?_⟩) HS0 ?_
      · intro W _
        go_simp
      try simp only [Act.put,z0,z1,z2]
      refine AnyE.take (i := 11) (oi := { dst := some 43,op := Op.load 102 (Operand.tmp 42),type := 102,pos := "walk.go:129",after := #[{ on := 10,ground := Ground.data }],guard := none }) (v := .slice (some ⟨gE,0,none⟩) nn cE) rfl (by kernel_rfl) (by kernel_rfl) (by kernel_rfl) (by kernel_rfl) (fun _ _ _ h => h) (Or.inl ⟨by rfl,?_⟩) HS0 ?_
      · intro W hW
        have s1 := hW.out.1
        go_simp
      try simp only [Act.put,z0,z1,z2]
      refine AnyE.take (i := 12) (oi := { dst := some 44,op := Op.move (Operand.tmp 6),type := 3,pos := "walk.go:129",after := #[],guard := none }) (v := .int .i64 (n : Int)) rfl (by kernel_rfl) (by kernel_rfl) (by kernel_rfl) (by kernel_rfl) (fun _ _ _ h => h) (Or.inl ⟨by rfl,?_⟩) HS0 ?_
      · intro W _
        go_simp
      try simp only [Act.put,z0,z1,z2]
      refine AnyE.take (i := 13) (oi := { dst := some 45,op := Op.slice 102 (Operand.tmp 43) none (some (Operand.tmp 44)) none,type := 102,pos := "walk.go:129",after := #[{ on := 11,ground := Ground.data },{ on := 12,ground := Ground.data }],guard := none }) (v := .slice (some ⟨gE,0,none⟩) n cE) rfl (by kernel_rfl) (by kernel_rfl) (by kernel_rfl) (by kernel_rfl) (fun _ _ _ h => h) (Or.inl ⟨by rfl,?_⟩) HS0 ?_
      · intro W _
        go_simp
      try simp only [Act.put,z0,z1,z2]
      refine AnyE.take (i := 14) (oi := { dst := some 1,op := Op.assign (Operand.tmp 39),type := 67,pos := "walk.go:129",after := #[{ on := 7,ground := Ground.data },{ on := 0,ground := Ground.textOnly Departure.lateStores },{ on := 1,ground := Ground.phase },{ on := 2,ground := Ground.phase },{ on := 3,ground := Ground.phase },{ on := 4,ground := Ground.phase },{ on := 5,ground := Ground.phase },{ on := 6,ground := Ground.phase },{ on := 7,ground := Ground.phase },{ on := 8,ground := Ground.textOnly Departure.lateStores },{ on := 9,ground := Ground.textOnly Departure.lateStores },{ on := 10,ground := Ground.textOnly Departure.lateStores },{ on := 11,ground := Ground.textOnly Departure.lateStores },{ on := 12,ground := Ground.textOnly Departure.lateStores },{ on := 13,ground := Ground.textOnly Departure.lateStoresUnsure }],guard := none }) (v := .pointer (some ⟨b1,o1,none⟩)) rfl (by kernel_rfl) (by kernel_rfl) (by kernel_rfl) (by kernel_rfl) (fun _ _ _ h => h) (Or.inl ⟨by rfl,?_⟩) HS0 ?_
      · intro W _
        go_simp
      try simp only [Act.put,z0,z1,z2]
      refine AnyE.one (i := 15) (o := { dst := some 46,op := Op.nilCheck (Operand.tmp 32),type := 0,pos := "walk.go:129",after := #[{ on := 0,ground := Ground.data },{ on := 0,ground := Ground.phase },{ on := 1,ground := Ground.phase },{ on := 2,ground := Ground.phase },{ on := 3,ground := Ground.phase },{ on := 4,ground := Ground.phase },{ on := 5,ground := Ground.phase },{ on := 6,ground := Ground.phase },{ on := 7,ground := Ground.phase },{ on := 8,ground := Ground.phase },{ on := 9,ground := Ground.phase },{ on := 10,ground := Ground.phase },{ on := 11,ground := Ground.phase },{ on := 12,ground := Ground.phase },{ on := 13,ground := Ground.phase },{ on := 14,ground := Ground.phase }],guard := none }) (by kernel_rfl) rfl (fun K hK => ?_)
      go_simp
      refine hK.out _ _ (fun _ => HS0) ?_; clear hK K
      try simp only [Act.put,z0,z1,z2]
      refine AnyE.take (i := 16) (oi := { dst := some 47,op := Op.fieldAddr 104 (Operand.tmp 46) 3,type := 0,pos := "walk.go:129",after := #[{ on := 15,ground := Ground.data },{ on := 0,ground := Ground.phase },{ on := 1,ground := Ground.phase },{ on := 2,ground := Ground.phase },{ on := 3,ground := Ground.phase },{ on := 4,ground := Ground.phase },{ on := 5,ground := Ground.phase },{ on := 6,ground := Ground.phase },{ on := 7,ground := Ground.phase },{ on := 8,ground := Ground.phase },{ on := 9,ground := Ground.phase },{ on := 10,ground := Ground.phase },{ on := 11,ground := Ground.phase },{ on := 12,ground := Ground.phase },{ on := 13,ground := Ground.phase },{ on := 14,ground := Ground.phase }],guard := none }) (v := .pointer (some ⟨Wb,3,none⟩)) rfl (by kernel_rfl) (by kernel_rfl) (by kernel_rfl) (by kernel_rfl) (fun _ _ _ h => h) (Or.inl ⟨by rfl,?_⟩) HS0 ?_
      · intro W _
        go_simp
      try simp only [Act.put,z0,z1,z2]
      refine AnyE.one (i := 17) (o := { dst := none,op := Op.store 102 (Operand.tmp 47) (Operand.tmp 45),type := 0,pos := "walk.go:129",after := #[{ on := 16,ground := Ground.data },{ on := 13,ground := Ground.data },{ on := 14,ground := Ground.chain },{ on := 0,ground := Ground.phase },{ on := 1,ground := Ground.phase },{ on := 2,ground := Ground.phase },{ on := 3,ground := Ground.phase },{ on := 4,ground := Ground.phase },{ on := 5,ground := Ground.phase },{ on := 6,ground := Ground.phase },{ on := 7,ground := Ground.phase },{ on := 8,ground := Ground.phase },{ on := 9,ground := Ground.phase },{ on := 10,ground := Ground.phase },{ on := 11,ground := Ground.phase },{ on := 12,ground := Ground.phase },{ on := 13,ground := Ground.phase },{ on := 14,ground := Ground.phase }],guard := none }) (by kernel_rfl) rfl (fun K hK => ?_); have s1 := HS0.out.1; have s3 := HS0.out.2.2
      go_simp
      refine hK.out _ _ (fun h => absurd rfl h) (AnyE.done (by kernel_rfl) ?_ _); clear hK K s1 s3
      try simp only [Act.put,z0,z1,z2]
      generalize wd.setCell ⟨Wb,3,none⟩ (.slice (some ⟨gE,0,none⟩) n cE) = w9 at *
      clear HS0 b3; have hcb : cur <= 100000000 := by omega
      have hl0 : L1.length <= 1048576 /\ NB (L1.headD nd0).s := ⟨by omega,by
        obtain ⟨_,_,_,_,_,_,_,_,_,_,h5⟩ := HY.out.2.2; have h6 := h5.pos; cases L1 with
        | nil => simp at h6
        | cons d r => exact HNm.out d (by simp)⟩
      go_wp2_with fail
      refine (HTE.out w9 cur ES1 _ L1 b1 o1 HY.out.1 HY.out.2.1 HY.out.2.2 hcb hl0).mono ?_; rintro e w3 ⟨rfl,hw3,hf3⟩; obtain ⟨d1,r1,rfl⟩ : ∃ d r,L1 = d :: r := by
        obtain ⟨_,_,_,_,_,_,_,_,_,_,hRE⟩ := HY.out.2.2; have := hRE.pos; cases L1 with
        | nil => simp at this
        | cons d r => exact ⟨d,r,rfl⟩
      simp only [List.headD_cons]
      by_cases hvi : vio cur (thX false lp d1) = true
      · have HZ : Hid (PP (.panicked [{ v := .iface 87 (.agg (tcs (cur : Int) none none (some ⟨b1,o1,none⟩) 0 false lpp)),recovered := false }]) w3) := HP.out _ _ ⟨Or.inr ⟨cur,_,_,_,_,_,_,by rw [HF.out]; simp [fv,hvi],rfl⟩,HY.out.2.1.trans hf3,hw3.j⟩
        rw [hvi]; clear hw3 hf3
        dsimp only [vans]
        go_wp2_with fail
        exact ⟨rfl,HZ.out⟩
      have hvf : vio cur (thX false lp d1) = false := by simpa using hvi
      rw [hvf]; have HW3 : Hid (WM H0 X W0 w3 J P Wb hb xb (cur + 1) vB nB cB ES1 (.slice (some ⟨gE,0,none⟩) n cE) /\ FRM H0 X w w3 /\ EA W0 P (d1 :: r1) b1 o1) := ⟨hw3,HY.out.2.1.trans hf3,HY.out.2.2⟩; have HF2 : Hid (fv vio pl (thE lp (d :: r)) = fv vio (cur + 1) ((r1 ++ ((ES1.map (fun e => e.1)).flatten)).map (thX false lp))) := by show _ = _; rw [HF.out]; simp [fv,hvf]
      simp only [List.length_cons] at hgk hel; have hl1 : (d1 :: r1).length <= 1048576 := by simp only [List.length_cons]; omega
      have hl2 : ES1.length <= 1048576 := by omega
      clear hw3 hf3 HF HY hvi hvf
      dsimp only [vans]
      go_wp2_with fail
      refine (HPA.out w3 _ _ _ _ _ _ HW3.out.1 HW3.out.2.2 hl1 hl2).mono ?_; rintro e w4 ⟨rfl,Ls4,bk4,ok4,vE4,hfl,hll,hw4,hf4⟩; simp only [List.tail_cons] at hfl hll; have HJ4 : Hid (∃ vE,WM H0 X W0 w4 J P Wb hb xb (cur + 1) vB nB cB (kE bk4 ok4 0 Ls4 ++ ES1) vE /\ FRM H0 X w w4 /\ (((kE bk4 ok4 0 Ls4 ++ ES1).map (fun e => e.1)).flatten).length = r1.length + ((ES1.map (fun e => e.1)).flatten).length /\ fv vio pl (thE lp (d :: r)) = fv vio (cur + 1) ((((kE bk4 ok4 0 Ls4 ++ ES1).map (fun e => e.1)).flatten).map (thX false lp)) /\ NMx ((kE bk4 ok4 0 Ls4 ++ ES1).map (fun e => e.1)).flatten) := by
        refine ⟨vE4,hw4,HW3.out.2.1.trans hf4,?_,?_,by
          rw [List.map_append,List.flatten_append,kE_flat,<- hfl]; exact fun nd hnd => HNm.out nd (List.mem_cons_of_mem _ hnd)⟩
        · rw [List.map_append,List.flatten_append,kE_flat,<- hfl,List.length_append]
        have hfl2 : Ls4.flatten = r1 := hfl.symm; rw [HF2.out]; simp only [List.map_append,List.flatten_append,kE_flat,hfl2]
      clear hw4 hf4 hfl hll HW3 HF2
      go_wp2_with fail
      go_roundg (gk - 1)
      case measure => omega
      case rel =>
        obtain ⟨vE5,j1,j2,j3,j4,j5⟩ := HJ4.out; exact ⟨cur + 1,_,vE5,j1,j2,by rw [j3]; omega,by omega,by omega,j4,j5⟩
end Go.Proofs.YtfljcdccepnidaaGreatDoor
