import Derived.Test.YtfljcdccepnidaaGreatDoorWuS
import Derived.Laws.EntriesVeiled
namespace Go.Proofs.YtfljcdccepnidaaGreatDoor
open Go.ChangeShapes Go.WideShapes Go.ChangeAt Go.RowKit Go.Lib

def ctab : List (Int × Nat × Nat) := [(1,30,33),(5,30,34),(163,30,35),(4,30,36),(160,31,37),(163,31,38),(164,31,39),(165,31,40),(169,30,41),(152,32,42),(161,32,43),(162,32,44),(165,32,45),(166,32,46),(167,32,47),(168,30,48)]
def crow (c : Int × Nat × Nat) : List Value := [.int .i64 c.1,.func (.func c.2.1) #[] #[],.func (.func c.2.2) #[] #[]]
def ccells : Array Value := (ctab.flatMap crow).toArray
def cat (j : Nat) : Int × Nat × Nat := ctab.getD j (0,0,0)
theorem ccells_at : ∀ j,j < 16 -> ccells[j * 3]? = some (.int .i64 (cat j).1) /\ ccells[j * 3 + 1]? = some (.func (.func (cat j).2.1) #[] #[]) /\ ccells[j * 3 + 2]? = some (.func (.func (cat j).2.2) #[] #[])
  | 0,_ => ⟨rfl,rfl,rfl⟩
  | 1,_ => ⟨rfl,rfl,rfl⟩
  | 2,_ => ⟨rfl,rfl,rfl⟩
  | 3,_ => ⟨rfl,rfl,rfl⟩
  | 4,_ => ⟨rfl,rfl,rfl⟩
  | 5,_ => ⟨rfl,rfl,rfl⟩
  | 6,_ => ⟨rfl,rfl,rfl⟩
  | 7,_ => ⟨rfl,rfl,rfl⟩
  | 8,_ => ⟨rfl,rfl,rfl⟩
  | 9,_ => ⟨rfl,rfl,rfl⟩
  | 10,_ => ⟨rfl,rfl,rfl⟩
  | 11,_ => ⟨rfl,rfl,rfl⟩
  | 12,_ => ⟨rfl,rfl,rfl⟩
  | 13,_ => ⟨rfl,rfl,rfl⟩
  | 14,_ => ⟨rfl,rfl,rfl⟩
  | 15,_ => ⟨rfl,rfl,rfl⟩
  | j + 16,h => absurd h (by omega)
set_option maxHeartbeats 8000000 in
set_option maxRecDepth 100000 in
theorem clauses_any (w : World) : Calls Tryz.prog 21 #[] w fun e w' => e = .returned (.slice (some ⟨w.heap.size,0,none⟩) 16 16) /\ w' = w.alloc (.cells ccells 64) := by
  go_enter Tryz.func21,Tryz.ntmps21
  go_wp2_with fail
  go_ret
  exact ⟨rfl,rfl⟩
set_option maxHeartbeats 8000000 in
set_option maxRecDepth 100000 in
theorem fault_any (w : World) (cs : List Value) (hcs : cs.length = 5) (P0 : World -> Nat -> Nat -> World -> Prop) (R : Nat -> Option Int) (Z : World -> Prop)
    (h0 : ∀ W1 Pb X,Below w.heap.size w W1 -> W1.heap[Pb]? = some (.cells cs.toArray 25 (0,0)) -> W1.heap[X]? = some (.cells #[.pointer (some ⟨Pb,0,none⟩),.map none] 57 (0,0)) -> w.heap.size <= Pb -> Pb ≠ X -> w.heap.size <= X -> P0 W1 Pb X W1)
    (hnx : ∀ W1 Pb X w2 w3,P0 W1 Pb X w2 -> Below w2.heap.size w2 w3 -> P0 W1 Pb X w3)
    (hXs : ∀ W1 Pb X w2,P0 W1 Pb X w2 -> X < w2.heap.size)
    (hZ : ∀ W1 Pb X w2,Below w.heap.size w W1 -> w.heap.size <= X -> P0 W1 Pb X w2 -> Z w2)
    (hF : ∀ j,j < 16 -> (∀ i,i < j -> R i = none) -> ∀ W1 Pb X w2,P0 W1 Pb X w2 -> Calls Tryz.prog 22 #[.pointer (some ⟨X,0,none⟩),.func (.func (cat j).2.1) #[] #[],.func (.func (cat j).2.2) #[] #[]] w2 fun e w3 => P0 W1 Pb X w3 /\ OTH X w2 w3 /\ ((e = .returned (.tuple #[.agg (tcs 0 none none none 0 false none),.bool false]) /\ R j = none) ∨ ∃ pl a1 a2 a3 dp tp a6,e = .returned (.tuple #[.agg (tcs pl a1 a2 a3 dp tp a6),.bool true]) /\ R j = some pl)) :
    Calls Tryz.prog 14 #[.agg cs.toArray] w fun e w' => Z w' /\ ((e = .returned (.tuple #[.int .i64 0,.int .i64 0,.int .i64 0]) /\ ∀ i,i < 16 -> R i = none) ∨ ∃ (j : Nat) (pl : Int),j < 16 /\ (∀ i,i < j -> R i = none) /\ R j = some pl /\ e = .returned (.tuple #[.int .i64 ((j : Int) + 1),.int .i64 pl,.int .i64 (cat j).1])) := by
  obtain ⟨v0,v1,v2,v3,v4,rfl⟩ : ∃ v0 v1 v2 v3 v4,cs = [v0,v1,v2,v3,v4] := by
    match cs,hcs with
    | [v0,v1,v2,v3,v4],_ => exact ⟨v0,v1,v2,v3,v4,rfl⟩
  obtain ⟨Pb,hPb⟩ : ∃ Pb,w.heap.size = Pb := ⟨_,rfl⟩; obtain ⟨X,hX⟩ : ∃ X,Pb + 1 = X := ⟨_,rfl⟩; obtain ⟨W1,hW1⟩ : ∃ W1,(w.alloc (.cells #[v0,v1,v2,v3,v4] 25)).alloc (.cells #[.pointer (some ⟨Pb,0,none⟩),.map none] 57) = W1 := ⟨_,rfl⟩; have hb1 : Below w.heap.size w W1 := by rw [<- hW1]; exact bnx (bel1 _ _) (bel1 _ _)
  have hsz1 : W1.heap.size = X + 1 := by rw [<- hW1]; simp; omega
  have hPbx : W1.heap[Pb]? = some (.cells #[v0,v1,v2,v3,v4] 25 (0,0)) := by rw [<- hW1,<- hPb]; exact blk_next (heap_alloc_new _ _) (bel1 _ _)
  have hXbx : W1.heap[X]? = some (.cells #[.pointer (some ⟨Pb,0,none⟩),.map none] 57 (0,0)) := by
    have h5 := heap_alloc_new (w.alloc (.cells #[v0,v1,v2,v3,v4] 25)) (.cells #[.pointer (some ⟨Pb,0,none⟩),.map none] 57); rw [hW1,show (w.alloc (.cells #[v0,v1,v2,v3,v4] 25)).heap.size = X by simp; omega] at h5; exact h5
  have HP1 : Hid (P0 W1 Pb X W1) := h0 W1 Pb X hb1 hPbx hXbx (by omega) (by omega) (by omega); have HW1 : Hid ((w.alloc (.cells #[v0,v1,v2,v3,v4] 25)).alloc (.cells #[.pointer (some ⟨Pb,0,none⟩),.map none] 57) = W1 /\ w.heap.size = Pb /\ Pb + 1 = X) := ⟨hW1,hPb,hX⟩; obtain ⟨Tb,hTb⟩ : ∃ Tb,W1.heap.size = Tb := ⟨_,rfl⟩; obtain ⟨W2,hW2⟩ : ∃ W2,W1.alloc (.cells ccells 64) = W2 := ⟨_,rfl⟩; have HC2 : Hid (Calls Tryz.prog 21 #[] W1 fun e w' => e = .returned (.slice (some ⟨Tb,0,none⟩) 16 16) /\ w' = W2) := by
    have h5 := clauses_any W1; rw [hTb,hW2] at h5; exact h5
  have HI2 : Hid (P0 W1 Pb X W2 /\ W2.heap[Tb]? = some (.cells ccells 64 (0,0))) := ⟨hnx _ _ _ _ _ HP1.out (by rw [<- hW2]; exact bel1 _ _),by rw [<- hW2,<- hTb]; exact heap_alloc_new _ _⟩; have HTX : Hid (Tb ≠ X) := by show _ ≠ _; omega
  have HNX : Hid (∀ w2 w3,P0 W1 Pb X w2 -> Below w2.heap.size w2 w3 -> P0 W1 Pb X w3) := fun w2 w3 => hnx W1 Pb X w2 w3
  have HXs : Hid (∀ w2,P0 W1 Pb X w2 -> X < w2.heap.size) := fun w2 => hXs W1 Pb X w2
  have HZ0 : Hid (∀ w2,P0 W1 Pb X w2 -> Z w2) := fun w2 h5 => hZ W1 Pb X w2 hb1 (by omega) h5
  have HFi : Hid (∀ j,j < 16 -> (∀ i,i < j -> R i = none) -> ∀ w2,P0 W1 Pb X w2 -> Calls Tryz.prog 22 #[.pointer (some ⟨X,0,none⟩),.func (.func (cat j).2.1) #[] #[],.func (.func (cat j).2.2) #[] #[]] w2 fun e w3 => P0 W1 Pb X w3 /\ OTH X w2 w3 /\ ((e = .returned (.tuple #[.agg (tcs 0 none none none 0 false none),.bool false]) /\ R j = none) ∨ ∃ pl a1 a2 a3 dp tp a6,e = .returned (.tuple #[.agg (tcs pl a1 a2 a3 dp tp a6),.bool true]) /\ R j = some pl)) := fun j h1 h2 w2 h3 => hF j h1 h2 W1 Pb X w2 h3
  generalize hPP : (fun (e : Ending) (w' : World) => Z w' /\ ((e = Ending.returned (.tuple #[.int .i64 0,.int .i64 0,.int .i64 0]) /\ ∀ i,i < 16 -> R i = none) ∨ ∃ (j : Nat) (pl : Int),j < 16 /\ (∀ i,i < j -> R i = none) /\ R j = some pl /\ e = .returned (.tuple #[.int .i64 ((j : Int) + 1),.int .i64 pl,.int .i64 (cat j).1]))) = PP
  have HPn : Hid (∀ w',P0 W1 Pb X w' -> (∀ i,i < 16 -> R i = none) -> PP (.returned (.tuple #[.int .i64 0,.int .i64 0,.int .i64 0])) w') := fun w' h1 h2 => by rw [<- hPP]; exact ⟨HZ0.out _ h1,Or.inl ⟨rfl,h2⟩⟩
  have HPs : Hid (∀ w' j pl,P0 W1 Pb X w' -> j < 16 -> (∀ i,i < j -> R i = none) -> R j = some pl -> PP (.returned (.tuple #[.int .i64 ((j : Int) + 1),.int .i64 pl,.int .i64 (cat j).1])) w') := fun w' j pl h1 h2 h3 h4 => by rw [<- hPP]; exact ⟨HZ0.out _ h1,Or.inr ⟨j,pl,h2,h3,h4,rfl⟩⟩
  clear hPP hPb hX hW1 hb1 hsz1 hPbx hXbx h0 hnx hXs hZ hF hTb hW2 hcs HZ0 HP1
  go_enter Tryz.func14,Tryz.ntmps14
  go_upto_region 2 with fail
  rw [HW1.out.2.1,HW1.out.1,HW1.out.2.2]
  go_wp2_with fail
  refine HC2.out.mono ?_; rintro e w' ⟨rfl,hw'⟩; obtain rfl := hw'.symm; clear hw' HC2
  go_wp2_with fail
  go_loopg [6,7,8,9,13] 16 (fun gk v6 v7 v8 v9 v13 wr => ∃ j : Nat,v13 = .int .i64 (j : Int) /\ j + gk = 16 /\ Aside (P0 W1 Pb X wr /\ wr.heap[Tb]? = some (.cells ccells 64 (0,0)) /\ ∀ i,i < j -> R i = none))
  case atStart => exact ⟨0,rfl,by omega,HI2.out.1,HI2.out.2,fun i hi => absurd hi (by omega)⟩
  case round =>
    obtain ⟨j,rfl,hjg,HR⟩ := hrel
    by_cases hlt : j < 16
    · have r1 : (j : Int) < 16 := by omega
      obtain ⟨k0,k1,k2⟩ := ccells_at j hlt; have c0 : wr.cell? ⟨Tb,j * 3,none⟩ = some (.int .i64 (cat j).1) := (cell_of HR.out.2.1 _).trans k0; have c1 : wr.cell? ⟨Tb,j * 3 + 1,none⟩ = some (.func (.func (cat j).2.1) #[] #[]) := (cell_of HR.out.2.1 _).trans k1; have c2 : wr.cell? ⟨Tb,j * 3 + 2,none⟩ = some (.func (.func (cat j).2.2) #[] #[]) := (cell_of HR.out.2.1 _).trans k2; have HFj := HFi.out j hlt HR.out.2.2; have HPj := fun w' pl h1 h4 => HPs.out w' j pl h1 hlt HR.out.2.2 h4
      obtain ⟨cd,hcd⟩ : ∃ cd,(cat j).1 = cd := ⟨_,rfl⟩; obtain ⟨of,hof⟩ : ∃ of,(cat j).2.1 = of := ⟨_,rfl⟩; obtain ⟨hfn,hhf⟩ : ∃ hfn,(cat j).2.2 = hfn := ⟨_,rfl⟩; rw [hcd] at c0 HPj; rw [hof] at c1 HFj; rw [hhf] at c2 HFj; replace HPj : Hid (∀ w' pl,P0 W1 Pb X w' -> R j = some pl -> PP (.returned (.tuple #[.int .i64 ((j : Int) + 1),.int .i64 pl,.int .i64 cd])) w') := HPj; obtain ⟨Cb,hCb⟩ : ∃ Cb,wr.heap.size = Cb := ⟨_,rfl⟩; obtain ⟨w3,hw3⟩ : ∃ w3,wr.alloc (.cells #[.int .i64 cd,.func (.func of) #[] #[],.func (.func hfn) #[] #[]] 64) = w3 := ⟨_,rfl⟩; have hb3 : Below wr.heap.size wr w3 := by rw [<- hw3]; exact bel1 _ _
      have hc3 : w3.heap[Cb]? = some (.cells #[.int .i64 cd,.func (.func of) #[] #[],.func (.func hfn) #[] #[]] 64 (0,0)) := by rw [<- hw3,<- hCb]; exact heap_alloc_new _ _
      have HW3 : Hid (wr.alloc (.cells #[.int .i64 cd,.func (.func of) #[] #[],.func (.func hfn) #[] #[]] 64) = w3 /\ wr.heap.size = Cb) := ⟨hw3,hCb⟩; have HC4 : Hid (Calls Tryz.prog 22 #[.pointer (some ⟨X,0,none⟩),.func (.func of) #[] #[],.func (.func hfn) #[] #[]] w3 fun e w4 => P0 W1 Pb X w4 /\ OTH X w3 w4 /\ ((e = .returned (.tuple #[.agg (tcs 0 none none none 0 false none),.bool false]) /\ R j = none) ∨ ∃ pl a1 a2 a3 dp tp a6,e = .returned (.tuple #[.agg (tcs pl a1 a2 a3 dp tp a6),.bool true]) /\ R j = some pl)) := HFj w3 (HNX.out _ _ HR.out.1 hb3); have HT3 : Hid (w3.heap[Tb]? = some (.cells ccells 64 (0,0)) /\ w3.heap[Cb]? = some (.cells #[.int .i64 cd,.func (.func of) #[] #[],.func (.func hfn) #[] #[]] 64 (0,0)) /\ Cb ≠ X /\ ∀ i,i < j -> R i = none) := ⟨blk_next HR.out.2.1 hb3,hc3,by have := HXs.out _ HR.out.1; omega,HR.out.2.2⟩; have z1 : w3.cell? ⟨Cb,1,none⟩ = some (.func (.func of) #[] #[]) := cell_of hc3 1; have z2 : w3.cell? ⟨Cb,2,none⟩ = some (.func (.func hfn) #[] #[]) := cell_of hc3 2; clear hw3 hCb hb3 hc3 hcd hof hhf k0 k1 k2 HFj HR
      go_upto_region 5 with fail
      rw [HW3.out.1,HW3.out.2]; clear c0 c1 c2
      go_wp2_with fail
      refine HC4.out.mono ?_; rintro e w4 ⟨hp4,ho4,hh⟩; have HP4 : Hid (P0 W1 Pb X w4) := hp4; have HT4 : Hid (w4.heap[Tb]? = some (.cells ccells 64 (0,0)) /\ w4.heap[Cb]? = some (.cells #[.int .i64 cd,.func (.func of) #[] #[],.func (.func hfn) #[] #[]] 64 (0,0))) := ⟨(ho4.block Tb (Array.getElem?_eq_some_iff.1 HT3.out.1).1 HTX.out).trans HT3.out.1,(ho4.block Cb (Array.getElem?_eq_some_iff.1 HT3.out.2.1).1 HT3.out.2.2.1).trans HT3.out.2.1⟩; clear hp4 ho4 z1 z2 HC4
      rcases hh with ⟨rfl,hRj⟩ | ⟨pl,a1,a2,a3,dp,tp,a6,rfl,hRj⟩
      · obtain ⟨w5,hw5⟩ : ∃ w5,w4.alloc (.cells (tcs 0 none none none 0 false none) 70) = w5 := ⟨_,rfl⟩
        have hb5 : Below w4.heap.size w4 w5 := by rw [<- hw5]; exact bel1 _ _
        have HN5 : Hid (P0 W1 Pb X w5 /\ w5.heap[Tb]? = some (.cells ccells 64 (0,0)) /\ ∀ i,i < j + 1 -> R i = none) := ⟨HNX.out _ _ HP4.out hb5,blk_next HT4.out.1 hb5,fun i hi => by
          by_cases e : i = j
          · subst e; exact hRj
          exact HT3.out.2.2.2 i (by omega)⟩
        have HW5 : Hid (w4.alloc (.cells (tcs 0 none none none 0 false none) 70) = w5) := hw5; clear hw5 hb5 hRj
        go_upto_region 6 with fail
        rw [HW5.out]
        go_wp2_with fail
        go_roundg (16 - (j + 1))
        case measure => omega
        case rel => exact ⟨j + 1,by simp,by omega,HN5.out.1,HN5.out.2.1,HN5.out.2.2⟩
      obtain ⟨w5,hw5⟩ : ∃ w5,w4.alloc (.cells (tcs pl a1 a2 a3 dp tp a6) 70) = w5 := ⟨_,rfl⟩; obtain ⟨Bb,hBb⟩ : ∃ Bb,w4.heap.size = Bb := ⟨_,rfl⟩; have hb5 : Below w4.heap.size w4 w5 := by rw [<- hw5]; exact bel1 _ _
      have hx5 : w5.heap[Bb]? = some (.cells (tcs pl a1 a2 a3 dp tp a6) 70 (0,0)) := by rw [<- hw5,<- hBb]; exact heap_alloc_new _ _
      have z0 : w5.cell? ⟨Bb,0,none⟩ = some (.int .i64 pl) := cell_of hx5 0; have z1 : w5.cell? ⟨Cb,0,none⟩ = some (.int .i64 cd) := cell_of (blk_next HT4.out.2 hb5) 0; have q5 : IntKind.i64.wrap ((j : Int) + 1) = (j : Int) + 1 := by rw [IntKind.wrap_i64]; omega
      have HZ : Hid (PP (.returned (.tuple #[.int .i64 ((j : Int) + 1),.int .i64 pl,.int .i64 cd])) w5.drew) := HPj.out _ _ (HNX.out _ _ (HNX.out _ _ HP4.out hb5) ⟨rfl,rfl,rfl,Nat.le_refl _,fun _ _ => rfl⟩) hRj; have HW5 : Hid (w4.alloc (.cells (tcs pl a1 a2 a3 dp tp a6) 70) = w5 /\ w4.heap.size = Bb) := ⟨hw5,hBb⟩; clear hw5 hBb hb5 hx5 hRj HPj
      go_upto_region 6 with fail
      rw [HW5.out.1,HW5.out.2]
      go_upto_region 7 with fail
      first | go_region | fail
      go_wp2_with fail
      exact ⟨rfl,_,by simp [results,Tryz.results14,go_sem],HZ.out⟩
    have r1 : ¬ (j : Int) < 16 := by omega
    have HZ : Hid (PP (.returned (.tuple #[.int .i64 0,.int .i64 0,.int .i64 0])) wr) := HPn.out _ HR.out.1 (fun i hi => HR.out.2.2 i (by omega)); clear HR
    go_wp2_with fail
    exact ⟨rfl,_,by simp [results,Tryz.results14,go_sem],HZ.out⟩
end Go.Proofs.YtfljcdccepnidaaGreatDoor
namespace Go.Proofs.YtfljcdccepnidaaGreatDoor
open Go.ChangeShapes Go.WideShapes Go.ChangeAt Go.RowKit Go.Lib

theorem JST.hit {X : Nat} {J : World -> Prop} (hJ : JST X J) : ∀ bb p q tc w w',HIT bb p q tc w w' -> p ≠ X -> q ≠ X -> (∃ c,w.heap[p]? = some (.cells c 70 (0,0))) -> (∃ c,w.heap[q]? = some (.cells c 4 (0,0))) -> J w -> J w' := by
  intro bb p q tc w w' ht hp hq ⟨c,hc⟩ ⟨c2,hc2⟩ hj; refine hJ w w' hj (ht.block X hp.symm hq.symm) (fun j o hjo hno => (ht.block j (fun e => ?_) (fun e => ?_)).trans hjo)
  · subst e
    rw [hc] at hjo; cases hjo; exact hno _ _ _ rfl
  subst e; rw [hc2] at hjo; cases hjo; exact hno _ _ _ rfl
theorem FRM.out {X : Nat} {w w' : World} (h : FRM w.heap.size X w w') : OTH X w w' := ⟨h.os,h.tape,h.output,h.size,fun j hj hn => by
  have e : w.heap[j]? = some w.heap[j] := Array.getElem?_eq_getElem hj; rw [e]; exact h.blk j _ e hn (Or.inl hj)⟩
def FST (X : Nat) (J : World -> Prop) (w : World) (r : Option Int) (e : Ending) (w' : World) : Prop := OTH X w w' /\ J w' /\ ((e = .returned (.tuple #[.agg (tcs 0 none none none 0 false none),.bool false]) /\ r = none) ∨ ∃ pl a1 a2 a3 dp tp a6,e = .returned (.tuple #[.agg (tcs pl a1 a2 a3 dp tp a6),.bool true]) /\ r = some pl)
theorem VB.mk' {X h hb xb : Nat} {W W' : World} (hX : X < W.heap.size) (c0 : W'.cell? ⟨hb,0,none⟩ = some (.func (.func h) #[] #[])) (c1 : W'.cell? ⟨xb,0,none⟩ = some (.pointer (some ⟨X,0,none⟩))) (h0 : W.heap.size <= hb) (h1 : W.heap.size <= xb) : VB W'.heap.size hb xb X h W' := ⟨cell_lt c0,cell_lt c1,by omega,by omega,c0,c1⟩
theorem cfW : ∀ args W,(callFunc 30 args).run Tryz.prog W = .ok (.enter 30 args) W := cf40 _ _ Tryz.func30 (by kernel_rfl) (by kernel_rfl)
theorem cfD : ∀ args W,(callFunc 31 args).run Tryz.prog W = .ok (.enter 31 args) W := cf40 _ _ Tryz.func31 (by kernel_rfl) (by kernel_rfl)
theorem cfT : ∀ args W,(callFunc 32 args).run Tryz.prog W = .ok (.enter 32 args) W := cf40 _ _ Tryz.func32 (by kernel_rfl) (by kernel_rfl)
section
variable {X Pb h : Nat} {J : World -> Prop} {P : Nat -> Prop} {N n : Nat} {p : Pg} {vD vB : Value}
theorem fW {w : World} (b : Bool) (hp : PC w.heap.size X Pb w J P N n p vD vB) (hj : J w) (hcf : ∀ args W,(callFunc h args).run Tryz.prog W = .ok (.enter h args) W) (hC : ∀ W0 w2,Below w.heap.size w W0 -> PC W0.heap.size X Pb W0 J P N n p vD vB -> FRM W0.heap.size X W0 w2 -> J w2 -> Calls Tryz.prog h #[.pointer (some ⟨X,0,none⟩),.agg (tcs (-1) none none none 0 false none)] w2 fun e w' => e = .returned (.bool b) /\ OTH X w2 w' /\ J w') :
    Calls Tryz.prog 22 #[.pointer (some ⟨X,0,none⟩),.func (.func 30) #[] #[],.func (.func h) #[] #[]] w (FST X J w (if b then some (-1) else none)) := by
  refine (first_any X 30 h w J (b = false) (fun pl => b = true /\ pl = -1) cfW hp.wc.x hp.wc.js.hit (fun hb xb W' hb1 c0 c1 h0 h1 => ?_)).mono ?_
  · have hj' := hp.wc.js.below hj hp.wc.x hb1
    have hp' := hp.next (OTH.of hb1) hj'; have hv := VB.mk' (h := h) hp.wc.x c0 c1 h0 h1; have hvis := visit_of hp' hv hcf (FRM.refl _ _ _) hj' b (-1) none none none 0 false none (fun W2 f2 j2 => hC W' W2 hb1 hp' f2 j2); refine (whole_any (H0 := W'.heap.size) b W' hvis).mono ?_; rintro e w2 ⟨he,hf,hj2⟩; refine ⟨hf.out,hj2,?_⟩; cases b with
    | false => exact Or.inl ⟨he,rfl⟩
    | true => exact Or.inr ⟨-1,none,none,none,0,false,none,he,rfl,rfl⟩
  rintro e w2 ⟨ho,hj2,hh⟩; refine ⟨ho,hj2,?_⟩
  rcases hh with ⟨he,hb⟩ | ⟨pl,a1,a2,a3,dp,tp,a6,he,hb,rfl⟩
  · exact Or.inl ⟨he,by rw [hb]; rfl⟩
  exact Or.inr ⟨-1,a1,a2,a3,dp,tp,a6,he,by rw [hb]; rfl⟩
theorem fD {w : World} (vio : Nat -> Th -> Bool) (hp : PC w.heap.size X Pb w J P N n p vD vB) (hj : J w) (hD : p.Ds.length <= 1048576) (hV : ∀ W0 hb xb,PC W0.heap.size X Pb W0 J P N n p vD vB -> VB W0.heap.size hb xb X h W0 -> VD W0.heap.size X W0 J P hb xb p.Ds vio) :
    Calls Tryz.prog 22 #[.pointer (some ⟨X,0,none⟩),.func (.func 31) #[] #[],.func (.func h) #[] #[]] w (FST X J w ((fv vio 0 (p.Ds.map thD)).map (fun j => (j : Int)))) := by
  refine (first_any X 31 h w J (fv vio 0 (p.Ds.map thD) = none) (fun pl => ∃ j : Nat,pl = (j : Int) /\ fv vio 0 (p.Ds.map thD) = some j) cfD hp.wc.x hp.wc.js.hit (fun hb xb W' hb1 c0 c1 h0 h1 => ?_)).mono ?_
  · have hj' := hp.wc.js.below hj hp.wc.x hb1
    have hp' := hp.next (OTH.of hb1) hj'; refine (decls_any hp' (hV W' hb xb hp' (VB.mk' hp.wc.x c0 c1 h0 h1)) (FRM.refl _ _ _) hj' hD).mono ?_; rintro e w2 ⟨ho,hf,hj2⟩; refine ⟨hf.out,hj2,?_⟩
    rcases ho with ⟨g1,g2,_⟩ | ⟨j,a1,a2,a3,dp,tp,a6,g1,g2⟩
    · exact Or.inl ⟨g2,g1⟩
    exact Or.inr ⟨(j : Int),a1,a2,a3,dp,tp,a6,g2,j,rfl,g1⟩
  rintro e w2 ⟨ho,hj2,hh⟩; refine ⟨ho,hj2,?_⟩
  rcases hh with ⟨he,hb⟩ | ⟨pl,a1,a2,a3,dp,tp,a6,he,j,rfl,hb⟩
  · exact Or.inl ⟨he,by rw [hb]; rfl⟩
  exact Or.inr ⟨(j : Int),a1,a2,a3,dp,tp,a6,he,by rw [hb]; rfl⟩
theorem fT {w : World} (vio : Nat -> Th -> Bool) (hp : PC w.heap.size X Pb w J P N n p vD vB) (hj : J w) (hD : p.Ds.length <= 1048576) (hB : wtS p.Bs.flatten <= 1048576) (hnm : ∀ d ∈ p.Bs.flatten,NB d.s /\ NMx d.A /\ NMx d.E) (hV : ∀ W0 hb xb,PC W0.heap.size X Pb W0 J P N n p vD vB -> VB W0.heap.size hb xb X h W0 -> VD W0.heap.size X W0 J P hb xb p.Ds vio /\ VE W0.heap.size X W0 J P hb xb vio /\ VS W0.heap.size X W0 J P N hb xb vio) :
    Calls Tryz.prog 22 #[.pointer (some ⟨X,0,none⟩),.func (.func 32) #[] #[],.func (.func h) #[] #[]] w (FST X J w ((fv vio 0 (thP p)).map (fun j => (j : Int)))) := by
  refine (first_any X 32 h w J (fv vio 0 (thP p) = none) (fun pl => ∃ j : Nat,pl = (j : Int) /\ fv vio 0 (thP p) = some j) cfT hp.wc.x hp.wc.js.hit (fun hb xb W' hb1 c0 c1 h0 h1 => ?_)).mono ?_
  · have hj' := hp.wc.js.below hj hp.wc.x hb1
    have hp' := hp.next (OTH.of hb1) hj'; obtain ⟨v1,v2,v3⟩ := hV W' hb xb hp' (VB.mk' hp.wc.x c0 c1 h0 h1); refine (things_any hp' v1 v2 v3 (FRM.refl _ _ _) hj' hD hB hnm).mono ?_; rintro e w2 ⟨ho,hf,hj2⟩; refine ⟨hf.out,hj2,?_⟩
    rcases ho with ⟨g1,g2,_⟩ | ⟨j,a1,a2,a3,dp,tp,a6,g1,g2⟩
    · exact Or.inl ⟨g2,g1⟩
    exact Or.inr ⟨(j : Int),a1,a2,a3,dp,tp,a6,g2,j,rfl,g1⟩
  rintro e w2 ⟨ho,hj2,hh⟩; refine ⟨ho,hj2,?_⟩
  rcases hh with ⟨he,hb⟩ | ⟨pl,a1,a2,a3,dp,tp,a6,he,j,rfl,hb⟩
  · exact Or.inl ⟨he,by rw [hb]; rfl⟩
  exact Or.inr ⟨(j : Int),a1,a2,a3,dp,tp,a6,he,by rw [hb]; rfl⟩
end
def RR (fb : Bool) (p : Pg) : Nat -> Option Int
  | 0 => if !fb then some (-1) else none
  | 1 => if !(p.wd == 4 || p.wd == 8 || p.wd == 16 || p.wd == 32 || p.wd == 64) then some (-1) else none
  | 2 => if !(arrB p.ln) then some (-1) else none
  | 3 => if decide (256 < p.Ds.length) then some (-1) else none
  | 4 => (fv (vio5 p) 0 (p.Ds.map thD)).map (fun j => (j : Int))
  | 5 => (fv (vio6 p) 0 (p.Ds.map thD)).map (fun j => (j : Int))
  | 6 => (fv (vio7 p) 0 (p.Ds.map thD)).map (fun j => (j : Int))
  | 7 => (fv (vio8 p) 0 (p.Ds.map thD)).map (fun j => (j : Int))
  | 8 => if decide (4096 < inS p.Ds) then some (-1) else none
  | 9 => (fv vio10 0 (thP p)).map (fun j => (j : Int))
  | 10 => (fv (vio11 p) 0 (thP p)).map (fun j => (j : Int))
  | 11 => (fv (vio12 p) 0 (thP p)).map (fun j => (j : Int))
  | 12 => (fv (vio13 p) 0 (thP p)).map (fun j => (j : Int))
  | 13 => (fv (vio14 p) 0 (thP p)).map (fun j => (j : Int))
  | 14 => (fv (vio15 p) 0 (thP p)).map (fun j => (j : Int))
  | _ => if decide (65536 < cs7 (p.Bs.map vS)) then some (-1) else none
theorem first_all {X Pb : Nat} {J : World -> Prop} {P : Nat -> Prop} {N n : Nat} {p : Pg} {vD vB : Value} {w : World} (fb : Bool) (hp : PC w.heap.size X Pb w J P N n p vD vB) (hj : J w) (hDc : DCA X Pb J P N n p vD vB) (hD : wtD p.Ds <= 1048576) (hB : wtS p.Bs.flatten <= 1048576) (hnm : ∀ d ∈ p.Bs.flatten,NB d.s /\ NMx d.A /\ NMx d.E) (hnd : ∀ i,NB (p.Ds.getD i dd0).s)
    (hF : ∀ w2,(∀ j,P j -> w2.heap[j]? = w.heap[j]?) -> w.heap.size <= w2.heap.size -> Calls Tryz.prog 64 #[.agg #[.string p.s,.int .i64 p.wd,.int .i64 p.ln,vD,vB]] w2 fun e w' => e = .returned (.bool fb) /\ Below w2.heap.size w2 w')
    (j : Nat) (h16 : j < 16) (hz : 8 <= j -> p.Ds.length <= 256 /\ ∀ d ∈ p.Ds,0 <= d.z /\ d.z <= 256) (hok : 15 <= j -> ∀ d ∈ p.Bs.flatten,okSd d) :
    Calls Tryz.prog 22 #[.pointer (some ⟨X,0,none⟩),.func (.func (cat j).2.1) #[] #[],.func (.func (cat j).2.2) #[] #[]] w (FST X J w (RR fb p j)) := by
  have hDl : p.Ds.length <= 1048576 := Nat.le_trans (wtD_len p.Ds) hD; have hvl : ∀ i,(p.Ds.getD i dd0).vs.length <= 1048576 := fun i => by
    by_cases hi : i < p.Ds.length
    · have h1 := dtake_wt hi
      have h2 := dtake_le p.Ds (i + 1)
      omega
    rw [List.getD_eq_getElem?_getD,List.getElem?_eq_none (by omega)]
    simp [dd0]
  match j,h16,hz,hok with
  | 0,_,_,_ => exact fW (!fb) hp hj (cf40 _ _ Tryz.func33 (by kernel_rfl) (by kernel_rfl)) (fun W0 w2 h0 h1 h2 h3 => nfrm_W h1 fb (fun w3 h4 => hF w3 (fun j hj => (h4.keepP h1.wc.p j hj).trans (h0.block j (hp.wc.p j hj).1)) (Nat.le_trans h0.size h4.size)) h2 h3)
  | 1,_,_,_ => exact fW _ hp hj (cf40 _ _ Tryz.func34 (by kernel_rfl) (by kernel_rfl)) (fun W0 w2 _ h1 h2 h3 => nwid_W h1 h2 h3)
  | 2,_,_,_ => exact fW _ hp hj (cf40 _ _ Tryz.func35 (by kernel_rfl) (by kernel_rfl)) (fun W0 w2 _ h1 h2 h3 => nlin_W h1 h2 h3)
  | 3,_,_,_ => exact fW _ hp hj (cf40 _ _ Tryz.func36 (by kernel_rfl) (by kernel_rfl)) (fun W0 w2 _ h1 h2 h3 => mdec_W h1 h2 h3)
  | 4,_,_,_ => exact fD _ hp hj hDl (fun W0 hb xb h1 h2 => vis5 hDc hnd h1 h2)
  | 5,_,_,_ => exact fD _ hp hj hDl (fun W0 hb xb h1 h2 => vis6 h1 h2)
  | 6,_,_,_ => exact fD _ hp hj hDl (fun W0 hb xb h1 h2 => vis7 h1 h2)
  | 7,_,_,_ => exact fD _ hp hj hDl (fun W0 hb xb h1 h2 => vis8 h1 h2 hvl)
  | 8,_,hz,_ => exact fW _ hp hj (cf40 _ _ Tryz.func41 (by kernel_rfl) (by kernel_rfl)) (fun W0 w2 _ h1 h2 h3 => minp_W h1 (hz (by omega)).1 (hz (by omega)).2 h2 h3)
  | 9,_,_,_ => exact fT _ hp hj hDl hB hnm (fun W0 hb xb h1 h2 => vis10 h1 h2)
  | 10,_,_,_ => exact fT _ hp hj hDl hB hnm (fun W0 hb xb h1 h2 => vis11 hDc h1 h2)
  | 11,_,_,_ => exact fT _ hp hj hDl hB hnm (fun W0 hb xb h1 h2 => vis12 hDc h1 h2)
  | 12,_,_,_ => exact fT _ hp hj hDl hB hnm (fun W0 hb xb h1 h2 => vis13 h1 h2)
  | 13,_,_,_ => exact fT _ hp hj hDl hB hnm (fun W0 hb xb h1 h2 => vis14 h1 h2)
  | 14,_,_,_ => exact fT _ hp hj hDl hB hnm (fun W0 hb xb h1 h2 => vis15 hDc h1 h2)
  | 15,_,_,hok => exact fW _ hp hj (cf40 _ _ Tryz.func48 (by kernel_rfl) (by kernel_rfl)) (fun W0 w2 _ h1 h2 h3 => grt_W h1 (hok (by omega)) hB h2 h3)
  | j + 16,h,_,_ => exact absurd h (by omega)
end Go.Proofs.YtfljcdccepnidaaGreatDoor
