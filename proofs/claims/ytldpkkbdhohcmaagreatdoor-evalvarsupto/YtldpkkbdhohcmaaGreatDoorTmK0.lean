import Derived.Test.YtldpkkbdhohcmaaGreatDoorTmI0
namespace Go.Proofs.YtldpkkbdhohcmaaGreatDoor
open Go.ChangeShapes Go.WideShapes Go.ChangeAt Go.RowKit Go.Lib Go.Tm Go.Bw Go.Bn Go.WideMaps Go.Maps Go.ChangeMaps

theorem AddP.of_below {ty : TypeId} {w w' : World} {B0 B : Nat} {lim : Int} {L : List Nd} {v : Value} {M1 M2 : Option Nat} (h : SM ty w B0 B lim L v M1 M2) (hb : Below w.heap.size w w') : AddP ty w B0 B lim L v M1 M2 w' :=
  ⟨v,M1,M2,h.below hb,Kp.of_below hb,fun _ hk => Or.inl hk,fun h => h⟩
theorem AddP.back {ty : TypeId} {w W w' : World} {B0 B : Nat} {lim : Int} {L : List Nd} {v : Value} {M1 M2 : Option Nat} (hb : Below w.heap.size w W) (h : AddP ty W B0 B lim L v M1 M2 w') : AddP ty w B0 B lim L v M1 M2 w' := by
  obtain ⟨v',N1,N2,hs,hk,ho,hne⟩ := h; refine ⟨v',N1,N2,hs,⟨hk.os.trans hb.os,hk.tape.trans hb.tape,hk.output.trans hb.output,Nat.le_trans hb.size hk.size,fun k h1 hno => (hk.block k (Nat.lt_of_lt_of_le h1 hb.size) hno).trans (hb.block k h1)⟩,fun k e => ?_,hne⟩
  rcases ho k e with e2 | e2
  · exact Or.inl e2
  exact Or.inr (Nat.le_trans hb.size e2)
/-- what Make answers and leaves -/
def MkP (ty : TypeId) (w : World) (B0 B : Nat) (lim : Int) (L : List Nd) (v : Value) (M1 M2 : Option Nat) (n : Nd) (e : Ending) (w' : World) : Prop :=
  e = .returned (.tuple #[.int .i64 (mk lim L n).2.1,.int .i64 (mk lim L n).2.2]) /\ AddP ty w B0 B lim (mk lim L n).1 v M1 M2 w'
theorem MkP.ref {ty : TypeId} {w w' : World} {B0 B : Nat} {lim : Int} {L : List Nd} {v : Value} {M1 M2 : Option Nat} {n : Nd} (h : SM ty w B0 B lim L v M1 M2) (hr : rfE L n ≠ 0) (hb : Below w.heap.size w w') : MkP ty w B0 B lim L v M1 M2 n (.returned (.tuple #[.int .i64 0,.int .i64 (rfE L n)])) w' := by
  have e : mk lim L n = (L,0,rfE L n) := by unfold mk; rw [if_pos hr]
  unfold MkP; rw [e]; exact ⟨rfl,AddP.of_below h hb⟩
theorem MkP.old {ty : TypeId} {w w' : World} {B0 B : Nat} {lim : Int} {L : List Nd} {v : Value} {M1 M2 : Option Nat} {n : Nd} {i : Nat} (h : SM ty w B0 B lim L v M1 M2) (hr : rfE L n = 0) (hp : pos n L = some i) (hb : Below w.heap.size w w') : MkP ty w B0 B lim L v M1 M2 n (.returned (.tuple #[.int .i64 ((i : Int) + 1),.int .i64 0])) w' := by
  have e : mk lim L n = (L,(i : Int) + 1,0) := by unfold mk; rw [if_neg (by omega),hp]
  unfold MkP; rw [e]; exact ⟨rfl,AddP.of_below h hb⟩
theorem MkP.full {ty : TypeId} {w w' : World} {B0 B : Nat} {lim : Int} {L : List Nd} {v : Value} {M1 M2 : Option Nat} {n : Nd} (h : SM ty w B0 B lim L v M1 M2) (hr : rfE L n = 0) (hp : pos n L = none) (hf : 0 < lim /\ lim <= (L.length : Int)) (hb : Below w.heap.size w w') : MkP ty w B0 B lim L v M1 M2 n (.returned (.tuple #[.int .i64 0,.int .i64 4])) w' := by
  have e : mk lim L n = (L,0,4) := by unfold mk; rw [if_neg (by omega),hp]; exact if_pos hf
  unfold MkP; rw [e]; exact ⟨rfl,AddP.of_below h hb⟩
theorem MkP.new {ty : TypeId} {w w' : World} {B0 B : Nat} {lim : Int} {L : List Nd} {v : Value} {M1 M2 : Option Nat} {n : Nd} (hr : rfE L n = 0) (hp : pos n L = none) (hf : ¬ (0 < lim /\ lim <= (L.length : Int))) (hA : AddP ty w B0 B lim (L ++ [n]) v M1 M2 w') : MkP ty w B0 B lim L v M1 M2 n (.returned (.tuple #[.int .i64 ((L.length : Int) + 1),.int .i64 0])) w' := by
  have e : mk lim L n = (L ++ [n],(L.length : Int) + 1,0) := by unfold mk; rw [if_neg (by omega),hp]; exact if_neg hf
  unfold MkP; rw [e]; exact ⟨rfl,hA⟩
end Go.Proofs.YtldpkkbdhohcmaaGreatDoor
namespace Go.Proofs.YtldpkkbdhohcmaaGreatDoor
open Go.ChangeShapes Go.WideShapes Go.ChangeAt Go.RowKit Go.Lib Go.Tm Go.Bw Go.Bn Go.WideMaps Go.Maps Go.ChangeMaps

theorem add_kp {w W1 w4 w6 : World} {B : Nat} {v : Value} {O1 O2 : Option Nat} {M1 : Nat} {o : Obj} {u : Value} (hK : Kp w W1 B v O1 O2) (hM : ∀ k,M1 = k -> Own B v O1 O2 k ∨ w.heap.size <= k)
    (hg : (W1.alloc o).grownBy w4 v.ownBlock) (hg6 : (w4.setCell ⟨B,1,none⟩ u).drew.grownBy w6 (some M1)) : Kp w w6 B v O1 O2 := by
  have s1 := hK.size; have s2 := hg.size; have s3 : (w4.setCell ⟨B,1,none⟩ u).drew.heap.size = w4.heap.size := by simp
  have s4 := hg6.size; have sa : (W1.alloc o).heap.size = W1.heap.size + 1 := by simp
  have hset := gb_set w4 ⟨B,1,none⟩ u; refine ⟨?_,?_,?_,by omega,fun k hk hno => ?_⟩
  · rw [hg6.os]; exact hset.os.trans (hg.os.trans hK.os)
  · rw [hg6.tape]; exact hset.tape.trans (hg.tape.trans hK.tape)
  · rw [hg6.output]; exact hset.output.trans (hg.output.trans hK.output)
  have e1 : w6.heap[k]? = (w4.setCell ⟨B,1,none⟩ u).heap[k]? := hg6.block k (by omega) (fun e => by
    injection e with e
    rcases hM k e.symm with e2 | e2
    · exact hno e2
    omega)
  have e2 : (w4.setCell ⟨B,1,none⟩ u).heap[k]? = w4.heap[k]? := hset.block k (by omega) (fun e => by
    injection e with e
    exact hno (Or.inl e))
  have e3 : w4.heap[k]? = (W1.alloc o).heap[k]? := hg.block k (by omega) (fun e => hno (Or.inr (Or.inl e.symm))); have e4 : (W1.alloc o).heap[k]? = W1.heap[k]? := Below.heap_alloc _ _ _ (by omega); exact e1.trans (e2.trans (e3.trans (e4.trans (hK.block k hk hno))))
theorem kp_map {w w6 w7 : World} {B : Nat} {v : Value} {O1 O2 : Option Nat} {M : Nat} (hK : Kp w w6 B v O1 O2) (hM : ∀ k,M = k -> Own B v O1 O2 k ∨ w.heap.size <= k) (hg : w6.drew.grownBy w7 (some M)) : Kp w w7 B v O1 O2 :=
  ⟨hg.os.trans hK.os,hg.tape.trans hK.tape,hg.output.trans hK.output,Nat.le_trans hK.size hg.size,fun k hk hno => (hg.block k (Nat.lt_of_lt_of_le hk hK.size) (fun e => by
    injection e with e
    rcases hM k e.symm with e2 | e2
    · exact hno e2
    omega)).trans (hK.block k hk hno)⟩
theorem add_fin {ty : TypeId} {w w6 : World} {B0 B : Nat} {lim : Int} {L : List Nd} {v : Value} {O1 O2 : Option Nat} {M1 M2 g cap n2 : Nat} {f2 : ByteArray -> Option Int} {n : Nd}
    (h : SM ty w B0 B lim L v O1 O2) (hB0 : B0 <= w.heap.size) (hl : L.length < 1000000000000) (hn : n.ok) (hr : rfE L n = 0) (hp : pos n L = none)
    (hK : Kp w w6 B v O1 O2) (hM : ∀ k,M1 = k ∨ M2 = k -> Own B v O1 O2 k ∨ w.heap.size <= k) (hat : v.ownBlock = some g ∨ w.heap.size <= g)
    (hX : SX ty w6 B0 B lim (L ++ [n]) (.slice (some ⟨g,0,none⟩) (L.length + 1) cap) M1 M2 (fun y => @ite _ (y = n) (ndDec y n) (some ((L.length : Int) + 1)) (numF L y)) f2 (L.length + 1) n2) (hn2 : n2 <= L.length + 1) (hf2 : ∀ y,f2 y = varF (L ++ [n]) y) :
    AddP ty w B0 B lim (L ++ [n]) v O1 O2 w6 := by
  have hlen : (L ++ [n]).length = L.length + 1 := by simp
  have hMge : ∀ k,M1 = k ∨ M2 = k -> B0 <= k := fun k hk => by
    rcases hM k hk with e | e
    · exact h.ge e
    omega
  refine ⟨_,some M1,some M2,⟨hX.blk,hX.row,?_,?_,h.b0,?_,?_,?_,?_,?_,?_,h.limI,?_⟩,?_,?_,fun _ e => by cases e⟩
  · obtain ⟨D,hm,hF⟩ := hX.m1
    exact ⟨D,by rw [hlen]; exact hm,hF.congr (fun y => numF_snoc hp y)⟩
  · obtain ⟨D,hm,hF⟩ := hX.m2
    exact ⟨D,by rw [hlen]; exact hm.mono hn2,hF.congr hf2⟩
  · intro m hm
    exact hMge m (by rcases hm with e | e; left; injection e; right; injection e)
  · intro m e1 e2
    cases e1; exact hX.ne (by injection e2 with e2; exact e2.symm)
  · intro e; cases e
  · intro _ e; cases e
  · intro m hm
    rcases List.mem_append.1 hm with e | e
    · exact h.okL m e
    simp at e; subst e; exact hn
  · intro m hm
    rcases List.mem_append.1 hm with e | e
    · exact h.wds m e
    simp at e; subst e; exact rfE_w hr
  · rw [hlen]; omega
  · exact hK
  intro k hk
  rcases hk with rfl | e | e | e
  · exact Or.inl (Or.inl rfl)
  · have eg : g = k := by injection e
    subst eg
    rcases hat with e2 | e2
    · exact Or.inl (Or.inr (Or.inl e2))
    exact Or.inr e2
  · exact hM k (Or.inl (by injection e))
  exact hM k (Or.inr (by injection e))
end Go.Proofs.YtldpkkbdhohcmaaGreatDoor
