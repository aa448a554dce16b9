import Derived.Test.YtfljcdccepnidaaGreatDoorWtO
import Derived.Defers
import Derived.Recover
import Derived.WalkLawsBesides
namespace Go.Proofs.YtfljcdccepnidaaGreatDoor
open Go.ChangeShapes Go.WideShapes Go.ChangeAt Go.RowKit Go.Lib

set_option maxHeartbeats 4000000 in
set_option maxRecDepth 100000 in
theorem catch_idle (p q : Addr) (w : World) :
    CallsD Tryz.prog 49 #[.pointer (some p),.pointer (some q)] .returning w fun e u' w' => e = .returned (.tuple #[]) /\ u' = .returning /\ w' = w := by
  refine callsD_of_wpS Tryz.func49 rfl fun c₀ cs hu => ?_
  apply wpS_seq
  apply wpS_region
  simp [wpOpsS,go_sem,recoverD,hu,Tryz.ntmps49,Exit.thenS]
  apply wpS_seq
  apply wpS_region
  simp [wpOpsS,go_sem,Exit.thenS]
  refine wpS_cond (t := false) (by simp [Act.eval,Array.replicate]) ?_; refine wpS_of_wp (wp_skip ?_); cases c₀
  simp_all [bodyPostS,results,Tryz.results49]
abbrev tcs (pl : Int) (a1 a2 a3 : Option Addr) (dp : Int) (tp : Bool) (a6 : Option Addr) : Array Value := #[.int .i64 pl,.pointer a1,.pointer a2,.pointer a3,.int .i64 dp,.bool tp,.pointer a6]
structure HIT (bb : Bool) (p q : Nat) (tc : Array Value) (w w' : World) : Prop where
  hp : w'.heap[p]? = some (.cells tc 70 (0,0))
  hq : w'.heap[q]? = some (.cells #[.bool bb] 4 (0,0))
  os : w'.os = w.os
  tape : w'.tape = w.tape
  output : w'.output = w.output
  size : w'.heap.size = w.heap.size
  block : ∀ j,j ≠ p -> j ≠ q -> w'.heap[j]? = w.heap[j]?
set_option maxHeartbeats 4000000 in
theorem hit_of (bb : Bool) {p q : Nat} {w : World} {b0 u0 u1 u2 u3 u4 u5 u6 : Value} (v0 v1 v2 v3 v4 v5 v6 : Value) (hp : w.heap[p]? = some (.cells #[u0,u1,u2,u3,u4,u5,u6] 70 (0,0))) (hq : w.heap[q]? = some (.cells #[b0] 4 (0,0))) (hpq : p ≠ q) : HIT bb p q #[v0,v1,v2,v3,v4,v5,v6] w ((((((((w.setCell ⟨p,0,none⟩ v0).setCell ⟨p,1,none⟩ v1).setCell ⟨p,2,none⟩ v2).setCell ⟨p,3,none⟩ v3).setCell ⟨p,4,none⟩ v4).setCell ⟨p,5,none⟩ v5).setCell ⟨p,6,none⟩ v6).setCell ⟨q,0,none⟩ (.bool bb)) := by
  obtain ⟨W0,h0⟩ : ∃ X,w.setCell ⟨p,0,none⟩ v0 = X := ⟨_,rfl⟩; obtain ⟨W1,h1⟩ : ∃ X,W0.setCell ⟨p,1,none⟩ v1 = X := ⟨_,rfl⟩; obtain ⟨W2,h2⟩ : ∃ X,W1.setCell ⟨p,2,none⟩ v2 = X := ⟨_,rfl⟩; obtain ⟨W3,h3⟩ : ∃ X,W2.setCell ⟨p,3,none⟩ v3 = X := ⟨_,rfl⟩; obtain ⟨W4,h4⟩ : ∃ X,W3.setCell ⟨p,4,none⟩ v4 = X := ⟨_,rfl⟩; obtain ⟨W5,h5⟩ : ∃ X,W4.setCell ⟨p,5,none⟩ v5 = X := ⟨_,rfl⟩; obtain ⟨W6,h6⟩ : ∃ X,W5.setCell ⟨p,6,none⟩ v6 = X := ⟨_,rfl⟩; rw [h0,h1,h2,h3,h4,h5,h6]; have one : ∀ {w X : World} {i : Nat} {v : Value} {cs : Array Value},w.setCell ⟨p,i,none⟩ v = X -> w.heap[p]? = some (.cells cs 70 (0,0)) -> X.heap[p]? = some (.cells (cs.set! i v) 70 (0,0)) := fun e h => by rw [<- e,heap_setCell_same _ p _ _ _ _ h]; simp
  have oth : ∀ {w X : World} {i : Nat} {v : Value},w.setCell ⟨p,i,none⟩ v = X -> X.os = w.os /\ X.tape = w.tape /\ X.output = w.output /\ X.heap.size = w.heap.size /\ ∀ j,j ≠ p -> X.heap[j]? = w.heap[j]? := fun e => by rw [<- e]; exact ⟨rfl,rfl,rfl,by simp,fun j hj => heap_setCell_other _ _ _ _ hj⟩
  have e6 := one h6 (one h5 (one h4 (one h3 (one h2 (one h1 (one h0 hp)))))); have o0 := oth h0; have o1 := oth h1; have o2 := oth h2; have o3 := oth h3; have o4 := oth h4; have o5 := oth h5; have o6 := oth h6; have hb : ∀ j,j ≠ p -> W6.heap[j]? = w.heap[j]? := fun j hj => (o6.2.2.2.2 j hj).trans ((o5.2.2.2.2 j hj).trans ((o4.2.2.2.2 j hj).trans ((o3.2.2.2.2 j hj).trans ((o2.2.2.2.2 j hj).trans ((o1.2.2.2.2 j hj).trans (o0.2.2.2.2 j hj))))))
  refine ⟨?_,?_,?_,?_,?_,?_,fun j h1 h2 => ?_⟩
  · rw [heap_setCell_other _ _ _ _ hpq,e6]
    rfl
  · rw [heap_setCell_same _ q 0 _ _ _ ((hb q hpq.symm).trans hq)]
    simp
  · exact o6.1.trans (o5.1.trans (o4.1.trans (o3.1.trans (o2.1.trans (o1.1.trans o0.1)))))
  · exact o6.2.1.trans (o5.2.1.trans (o4.2.1.trans (o3.2.1.trans (o2.2.1.trans (o1.2.1.trans o0.2.1)))))
  · exact o6.2.2.1.trans (o5.2.2.1.trans (o4.2.2.1.trans (o3.2.2.1.trans (o2.2.2.1.trans (o1.2.2.1.trans o0.2.2.1)))))
  · rw [World.size_setCell,o6.2.2.2.1,o5.2.2.2.1,o4.2.2.2.1,o3.2.2.2.1,o2.2.2.2.1,o1.2.2.2.1,o0.2.2.2.1]
  exact (heap_setCell_other _ _ _ _ h2).trans (hb j h1)
set_option maxHeartbeats 4000000 in
set_option maxRecDepth 100000 in
theorem catch_hit (p q : Nat) (w : World) (pl : Int) (a1 a2 a3 : Option Addr) (dp : Int) (tp : Bool) (a6 : Option Addr) (b0 : Value) (c : Array Value) (older : List PanicEntry) (hc : c.size = 7) (hp : w.heap[p]? = some (.cells c 70 (0,0))) (hq : w.heap[q]? = some (.cells #[b0] 4 (0,0))) (hpq : p ≠ q) :
    CallsD Tryz.prog 49 #[.pointer (some ⟨p,0,none⟩),.pointer (some ⟨q,0,none⟩)] (.panicking ({ v := .iface 87 (.agg #[.int .i64 pl,.pointer a1,.pointer a2,.pointer a3,.int .i64 dp,.bool tp,.pointer a6]),recovered := false } :: older)) w fun e u' w' => e = .returned (.tuple #[]) /\ u' = (.panicking ({ v := .iface 87 (.agg #[.int .i64 pl,.pointer a1,.pointer a2,.pointer a3,.int .i64 dp,.bool tp,.pointer a6]),recovered := true } :: older)) /\ HIT true p q #[.int .i64 pl,.pointer a1,.pointer a2,.pointer a3,.int .i64 dp,.bool tp,.pointer a6] w w' := by
  obtain ⟨u0,u1,u2,u3,u4,u5,u6,rfl⟩ : ∃ u0 u1 u2 u3 u4 u5 u6,c = #[u0,u1,u2,u3,u4,u5,u6] := by
    match c,hc with
    | ⟨[u0,u1,u2,u3,u4,u5,u6]⟩,_ => exact ⟨u0,u1,u2,u3,u4,u5,u6,rfl⟩
  have HH : Hid (HIT true p q #[.int .i64 pl,.pointer a1,.pointer a2,.pointer a3,.int .i64 dp,.bool tp,.pointer a6] w ((((((((w.setCell ⟨p,0,none⟩ (.int .i64 pl)).setCell ⟨p,1,none⟩ (.pointer a1)).setCell ⟨p,2,none⟩ (.pointer a2)).setCell ⟨p,3,none⟩ (.pointer a3)).setCell ⟨p,4,none⟩ (.int .i64 dp)).setCell ⟨p,5,none⟩ (.bool tp)).setCell ⟨p,6,none⟩ (.pointer a6)).setCell ⟨q,0,none⟩ (.bool true))) := hit_of true _ _ _ _ _ _ _ hp hq hpq; have c0 : w.cell? ⟨p,0,none⟩ = some u0 := cell_of hp 0; have f0 := fz_of hp 0; have c1 : w.cell? ⟨p,1,none⟩ = some u1 := cell_of hp 1; have f1 := fz_of hp 1; have c2 : w.cell? ⟨p,2,none⟩ = some u2 := cell_of hp 2; have f2 := fz_of hp 2; have c3 : w.cell? ⟨p,3,none⟩ = some u3 := cell_of hp 3; have f3 := fz_of hp 3; have c4 : w.cell? ⟨p,4,none⟩ = some u4 := cell_of hp 4; have f4 := fz_of hp 4; have c5 : w.cell? ⟨p,5,none⟩ = some u5 := cell_of hp 5; have f5 := fz_of hp 5; have c6 : w.cell? ⟨p,6,none⟩ = some u6 := cell_of hp 6; have f6 := fz_of hp 6; have d0 : w.cell? ⟨q,0,none⟩ = some b0 := cell_of hq 0; have g0 := fz_of hq 0; have hpq1 : ¬ p = q := hpq; have hpq2 : ¬ q = p := hpq.symm; clear hpq hp hq hc
  generalize HIT true p q #[.int .i64 pl,.pointer a1,.pointer a2,.pointer a3,.int .i64 dp,.bool tp,.pointer a6] w = PP at *
  refine callsD_of_wpS Tryz.func49 rfl fun c₀ cs hu => ?_
  apply wpS_seq
  apply wpS_region
  simp [wpOpsS,go_sem,recoverD,hu,Tryz.ntmps49,Exit.thenS]
  apply wpS_seq
  apply wpS_region
  simp [wpOpsS,go_sem,Exit.thenS]
  refine wpS_cond (t := true) (by simp [Act.eval,Array.replicate]) ?_; simp only [if_true]; refine wpS_of_wp ?_; have hT : ∀ (v : Value) (w : World),(Instr.typeAssert (.iface 87 v) 20 87 false).run Tryz.prog w = .ok v w := fun _ _ => by kernel_rfl
  have hF : ∀ (w : World),(Instr.field 87 (.agg #[.int .i64 pl,.pointer a1,.pointer a2,.pointer a3,.int .i64 dp,.bool tp,.pointer a6]) 0).run Tryz.prog w = .ok (.agg #[.int .i64 pl,.pointer a1,.pointer a2,.pointer a3,.int .i64 dp,.bool tp,.pointer a6]) w := fun _ => by kernel_rfl
  simp only [Array.replicate,List.replicate,List.setIfInBounds_toArray,List.set_cons_zero,List.set_cons_succ,List.append_toArray,List.cons_append,List.nil_append]
  go_wp2_with fail
  cases c₀
  simp_all [bodyPostS,results,Tryz.results49]
  exact HH.out
set_option maxHeartbeats 4000000 in
set_option maxRecDepth 100000 in
theorem visit_any (b : Bool) (h : Nat) (pl : Int) (a1 a2 a3 : Option Addr) (dp : Int) (tp : Bool) (a6 : Option Addr) (hb xb X : Nat) (W : World) (J : World -> Prop) (hcf : ∀ args W,(callFunc h args).run Tryz.prog W = .ok (.enter h args) W)
    (c0 : W.cell? ⟨hb,0,none⟩ = some (.func (.func h) #[] #[])) (c1 : W.cell? ⟨xb,0,none⟩ = some (.pointer (some ⟨X,0,none⟩))) (hX : X < W.heap.size)
    (HC : Hid (∀ W',Below W.heap.size W W' -> Calls Tryz.prog h #[.pointer (some ⟨X,0,none⟩),.agg #[.int .i64 pl,.pointer a1,.pointer a2,.pointer a3,.int .i64 dp,.bool tp,.pointer a6]] W' fun e w' => e = .returned (.bool b) /\ OTH X W' w' /\ J w')) :
    Calls Tryz.prog 50 #[.agg #[.int .i64 pl,.pointer a1,.pointer a2,.pointer a3,.int .i64 dp,.bool tp,.pointer a6],.pointer (some ⟨hb,0,none⟩),.pointer (some ⟨xb,0,none⟩)] W fun e w' => e = (if b then .panicked [{ v := .iface 87 (.agg #[.int .i64 pl,.pointer a1,.pointer a2,.pointer a3,.int .i64 dp,.bool tp,.pointer a6]),recovered := false }] else .returned (.tuple #[])) /\ OTH X W w' /\ J w' := by
  obtain ⟨Eb,hEb⟩ : ∃ Eb,W.heap.size = Eb := ⟨_,rfl⟩; obtain ⟨W1,hW1⟩ : ∃ W1,W.alloc (.cells #[.int .i64 pl,.pointer a1,.pointer a2,.pointer a3,.int .i64 dp,.bool tp,.pointer a6] 70) = W1 := ⟨_,rfl⟩; have HW1 : Hid (W.alloc (.cells #[.int .i64 pl,.pointer a1,.pointer a2,.pointer a3,.int .i64 dp,.bool tp,.pointer a6] 70) = W1 /\ W.heap.size = Eb) := ⟨hW1,hEb⟩; have HB1 : Hid (Below W.heap.size W W1 /\ W1.heap[Eb]? = some (.cells #[.int .i64 pl,.pointer a1,.pointer a2,.pointer a3,.int .i64 dp,.bool tp,.pointer a6] 70 (0,0))) := by rw [<- hW1,<- hEb]; exact ⟨bel1 _ _,heap_alloc_new _ _⟩
  have hh0 : hb < W.heap.size := by
    cases hx : W.heap[hb]? with
    | none => simp [World.cell?,hx] at c0
    | some o => exact (Array.getElem?_eq_some_iff.1 hx).1
  have hh1 : xb < W.heap.size := by
    cases hx : W.heap[xb]? with
    | none => simp [World.cell?,hx] at c1
    | some o => exact (Array.getElem?_eq_some_iff.1 hx).1
  have d0 : W1.cell? ⟨hb,0,none⟩ = some (.func (.func h) #[] #[]) := (HB1.out.1.cell (p := ⟨hb,0,none⟩) hh0).trans c0; have d1 : W1.cell? ⟨xb,0,none⟩ = some (.pointer (some ⟨X,0,none⟩)) := (HB1.out.1.cell (p := ⟨xb,0,none⟩) hh1).trans c1; have e0 : W1.cell? ⟨Eb,0,none⟩ = some (.int .i64 pl) := cell_of HB1.out.2 0; have e1 : W1.cell? ⟨Eb,1,none⟩ = some (.pointer a1) := cell_of HB1.out.2 1; have e2 : W1.cell? ⟨Eb,2,none⟩ = some (.pointer a2) := cell_of HB1.out.2 2; have e3 : W1.cell? ⟨Eb,3,none⟩ = some (.pointer a3) := cell_of HB1.out.2 3; have e4 : W1.cell? ⟨Eb,4,none⟩ = some (.int .i64 dp) := cell_of HB1.out.2 4; have e5 : W1.cell? ⟨Eb,5,none⟩ = some (.bool tp) := cell_of HB1.out.2 5; have e6 : W1.cell? ⟨Eb,6,none⟩ = some (.pointer a6) := cell_of HB1.out.2 6; have HX : Hid (Eb ≠ X) := by show _ ≠ _; omega
  clear hW1 hEb c0 c1 hh0 hh1 hX
  go_enter Tryz.func50,Tryz.ntmps50
  go_upto_region 1 with fail
  rw [HW1.out.1,HW1.out.2]
  go_wp2_with fail
  first | (go_simp; rw [Oper.upon_enter]) | (rw [Oper.upon_enter]) | skip
  refine (HC.out _ HB1.out.1).mono ?_; rintro e w2 ⟨rfl,ho,hj⟩; have HZ : Hid (OTH X W w2 /\ J w2) := ⟨(OTH.of HB1.out.1).trans ho,hj⟩; have hbx := (ho.block Eb (Array.getElem?_eq_some_iff.1 HB1.out.2).1 HX.out).trans HB1.out.2; have g0 : w2.cell? ⟨Eb,0,none⟩ = some (.int .i64 pl) := cell_of hbx 0; have g1 : w2.cell? ⟨Eb,1,none⟩ = some (.pointer a1) := cell_of hbx 1; have g2 : w2.cell? ⟨Eb,2,none⟩ = some (.pointer a2) := cell_of hbx 2; have g3 : w2.cell? ⟨Eb,3,none⟩ = some (.pointer a3) := cell_of hbx 3; have g4 : w2.cell? ⟨Eb,4,none⟩ = some (.int .i64 dp) := cell_of hbx 4; have g5 : w2.cell? ⟨Eb,5,none⟩ = some (.bool tp) := cell_of hbx 5; have g6 : w2.cell? ⟨Eb,6,none⟩ = some (.pointer a6) := cell_of hbx 6; clear hbx ho hj
  dsimp only
  cases b with
  | false =>
    go_wp2_with fail
    go_end0
    exact ⟨rfl,HZ.out⟩
  | true =>
    go_wp2_with fail
    exact ⟨rfl,rfl,HZ.out⟩
set_option maxHeartbeats 4000000 in
set_option maxRecDepth 100000 in
theorem first_any (X o h : Nat) (W : World) (J : World -> Prop) (N : Prop) (Y : Int -> Prop) (hcf : ∀ args W,(callFunc o args).run Tryz.prog W = .ok (.enter o args) W) (hX : X < W.heap.size)
    (hJ : ∀ bb p q tc w w',HIT bb p q tc w w' -> p ≠ X -> q ≠ X -> (∃ c,w.heap[p]? = some (.cells c 70 (0,0))) -> (∃ c,w.heap[q]? = some (.cells c 4 (0,0))) -> J w -> J w')
    (HO : Hid (∀ hb xb W',Below W.heap.size W W' -> W'.cell? ⟨hb,0,none⟩ = some (.func (.func h) #[] #[]) -> W'.cell? ⟨xb,0,none⟩ = some (.pointer (some ⟨X,0,none⟩)) -> W.heap.size <= hb -> W.heap.size <= xb -> 
      Calls Tryz.prog o #[.pointer (some ⟨X,0,none⟩),.func (.func 50) #[] #[.pointer (some ⟨hb,0,none⟩),.pointer (some ⟨xb,0,none⟩)]] W' fun e w' => OTH X W' w' /\ J w' /\ ((e = .returned (.tuple #[]) /\ N) ∨ ∃ pl a1 a2 a3 dp tp a6,e = .panicked [{ v := .iface 87 (.agg (tcs pl a1 a2 a3 dp tp a6)),recovered := false }] /\ Y pl))) :
    Calls Tryz.prog 22 #[.pointer (some ⟨X,0,none⟩),.func (.func o) #[] #[],.func (.func h) #[] #[]] W fun e w' => OTH X W w' /\ J w' /\ ((e = .returned (.tuple #[.agg (tcs 0 none none none 0 false none),.bool false]) /\ N) ∨ ∃ pl a1 a2 a3 dp tp a6,e = .returned (.tuple #[.agg (tcs pl a1 a2 a3 dp tp a6),.bool true]) /\ Y pl) := by
  have hmf : ∀ (fn : Fn) (first cap : Array Value) (w : World),(Instr.makeFunc fn first cap).run Tryz.prog w = .ok (.func fn first cap) w := fun _ _ _ _ => rfl
  obtain ⟨E,hE⟩ : ∃ E,W.heap.size = E := ⟨_,rfl⟩; obtain ⟨W1,hW1⟩ : ∃ W1,(((W.alloc (.cells #[.pointer (some ⟨X,0,none⟩)] 85)).alloc (.cells #[.func (.func h) #[] #[]] 62)).alloc (.cells (tcs 0 none none none 0 false none) 70)).alloc (.cells #[.bool false] 4) = W1 := ⟨_,rfl⟩; have H1 : Hid (Below W.heap.size W W1 /\ W1.heap[E]? = some (.cells #[.pointer (some ⟨X,0,none⟩)] 85 (0,0)) /\ W1.heap[E + 1]? = some (.cells #[.func (.func h) #[] #[]] 62 (0,0)) /\ W1.heap[E + 2]? = some (.cells (tcs 0 none none none 0 false none) 70 (0,0)) /\ W1.heap[E + 3]? = some (.cells #[.bool false] 4 (0,0)) /\ W1.heap.size = E + 4) := by
    rw [<- hW1,<- hE]; have b1 := bel1 W (.cells #[.pointer (some ⟨X,0,none⟩)] 85); have k1 := heap_alloc_new W (.cells #[.pointer (some ⟨X,0,none⟩)] 85); obtain ⟨A1,h1⟩ : ∃ A1,W.alloc (.cells #[.pointer (some ⟨X,0,none⟩)] 85) = A1 := ⟨_,rfl⟩; have s1 : A1.heap.size = W.heap.size + 1 := by rw [<- h1]; simp
    rw [h1] at b1 k1 ⊢; have b2 := bel1 A1 (.cells #[.func (.func h) #[] #[]] 62); have k2 := heap_alloc_new A1 (.cells #[.func (.func h) #[] #[]] 62); obtain ⟨A2,h2⟩ : ∃ A2,A1.alloc (.cells #[.func (.func h) #[] #[]] 62) = A2 := ⟨_,rfl⟩; have s2 : A2.heap.size = A1.heap.size + 1 := by rw [<- h2]; simp
    rw [h2] at b2 k2 ⊢; have b3 := bel1 A2 (.cells (tcs 0 none none none 0 false none) 70); have k3 := heap_alloc_new A2 (.cells (tcs 0 none none none 0 false none) 70); obtain ⟨A3,h3⟩ : ∃ A3,A2.alloc (.cells (tcs 0 none none none 0 false none) 70) = A3 := ⟨_,rfl⟩; have s3 : A3.heap.size = A2.heap.size + 1 := by rw [<- h3]; simp
    rw [h3] at b3 k3 ⊢; have b4 := bel1 A3 (.cells #[.bool false] 4); have k4 := heap_alloc_new A3 (.cells #[.bool false] 4); have s4 : (A3.alloc (.cells #[.bool false] 4)).heap.size = A3.heap.size + 1 := by simp
    rw [s1] at k2 s2; rw [s2] at k3 s3; rw [s3] at k4 s4; exact ⟨bnx (bnx (bnx b1 b2) b3) b4,blk_next (blk_next (blk_next k1 b2) b3) b4,blk_next (blk_next k2 b3) b4,blk_next k3 b4,k4,s4⟩
  have HW1 : Hid ((((W.alloc (.cells #[.pointer (some ⟨X,0,none⟩)] 85)).alloc (.cells #[.func (.func h) #[] #[]] 62)).alloc (.cells (tcs 0 none none none 0 false none) 70)).alloc (.cells #[.bool false] 4) = W1 /\ W.heap.size = E) := ⟨hW1,hE⟩; have HXE : Hid (X < E) := by show _ < _; omega
  have HCall := HO.out (E + 1) E W1 H1.out.1 (cell_of H1.out.2.2.1 0) (cell_of H1.out.2.1 0) (by omega) (by omega); replace HCall : Hid (Calls Tryz.prog o #[.pointer (some ⟨X,0,none⟩),.func (.func 50) #[] #[.pointer (some ⟨E + 1,0,none⟩),.pointer (some ⟨E,0,none⟩)]] W1 fun e w' => OTH X W1 w' /\ J w' /\ ((e = .returned (.tuple #[]) /\ N) ∨ ∃ pl a1 a2 a3 dp tp a6,e = .panicked [{ v := .iface 87 (.agg (tcs pl a1 a2 a3 dp tp a6)),recovered := false }] /\ Y pl)) := HCall; have x0 : W1.cell? ⟨E,0,none⟩ = some (.pointer (some ⟨X,0,none⟩)) := cell_of H1.out.2.1 0; have HJ : Hid (∀ bb p q tc w w',HIT bb p q tc w w' -> p ≠ X -> q ≠ X -> (∃ c,w.heap[p]? = some (.cells c 70 (0,0))) -> (∃ c,w.heap[q]? = some (.cells c 4 (0,0))) -> J w -> J w') := hJ; clear hW1 hE hX HO hJ
  go_enter_defers Tryz.func22,Tryz.ntmps22
  go_upto_region 1 with fail
  rw [HW1.out.1,HW1.out.2]
  go_wp2_with fail
  first | (go_simp; rw [Oper.upon_enter]) | (rw [Oper.upon_enter]) | skip
  refine HCall.out.mono ?_; rintro e w2 ⟨ho,hj,hh⟩; have hp : w2.heap[E + 1 + 1]? = some (.cells (tcs 0 none none none 0 false none) 70 (0,0)) := (ho.block _ (by have := H1.out.2.2.2.2.2; omega) (by have := HXE.out; omega)).trans H1.out.2.2.2.1; have hq : w2.heap[E + 1 + 1 + 1]? = some (.cells #[.bool false] 4 (0,0)) := (ho.block _ (by have := H1.out.2.2.2.2.2; omega) (by have := HXE.out; omega)).trans H1.out.2.2.2.2.1; have H3 : Hid (∀ bb tc w3,HIT bb (E + 1 + 1) (E + 1 + 1 + 1) tc w2 w3 -> OTH X W w3 /\ J w3) := fun bb tc w3 ht => by
    have h1 := H1.out.1; have hxe := HXE.out; have he := HW1.out.2; have hs := H1.out.2.2.2.2.2; refine ⟨⟨ht.os.trans (ho.os.trans h1.os),ht.tape.trans (ho.tape.trans h1.tape),ht.output.trans (ho.output.trans h1.output),?_,fun j hj hn => ?_⟩,HJ.out _ _ _ _ _ _ ht (by omega) (by omega) ⟨_,hp⟩ ⟨_,hq⟩ hj⟩
    · have := ho.size
      have := ht.size
      omega
    rw [ht.block j (by omega) (by omega),ho.block j (by omega) hn,h1.block j hj]
  clear ho hj
  rcases hh with ⟨rfl,hN⟩ | ⟨pl,a1,a2,a3,dp,tp,a6,rfl,hY⟩
  · dsimp only
    have c0 : w2.cell? ⟨E + 1 + 1,0,none⟩ = some (.int .i64 0) := cell_of hp 0; have f0 := fz_of hp 0; have c1 : w2.cell? ⟨E + 1 + 1,1,none⟩ = some (.pointer none) := cell_of hp 1; have f1 := fz_of hp 1; have c2 : w2.cell? ⟨E + 1 + 1,2,none⟩ = some (.pointer none) := cell_of hp 2; have f2 := fz_of hp 2; have c3 : w2.cell? ⟨E + 1 + 1,3,none⟩ = some (.pointer none) := cell_of hp 3; have f3 := fz_of hp 3; have c4 : w2.cell? ⟨E + 1 + 1,4,none⟩ = some (.int .i64 0) := cell_of hp 4; have f4 := fz_of hp 4; have c5 : w2.cell? ⟨E + 1 + 1,5,none⟩ = some (.bool false) := cell_of hp 5; have f5 := fz_of hp 5; have c6 : w2.cell? ⟨E + 1 + 1,6,none⟩ = some (.pointer none) := cell_of hp 6; have f6 := fz_of hp 6; have d0 : w2.cell? ⟨E + 1 + 1 + 1,0,none⟩ = some (.bool false) := cell_of hq 0; have g0 := fz_of hq 0; have hpq1 : ¬ E + 1 + 1 = E + 1 + 1 + 1 := by omega
    have hpq2 : ¬ E + 1 + 1 + 1 = E + 1 + 1 := by omega
    obtain ⟨w3,hw3⟩ : ∃ w3,(((((((w2.setCell ⟨E + 1 + 1,0,none⟩ (.int .i64 0)).setCell ⟨E + 1 + 1,1,none⟩ (.pointer none)).setCell ⟨E + 1 + 1,2,none⟩ (.pointer none)).setCell ⟨E + 1 + 1,3,none⟩ (.pointer none)).setCell ⟨E + 1 + 1,4,none⟩ (.int .i64 0)).setCell ⟨E + 1 + 1,5,none⟩ (.bool false)).setCell ⟨E + 1 + 1,6,none⟩ (.pointer none)).setCell ⟨E + 1 + 1 + 1,0,none⟩ (.bool false) = w3 := ⟨_,rfl⟩; have HT : Hid (HIT false (E + 1 + 1) (E + 1 + 1 + 1) (tcs 0 none none none 0 false none) w2 w3) := by rw [<- hw3]; exact hit_of false _ _ _ _ _ _ _ hp hq hpq1
    have HW3 : Hid ((((((((w2.setCell ⟨E + 1 + 1,0,none⟩ (.int .i64 0)).setCell ⟨E + 1 + 1,1,none⟩ (.pointer none)).setCell ⟨E + 1 + 1,2,none⟩ (.pointer none)).setCell ⟨E + 1 + 1,3,none⟩ (.pointer none)).setCell ⟨E + 1 + 1,4,none⟩ (.int .i64 0)).setCell ⟨E + 1 + 1,5,none⟩ (.bool false)).setCell ⟨E + 1 + 1,6,none⟩ (.pointer none)).setCell ⟨E + 1 + 1 + 1,0,none⟩ (.bool false) = w3) := hw3; have HZ : Hid (OTH X W w3 /\ J w3 /\ N) := ⟨(H3.out _ _ _ HT.out).1,(H3.out _ _ _ HT.out).2,hN⟩; clear hw3 hp hq hN H1 HCall x0 HJ H3
    go_wp2_with fail
    rw [HW3.out]; refine leaves_cons (f := 49) (args := #[.pointer (some ⟨E + 1 + 1,0,none⟩),.pointer (some ⟨E + 1 + 1 + 1,0,none⟩)]) (by simp) (by simp [go_sem]) ?_; refine (catch_idle ⟨E + 1 + 1,0,none⟩ ⟨E + 1 + 1 + 1,0,none⟩ _).mono ?_; rintro e u' w'' ⟨rfl,rfl,hw⟩; subst w''; have hp3 := HT.out.hp; have hq3 := HT.out.hq; have c0 : w3.cell? ⟨E + 1 + 1,0,none⟩ = some (.int .i64 0) := cell_of hp3 0; have f0 := fz_of hp3 0; have c1 : w3.cell? ⟨E + 1 + 1,1,none⟩ = some (.pointer none) := cell_of hp3 1; have f1 := fz_of hp3 1; have c2 : w3.cell? ⟨E + 1 + 1,2,none⟩ = some (.pointer none) := cell_of hp3 2; have f2 := fz_of hp3 2; have c3 : w3.cell? ⟨E + 1 + 1,3,none⟩ = some (.pointer none) := cell_of hp3 3; have f3 := fz_of hp3 3; have c4 : w3.cell? ⟨E + 1 + 1,4,none⟩ = some (.int .i64 0) := cell_of hp3 4; have f4 := fz_of hp3 4; have c5 : w3.cell? ⟨E + 1 + 1,5,none⟩ = some (.bool false) := cell_of hp3 5; have f5 := fz_of hp3 5; have c6 : w3.cell? ⟨E + 1 + 1,6,none⟩ = some (.pointer none) := cell_of hp3 6; have f6 := fz_of hp3 6; have d0 : w3.cell? ⟨E + 1 + 1 + 1,0,none⟩ = some (.bool false) := cell_of hq3 0
    simp [Leaves,settle,results,Tryz.results22,go_sem,c0,c1,c2,c3,c4,c5,c6,d0]
    exact HZ.out
  dsimp only
  go_wp2_with fail
  refine leaves_cons (f := 49) (args := #[.pointer (some ⟨E + 1 + 1,0,none⟩),.pointer (some ⟨E + 1 + 1 + 1,0,none⟩)]) (by simp) (by simp [go_sem]) ?_; refine (catch_hit (E + 1 + 1) (E + 1 + 1 + 1) _ pl a1 a2 a3 dp tp a6 _ _ [] rfl hp hq (by omega)).mono ?_; rintro e u' w3 ⟨rfl,rfl,ht⟩; have hp3 := ht.hp; have hq3 := ht.hq; have c0 : w3.cell? ⟨E + 1 + 1,0,none⟩ = some (.int .i64 pl) := cell_of hp3 0; have c1 : w3.cell? ⟨E + 1 + 1,1,none⟩ = some (.pointer a1) := cell_of hp3 1; have c2 : w3.cell? ⟨E + 1 + 1,2,none⟩ = some (.pointer a2) := cell_of hp3 2; have c3 : w3.cell? ⟨E + 1 + 1,3,none⟩ = some (.pointer a3) := cell_of hp3 3; have c4 : w3.cell? ⟨E + 1 + 1,4,none⟩ = some (.int .i64 dp) := cell_of hp3 4; have c5 : w3.cell? ⟨E + 1 + 1,5,none⟩ = some (.bool tp) := cell_of hp3 5; have c6 : w3.cell? ⟨E + 1 + 1,6,none⟩ = some (.pointer a6) := cell_of hp3 6; have d0 : w3.cell? ⟨E + 1 + 1 + 1,0,none⟩ = some (.bool true) := cell_of hq3 0; have HZ : Hid (OTH X W w3 /\ J w3 /\ Y pl) := ⟨(H3.out _ _ _ ht).1,(H3.out _ _ _ ht).2,hY⟩
  simp [Leaves,settle,results,Tryz.results22,go_sem,c0,c1,c2,c3,c4,c5,c6,d0]
  exact ⟨HZ.out.1,HZ.out.2.1,pl,⟨a1,a2,a3,dp,by cases tp <;> simp⟩,HZ.out.2.2⟩
end Go.Proofs.YtfljcdccepnidaaGreatDoor
