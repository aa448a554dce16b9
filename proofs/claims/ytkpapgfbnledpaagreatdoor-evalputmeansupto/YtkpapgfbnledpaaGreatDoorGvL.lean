import Derived.Test.YtkpapgfbnledpaaGreatDoorGvK
import Derived.Test.YtkpapgfbnledpaaGreatDoorBnR
set_option maxHeartbeats 8000000
set_option maxRecDepth 100000
namespace Go.Proofs.YtkpapgfbnledpaaGreatDoor.G2
open Go.Proofs.YtkpapgfbnledpaaGreatDoor
open Go.ChangeShapes Go.WideShapes Go.ChangeAt Go.RowKit Go.Lib Go.Tm Go.Bw Go.Bn Go.WideMaps Go.Maps Go.ChangeMaps
attribute [local go_sem] Oper.semAt_some

theorem of_p1 (V B M k q : Nat) (lv tv : Value) (m cn : Nat) (T : ByteArray -> Option Vl) (f : Nat -> Nat) (n : Nd) (ia ib ic : Nat) (w : World) (h : VA w V B M k q lv tv m cn T f) (ea : n.a = (ia : Int)) (eb : n.b = (ib : Int)) (ec : n.c = (ic : Int)) (la : ia < m) (lb : ib < m) (lc : ic < m) (eop : n.op = 1) :
    Calls Tryz.prog 39 #[.pointer (some ⟨V,0,none⟩),nodeV n] w fun e w' => e = .returned (.int .u64 (1)) /\ Below w.heap.size w w' := by
  generalize hPP : (fun (e : Ending) (w' : World) => e = .returned (.int .u64 (1)) /\ Below w.heap.size w w') = PP
  have HPP : Hid (∀ v w',v = .int .u64 (1) -> Below w.heap.size w w' -> PP (.returned v) w') := fun v w' h1 h2 => by rw [<- hPP]; exact ⟨by rw [h1],h2⟩
  clear hPP; have h0 : VS w V B M k q lv tv m cn T f n (w.alloc (Obj.cells (ndA n) 40 (0,0))) := ⟨bel1 w _,h.below (bel1 w _),heap_alloc_new w _⟩; have HAt : Hid (∀ X i,i < m -> VS w V B M k q lv tv m cn T f n X -> Calls Tryz.prog 62 #[.agg #[lv,tv],.int .i64 (i : Int)] X fun e w' => e = .returned (.int .u64 ((f i : Nat) : Int)) /\ VS w V B M k q lv tv m cn T f n w') := fun X i hi hS => (nat_any q m cn lv tv f i X hS.2.1.ul hi).mono fun e w' ⟨he,hb⟩ => ⟨he,hS.to hb⟩
  clear h; have HS0 : Hid (VS w V B M k q lv tv m cn T f n (w.alloc (Obj.cells (ndA n) 40 (0,0))).drew) := ⟨h0.1.trans ⟨rfl,rfl,rfl,Nat.le_refl _,fun _ _ => rfl⟩,⟨h0.2.1.vb,h0.2.1.tm,h0.2.1.ul.keep rfl⟩,h0.2.2⟩; obtain ⟨op,u,a,b,c,num,nm⟩ := n
  dsimp only at *
  subst ea eb ec; obtain rfl : op = 1 := eop; clear h0; unfold nodeV ndA at *
  dsimp only at *
  go_enter Tryz.func39,Tryz.ntmps39
  go_upto_region 1 with fail
  refine qn_intro ?_; have hz0 := HS0.out
  generalize (w.alloc (Obj.cells #[.int .i64 1,.int .i64 u,.int .i64 (ia : Int),.int .i64 (ib : Int),.int .i64 (ic : Int),.int .u64 num,.string nm] 40 (0,0))) = W0 at *
  refine sq_start (VS w V B M k q lv tv m cn T f ⟨1,u,ia,ib,ic,num,nm⟩) [6,13,20] [0,1,2,3,4,5,7,8,9,10,11,12,14,15,16,17,18,19,6,13,20,21,22,23] (by kernel_rfl) (by kernel_rfl) hz0 ?_
  repeat (refine sq_op (v := ?_) (by rfl) (by rfl) (by rfl) ?_ ?_; rotate_left; (focus (intro w hSw; obtain ⟨c0,c1,c2,c3,d0,d1,d2,d3,d4,d5,d6⟩ := hSw.cs; go_simp <;> with_reducible rfl)); simp only [Act.put,List.setIfInBounds_toArray,List.set_cons_zero,List.set_cons_succ])
  refine sq_do (by rfl) (by rfl) (by rfl) (fun K hK => ?_)
  go_simp
  go_at_call 62
  refine (HAt.out _ _ la hz0).mono ?_; rintro e w3 ⟨rfl,hz1⟩; refine hK.out _ _ hz1 (fun _ => ?_); clear hK K
  try simp only [Act.put,List.setIfInBounds_toArray,List.set_cons_zero,List.set_cons_succ]
  repeat (refine sq_op (v := ?_) (by rfl) (by rfl) (by rfl) ?_ ?_; rotate_left; (focus (intro w hSw; obtain ⟨c0,c1,c2,c3,d0,d1,d2,d3,d4,d5,d6⟩ := hSw.cs; go_simp <;> with_reducible rfl)); simp only [Act.put,List.setIfInBounds_toArray,List.set_cons_zero,List.set_cons_succ])
  refine sq_do (by rfl) (by rfl) (by rfl) (fun K hK => ?_)
  go_simp
  go_at_call 62
  refine (HAt.out _ _ lb hz1).mono ?_; rintro e w4 ⟨rfl,hz2⟩; refine hK.out _ _ hz2 (fun _ => ?_); clear hK K
  try simp only [Act.put,List.setIfInBounds_toArray,List.set_cons_zero,List.set_cons_succ]
  repeat (refine sq_op (v := ?_) (by rfl) (by rfl) (by rfl) ?_ ?_; rotate_left; (focus (intro w hSw; obtain ⟨c0,c1,c2,c3,d0,d1,d2,d3,d4,d5,d6⟩ := hSw.cs; go_simp <;> with_reducible rfl)); simp only [Act.put,List.setIfInBounds_toArray,List.set_cons_zero,List.set_cons_succ])
  refine sq_do (by rfl) (by rfl) (by rfl) (fun K hK => ?_)
  go_simp
  go_at_call 62
  refine (HAt.out _ _ lc hz2).mono ?_; rintro e w5 ⟨rfl,hz3⟩; refine hK.out _ _ hz3 (fun _ => ?_); clear hK K
  try simp only [Act.put,List.setIfInBounds_toArray,List.set_cons_zero,List.set_cons_succ]
  repeat (refine sq_op (v := ?_) (by rfl) (by rfl) (by rfl) ?_ ?_; rotate_left; (focus (intro w hSw; obtain ⟨c0,c1,c2,c3,d0,d1,d2,d3,d4,d5,d6⟩ := hSw.cs; go_simp <;> with_reducible rfl)); simp only [Act.put,List.setIfInBounds_toArray,List.set_cons_zero,List.set_cons_succ])
  refine sq_end (fun _ => ?_); unfold QN
  dsimp only
  have HZ3 : Hid (VS w V B M k q lv tv m cn T f ⟨1,u,ia,ib,ic,num,nm⟩ w5) := hz3; obtain ⟨c0,c1,c2,c3,d0,d1,d2,d3,d4,d5,d6⟩ := hz3.cs
  dsimp only at d0 d1 d2 d3 d4 d5 d6
  clear hz0 hz1 hz2 hz3 HS0 HAt
  generalize ((f ia : Nat) : Int) = x at *
  generalize ((f ib : Nat) : Int) = y at *
  generalize ((f ic : Nat) : Int) = z at *
  go_wp2_with fail
  exact HPP.out _ _ rfl HZ3.out.1
theorem of_p2 (V B M k q : Nat) (lv tv : Value) (m cn : Nat) (T : ByteArray -> Option Vl) (f : Nat -> Nat) (n : Nd) (ia ib ic : Nat) (w : World) (h : VA w V B M k q lv tv m cn T f) (ea : n.a = (ia : Int)) (eb : n.b = (ib : Int)) (ec : n.c = (ic : Int)) (la : ia < m) (lb : ib < m) (lc : ic < m) (eop : n.op = 2) :
    Calls Tryz.prog 39 #[.pointer (some ⟨V,0,none⟩),nodeV n] w fun e w' => e = .returned (.int .u64 (0)) /\ Below w.heap.size w w' := by
  generalize hPP : (fun (e : Ending) (w' : World) => e = .returned (.int .u64 (0)) /\ Below w.heap.size w w') = PP
  have HPP : Hid (∀ v w',v = .int .u64 (0) -> Below w.heap.size w w' -> PP (.returned v) w') := fun v w' h1 h2 => by rw [<- hPP]; exact ⟨by rw [h1],h2⟩
  clear hPP; have h0 : VS w V B M k q lv tv m cn T f n (w.alloc (Obj.cells (ndA n) 40 (0,0))) := ⟨bel1 w _,h.below (bel1 w _),heap_alloc_new w _⟩; have HAt : Hid (∀ X i,i < m -> VS w V B M k q lv tv m cn T f n X -> Calls Tryz.prog 62 #[.agg #[lv,tv],.int .i64 (i : Int)] X fun e w' => e = .returned (.int .u64 ((f i : Nat) : Int)) /\ VS w V B M k q lv tv m cn T f n w') := fun X i hi hS => (nat_any q m cn lv tv f i X hS.2.1.ul hi).mono fun e w' ⟨he,hb⟩ => ⟨he,hS.to hb⟩
  clear h; have HS0 : Hid (VS w V B M k q lv tv m cn T f n (w.alloc (Obj.cells (ndA n) 40 (0,0))).drew) := ⟨h0.1.trans ⟨rfl,rfl,rfl,Nat.le_refl _,fun _ _ => rfl⟩,⟨h0.2.1.vb,h0.2.1.tm,h0.2.1.ul.keep rfl⟩,h0.2.2⟩; obtain ⟨op,u,a,b,c,num,nm⟩ := n
  dsimp only at *
  subst ea eb ec; obtain rfl : op = 2 := eop; clear h0; unfold nodeV ndA at *
  dsimp only at *
  go_enter Tryz.func39,Tryz.ntmps39
  go_upto_region 1 with fail
  refine qn_intro ?_; have hz0 := HS0.out
  generalize (w.alloc (Obj.cells #[.int .i64 2,.int .i64 u,.int .i64 (ia : Int),.int .i64 (ib : Int),.int .i64 (ic : Int),.int .u64 num,.string nm] 40 (0,0))) = W0 at *
  refine sq_start (VS w V B M k q lv tv m cn T f ⟨2,u,ia,ib,ic,num,nm⟩) [6,13,20] [0,1,2,3,4,5,7,8,9,10,11,12,14,15,16,17,18,19,6,13,20,21,22,23] (by kernel_rfl) (by kernel_rfl) hz0 ?_
  repeat (refine sq_op (v := ?_) (by rfl) (by rfl) (by rfl) ?_ ?_; rotate_left; (focus (intro w hSw; obtain ⟨c0,c1,c2,c3,d0,d1,d2,d3,d4,d5,d6⟩ := hSw.cs; go_simp <;> with_reducible rfl)); simp only [Act.put,List.setIfInBounds_toArray,List.set_cons_zero,List.set_cons_succ])
  refine sq_do (by rfl) (by rfl) (by rfl) (fun K hK => ?_)
  go_simp
  go_at_call 62
  refine (HAt.out _ _ la hz0).mono ?_; rintro e w3 ⟨rfl,hz1⟩; refine hK.out _ _ hz1 (fun _ => ?_); clear hK K
  try simp only [Act.put,List.setIfInBounds_toArray,List.set_cons_zero,List.set_cons_succ]
  repeat (refine sq_op (v := ?_) (by rfl) (by rfl) (by rfl) ?_ ?_; rotate_left; (focus (intro w hSw; obtain ⟨c0,c1,c2,c3,d0,d1,d2,d3,d4,d5,d6⟩ := hSw.cs; go_simp <;> with_reducible rfl)); simp only [Act.put,List.setIfInBounds_toArray,List.set_cons_zero,List.set_cons_succ])
  refine sq_do (by rfl) (by rfl) (by rfl) (fun K hK => ?_)
  go_simp
  go_at_call 62
  refine (HAt.out _ _ lb hz1).mono ?_; rintro e w4 ⟨rfl,hz2⟩; refine hK.out _ _ hz2 (fun _ => ?_); clear hK K
  try simp only [Act.put,List.setIfInBounds_toArray,List.set_cons_zero,List.set_cons_succ]
  repeat (refine sq_op (v := ?_) (by rfl) (by rfl) (by rfl) ?_ ?_; rotate_left; (focus (intro w hSw; obtain ⟨c0,c1,c2,c3,d0,d1,d2,d3,d4,d5,d6⟩ := hSw.cs; go_simp <;> with_reducible rfl)); simp only [Act.put,List.setIfInBounds_toArray,List.set_cons_zero,List.set_cons_succ])
  refine sq_do (by rfl) (by rfl) (by rfl) (fun K hK => ?_)
  go_simp
  go_at_call 62
  refine (HAt.out _ _ lc hz2).mono ?_; rintro e w5 ⟨rfl,hz3⟩; refine hK.out _ _ hz3 (fun _ => ?_); clear hK K
  try simp only [Act.put,List.setIfInBounds_toArray,List.set_cons_zero,List.set_cons_succ]
  repeat (refine sq_op (v := ?_) (by rfl) (by rfl) (by rfl) ?_ ?_; rotate_left; (focus (intro w hSw; obtain ⟨c0,c1,c2,c3,d0,d1,d2,d3,d4,d5,d6⟩ := hSw.cs; go_simp <;> with_reducible rfl)); simp only [Act.put,List.setIfInBounds_toArray,List.set_cons_zero,List.set_cons_succ])
  refine sq_end (fun _ => ?_); unfold QN
  dsimp only
  have HZ3 : Hid (VS w V B M k q lv tv m cn T f ⟨2,u,ia,ib,ic,num,nm⟩ w5) := hz3; obtain ⟨c0,c1,c2,c3,d0,d1,d2,d3,d4,d5,d6⟩ := hz3.cs
  dsimp only at d0 d1 d2 d3 d4 d5 d6
  clear hz0 hz1 hz2 hz3 HS0 HAt
  generalize ((f ia : Nat) : Int) = x at *
  generalize ((f ib : Nat) : Int) = y at *
  generalize ((f ic : Nat) : Int) = z at *
  go_wp2_with fail
  exact HPP.out _ _ rfl HZ3.out.1
theorem of_p3 (V B M k q : Nat) (lv tv : Value) (m cn : Nat) (T : ByteArray -> Option Vl) (f : Nat -> Nat) (n : Nd) (ia ib ic : Nat) (w : World) (h : VA w V B M k q lv tv m cn T f) (ea : n.a = (ia : Int)) (eb : n.b = (ib : Int)) (ec : n.c = (ic : Int)) (la : ia < m) (lb : ib < m) (lc : ic < m) (eop : n.op = 3) :
    Calls Tryz.prog 39 #[.pointer (some ⟨V,0,none⟩),nodeV n] w fun e w' => e = .returned (.int .u64 (n.num)) /\ Below w.heap.size w w' := by
  generalize hPP : (fun (e : Ending) (w' : World) => e = .returned (.int .u64 (n.num)) /\ Below w.heap.size w w') = PP
  have HPP : Hid (∀ v w',v = .int .u64 (n.num) -> Below w.heap.size w w' -> PP (.returned v) w') := fun v w' h1 h2 => by rw [<- hPP]; exact ⟨by rw [h1],h2⟩
  clear hPP; have h0 : VS w V B M k q lv tv m cn T f n (w.alloc (Obj.cells (ndA n) 40 (0,0))) := ⟨bel1 w _,h.below (bel1 w _),heap_alloc_new w _⟩; have HAt : Hid (∀ X i,i < m -> VS w V B M k q lv tv m cn T f n X -> Calls Tryz.prog 62 #[.agg #[lv,tv],.int .i64 (i : Int)] X fun e w' => e = .returned (.int .u64 ((f i : Nat) : Int)) /\ VS w V B M k q lv tv m cn T f n w') := fun X i hi hS => (nat_any q m cn lv tv f i X hS.2.1.ul hi).mono fun e w' ⟨he,hb⟩ => ⟨he,hS.to hb⟩
  clear h; have HS0 : Hid (VS w V B M k q lv tv m cn T f n (w.alloc (Obj.cells (ndA n) 40 (0,0))).drew) := ⟨h0.1.trans ⟨rfl,rfl,rfl,Nat.le_refl _,fun _ _ => rfl⟩,⟨h0.2.1.vb,h0.2.1.tm,h0.2.1.ul.keep rfl⟩,h0.2.2⟩; obtain ⟨op,u,a,b,c,num,nm⟩ := n
  dsimp only at *
  subst ea eb ec; obtain rfl : op = 3 := eop; clear h0; unfold nodeV ndA at *
  dsimp only at *
  go_enter Tryz.func39,Tryz.ntmps39
  go_upto_region 1 with fail
  refine qn_intro ?_; have hz0 := HS0.out
  generalize (w.alloc (Obj.cells #[.int .i64 3,.int .i64 u,.int .i64 (ia : Int),.int .i64 (ib : Int),.int .i64 (ic : Int),.int .u64 num,.string nm] 40 (0,0))) = W0 at *
  refine sq_start (VS w V B M k q lv tv m cn T f ⟨3,u,ia,ib,ic,num,nm⟩) [6,13,20] [0,1,2,3,4,5,7,8,9,10,11,12,14,15,16,17,18,19,6,13,20,21,22,23] (by kernel_rfl) (by kernel_rfl) hz0 ?_
  repeat (refine sq_op (v := ?_) (by rfl) (by rfl) (by rfl) ?_ ?_; rotate_left; (focus (intro w hSw; obtain ⟨c0,c1,c2,c3,d0,d1,d2,d3,d4,d5,d6⟩ := hSw.cs; go_simp <;> with_reducible rfl)); simp only [Act.put,List.setIfInBounds_toArray,List.set_cons_zero,List.set_cons_succ])
  refine sq_do (by rfl) (by rfl) (by rfl) (fun K hK => ?_)
  go_simp
  go_at_call 62
  refine (HAt.out _ _ la hz0).mono ?_; rintro e w3 ⟨rfl,hz1⟩; refine hK.out _ _ hz1 (fun _ => ?_); clear hK K
  try simp only [Act.put,List.setIfInBounds_toArray,List.set_cons_zero,List.set_cons_succ]
  repeat (refine sq_op (v := ?_) (by rfl) (by rfl) (by rfl) ?_ ?_; rotate_left; (focus (intro w hSw; obtain ⟨c0,c1,c2,c3,d0,d1,d2,d3,d4,d5,d6⟩ := hSw.cs; go_simp <;> with_reducible rfl)); simp only [Act.put,List.setIfInBounds_toArray,List.set_cons_zero,List.set_cons_succ])
  refine sq_do (by rfl) (by rfl) (by rfl) (fun K hK => ?_)
  go_simp
  go_at_call 62
  refine (HAt.out _ _ lb hz1).mono ?_; rintro e w4 ⟨rfl,hz2⟩; refine hK.out _ _ hz2 (fun _ => ?_); clear hK K
  try simp only [Act.put,List.setIfInBounds_toArray,List.set_cons_zero,List.set_cons_succ]
  repeat (refine sq_op (v := ?_) (by rfl) (by rfl) (by rfl) ?_ ?_; rotate_left; (focus (intro w hSw; obtain ⟨c0,c1,c2,c3,d0,d1,d2,d3,d4,d5,d6⟩ := hSw.cs; go_simp <;> with_reducible rfl)); simp only [Act.put,List.setIfInBounds_toArray,List.set_cons_zero,List.set_cons_succ])
  refine sq_do (by rfl) (by rfl) (by rfl) (fun K hK => ?_)
  go_simp
  go_at_call 62
  refine (HAt.out _ _ lc hz2).mono ?_; rintro e w5 ⟨rfl,hz3⟩; refine hK.out _ _ hz3 (fun _ => ?_); clear hK K
  try simp only [Act.put,List.setIfInBounds_toArray,List.set_cons_zero,List.set_cons_succ]
  repeat (refine sq_op (v := ?_) (by rfl) (by rfl) (by rfl) ?_ ?_; rotate_left; (focus (intro w hSw; obtain ⟨c0,c1,c2,c3,d0,d1,d2,d3,d4,d5,d6⟩ := hSw.cs; go_simp <;> with_reducible rfl)); simp only [Act.put,List.setIfInBounds_toArray,List.set_cons_zero,List.set_cons_succ])
  refine sq_end (fun _ => ?_); unfold QN
  dsimp only
  have HZ3 : Hid (VS w V B M k q lv tv m cn T f ⟨3,u,ia,ib,ic,num,nm⟩ w5) := hz3; obtain ⟨c0,c1,c2,c3,d0,d1,d2,d3,d4,d5,d6⟩ := hz3.cs
  dsimp only at d0 d1 d2 d3 d4 d5 d6
  clear hz0 hz1 hz2 hz3 HS0 HAt
  generalize ((f ia : Nat) : Int) = x at *
  generalize ((f ib : Nat) : Int) = y at *
  generalize ((f ic : Nat) : Int) = z at *
  go_wp2_with fail
  exact HPP.out _ _ rfl HZ3.out.1
theorem of_p5 (V B M k q : Nat) (lv tv : Value) (m cn : Nat) (T : ByteArray -> Option Vl) (f : Nat -> Nat) (n : Nd) (ia ib ic : Nat) (w : World) (h : VA w V B M k q lv tv m cn T f) (ea : n.a = (ia : Int)) (eb : n.b = (ib : Int)) (ec : n.c = (ic : Int)) (la : ia < m) (lb : ib < m) (lc : ic < m) (eop : n.op = 5) :
    Calls Tryz.prog 39 #[.pointer (some ⟨V,0,none⟩),nodeV n] w fun e w' => e = .returned (.int .u64 (IntKind.u64.wrap (1 - ((f ia : Nat) : Int)))) /\ Below w.heap.size w w' := by
  generalize hPP : (fun (e : Ending) (w' : World) => e = .returned (.int .u64 (IntKind.u64.wrap (1 - ((f ia : Nat) : Int)))) /\ Below w.heap.size w w') = PP
  have HPP : Hid (∀ v w',v = .int .u64 (IntKind.u64.wrap (1 - ((f ia : Nat) : Int))) -> Below w.heap.size w w' -> PP (.returned v) w') := fun v w' h1 h2 => by rw [<- hPP]; exact ⟨by rw [h1],h2⟩
  clear hPP; have h0 : VS w V B M k q lv tv m cn T f n (w.alloc (Obj.cells (ndA n) 40 (0,0))) := ⟨bel1 w _,h.below (bel1 w _),heap_alloc_new w _⟩; have HAt : Hid (∀ X i,i < m -> VS w V B M k q lv tv m cn T f n X -> Calls Tryz.prog 62 #[.agg #[lv,tv],.int .i64 (i : Int)] X fun e w' => e = .returned (.int .u64 ((f i : Nat) : Int)) /\ VS w V B M k q lv tv m cn T f n w') := fun X i hi hS => (nat_any q m cn lv tv f i X hS.2.1.ul hi).mono fun e w' ⟨he,hb⟩ => ⟨he,hS.to hb⟩
  clear h; have HS0 : Hid (VS w V B M k q lv tv m cn T f n (w.alloc (Obj.cells (ndA n) 40 (0,0))).drew) := ⟨h0.1.trans ⟨rfl,rfl,rfl,Nat.le_refl _,fun _ _ => rfl⟩,⟨h0.2.1.vb,h0.2.1.tm,h0.2.1.ul.keep rfl⟩,h0.2.2⟩; obtain ⟨op,u,a,b,c,num,nm⟩ := n
  dsimp only at *
  subst ea eb ec; obtain rfl : op = 5 := eop; clear h0; unfold nodeV ndA at *
  dsimp only at *
  go_enter Tryz.func39,Tryz.ntmps39
  go_upto_region 1 with fail
  refine qn_intro ?_; have hz0 := HS0.out
  generalize (w.alloc (Obj.cells #[.int .i64 5,.int .i64 u,.int .i64 (ia : Int),.int .i64 (ib : Int),.int .i64 (ic : Int),.int .u64 num,.string nm] 40 (0,0))) = W0 at *
  refine sq_start (VS w V B M k q lv tv m cn T f ⟨5,u,ia,ib,ic,num,nm⟩) [6,13,20] [0,1,2,3,4,5,7,8,9,10,11,12,14,15,16,17,18,19,6,13,20,21,22,23] (by kernel_rfl) (by kernel_rfl) hz0 ?_
  repeat (refine sq_op (v := ?_) (by rfl) (by rfl) (by rfl) ?_ ?_; rotate_left; (focus (intro w hSw; obtain ⟨c0,c1,c2,c3,d0,d1,d2,d3,d4,d5,d6⟩ := hSw.cs; go_simp <;> with_reducible rfl)); simp only [Act.put,List.setIfInBounds_toArray,List.set_cons_zero,List.set_cons_succ])
  refine sq_do (by rfl) (by rfl) (by rfl) (fun K hK => ?_)
  go_simp
  go_at_call 62
  refine (HAt.out _ _ la hz0).mono ?_; rintro e w3 ⟨rfl,hz1⟩; refine hK.out _ _ hz1 (fun _ => ?_); clear hK K
  try simp only [Act.put,List.setIfInBounds_toArray,List.set_cons_zero,List.set_cons_succ]
  repeat (refine sq_op (v := ?_) (by rfl) (by rfl) (by rfl) ?_ ?_; rotate_left; (focus (intro w hSw; obtain ⟨c0,c1,c2,c3,d0,d1,d2,d3,d4,d5,d6⟩ := hSw.cs; go_simp <;> with_reducible rfl)); simp only [Act.put,List.setIfInBounds_toArray,List.set_cons_zero,List.set_cons_succ])
  refine sq_do (by rfl) (by rfl) (by rfl) (fun K hK => ?_)
  go_simp
  go_at_call 62
  refine (HAt.out _ _ lb hz1).mono ?_; rintro e w4 ⟨rfl,hz2⟩; refine hK.out _ _ hz2 (fun _ => ?_); clear hK K
  try simp only [Act.put,List.setIfInBounds_toArray,List.set_cons_zero,List.set_cons_succ]
  repeat (refine sq_op (v := ?_) (by rfl) (by rfl) (by rfl) ?_ ?_; rotate_left; (focus (intro w hSw; obtain ⟨c0,c1,c2,c3,d0,d1,d2,d3,d4,d5,d6⟩ := hSw.cs; go_simp <;> with_reducible rfl)); simp only [Act.put,List.setIfInBounds_toArray,List.set_cons_zero,List.set_cons_succ])
  refine sq_do (by rfl) (by rfl) (by rfl) (fun K hK => ?_)
  go_simp
  go_at_call 62
  refine (HAt.out _ _ lc hz2).mono ?_; rintro e w5 ⟨rfl,hz3⟩; refine hK.out _ _ hz3 (fun _ => ?_); clear hK K
  try simp only [Act.put,List.setIfInBounds_toArray,List.set_cons_zero,List.set_cons_succ]
  repeat (refine sq_op (v := ?_) (by rfl) (by rfl) (by rfl) ?_ ?_; rotate_left; (focus (intro w hSw; obtain ⟨c0,c1,c2,c3,d0,d1,d2,d3,d4,d5,d6⟩ := hSw.cs; go_simp <;> with_reducible rfl)); simp only [Act.put,List.setIfInBounds_toArray,List.set_cons_zero,List.set_cons_succ])
  refine sq_end (fun _ => ?_); unfold QN
  dsimp only
  have HZ3 : Hid (VS w V B M k q lv tv m cn T f ⟨5,u,ia,ib,ic,num,nm⟩ w5) := hz3; obtain ⟨c0,c1,c2,c3,d0,d1,d2,d3,d4,d5,d6⟩ := hz3.cs
  dsimp only at d0 d1 d2 d3 d4 d5 d6
  clear hz0 hz1 hz2 hz3 HS0 HAt
  generalize ((f ia : Nat) : Int) = x at *
  generalize ((f ib : Nat) : Int) = y at *
  generalize ((f ic : Nat) : Int) = z at *
  go_wp2_with fail
  exact HPP.out _ _ rfl HZ3.out.1
theorem of_p6 (V B M k q : Nat) (lv tv : Value) (m cn : Nat) (T : ByteArray -> Option Vl) (f : Nat -> Nat) (n : Nd) (ia ib ic : Nat) (w : World) (h : VA w V B M k q lv tv m cn T f) (ea : n.a = (ia : Int)) (eb : n.b = (ib : Int)) (ec : n.c = (ic : Int)) (la : ia < m) (lb : ib < m) (lc : ic < m) (eop : n.op = 6) :
    Calls Tryz.prog 39 #[.pointer (some ⟨V,0,none⟩),nodeV n] w fun e w' => e = .returned (.int .u64 (bits .and .u64 ((f ia : Nat) : Int) ((f ib : Nat) : Int))) /\ Below w.heap.size w w' := by
  generalize hPP : (fun (e : Ending) (w' : World) => e = .returned (.int .u64 (bits .and .u64 ((f ia : Nat) : Int) ((f ib : Nat) : Int))) /\ Below w.heap.size w w') = PP
  have HPP : Hid (∀ v w',v = .int .u64 (bits .and .u64 ((f ia : Nat) : Int) ((f ib : Nat) : Int)) -> Below w.heap.size w w' -> PP (.returned v) w') := fun v w' h1 h2 => by rw [<- hPP]; exact ⟨by rw [h1],h2⟩
  clear hPP; have h0 : VS w V B M k q lv tv m cn T f n (w.alloc (Obj.cells (ndA n) 40 (0,0))) := ⟨bel1 w _,h.below (bel1 w _),heap_alloc_new w _⟩; have HAt : Hid (∀ X i,i < m -> VS w V B M k q lv tv m cn T f n X -> Calls Tryz.prog 62 #[.agg #[lv,tv],.int .i64 (i : Int)] X fun e w' => e = .returned (.int .u64 ((f i : Nat) : Int)) /\ VS w V B M k q lv tv m cn T f n w') := fun X i hi hS => (nat_any q m cn lv tv f i X hS.2.1.ul hi).mono fun e w' ⟨he,hb⟩ => ⟨he,hS.to hb⟩
  clear h; have HS0 : Hid (VS w V B M k q lv tv m cn T f n (w.alloc (Obj.cells (ndA n) 40 (0,0))).drew) := ⟨h0.1.trans ⟨rfl,rfl,rfl,Nat.le_refl _,fun _ _ => rfl⟩,⟨h0.2.1.vb,h0.2.1.tm,h0.2.1.ul.keep rfl⟩,h0.2.2⟩; obtain ⟨op,u,a,b,c,num,nm⟩ := n
  dsimp only at *
  subst ea eb ec; obtain rfl : op = 6 := eop; clear h0; unfold nodeV ndA at *
  dsimp only at *
  go_enter Tryz.func39,Tryz.ntmps39
  go_upto_region 1 with fail
  refine qn_intro ?_; have hz0 := HS0.out
  generalize (w.alloc (Obj.cells #[.int .i64 6,.int .i64 u,.int .i64 (ia : Int),.int .i64 (ib : Int),.int .i64 (ic : Int),.int .u64 num,.string nm] 40 (0,0))) = W0 at *
  refine sq_start (VS w V B M k q lv tv m cn T f ⟨6,u,ia,ib,ic,num,nm⟩) [6,13,20] [0,1,2,3,4,5,7,8,9,10,11,12,14,15,16,17,18,19,6,13,20,21,22,23] (by kernel_rfl) (by kernel_rfl) hz0 ?_
  repeat (refine sq_op (v := ?_) (by rfl) (by rfl) (by rfl) ?_ ?_; rotate_left; (focus (intro w hSw; obtain ⟨c0,c1,c2,c3,d0,d1,d2,d3,d4,d5,d6⟩ := hSw.cs; go_simp <;> with_reducible rfl)); simp only [Act.put,List.setIfInBounds_toArray,List.set_cons_zero,List.set_cons_succ])
  refine sq_do (by rfl) (by rfl) (by rfl) (fun K hK => ?_)
  go_simp
  go_at_call 62
  refine (HAt.out _ _ la hz0).mono ?_; rintro e w3 ⟨rfl,hz1⟩; refine hK.out _ _ hz1 (fun _ => ?_); clear hK K
  try simp only [Act.put,List.setIfInBounds_toArray,List.set_cons_zero,List.set_cons_succ]
  repeat (refine sq_op (v := ?_) (by rfl) (by rfl) (by rfl) ?_ ?_; rotate_left; (focus (intro w hSw; obtain ⟨c0,c1,c2,c3,d0,d1,d2,d3,d4,d5,d6⟩ := hSw.cs; go_simp <;> with_reducible rfl)); simp only [Act.put,List.setIfInBounds_toArray,List.set_cons_zero,List.set_cons_succ])
  refine sq_do (by rfl) (by rfl) (by rfl) (fun K hK => ?_)
  go_simp
  go_at_call 62
  refine (HAt.out _ _ lb hz1).mono ?_; rintro e w4 ⟨rfl,hz2⟩; refine hK.out _ _ hz2 (fun _ => ?_); clear hK K
  try simp only [Act.put,List.setIfInBounds_toArray,List.set_cons_zero,List.set_cons_succ]
  repeat (refine sq_op (v := ?_) (by rfl) (by rfl) (by rfl) ?_ ?_; rotate_left; (focus (intro w hSw; obtain ⟨c0,c1,c2,c3,d0,d1,d2,d3,d4,d5,d6⟩ := hSw.cs; go_simp <;> with_reducible rfl)); simp only [Act.put,List.setIfInBounds_toArray,List.set_cons_zero,List.set_cons_succ])
  refine sq_do (by rfl) (by rfl) (by rfl) (fun K hK => ?_)
  go_simp
  go_at_call 62
  refine (HAt.out _ _ lc hz2).mono ?_; rintro e w5 ⟨rfl,hz3⟩; refine hK.out _ _ hz3 (fun _ => ?_); clear hK K
  try simp only [Act.put,List.setIfInBounds_toArray,List.set_cons_zero,List.set_cons_succ]
  repeat (refine sq_op (v := ?_) (by rfl) (by rfl) (by rfl) ?_ ?_; rotate_left; (focus (intro w hSw; obtain ⟨c0,c1,c2,c3,d0,d1,d2,d3,d4,d5,d6⟩ := hSw.cs; go_simp <;> with_reducible rfl)); simp only [Act.put,List.setIfInBounds_toArray,List.set_cons_zero,List.set_cons_succ])
  refine sq_end (fun _ => ?_); unfold QN
  dsimp only
  have HZ3 : Hid (VS w V B M k q lv tv m cn T f ⟨6,u,ia,ib,ic,num,nm⟩ w5) := hz3; obtain ⟨c0,c1,c2,c3,d0,d1,d2,d3,d4,d5,d6⟩ := hz3.cs
  dsimp only at d0 d1 d2 d3 d4 d5 d6
  clear hz0 hz1 hz2 hz3 HS0 HAt
  generalize ((f ia : Nat) : Int) = x at *
  generalize ((f ib : Nat) : Int) = y at *
  generalize ((f ic : Nat) : Int) = z at *
  go_wp2_with fail
  exact HPP.out _ _ rfl HZ3.out.1
theorem of_p7 (V B M k q : Nat) (lv tv : Value) (m cn : Nat) (T : ByteArray -> Option Vl) (f : Nat -> Nat) (n : Nd) (ia ib ic : Nat) (w : World) (h : VA w V B M k q lv tv m cn T f) (ea : n.a = (ia : Int)) (eb : n.b = (ib : Int)) (ec : n.c = (ic : Int)) (la : ia < m) (lb : ib < m) (lc : ic < m) (eop : n.op = 7) :
    Calls Tryz.prog 39 #[.pointer (some ⟨V,0,none⟩),nodeV n] w fun e w' => e = .returned (.int .u64 (bits .or .u64 ((f ia : Nat) : Int) ((f ib : Nat) : Int))) /\ Below w.heap.size w w' := by
  generalize hPP : (fun (e : Ending) (w' : World) => e = .returned (.int .u64 (bits .or .u64 ((f ia : Nat) : Int) ((f ib : Nat) : Int))) /\ Below w.heap.size w w') = PP
  have HPP : Hid (∀ v w',v = .int .u64 (bits .or .u64 ((f ia : Nat) : Int) ((f ib : Nat) : Int)) -> Below w.heap.size w w' -> PP (.returned v) w') := fun v w' h1 h2 => by rw [<- hPP]; exact ⟨by rw [h1],h2⟩
  clear hPP; have h0 : VS w V B M k q lv tv m cn T f n (w.alloc (Obj.cells (ndA n) 40 (0,0))) := ⟨bel1 w _,h.below (bel1 w _),heap_alloc_new w _⟩; have HAt : Hid (∀ X i,i < m -> VS w V B M k q lv tv m cn T f n X -> Calls Tryz.prog 62 #[.agg #[lv,tv],.int .i64 (i : Int)] X fun e w' => e = .returned (.int .u64 ((f i : Nat) : Int)) /\ VS w V B M k q lv tv m cn T f n w') := fun X i hi hS => (nat_any q m cn lv tv f i X hS.2.1.ul hi).mono fun e w' ⟨he,hb⟩ => ⟨he,hS.to hb⟩
  clear h; have HS0 : Hid (VS w V B M k q lv tv m cn T f n (w.alloc (Obj.cells (ndA n) 40 (0,0))).drew) := ⟨h0.1.trans ⟨rfl,rfl,rfl,Nat.le_refl _,fun _ _ => rfl⟩,⟨h0.2.1.vb,h0.2.1.tm,h0.2.1.ul.keep rfl⟩,h0.2.2⟩; obtain ⟨op,u,a,b,c,num,nm⟩ := n
  dsimp only at *
  subst ea eb ec; obtain rfl : op = 7 := eop; clear h0; unfold nodeV ndA at *
  dsimp only at *
  go_enter Tryz.func39,Tryz.ntmps39
  go_upto_region 1 with fail
  refine qn_intro ?_; have hz0 := HS0.out
  generalize (w.alloc (Obj.cells #[.int .i64 7,.int .i64 u,.int .i64 (ia : Int),.int .i64 (ib : Int),.int .i64 (ic : Int),.int .u64 num,.string nm] 40 (0,0))) = W0 at *
  refine sq_start (VS w V B M k q lv tv m cn T f ⟨7,u,ia,ib,ic,num,nm⟩) [6,13,20] [0,1,2,3,4,5,7,8,9,10,11,12,14,15,16,17,18,19,6,13,20,21,22,23] (by kernel_rfl) (by kernel_rfl) hz0 ?_
  repeat (refine sq_op (v := ?_) (by rfl) (by rfl) (by rfl) ?_ ?_; rotate_left; (focus (intro w hSw; obtain ⟨c0,c1,c2,c3,d0,d1,d2,d3,d4,d5,d6⟩ := hSw.cs; go_simp <;> with_reducible rfl)); simp only [Act.put,List.setIfInBounds_toArray,List.set_cons_zero,List.set_cons_succ])
  refine sq_do (by rfl) (by rfl) (by rfl) (fun K hK => ?_)
  go_simp
  go_at_call 62
  refine (HAt.out _ _ la hz0).mono ?_; rintro e w3 ⟨rfl,hz1⟩; refine hK.out _ _ hz1 (fun _ => ?_); clear hK K
  try simp only [Act.put,List.setIfInBounds_toArray,List.set_cons_zero,List.set_cons_succ]
  repeat (refine sq_op (v := ?_) (by rfl) (by rfl) (by rfl) ?_ ?_; rotate_left; (focus (intro w hSw; obtain ⟨c0,c1,c2,c3,d0,d1,d2,d3,d4,d5,d6⟩ := hSw.cs; go_simp <;> with_reducible rfl)); simp only [Act.put,List.setIfInBounds_toArray,List.set_cons_zero,List.set_cons_succ])
  refine sq_do (by rfl) (by rfl) (by rfl) (fun K hK => ?_)
  go_simp
  go_at_call 62
  refine (HAt.out _ _ lb hz1).mono ?_; rintro e w4 ⟨rfl,hz2⟩; refine hK.out _ _ hz2 (fun _ => ?_); clear hK K
  try simp only [Act.put,List.setIfInBounds_toArray,List.set_cons_zero,List.set_cons_succ]
  repeat (refine sq_op (v := ?_) (by rfl) (by rfl) (by rfl) ?_ ?_; rotate_left; (focus (intro w hSw; obtain ⟨c0,c1,c2,c3,d0,d1,d2,d3,d4,d5,d6⟩ := hSw.cs; go_simp <;> with_reducible rfl)); simp only [Act.put,List.setIfInBounds_toArray,List.set_cons_zero,List.set_cons_succ])
  refine sq_do (by rfl) (by rfl) (by rfl) (fun K hK => ?_)
  go_simp
  go_at_call 62
  refine (HAt.out _ _ lc hz2).mono ?_; rintro e w5 ⟨rfl,hz3⟩; refine hK.out _ _ hz3 (fun _ => ?_); clear hK K
  try simp only [Act.put,List.setIfInBounds_toArray,List.set_cons_zero,List.set_cons_succ]
  repeat (refine sq_op (v := ?_) (by rfl) (by rfl) (by rfl) ?_ ?_; rotate_left; (focus (intro w hSw; obtain ⟨c0,c1,c2,c3,d0,d1,d2,d3,d4,d5,d6⟩ := hSw.cs; go_simp <;> with_reducible rfl)); simp only [Act.put,List.setIfInBounds_toArray,List.set_cons_zero,List.set_cons_succ])
  refine sq_end (fun _ => ?_); unfold QN
  dsimp only
  have HZ3 : Hid (VS w V B M k q lv tv m cn T f ⟨7,u,ia,ib,ic,num,nm⟩ w5) := hz3; obtain ⟨c0,c1,c2,c3,d0,d1,d2,d3,d4,d5,d6⟩ := hz3.cs
  dsimp only at d0 d1 d2 d3 d4 d5 d6
  clear hz0 hz1 hz2 hz3 HS0 HAt
  generalize ((f ia : Nat) : Int) = x at *
  generalize ((f ib : Nat) : Int) = y at *
  generalize ((f ic : Nat) : Int) = z at *
  go_wp2_with fail
  exact HPP.out _ _ rfl HZ3.out.1
theorem of_p8 (V B M k q : Nat) (lv tv : Value) (m cn : Nat) (T : ByteArray -> Option Vl) (f : Nat -> Nat) (n : Nd) (ia ib ic : Nat) (w : World) (h : VA w V B M k q lv tv m cn T f) (ea : n.a = (ia : Int)) (eb : n.b = (ib : Int)) (ec : n.c = (ic : Int)) (la : ia < m) (lb : ib < m) (lc : ic < m) (eop : n.op = 8) :
    Calls Tryz.prog 39 #[.pointer (some ⟨V,0,none⟩),nodeV n] w fun e w' => e = .returned (.int .u64 (bits .xor .u64 ((f ia : Nat) : Int) ((f ib : Nat) : Int))) /\ Below w.heap.size w w' := by
  generalize hPP : (fun (e : Ending) (w' : World) => e = .returned (.int .u64 (bits .xor .u64 ((f ia : Nat) : Int) ((f ib : Nat) : Int))) /\ Below w.heap.size w w') = PP
  have HPP : Hid (∀ v w',v = .int .u64 (bits .xor .u64 ((f ia : Nat) : Int) ((f ib : Nat) : Int)) -> Below w.heap.size w w' -> PP (.returned v) w') := fun v w' h1 h2 => by rw [<- hPP]; exact ⟨by rw [h1],h2⟩
  clear hPP; have h0 : VS w V B M k q lv tv m cn T f n (w.alloc (Obj.cells (ndA n) 40 (0,0))) := ⟨bel1 w _,h.below (bel1 w _),heap_alloc_new w _⟩; have HAt : Hid (∀ X i,i < m -> VS w V B M k q lv tv m cn T f n X -> Calls Tryz.prog 62 #[.agg #[lv,tv],.int .i64 (i : Int)] X fun e w' => e = .returned (.int .u64 ((f i : Nat) : Int)) /\ VS w V B M k q lv tv m cn T f n w') := fun X i hi hS => (nat_any q m cn lv tv f i X hS.2.1.ul hi).mono fun e w' ⟨he,hb⟩ => ⟨he,hS.to hb⟩
  clear h; have HS0 : Hid (VS w V B M k q lv tv m cn T f n (w.alloc (Obj.cells (ndA n) 40 (0,0))).drew) := ⟨h0.1.trans ⟨rfl,rfl,rfl,Nat.le_refl _,fun _ _ => rfl⟩,⟨h0.2.1.vb,h0.2.1.tm,h0.2.1.ul.keep rfl⟩,h0.2.2⟩; obtain ⟨op,u,a,b,c,num,nm⟩ := n
  dsimp only at *
  subst ea eb ec; obtain rfl : op = 8 := eop; clear h0; unfold nodeV ndA at *
  dsimp only at *
  go_enter Tryz.func39,Tryz.ntmps39
  go_upto_region 1 with fail
  refine qn_intro ?_; have hz0 := HS0.out
  generalize (w.alloc (Obj.cells #[.int .i64 8,.int .i64 u,.int .i64 (ia : Int),.int .i64 (ib : Int),.int .i64 (ic : Int),.int .u64 num,.string nm] 40 (0,0))) = W0 at *
  refine sq_start (VS w V B M k q lv tv m cn T f ⟨8,u,ia,ib,ic,num,nm⟩) [6,13,20] [0,1,2,3,4,5,7,8,9,10,11,12,14,15,16,17,18,19,6,13,20,21,22,23] (by kernel_rfl) (by kernel_rfl) hz0 ?_
  repeat (refine sq_op (v := ?_) (by rfl) (by rfl) (by rfl) ?_ ?_; rotate_left; (focus (intro w hSw; obtain ⟨c0,c1,c2,c3,d0,d1,d2,d3,d4,d5,d6⟩ := hSw.cs; go_simp <;> with_reducible rfl)); simp only [Act.put,List.setIfInBounds_toArray,List.set_cons_zero,List.set_cons_succ])
  refine sq_do (by rfl) (by rfl) (by rfl) (fun K hK => ?_)
  go_simp
  go_at_call 62
  refine (HAt.out _ _ la hz0).mono ?_; rintro e w3 ⟨rfl,hz1⟩; refine hK.out _ _ hz1 (fun _ => ?_); clear hK K
  try simp only [Act.put,List.setIfInBounds_toArray,List.set_cons_zero,List.set_cons_succ]
  repeat (refine sq_op (v := ?_) (by rfl) (by rfl) (by rfl) ?_ ?_; rotate_left; (focus (intro w hSw; obtain ⟨c0,c1,c2,c3,d0,d1,d2,d3,d4,d5,d6⟩ := hSw.cs; go_simp <;> with_reducible rfl)); simp only [Act.put,List.setIfInBounds_toArray,List.set_cons_zero,List.set_cons_succ])
  refine sq_do (by rfl) (by rfl) (by rfl) (fun K hK => ?_)
  go_simp
  go_at_call 62
  refine (HAt.out _ _ lb hz1).mono ?_; rintro e w4 ⟨rfl,hz2⟩; refine hK.out _ _ hz2 (fun _ => ?_); clear hK K
  try simp only [Act.put,List.setIfInBounds_toArray,List.set_cons_zero,List.set_cons_succ]
  repeat (refine sq_op (v := ?_) (by rfl) (by rfl) (by rfl) ?_ ?_; rotate_left; (focus (intro w hSw; obtain ⟨c0,c1,c2,c3,d0,d1,d2,d3,d4,d5,d6⟩ := hSw.cs; go_simp <;> with_reducible rfl)); simp only [Act.put,List.setIfInBounds_toArray,List.set_cons_zero,List.set_cons_succ])
  refine sq_do (by rfl) (by rfl) (by rfl) (fun K hK => ?_)
  go_simp
  go_at_call 62
  refine (HAt.out _ _ lc hz2).mono ?_; rintro e w5 ⟨rfl,hz3⟩; refine hK.out _ _ hz3 (fun _ => ?_); clear hK K
  try simp only [Act.put,List.setIfInBounds_toArray,List.set_cons_zero,List.set_cons_succ]
  repeat (refine sq_op (v := ?_) (by rfl) (by rfl) (by rfl) ?_ ?_; rotate_left; (focus (intro w hSw; obtain ⟨c0,c1,c2,c3,d0,d1,d2,d3,d4,d5,d6⟩ := hSw.cs; go_simp <;> with_reducible rfl)); simp only [Act.put,List.setIfInBounds_toArray,List.set_cons_zero,List.set_cons_succ])
  refine sq_end (fun _ => ?_); unfold QN
  dsimp only
  have HZ3 : Hid (VS w V B M k q lv tv m cn T f ⟨8,u,ia,ib,ic,num,nm⟩ w5) := hz3; obtain ⟨c0,c1,c2,c3,d0,d1,d2,d3,d4,d5,d6⟩ := hz3.cs
  dsimp only at d0 d1 d2 d3 d4 d5 d6
  clear hz0 hz1 hz2 hz3 HS0 HAt
  generalize ((f ia : Nat) : Int) = x at *
  generalize ((f ib : Nat) : Int) = y at *
  generalize ((f ic : Nat) : Int) = z at *
  go_wp2_with fail
  exact HPP.out _ _ rfl HZ3.out.1
theorem of_p14 (V B M k q : Nat) (lv tv : Value) (m cn : Nat) (T : ByteArray -> Option Vl) (f : Nat -> Nat) (n : Nd) (ia ib ic : Nat) (w : World) (h : VA w V B M k q lv tv m cn T f) (ea : n.a = (ia : Int)) (eb : n.b = (ib : Int)) (ec : n.c = (ic : Int)) (la : ia < m) (lb : ib < m) (lc : ic < m) (eop : n.op = 14) :
    Calls Tryz.prog 39 #[.pointer (some ⟨V,0,none⟩),nodeV n] w fun e w' => e = .returned (.int .u64 (if f ia = 1 then ((f ib : Nat) : Int) else ((f ic : Nat) : Int))) /\ Below w.heap.size w w' := by
  generalize hPP : (fun (e : Ending) (w' : World) => e = .returned (.int .u64 (if f ia = 1 then ((f ib : Nat) : Int) else ((f ic : Nat) : Int))) /\ Below w.heap.size w w') = PP
  have HPP : Hid (∀ v w',v = .int .u64 (if f ia = 1 then ((f ib : Nat) : Int) else ((f ic : Nat) : Int)) -> Below w.heap.size w w' -> PP (.returned v) w') := fun v w' h1 h2 => by rw [<- hPP]; exact ⟨by rw [h1],h2⟩
  clear hPP; have h0 : VS w V B M k q lv tv m cn T f n (w.alloc (Obj.cells (ndA n) 40 (0,0))) := ⟨bel1 w _,h.below (bel1 w _),heap_alloc_new w _⟩; have HAt : Hid (∀ X i,i < m -> VS w V B M k q lv tv m cn T f n X -> Calls Tryz.prog 62 #[.agg #[lv,tv],.int .i64 (i : Int)] X fun e w' => e = .returned (.int .u64 ((f i : Nat) : Int)) /\ VS w V B M k q lv tv m cn T f n w') := fun X i hi hS => (nat_any q m cn lv tv f i X hS.2.1.ul hi).mono fun e w' ⟨he,hb⟩ => ⟨he,hS.to hb⟩
  clear h; have HS0 : Hid (VS w V B M k q lv tv m cn T f n (w.alloc (Obj.cells (ndA n) 40 (0,0))).drew) := ⟨h0.1.trans ⟨rfl,rfl,rfl,Nat.le_refl _,fun _ _ => rfl⟩,⟨h0.2.1.vb,h0.2.1.tm,h0.2.1.ul.keep rfl⟩,h0.2.2⟩; obtain ⟨op,u,a,b,c,num,nm⟩ := n
  dsimp only at *
  subst ea eb ec; obtain rfl : op = 14 := eop; clear h0; unfold nodeV ndA at *
  dsimp only at *
  go_enter Tryz.func39,Tryz.ntmps39
  go_upto_region 1 with fail
  refine qn_intro ?_; have hz0 := HS0.out
  generalize (w.alloc (Obj.cells #[.int .i64 14,.int .i64 u,.int .i64 (ia : Int),.int .i64 (ib : Int),.int .i64 (ic : Int),.int .u64 num,.string nm] 40 (0,0))) = W0 at *
  refine sq_start (VS w V B M k q lv tv m cn T f ⟨14,u,ia,ib,ic,num,nm⟩) [6,13,20] [0,1,2,3,4,5,7,8,9,10,11,12,14,15,16,17,18,19,6,13,20,21,22,23] (by kernel_rfl) (by kernel_rfl) hz0 ?_
  repeat (refine sq_op (v := ?_) (by rfl) (by rfl) (by rfl) ?_ ?_; rotate_left; (focus (intro w hSw; obtain ⟨c0,c1,c2,c3,d0,d1,d2,d3,d4,d5,d6⟩ := hSw.cs; go_simp <;> with_reducible rfl)); simp only [Act.put,List.setIfInBounds_toArray,List.set_cons_zero,List.set_cons_succ])
  refine sq_do (by rfl) (by rfl) (by rfl) (fun K hK => ?_)
  go_simp
  go_at_call 62
  refine (HAt.out _ _ la hz0).mono ?_; rintro e w3 ⟨rfl,hz1⟩; refine hK.out _ _ hz1 (fun _ => ?_); clear hK K
  try simp only [Act.put,List.setIfInBounds_toArray,List.set_cons_zero,List.set_cons_succ]
  repeat (refine sq_op (v := ?_) (by rfl) (by rfl) (by rfl) ?_ ?_; rotate_left; (focus (intro w hSw; obtain ⟨c0,c1,c2,c3,d0,d1,d2,d3,d4,d5,d6⟩ := hSw.cs; go_simp <;> with_reducible rfl)); simp only [Act.put,List.setIfInBounds_toArray,List.set_cons_zero,List.set_cons_succ])
  refine sq_do (by rfl) (by rfl) (by rfl) (fun K hK => ?_)
  go_simp
  go_at_call 62
  refine (HAt.out _ _ lb hz1).mono ?_; rintro e w4 ⟨rfl,hz2⟩; refine hK.out _ _ hz2 (fun _ => ?_); clear hK K
  try simp only [Act.put,List.setIfInBounds_toArray,List.set_cons_zero,List.set_cons_succ]
  repeat (refine sq_op (v := ?_) (by rfl) (by rfl) (by rfl) ?_ ?_; rotate_left; (focus (intro w hSw; obtain ⟨c0,c1,c2,c3,d0,d1,d2,d3,d4,d5,d6⟩ := hSw.cs; go_simp <;> with_reducible rfl)); simp only [Act.put,List.setIfInBounds_toArray,List.set_cons_zero,List.set_cons_succ])
  refine sq_do (by rfl) (by rfl) (by rfl) (fun K hK => ?_)
  go_simp
  go_at_call 62
  refine (HAt.out _ _ lc hz2).mono ?_; rintro e w5 ⟨rfl,hz3⟩; refine hK.out _ _ hz3 (fun _ => ?_); clear hK K
  try simp only [Act.put,List.setIfInBounds_toArray,List.set_cons_zero,List.set_cons_succ]
  repeat (refine sq_op (v := ?_) (by rfl) (by rfl) (by rfl) ?_ ?_; rotate_left; (focus (intro w hSw; obtain ⟨c0,c1,c2,c3,d0,d1,d2,d3,d4,d5,d6⟩ := hSw.cs; go_simp <;> with_reducible rfl)); simp only [Act.put,List.setIfInBounds_toArray,List.set_cons_zero,List.set_cons_succ])
  refine sq_end (fun _ => ?_); unfold QN
  dsimp only
  have HZ3 : Hid (VS w V B M k q lv tv m cn T f ⟨14,u,ia,ib,ic,num,nm⟩ w5) := hz3; obtain ⟨c0,c1,c2,c3,d0,d1,d2,d3,d4,d5,d6⟩ := hz3.cs
  dsimp only at d0 d1 d2 d3 d4 d5 d6
  clear hz0 hz1 hz2 hz3 HS0 HAt
  by_cases hq : f ia = 1
  · have hd : ((f ia : Nat) : Int) = 1 := by rw [hq]; rfl
    rw [if_pos hq] at HPP
    generalize ((f ia : Nat) : Int) = x at *
    generalize ((f ib : Nat) : Int) = y at *
    generalize ((f ic : Nat) : Int) = z at *
    subst hd
    go_wp2_with fail
    exact HPP.out _ _ rfl HZ3.out.1
  have hd : ¬ ((f ia : Nat) : Int) = 1 := by omega
  rw [if_neg hq] at HPP
  generalize ((f ia : Nat) : Int) = x at *
  generalize ((f ib : Nat) : Int) = y at *
  generalize ((f ic : Nat) : Int) = z at *
  go_wp2_with fail
  exact HPP.out _ _ rfl HZ3.out.1
theorem of_p17 (V B M k q : Nat) (lv tv : Value) (m cn : Nat) (T : ByteArray -> Option Vl) (f : Nat -> Nat) (n : Nd) (ia ib ic : Nat) (w : World) (h : VA w V B M k q lv tv m cn T f) (ea : n.a = (ia : Int)) (eb : n.b = (ib : Int)) (ec : n.c = (ic : Int)) (la : ia < m) (lb : ib < m) (lc : ic < m) (eop : n.op = 17) (r er : Int) (hB : ∀ W,Calls Tryz.prog 69 #[.int .i64 17,.int .i64 n.w,.int .u64 ((f ia : Nat) : Int),.int .u64 ((f ib : Nat) : Int)] W fun e w' => e = .returned (.tuple #[.int .u64 r,.int .i64 er]) /\ Below W.heap.size W w') :
    Calls Tryz.prog 39 #[.pointer (some ⟨V,0,none⟩),nodeV n] w fun e w' => e = .returned (.int .u64 (r)) /\ Below w.heap.size w w' := by
  generalize hPP : (fun (e : Ending) (w' : World) => e = .returned (.int .u64 (r)) /\ Below w.heap.size w w') = PP
  have HPP : Hid (∀ v w',v = .int .u64 (r) -> Below w.heap.size w w' -> PP (.returned v) w') := fun v w' h1 h2 => by rw [<- hPP]; exact ⟨by rw [h1],h2⟩
  clear hPP; have h0 : VS w V B M k q lv tv m cn T f n (w.alloc (Obj.cells (ndA n) 40 (0,0))) := ⟨bel1 w _,h.below (bel1 w _),heap_alloc_new w _⟩; have HAt : Hid (∀ X i,i < m -> VS w V B M k q lv tv m cn T f n X -> Calls Tryz.prog 62 #[.agg #[lv,tv],.int .i64 (i : Int)] X fun e w' => e = .returned (.int .u64 ((f i : Nat) : Int)) /\ VS w V B M k q lv tv m cn T f n w') := fun X i hi hS => (nat_any q m cn lv tv f i X hS.2.1.ul hi).mono fun e w' ⟨he,hb⟩ => ⟨he,hS.to hb⟩
  have HB : Hid (∀ W,Calls Tryz.prog 69 #[.int .i64 17,.int .i64 n.w,.int .u64 ((f ia : Nat) : Int),.int .u64 ((f ib : Nat) : Int)] W fun e w' => e = .returned (.tuple #[.int .u64 r,.int .i64 er]) /\ Below W.heap.size W w') := hB; clear hB; clear h; have HS0 : Hid (VS w V B M k q lv tv m cn T f n (w.alloc (Obj.cells (ndA n) 40 (0,0))).drew) := ⟨h0.1.trans ⟨rfl,rfl,rfl,Nat.le_refl _,fun _ _ => rfl⟩,⟨h0.2.1.vb,h0.2.1.tm,h0.2.1.ul.keep rfl⟩,h0.2.2⟩; obtain ⟨op,u,a,b,c,num,nm⟩ := n
  dsimp only at *
  subst ea eb ec; obtain rfl : op = 17 := eop; clear h0; unfold nodeV ndA at *
  dsimp only at *
  go_enter Tryz.func39,Tryz.ntmps39
  go_upto_region 1 with fail
  refine qn_intro ?_; have hz0 := HS0.out
  generalize (w.alloc (Obj.cells #[.int .i64 17,.int .i64 u,.int .i64 (ia : Int),.int .i64 (ib : Int),.int .i64 (ic : Int),.int .u64 num,.string nm] 40 (0,0))) = W0 at *
  refine sq_start (VS w V B M k q lv tv m cn T f ⟨17,u,ia,ib,ic,num,nm⟩) [6,13,20] [0,1,2,3,4,5,7,8,9,10,11,12,14,15,16,17,18,19,6,13,20,21,22,23] (by kernel_rfl) (by kernel_rfl) hz0 ?_
  repeat (refine sq_op (v := ?_) (by rfl) (by rfl) (by rfl) ?_ ?_; rotate_left; (focus (intro w hSw; obtain ⟨c0,c1,c2,c3,d0,d1,d2,d3,d4,d5,d6⟩ := hSw.cs; go_simp <;> with_reducible rfl)); simp only [Act.put,List.setIfInBounds_toArray,List.set_cons_zero,List.set_cons_succ])
  refine sq_do (by rfl) (by rfl) (by rfl) (fun K hK => ?_)
  go_simp
  go_at_call 62
  refine (HAt.out _ _ la hz0).mono ?_; rintro e w3 ⟨rfl,hz1⟩; refine hK.out _ _ hz1 (fun _ => ?_); clear hK K
  try simp only [Act.put,List.setIfInBounds_toArray,List.set_cons_zero,List.set_cons_succ]
  repeat (refine sq_op (v := ?_) (by rfl) (by rfl) (by rfl) ?_ ?_; rotate_left; (focus (intro w hSw; obtain ⟨c0,c1,c2,c3,d0,d1,d2,d3,d4,d5,d6⟩ := hSw.cs; go_simp <;> with_reducible rfl)); simp only [Act.put,List.setIfInBounds_toArray,List.set_cons_zero,List.set_cons_succ])
  refine sq_do (by rfl) (by rfl) (by rfl) (fun K hK => ?_)
  go_simp
  go_at_call 62
  refine (HAt.out _ _ lb hz1).mono ?_; rintro e w4 ⟨rfl,hz2⟩; refine hK.out _ _ hz2 (fun _ => ?_); clear hK K
  try simp only [Act.put,List.setIfInBounds_toArray,List.set_cons_zero,List.set_cons_succ]
  repeat (refine sq_op (v := ?_) (by rfl) (by rfl) (by rfl) ?_ ?_; rotate_left; (focus (intro w hSw; obtain ⟨c0,c1,c2,c3,d0,d1,d2,d3,d4,d5,d6⟩ := hSw.cs; go_simp <;> with_reducible rfl)); simp only [Act.put,List.setIfInBounds_toArray,List.set_cons_zero,List.set_cons_succ])
  refine sq_do (by rfl) (by rfl) (by rfl) (fun K hK => ?_)
  go_simp
  go_at_call 62
  refine (HAt.out _ _ lc hz2).mono ?_; rintro e w5 ⟨rfl,hz3⟩; refine hK.out _ _ hz3 (fun _ => ?_); clear hK K
  try simp only [Act.put,List.setIfInBounds_toArray,List.set_cons_zero,List.set_cons_succ]
  repeat (refine sq_op (v := ?_) (by rfl) (by rfl) (by rfl) ?_ ?_; rotate_left; (focus (intro w hSw; obtain ⟨c0,c1,c2,c3,d0,d1,d2,d3,d4,d5,d6⟩ := hSw.cs; go_simp <;> with_reducible rfl)); simp only [Act.put,List.setIfInBounds_toArray,List.set_cons_zero,List.set_cons_succ])
  refine sq_end (fun _ => ?_); unfold QN
  dsimp only
  have HZ3 : Hid (VS w V B M k q lv tv m cn T f ⟨17,u,ia,ib,ic,num,nm⟩ w5) := hz3; obtain ⟨c0,c1,c2,c3,d0,d1,d2,d3,d4,d5,d6⟩ := hz3.cs
  dsimp only at d0 d1 d2 d3 d4 d5 d6
  clear hz0 hz1 hz2 hz3 HS0 HAt
  generalize ((f ia : Nat) : Int) = x at *
  generalize ((f ib : Nat) : Int) = y at *
  generalize ((f ic : Nat) : Int) = z at *
  go_wp2_with fail
  refine (HB.out w5).mono ?_; rintro e w6 ⟨rfl,hb6⟩; have HZ6 := HZ3.out.1.trans (below_le' hb6 HZ3.out.1.size)
  go_wp2_with fail
  exact HPP.out _ _ rfl HZ6
theorem of_p18 (V B M k q : Nat) (lv tv : Value) (m cn : Nat) (T : ByteArray -> Option Vl) (f : Nat -> Nat) (n : Nd) (ia ib ic : Nat) (w : World) (h : VA w V B M k q lv tv m cn T f) (ea : n.a = (ia : Int)) (eb : n.b = (ib : Int)) (ec : n.c = (ic : Int)) (la : ia < m) (lb : ib < m) (lc : ic < m) (eop : n.op = 18) (r er : Int) (hB : ∀ W,Calls Tryz.prog 69 #[.int .i64 18,.int .i64 n.w,.int .u64 ((f ia : Nat) : Int),.int .u64 ((f ib : Nat) : Int)] W fun e w' => e = .returned (.tuple #[.int .u64 r,.int .i64 er]) /\ Below W.heap.size W w') :
    Calls Tryz.prog 39 #[.pointer (some ⟨V,0,none⟩),nodeV n] w fun e w' => e = .returned (.int .u64 (r)) /\ Below w.heap.size w w' := by
  generalize hPP : (fun (e : Ending) (w' : World) => e = .returned (.int .u64 (r)) /\ Below w.heap.size w w') = PP
  have HPP : Hid (∀ v w',v = .int .u64 (r) -> Below w.heap.size w w' -> PP (.returned v) w') := fun v w' h1 h2 => by rw [<- hPP]; exact ⟨by rw [h1],h2⟩
  clear hPP; have h0 : VS w V B M k q lv tv m cn T f n (w.alloc (Obj.cells (ndA n) 40 (0,0))) := ⟨bel1 w _,h.below (bel1 w _),heap_alloc_new w _⟩; have HAt : Hid (∀ X i,i < m -> VS w V B M k q lv tv m cn T f n X -> Calls Tryz.prog 62 #[.agg #[lv,tv],.int .i64 (i : Int)] X fun e w' => e = .returned (.int .u64 ((f i : Nat) : Int)) /\ VS w V B M k q lv tv m cn T f n w') := fun X i hi hS => (nat_any q m cn lv tv f i X hS.2.1.ul hi).mono fun e w' ⟨he,hb⟩ => ⟨he,hS.to hb⟩
  have HB : Hid (∀ W,Calls Tryz.prog 69 #[.int .i64 18,.int .i64 n.w,.int .u64 ((f ia : Nat) : Int),.int .u64 ((f ib : Nat) : Int)] W fun e w' => e = .returned (.tuple #[.int .u64 r,.int .i64 er]) /\ Below W.heap.size W w') := hB; clear hB; clear h; have HS0 : Hid (VS w V B M k q lv tv m cn T f n (w.alloc (Obj.cells (ndA n) 40 (0,0))).drew) := ⟨h0.1.trans ⟨rfl,rfl,rfl,Nat.le_refl _,fun _ _ => rfl⟩,⟨h0.2.1.vb,h0.2.1.tm,h0.2.1.ul.keep rfl⟩,h0.2.2⟩; obtain ⟨op,u,a,b,c,num,nm⟩ := n
  dsimp only at *
  subst ea eb ec; obtain rfl : op = 18 := eop; clear h0; unfold nodeV ndA at *
  dsimp only at *
  go_enter Tryz.func39,Tryz.ntmps39
  go_upto_region 1 with fail
  refine qn_intro ?_; have hz0 := HS0.out
  generalize (w.alloc (Obj.cells #[.int .i64 18,.int .i64 u,.int .i64 (ia : Int),.int .i64 (ib : Int),.int .i64 (ic : Int),.int .u64 num,.string nm] 40 (0,0))) = W0 at *
  refine sq_start (VS w V B M k q lv tv m cn T f ⟨18,u,ia,ib,ic,num,nm⟩) [6,13,20] [0,1,2,3,4,5,7,8,9,10,11,12,14,15,16,17,18,19,6,13,20,21,22,23] (by kernel_rfl) (by kernel_rfl) hz0 ?_
  repeat (refine sq_op (v := ?_) (by rfl) (by rfl) (by rfl) ?_ ?_; rotate_left; (focus (intro w hSw; obtain ⟨c0,c1,c2,c3,d0,d1,d2,d3,d4,d5,d6⟩ := hSw.cs; go_simp <;> with_reducible rfl)); simp only [Act.put,List.setIfInBounds_toArray,List.set_cons_zero,List.set_cons_succ])
  refine sq_do (by rfl) (by rfl) (by rfl) (fun K hK => ?_)
  go_simp
  go_at_call 62
  refine (HAt.out _ _ la hz0).mono ?_; rintro e w3 ⟨rfl,hz1⟩; refine hK.out _ _ hz1 (fun _ => ?_); clear hK K
  try simp only [Act.put,List.setIfInBounds_toArray,List.set_cons_zero,List.set_cons_succ]
  repeat (refine sq_op (v := ?_) (by rfl) (by rfl) (by rfl) ?_ ?_; rotate_left; (focus (intro w hSw; obtain ⟨c0,c1,c2,c3,d0,d1,d2,d3,d4,d5,d6⟩ := hSw.cs; go_simp <;> with_reducible rfl)); simp only [Act.put,List.setIfInBounds_toArray,List.set_cons_zero,List.set_cons_succ])
  refine sq_do (by rfl) (by rfl) (by rfl) (fun K hK => ?_)
  go_simp
  go_at_call 62
  refine (HAt.out _ _ lb hz1).mono ?_; rintro e w4 ⟨rfl,hz2⟩; refine hK.out _ _ hz2 (fun _ => ?_); clear hK K
  try simp only [Act.put,List.setIfInBounds_toArray,List.set_cons_zero,List.set_cons_succ]
  repeat (refine sq_op (v := ?_) (by rfl) (by rfl) (by rfl) ?_ ?_; rotate_left; (focus (intro w hSw; obtain ⟨c0,c1,c2,c3,d0,d1,d2,d3,d4,d5,d6⟩ := hSw.cs; go_simp <;> with_reducible rfl)); simp only [Act.put,List.setIfInBounds_toArray,List.set_cons_zero,List.set_cons_succ])
  refine sq_do (by rfl) (by rfl) (by rfl) (fun K hK => ?_)
  go_simp
  go_at_call 62
  refine (HAt.out _ _ lc hz2).mono ?_; rintro e w5 ⟨rfl,hz3⟩; refine hK.out _ _ hz3 (fun _ => ?_); clear hK K
  try simp only [Act.put,List.setIfInBounds_toArray,List.set_cons_zero,List.set_cons_succ]
  repeat (refine sq_op (v := ?_) (by rfl) (by rfl) (by rfl) ?_ ?_; rotate_left; (focus (intro w hSw; obtain ⟨c0,c1,c2,c3,d0,d1,d2,d3,d4,d5,d6⟩ := hSw.cs; go_simp <;> with_reducible rfl)); simp only [Act.put,List.setIfInBounds_toArray,List.set_cons_zero,List.set_cons_succ])
  refine sq_end (fun _ => ?_); unfold QN
  dsimp only
  have HZ3 : Hid (VS w V B M k q lv tv m cn T f ⟨18,u,ia,ib,ic,num,nm⟩ w5) := hz3; obtain ⟨c0,c1,c2,c3,d0,d1,d2,d3,d4,d5,d6⟩ := hz3.cs
  dsimp only at d0 d1 d2 d3 d4 d5 d6
  clear hz0 hz1 hz2 hz3 HS0 HAt
  generalize ((f ia : Nat) : Int) = x at *
  generalize ((f ib : Nat) : Int) = y at *
  generalize ((f ic : Nat) : Int) = z at *
  go_wp2_with fail
  refine (HB.out w5).mono ?_; rintro e w6 ⟨rfl,hb6⟩; have HZ6 := HZ3.out.1.trans (below_le' hb6 HZ3.out.1.size)
  go_wp2_with fail
  exact HPP.out _ _ rfl HZ6
theorem of_p19 (V B M k q : Nat) (lv tv : Value) (m cn : Nat) (T : ByteArray -> Option Vl) (f : Nat -> Nat) (n : Nd) (ia ib ic : Nat) (w : World) (h : VA w V B M k q lv tv m cn T f) (ea : n.a = (ia : Int)) (eb : n.b = (ib : Int)) (ec : n.c = (ic : Int)) (la : ia < m) (lb : ib < m) (lc : ic < m) (eop : n.op = 19) (r er : Int) (hB : ∀ W,Calls Tryz.prog 69 #[.int .i64 19,.int .i64 n.w,.int .u64 ((f ia : Nat) : Int),.int .u64 ((f ib : Nat) : Int)] W fun e w' => e = .returned (.tuple #[.int .u64 r,.int .i64 er]) /\ Below W.heap.size W w') :
    Calls Tryz.prog 39 #[.pointer (some ⟨V,0,none⟩),nodeV n] w fun e w' => e = .returned (.int .u64 (r)) /\ Below w.heap.size w w' := by
  generalize hPP : (fun (e : Ending) (w' : World) => e = .returned (.int .u64 (r)) /\ Below w.heap.size w w') = PP
  have HPP : Hid (∀ v w',v = .int .u64 (r) -> Below w.heap.size w w' -> PP (.returned v) w') := fun v w' h1 h2 => by rw [<- hPP]; exact ⟨by rw [h1],h2⟩
  clear hPP; have h0 : VS w V B M k q lv tv m cn T f n (w.alloc (Obj.cells (ndA n) 40 (0,0))) := ⟨bel1 w _,h.below (bel1 w _),heap_alloc_new w _⟩; have HAt : Hid (∀ X i,i < m -> VS w V B M k q lv tv m cn T f n X -> Calls Tryz.prog 62 #[.agg #[lv,tv],.int .i64 (i : Int)] X fun e w' => e = .returned (.int .u64 ((f i : Nat) : Int)) /\ VS w V B M k q lv tv m cn T f n w') := fun X i hi hS => (nat_any q m cn lv tv f i X hS.2.1.ul hi).mono fun e w' ⟨he,hb⟩ => ⟨he,hS.to hb⟩
  have HB : Hid (∀ W,Calls Tryz.prog 69 #[.int .i64 19,.int .i64 n.w,.int .u64 ((f ia : Nat) : Int),.int .u64 ((f ib : Nat) : Int)] W fun e w' => e = .returned (.tuple #[.int .u64 r,.int .i64 er]) /\ Below W.heap.size W w') := hB; clear hB; clear h; have HS0 : Hid (VS w V B M k q lv tv m cn T f n (w.alloc (Obj.cells (ndA n) 40 (0,0))).drew) := ⟨h0.1.trans ⟨rfl,rfl,rfl,Nat.le_refl _,fun _ _ => rfl⟩,⟨h0.2.1.vb,h0.2.1.tm,h0.2.1.ul.keep rfl⟩,h0.2.2⟩; obtain ⟨op,u,a,b,c,num,nm⟩ := n
  dsimp only at *
  subst ea eb ec; obtain rfl : op = 19 := eop; clear h0; unfold nodeV ndA at *
  dsimp only at *
  go_enter Tryz.func39,Tryz.ntmps39
  go_upto_region 1 with fail
  refine qn_intro ?_; have hz0 := HS0.out
  generalize (w.alloc (Obj.cells #[.int .i64 19,.int .i64 u,.int .i64 (ia : Int),.int .i64 (ib : Int),.int .i64 (ic : Int),.int .u64 num,.string nm] 40 (0,0))) = W0 at *
  refine sq_start (VS w V B M k q lv tv m cn T f ⟨19,u,ia,ib,ic,num,nm⟩) [6,13,20] [0,1,2,3,4,5,7,8,9,10,11,12,14,15,16,17,18,19,6,13,20,21,22,23] (by kernel_rfl) (by kernel_rfl) hz0 ?_
  repeat (refine sq_op (v := ?_) (by rfl) (by rfl) (by rfl) ?_ ?_; rotate_left; (focus (intro w hSw; obtain ⟨c0,c1,c2,c3,d0,d1,d2,d3,d4,d5,d6⟩ := hSw.cs; go_simp <;> with_reducible rfl)); simp only [Act.put,List.setIfInBounds_toArray,List.set_cons_zero,List.set_cons_succ])
  refine sq_do (by rfl) (by rfl) (by rfl) (fun K hK => ?_)
  go_simp
  go_at_call 62
  refine (HAt.out _ _ la hz0).mono ?_; rintro e w3 ⟨rfl,hz1⟩; refine hK.out _ _ hz1 (fun _ => ?_); clear hK K
  try simp only [Act.put,List.setIfInBounds_toArray,List.set_cons_zero,List.set_cons_succ]
  repeat (refine sq_op (v := ?_) (by rfl) (by rfl) (by rfl) ?_ ?_; rotate_left; (focus (intro w hSw; obtain ⟨c0,c1,c2,c3,d0,d1,d2,d3,d4,d5,d6⟩ := hSw.cs; go_simp <;> with_reducible rfl)); simp only [Act.put,List.setIfInBounds_toArray,List.set_cons_zero,List.set_cons_succ])
  refine sq_do (by rfl) (by rfl) (by rfl) (fun K hK => ?_)
  go_simp
  go_at_call 62
  refine (HAt.out _ _ lb hz1).mono ?_; rintro e w4 ⟨rfl,hz2⟩; refine hK.out _ _ hz2 (fun _ => ?_); clear hK K
  try simp only [Act.put,List.setIfInBounds_toArray,List.set_cons_zero,List.set_cons_succ]
  repeat (refine sq_op (v := ?_) (by rfl) (by rfl) (by rfl) ?_ ?_; rotate_left; (focus (intro w hSw; obtain ⟨c0,c1,c2,c3,d0,d1,d2,d3,d4,d5,d6⟩ := hSw.cs; go_simp <;> with_reducible rfl)); simp only [Act.put,List.setIfInBounds_toArray,List.set_cons_zero,List.set_cons_succ])
  refine sq_do (by rfl) (by rfl) (by rfl) (fun K hK => ?_)
  go_simp
  go_at_call 62
  refine (HAt.out _ _ lc hz2).mono ?_; rintro e w5 ⟨rfl,hz3⟩; refine hK.out _ _ hz3 (fun _ => ?_); clear hK K
  try simp only [Act.put,List.setIfInBounds_toArray,List.set_cons_zero,List.set_cons_succ]
  repeat (refine sq_op (v := ?_) (by rfl) (by rfl) (by rfl) ?_ ?_; rotate_left; (focus (intro w hSw; obtain ⟨c0,c1,c2,c3,d0,d1,d2,d3,d4,d5,d6⟩ := hSw.cs; go_simp <;> with_reducible rfl)); simp only [Act.put,List.setIfInBounds_toArray,List.set_cons_zero,List.set_cons_succ])
  refine sq_end (fun _ => ?_); unfold QN
  dsimp only
  have HZ3 : Hid (VS w V B M k q lv tv m cn T f ⟨19,u,ia,ib,ic,num,nm⟩ w5) := hz3; obtain ⟨c0,c1,c2,c3,d0,d1,d2,d3,d4,d5,d6⟩ := hz3.cs
  dsimp only at d0 d1 d2 d3 d4 d5 d6
  clear hz0 hz1 hz2 hz3 HS0 HAt
  generalize ((f ia : Nat) : Int) = x at *
  generalize ((f ib : Nat) : Int) = y at *
  generalize ((f ic : Nat) : Int) = z at *
  go_wp2_with fail
  refine (HB.out w5).mono ?_; rintro e w6 ⟨rfl,hb6⟩; have HZ6 := HZ3.out.1.trans (below_le' hb6 HZ3.out.1.size)
  go_wp2_with fail
  exact HPP.out _ _ rfl HZ6
theorem of_p20 (V B M k q : Nat) (lv tv : Value) (m cn : Nat) (T : ByteArray -> Option Vl) (f : Nat -> Nat) (n : Nd) (ia ib ic : Nat) (w : World) (h : VA w V B M k q lv tv m cn T f) (ea : n.a = (ia : Int)) (eb : n.b = (ib : Int)) (ec : n.c = (ic : Int)) (la : ia < m) (lb : ib < m) (lc : ic < m) (eop : n.op = 20) (r er : Int) (hB : ∀ W,Calls Tryz.prog 69 #[.int .i64 20,.int .i64 n.w,.int .u64 ((f ia : Nat) : Int),.int .u64 ((f ib : Nat) : Int)] W fun e w' => e = .returned (.tuple #[.int .u64 r,.int .i64 er]) /\ Below W.heap.size W w') :
    Calls Tryz.prog 39 #[.pointer (some ⟨V,0,none⟩),nodeV n] w fun e w' => e = .returned (.int .u64 (r)) /\ Below w.heap.size w w' := by
  generalize hPP : (fun (e : Ending) (w' : World) => e = .returned (.int .u64 (r)) /\ Below w.heap.size w w') = PP
  have HPP : Hid (∀ v w',v = .int .u64 (r) -> Below w.heap.size w w' -> PP (.returned v) w') := fun v w' h1 h2 => by rw [<- hPP]; exact ⟨by rw [h1],h2⟩
  clear hPP; have h0 : VS w V B M k q lv tv m cn T f n (w.alloc (Obj.cells (ndA n) 40 (0,0))) := ⟨bel1 w _,h.below (bel1 w _),heap_alloc_new w _⟩; have HAt : Hid (∀ X i,i < m -> VS w V B M k q lv tv m cn T f n X -> Calls Tryz.prog 62 #[.agg #[lv,tv],.int .i64 (i : Int)] X fun e w' => e = .returned (.int .u64 ((f i : Nat) : Int)) /\ VS w V B M k q lv tv m cn T f n w') := fun X i hi hS => (nat_any q m cn lv tv f i X hS.2.1.ul hi).mono fun e w' ⟨he,hb⟩ => ⟨he,hS.to hb⟩
  have HB : Hid (∀ W,Calls Tryz.prog 69 #[.int .i64 20,.int .i64 n.w,.int .u64 ((f ia : Nat) : Int),.int .u64 ((f ib : Nat) : Int)] W fun e w' => e = .returned (.tuple #[.int .u64 r,.int .i64 er]) /\ Below W.heap.size W w') := hB; clear hB; clear h; have HS0 : Hid (VS w V B M k q lv tv m cn T f n (w.alloc (Obj.cells (ndA n) 40 (0,0))).drew) := ⟨h0.1.trans ⟨rfl,rfl,rfl,Nat.le_refl _,fun _ _ => rfl⟩,⟨h0.2.1.vb,h0.2.1.tm,h0.2.1.ul.keep rfl⟩,h0.2.2⟩; obtain ⟨op,u,a,b,c,num,nm⟩ := n
  dsimp only at *
  subst ea eb ec; obtain rfl : op = 20 := eop; clear h0; unfold nodeV ndA at *
  dsimp only at *
  go_enter Tryz.func39,Tryz.ntmps39
  go_upto_region 1 with fail
  refine qn_intro ?_; have hz0 := HS0.out
  generalize (w.alloc (Obj.cells #[.int .i64 20,.int .i64 u,.int .i64 (ia : Int),.int .i64 (ib : Int),.int .i64 (ic : Int),.int .u64 num,.string nm] 40 (0,0))) = W0 at *
  refine sq_start (VS w V B M k q lv tv m cn T f ⟨20,u,ia,ib,ic,num,nm⟩) [6,13,20] [0,1,2,3,4,5,7,8,9,10,11,12,14,15,16,17,18,19,6,13,20,21,22,23] (by kernel_rfl) (by kernel_rfl) hz0 ?_
  repeat (refine sq_op (v := ?_) (by rfl) (by rfl) (by rfl) ?_ ?_; rotate_left; (focus (intro w hSw; obtain ⟨c0,c1,c2,c3,d0,d1,d2,d3,d4,d5,d6⟩ := hSw.cs; go_simp <;> with_reducible rfl)); simp only [Act.put,List.setIfInBounds_toArray,List.set_cons_zero,List.set_cons_succ])
  refine sq_do (by rfl) (by rfl) (by rfl) (fun K hK => ?_)
  go_simp
  go_at_call 62
  refine (HAt.out _ _ la hz0).mono ?_; rintro e w3 ⟨rfl,hz1⟩; refine hK.out _ _ hz1 (fun _ => ?_); clear hK K
  try simp only [Act.put,List.setIfInBounds_toArray,List.set_cons_zero,List.set_cons_succ]
  repeat (refine sq_op (v := ?_) (by rfl) (by rfl) (by rfl) ?_ ?_; rotate_left; (focus (intro w hSw; obtain ⟨c0,c1,c2,c3,d0,d1,d2,d3,d4,d5,d6⟩ := hSw.cs; go_simp <;> with_reducible rfl)); simp only [Act.put,List.setIfInBounds_toArray,List.set_cons_zero,List.set_cons_succ])
  refine sq_do (by rfl) (by rfl) (by rfl) (fun K hK => ?_)
  go_simp
  go_at_call 62
  refine (HAt.out _ _ lb hz1).mono ?_; rintro e w4 ⟨rfl,hz2⟩; refine hK.out _ _ hz2 (fun _ => ?_); clear hK K
  try simp only [Act.put,List.setIfInBounds_toArray,List.set_cons_zero,List.set_cons_succ]
  repeat (refine sq_op (v := ?_) (by rfl) (by rfl) (by rfl) ?_ ?_; rotate_left; (focus (intro w hSw; obtain ⟨c0,c1,c2,c3,d0,d1,d2,d3,d4,d5,d6⟩ := hSw.cs; go_simp <;> with_reducible rfl)); simp only [Act.put,List.setIfInBounds_toArray,List.set_cons_zero,List.set_cons_succ])
  refine sq_do (by rfl) (by rfl) (by rfl) (fun K hK => ?_)
  go_simp
  go_at_call 62
  refine (HAt.out _ _ lc hz2).mono ?_; rintro e w5 ⟨rfl,hz3⟩; refine hK.out _ _ hz3 (fun _ => ?_); clear hK K
  try simp only [Act.put,List.setIfInBounds_toArray,List.set_cons_zero,List.set_cons_succ]
  repeat (refine sq_op (v := ?_) (by rfl) (by rfl) (by rfl) ?_ ?_; rotate_left; (focus (intro w hSw; obtain ⟨c0,c1,c2,c3,d0,d1,d2,d3,d4,d5,d6⟩ := hSw.cs; go_simp <;> with_reducible rfl)); simp only [Act.put,List.setIfInBounds_toArray,List.set_cons_zero,List.set_cons_succ])
  refine sq_end (fun _ => ?_); unfold QN
  dsimp only
  have HZ3 : Hid (VS w V B M k q lv tv m cn T f ⟨20,u,ia,ib,ic,num,nm⟩ w5) := hz3; obtain ⟨c0,c1,c2,c3,d0,d1,d2,d3,d4,d5,d6⟩ := hz3.cs
  dsimp only at d0 d1 d2 d3 d4 d5 d6
  clear hz0 hz1 hz2 hz3 HS0 HAt
  generalize ((f ia : Nat) : Int) = x at *
  generalize ((f ib : Nat) : Int) = y at *
  generalize ((f ic : Nat) : Int) = z at *
  go_wp2_with fail
  refine (HB.out w5).mono ?_; rintro e w6 ⟨rfl,hb6⟩; have HZ6 := HZ3.out.1.trans (below_le' hb6 HZ3.out.1.size)
  go_wp2_with fail
  exact HPP.out _ _ rfl HZ6
theorem of_p21 (V B M k q : Nat) (lv tv : Value) (m cn : Nat) (T : ByteArray -> Option Vl) (f : Nat -> Nat) (n : Nd) (ia ib ic : Nat) (w : World) (h : VA w V B M k q lv tv m cn T f) (ea : n.a = (ia : Int)) (eb : n.b = (ib : Int)) (ec : n.c = (ic : Int)) (la : ia < m) (lb : ib < m) (lc : ic < m) (eop : n.op = 21) (r er : Int) (hB : ∀ W,Calls Tryz.prog 69 #[.int .i64 21,.int .i64 n.w,.int .u64 ((f ia : Nat) : Int),.int .u64 ((f ib : Nat) : Int)] W fun e w' => e = .returned (.tuple #[.int .u64 r,.int .i64 er]) /\ Below W.heap.size W w') :
    Calls Tryz.prog 39 #[.pointer (some ⟨V,0,none⟩),nodeV n] w fun e w' => e = .returned (.int .u64 (r)) /\ Below w.heap.size w w' := by
  generalize hPP : (fun (e : Ending) (w' : World) => e = .returned (.int .u64 (r)) /\ Below w.heap.size w w') = PP
  have HPP : Hid (∀ v w',v = .int .u64 (r) -> Below w.heap.size w w' -> PP (.returned v) w') := fun v w' h1 h2 => by rw [<- hPP]; exact ⟨by rw [h1],h2⟩
  clear hPP; have h0 : VS w V B M k q lv tv m cn T f n (w.alloc (Obj.cells (ndA n) 40 (0,0))) := ⟨bel1 w _,h.below (bel1 w _),heap_alloc_new w _⟩; have HAt : Hid (∀ X i,i < m -> VS w V B M k q lv tv m cn T f n X -> Calls Tryz.prog 62 #[.agg #[lv,tv],.int .i64 (i : Int)] X fun e w' => e = .returned (.int .u64 ((f i : Nat) : Int)) /\ VS w V B M k q lv tv m cn T f n w') := fun X i hi hS => (nat_any q m cn lv tv f i X hS.2.1.ul hi).mono fun e w' ⟨he,hb⟩ => ⟨he,hS.to hb⟩
  have HB : Hid (∀ W,Calls Tryz.prog 69 #[.int .i64 21,.int .i64 n.w,.int .u64 ((f ia : Nat) : Int),.int .u64 ((f ib : Nat) : Int)] W fun e w' => e = .returned (.tuple #[.int .u64 r,.int .i64 er]) /\ Below W.heap.size W w') := hB; clear hB; clear h; have HS0 : Hid (VS w V B M k q lv tv m cn T f n (w.alloc (Obj.cells (ndA n) 40 (0,0))).drew) := ⟨h0.1.trans ⟨rfl,rfl,rfl,Nat.le_refl _,fun _ _ => rfl⟩,⟨h0.2.1.vb,h0.2.1.tm,h0.2.1.ul.keep rfl⟩,h0.2.2⟩; obtain ⟨op,u,a,b,c,num,nm⟩ := n
  dsimp only at *
  subst ea eb ec; obtain rfl : op = 21 := eop; clear h0; unfold nodeV ndA at *
  dsimp only at *
  go_enter Tryz.func39,Tryz.ntmps39
  go_upto_region 1 with fail
  refine qn_intro ?_; have hz0 := HS0.out
  generalize (w.alloc (Obj.cells #[.int .i64 21,.int .i64 u,.int .i64 (ia : Int),.int .i64 (ib : Int),.int .i64 (ic : Int),.int .u64 num,.string nm] 40 (0,0))) = W0 at *
  refine sq_start (VS w V B M k q lv tv m cn T f ⟨21,u,ia,ib,ic,num,nm⟩) [6,13,20] [0,1,2,3,4,5,7,8,9,10,11,12,14,15,16,17,18,19,6,13,20,21,22,23] (by kernel_rfl) (by kernel_rfl) hz0 ?_
  repeat (refine sq_op (v := ?_) (by rfl) (by rfl) (by rfl) ?_ ?_; rotate_left; (focus (intro w hSw; obtain ⟨c0,c1,c2,c3,d0,d1,d2,d3,d4,d5,d6⟩ := hSw.cs; go_simp <;> with_reducible rfl)); simp only [Act.put,List.setIfInBounds_toArray,List.set_cons_zero,List.set_cons_succ])
  refine sq_do (by rfl) (by rfl) (by rfl) (fun K hK => ?_)
  go_simp
  go_at_call 62
  refine (HAt.out _ _ la hz0).mono ?_; rintro e w3 ⟨rfl,hz1⟩; refine hK.out _ _ hz1 (fun _ => ?_); clear hK K
  try simp only [Act.put,List.setIfInBounds_toArray,List.set_cons_zero,List.set_cons_succ]
  repeat (refine sq_op (v := ?_) (by rfl) (by rfl) (by rfl) ?_ ?_; rotate_left; (focus (intro w hSw; obtain ⟨c0,c1,c2,c3,d0,d1,d2,d3,d4,d5,d6⟩ := hSw.cs; go_simp <;> with_reducible rfl)); simp only [Act.put,List.setIfInBounds_toArray,List.set_cons_zero,List.set_cons_succ])
  refine sq_do (by rfl) (by rfl) (by rfl) (fun K hK => ?_)
  go_simp
  go_at_call 62
  refine (HAt.out _ _ lb hz1).mono ?_; rintro e w4 ⟨rfl,hz2⟩; refine hK.out _ _ hz2 (fun _ => ?_); clear hK K
  try simp only [Act.put,List.setIfInBounds_toArray,List.set_cons_zero,List.set_cons_succ]
  repeat (refine sq_op (v := ?_) (by rfl) (by rfl) (by rfl) ?_ ?_; rotate_left; (focus (intro w hSw; obtain ⟨c0,c1,c2,c3,d0,d1,d2,d3,d4,d5,d6⟩ := hSw.cs; go_simp <;> with_reducible rfl)); simp only [Act.put,List.setIfInBounds_toArray,List.set_cons_zero,List.set_cons_succ])
  refine sq_do (by rfl) (by rfl) (by rfl) (fun K hK => ?_)
  go_simp
  go_at_call 62
  refine (HAt.out _ _ lc hz2).mono ?_; rintro e w5 ⟨rfl,hz3⟩; refine hK.out _ _ hz3 (fun _ => ?_); clear hK K
  try simp only [Act.put,List.setIfInBounds_toArray,List.set_cons_zero,List.set_cons_succ]
  repeat (refine sq_op (v := ?_) (by rfl) (by rfl) (by rfl) ?_ ?_; rotate_left; (focus (intro w hSw; obtain ⟨c0,c1,c2,c3,d0,d1,d2,d3,d4,d5,d6⟩ := hSw.cs; go_simp <;> with_reducible rfl)); simp only [Act.put,List.setIfInBounds_toArray,List.set_cons_zero,List.set_cons_succ])
  refine sq_end (fun _ => ?_); unfold QN
  dsimp only
  have HZ3 : Hid (VS w V B M k q lv tv m cn T f ⟨21,u,ia,ib,ic,num,nm⟩ w5) := hz3; obtain ⟨c0,c1,c2,c3,d0,d1,d2,d3,d4,d5,d6⟩ := hz3.cs
  dsimp only at d0 d1 d2 d3 d4 d5 d6
  clear hz0 hz1 hz2 hz3 HS0 HAt
  generalize ((f ia : Nat) : Int) = x at *
  generalize ((f ib : Nat) : Int) = y at *
  generalize ((f ic : Nat) : Int) = z at *
  go_wp2_with fail
  refine (HB.out w5).mono ?_; rintro e w6 ⟨rfl,hb6⟩; have HZ6 := HZ3.out.1.trans (below_le' hb6 HZ3.out.1.size)
  go_wp2_with fail
  exact HPP.out _ _ rfl HZ6
theorem of_p22 (V B M k q : Nat) (lv tv : Value) (m cn : Nat) (T : ByteArray -> Option Vl) (f : Nat -> Nat) (n : Nd) (ia ib ic : Nat) (w : World) (h : VA w V B M k q lv tv m cn T f) (ea : n.a = (ia : Int)) (eb : n.b = (ib : Int)) (ec : n.c = (ic : Int)) (la : ia < m) (lb : ib < m) (lc : ic < m) (eop : n.op = 22) (r er : Int) (hB : ∀ W,Calls Tryz.prog 69 #[.int .i64 22,.int .i64 n.w,.int .u64 ((f ia : Nat) : Int),.int .u64 ((f ib : Nat) : Int)] W fun e w' => e = .returned (.tuple #[.int .u64 r,.int .i64 er]) /\ Below W.heap.size W w') :
    Calls Tryz.prog 39 #[.pointer (some ⟨V,0,none⟩),nodeV n] w fun e w' => e = .returned (.int .u64 (r)) /\ Below w.heap.size w w' := by
  generalize hPP : (fun (e : Ending) (w' : World) => e = .returned (.int .u64 (r)) /\ Below w.heap.size w w') = PP
  have HPP : Hid (∀ v w',v = .int .u64 (r) -> Below w.heap.size w w' -> PP (.returned v) w') := fun v w' h1 h2 => by rw [<- hPP]; exact ⟨by rw [h1],h2⟩
  clear hPP; have h0 : VS w V B M k q lv tv m cn T f n (w.alloc (Obj.cells (ndA n) 40 (0,0))) := ⟨bel1 w _,h.below (bel1 w _),heap_alloc_new w _⟩; have HAt : Hid (∀ X i,i < m -> VS w V B M k q lv tv m cn T f n X -> Calls Tryz.prog 62 #[.agg #[lv,tv],.int .i64 (i : Int)] X fun e w' => e = .returned (.int .u64 ((f i : Nat) : Int)) /\ VS w V B M k q lv tv m cn T f n w') := fun X i hi hS => (nat_any q m cn lv tv f i X hS.2.1.ul hi).mono fun e w' ⟨he,hb⟩ => ⟨he,hS.to hb⟩
  have HB : Hid (∀ W,Calls Tryz.prog 69 #[.int .i64 22,.int .i64 n.w,.int .u64 ((f ia : Nat) : Int),.int .u64 ((f ib : Nat) : Int)] W fun e w' => e = .returned (.tuple #[.int .u64 r,.int .i64 er]) /\ Below W.heap.size W w') := hB; clear hB; clear h; have HS0 : Hid (VS w V B M k q lv tv m cn T f n (w.alloc (Obj.cells (ndA n) 40 (0,0))).drew) := ⟨h0.1.trans ⟨rfl,rfl,rfl,Nat.le_refl _,fun _ _ => rfl⟩,⟨h0.2.1.vb,h0.2.1.tm,h0.2.1.ul.keep rfl⟩,h0.2.2⟩; obtain ⟨op,u,a,b,c,num,nm⟩ := n
  dsimp only at *
  subst ea eb ec; obtain rfl : op = 22 := eop; clear h0; unfold nodeV ndA at *
  dsimp only at *
  go_enter Tryz.func39,Tryz.ntmps39
  go_upto_region 1 with fail
  refine qn_intro ?_; have hz0 := HS0.out
  generalize (w.alloc (Obj.cells #[.int .i64 22,.int .i64 u,.int .i64 (ia : Int),.int .i64 (ib : Int),.int .i64 (ic : Int),.int .u64 num,.string nm] 40 (0,0))) = W0 at *
  refine sq_start (VS w V B M k q lv tv m cn T f ⟨22,u,ia,ib,ic,num,nm⟩) [6,13,20] [0,1,2,3,4,5,7,8,9,10,11,12,14,15,16,17,18,19,6,13,20,21,22,23] (by kernel_rfl) (by kernel_rfl) hz0 ?_
  repeat (refine sq_op (v := ?_) (by rfl) (by rfl) (by rfl) ?_ ?_; rotate_left; (focus (intro w hSw; obtain ⟨c0,c1,c2,c3,d0,d1,d2,d3,d4,d5,d6⟩ := hSw.cs; go_simp <;> with_reducible rfl)); simp only [Act.put,List.setIfInBounds_toArray,List.set_cons_zero,List.set_cons_succ])
  refine sq_do (by rfl) (by rfl) (by rfl) (fun K hK => ?_)
  go_simp
  go_at_call 62
  refine (HAt.out _ _ la hz0).mono ?_; rintro e w3 ⟨rfl,hz1⟩; refine hK.out _ _ hz1 (fun _ => ?_); clear hK K
  try simp only [Act.put,List.setIfInBounds_toArray,List.set_cons_zero,List.set_cons_succ]
  repeat (refine sq_op (v := ?_) (by rfl) (by rfl) (by rfl) ?_ ?_; rotate_left; (focus (intro w hSw; obtain ⟨c0,c1,c2,c3,d0,d1,d2,d3,d4,d5,d6⟩ := hSw.cs; go_simp <;> with_reducible rfl)); simp only [Act.put,List.setIfInBounds_toArray,List.set_cons_zero,List.set_cons_succ])
  refine sq_do (by rfl) (by rfl) (by rfl) (fun K hK => ?_)
  go_simp
  go_at_call 62
  refine (HAt.out _ _ lb hz1).mono ?_; rintro e w4 ⟨rfl,hz2⟩; refine hK.out _ _ hz2 (fun _ => ?_); clear hK K
  try simp only [Act.put,List.setIfInBounds_toArray,List.set_cons_zero,List.set_cons_succ]
  repeat (refine sq_op (v := ?_) (by rfl) (by rfl) (by rfl) ?_ ?_; rotate_left; (focus (intro w hSw; obtain ⟨c0,c1,c2,c3,d0,d1,d2,d3,d4,d5,d6⟩ := hSw.cs; go_simp <;> with_reducible rfl)); simp only [Act.put,List.setIfInBounds_toArray,List.set_cons_zero,List.set_cons_succ])
  refine sq_do (by rfl) (by rfl) (by rfl) (fun K hK => ?_)
  go_simp
  go_at_call 62
  refine (HAt.out _ _ lc hz2).mono ?_; rintro e w5 ⟨rfl,hz3⟩; refine hK.out _ _ hz3 (fun _ => ?_); clear hK K
  try simp only [Act.put,List.setIfInBounds_toArray,List.set_cons_zero,List.set_cons_succ]
  repeat (refine sq_op (v := ?_) (by rfl) (by rfl) (by rfl) ?_ ?_; rotate_left; (focus (intro w hSw; obtain ⟨c0,c1,c2,c3,d0,d1,d2,d3,d4,d5,d6⟩ := hSw.cs; go_simp <;> with_reducible rfl)); simp only [Act.put,List.setIfInBounds_toArray,List.set_cons_zero,List.set_cons_succ])
  refine sq_end (fun _ => ?_); unfold QN
  dsimp only
  have HZ3 : Hid (VS w V B M k q lv tv m cn T f ⟨22,u,ia,ib,ic,num,nm⟩ w5) := hz3; obtain ⟨c0,c1,c2,c3,d0,d1,d2,d3,d4,d5,d6⟩ := hz3.cs
  dsimp only at d0 d1 d2 d3 d4 d5 d6
  clear hz0 hz1 hz2 hz3 HS0 HAt
  generalize ((f ia : Nat) : Int) = x at *
  generalize ((f ib : Nat) : Int) = y at *
  generalize ((f ic : Nat) : Int) = z at *
  go_wp2_with fail
  refine (HB.out w5).mono ?_; rintro e w6 ⟨rfl,hb6⟩; have HZ6 := HZ3.out.1.trans (below_le' hb6 HZ3.out.1.size)
  go_wp2_with fail
  exact HPP.out _ _ rfl HZ6
theorem of_p23 (V B M k q : Nat) (lv tv : Value) (m cn : Nat) (T : ByteArray -> Option Vl) (f : Nat -> Nat) (n : Nd) (ia ib ic : Nat) (w : World) (h : VA w V B M k q lv tv m cn T f) (ea : n.a = (ia : Int)) (eb : n.b = (ib : Int)) (ec : n.c = (ic : Int)) (la : ia < m) (lb : ib < m) (lc : ic < m) (eop : n.op = 23) (r er : Int) (hB : ∀ W,Calls Tryz.prog 69 #[.int .i64 23,.int .i64 n.w,.int .u64 ((f ia : Nat) : Int),.int .u64 ((f ib : Nat) : Int)] W fun e w' => e = .returned (.tuple #[.int .u64 r,.int .i64 er]) /\ Below W.heap.size W w') :
    Calls Tryz.prog 39 #[.pointer (some ⟨V,0,none⟩),nodeV n] w fun e w' => e = .returned (.int .u64 (r)) /\ Below w.heap.size w w' := by
  generalize hPP : (fun (e : Ending) (w' : World) => e = .returned (.int .u64 (r)) /\ Below w.heap.size w w') = PP
  have HPP : Hid (∀ v w',v = .int .u64 (r) -> Below w.heap.size w w' -> PP (.returned v) w') := fun v w' h1 h2 => by rw [<- hPP]; exact ⟨by rw [h1],h2⟩
  clear hPP; have h0 : VS w V B M k q lv tv m cn T f n (w.alloc (Obj.cells (ndA n) 40 (0,0))) := ⟨bel1 w _,h.below (bel1 w _),heap_alloc_new w _⟩; have HAt : Hid (∀ X i,i < m -> VS w V B M k q lv tv m cn T f n X -> Calls Tryz.prog 62 #[.agg #[lv,tv],.int .i64 (i : Int)] X fun e w' => e = .returned (.int .u64 ((f i : Nat) : Int)) /\ VS w V B M k q lv tv m cn T f n w') := fun X i hi hS => (nat_any q m cn lv tv f i X hS.2.1.ul hi).mono fun e w' ⟨he,hb⟩ => ⟨he,hS.to hb⟩
  have HB : Hid (∀ W,Calls Tryz.prog 69 #[.int .i64 23,.int .i64 n.w,.int .u64 ((f ia : Nat) : Int),.int .u64 ((f ib : Nat) : Int)] W fun e w' => e = .returned (.tuple #[.int .u64 r,.int .i64 er]) /\ Below W.heap.size W w') := hB; clear hB; clear h; have HS0 : Hid (VS w V B M k q lv tv m cn T f n (w.alloc (Obj.cells (ndA n) 40 (0,0))).drew) := ⟨h0.1.trans ⟨rfl,rfl,rfl,Nat.le_refl _,fun _ _ => rfl⟩,⟨h0.2.1.vb,h0.2.1.tm,h0.2.1.ul.keep rfl⟩,h0.2.2⟩; obtain ⟨op,u,a,b,c,num,nm⟩ := n
  dsimp only at *
  subst ea eb ec; obtain rfl : op = 23 := eop; clear h0; unfold nodeV ndA at *
  dsimp only at *
  go_enter Tryz.func39,Tryz.ntmps39
  go_upto_region 1 with fail
  refine qn_intro ?_; have hz0 := HS0.out
  generalize (w.alloc (Obj.cells #[.int .i64 23,.int .i64 u,.int .i64 (ia : Int),.int .i64 (ib : Int),.int .i64 (ic : Int),.int .u64 num,.string nm] 40 (0,0))) = W0 at *
  refine sq_start (VS w V B M k q lv tv m cn T f ⟨23,u,ia,ib,ic,num,nm⟩) [6,13,20] [0,1,2,3,4,5,7,8,9,10,11,12,14,15,16,17,18,19,6,13,20,21,22,23] (by kernel_rfl) (by kernel_rfl) hz0 ?_
  repeat (refine sq_op (v := ?_) (by rfl) (by rfl) (by rfl) ?_ ?_; rotate_left; (focus (intro w hSw; obtain ⟨c0,c1,c2,c3,d0,d1,d2,d3,d4,d5,d6⟩ := hSw.cs; go_simp <;> with_reducible rfl)); simp only [Act.put,List.setIfInBounds_toArray,List.set_cons_zero,List.set_cons_succ])
  refine sq_do (by rfl) (by rfl) (by rfl) (fun K hK => ?_)
  go_simp
  go_at_call 62
  refine (HAt.out _ _ la hz0).mono ?_; rintro e w3 ⟨rfl,hz1⟩; refine hK.out _ _ hz1 (fun _ => ?_); clear hK K
  try simp only [Act.put,List.setIfInBounds_toArray,List.set_cons_zero,List.set_cons_succ]
  repeat (refine sq_op (v := ?_) (by rfl) (by rfl) (by rfl) ?_ ?_; rotate_left; (focus (intro w hSw; obtain ⟨c0,c1,c2,c3,d0,d1,d2,d3,d4,d5,d6⟩ := hSw.cs; go_simp <;> with_reducible rfl)); simp only [Act.put,List.setIfInBounds_toArray,List.set_cons_zero,List.set_cons_succ])
  refine sq_do (by rfl) (by rfl) (by rfl) (fun K hK => ?_)
  go_simp
  go_at_call 62
  refine (HAt.out _ _ lb hz1).mono ?_; rintro e w4 ⟨rfl,hz2⟩; refine hK.out _ _ hz2 (fun _ => ?_); clear hK K
  try simp only [Act.put,List.setIfInBounds_toArray,List.set_cons_zero,List.set_cons_succ]
  repeat (refine sq_op (v := ?_) (by rfl) (by rfl) (by rfl) ?_ ?_; rotate_left; (focus (intro w hSw; obtain ⟨c0,c1,c2,c3,d0,d1,d2,d3,d4,d5,d6⟩ := hSw.cs; go_simp <;> with_reducible rfl)); simp only [Act.put,List.setIfInBounds_toArray,List.set_cons_zero,List.set_cons_succ])
  refine sq_do (by rfl) (by rfl) (by rfl) (fun K hK => ?_)
  go_simp
  go_at_call 62
  refine (HAt.out _ _ lc hz2).mono ?_; rintro e w5 ⟨rfl,hz3⟩; refine hK.out _ _ hz3 (fun _ => ?_); clear hK K
  try simp only [Act.put,List.setIfInBounds_toArray,List.set_cons_zero,List.set_cons_succ]
  repeat (refine sq_op (v := ?_) (by rfl) (by rfl) (by rfl) ?_ ?_; rotate_left; (focus (intro w hSw; obtain ⟨c0,c1,c2,c3,d0,d1,d2,d3,d4,d5,d6⟩ := hSw.cs; go_simp <;> with_reducible rfl)); simp only [Act.put,List.setIfInBounds_toArray,List.set_cons_zero,List.set_cons_succ])
  refine sq_end (fun _ => ?_); unfold QN
  dsimp only
  have HZ3 : Hid (VS w V B M k q lv tv m cn T f ⟨23,u,ia,ib,ic,num,nm⟩ w5) := hz3; obtain ⟨c0,c1,c2,c3,d0,d1,d2,d3,d4,d5,d6⟩ := hz3.cs
  dsimp only at d0 d1 d2 d3 d4 d5 d6
  clear hz0 hz1 hz2 hz3 HS0 HAt
  generalize ((f ia : Nat) : Int) = x at *
  generalize ((f ib : Nat) : Int) = y at *
  generalize ((f ic : Nat) : Int) = z at *
  go_wp2_with fail
  refine (HB.out w5).mono ?_; rintro e w6 ⟨rfl,hb6⟩; have HZ6 := HZ3.out.1.trans (below_le' hb6 HZ3.out.1.size)
  go_wp2_with fail
  exact HPP.out _ _ rfl HZ6
theorem of_p24 (V B M k q : Nat) (lv tv : Value) (m cn : Nat) (T : ByteArray -> Option Vl) (f : Nat -> Nat) (n : Nd) (ia ib ic : Nat) (w : World) (h : VA w V B M k q lv tv m cn T f) (ea : n.a = (ia : Int)) (eb : n.b = (ib : Int)) (ec : n.c = (ic : Int)) (la : ia < m) (lb : ib < m) (lc : ic < m) (eop : n.op = 24) (r er : Int) (hB : ∀ W,Calls Tryz.prog 69 #[.int .i64 24,.int .i64 n.w,.int .u64 ((f ia : Nat) : Int),.int .u64 ((f ib : Nat) : Int)] W fun e w' => e = .returned (.tuple #[.int .u64 r,.int .i64 er]) /\ Below W.heap.size W w') :
    Calls Tryz.prog 39 #[.pointer (some ⟨V,0,none⟩),nodeV n] w fun e w' => e = .returned (.int .u64 (r)) /\ Below w.heap.size w w' := by
  generalize hPP : (fun (e : Ending) (w' : World) => e = .returned (.int .u64 (r)) /\ Below w.heap.size w w') = PP
  have HPP : Hid (∀ v w',v = .int .u64 (r) -> Below w.heap.size w w' -> PP (.returned v) w') := fun v w' h1 h2 => by rw [<- hPP]; exact ⟨by rw [h1],h2⟩
  clear hPP; have h0 : VS w V B M k q lv tv m cn T f n (w.alloc (Obj.cells (ndA n) 40 (0,0))) := ⟨bel1 w _,h.below (bel1 w _),heap_alloc_new w _⟩; have HAt : Hid (∀ X i,i < m -> VS w V B M k q lv tv m cn T f n X -> Calls Tryz.prog 62 #[.agg #[lv,tv],.int .i64 (i : Int)] X fun e w' => e = .returned (.int .u64 ((f i : Nat) : Int)) /\ VS w V B M k q lv tv m cn T f n w') := fun X i hi hS => (nat_any q m cn lv tv f i X hS.2.1.ul hi).mono fun e w' ⟨he,hb⟩ => ⟨he,hS.to hb⟩
  have HB : Hid (∀ W,Calls Tryz.prog 69 #[.int .i64 24,.int .i64 n.w,.int .u64 ((f ia : Nat) : Int),.int .u64 ((f ib : Nat) : Int)] W fun e w' => e = .returned (.tuple #[.int .u64 r,.int .i64 er]) /\ Below W.heap.size W w') := hB; clear hB; clear h; have HS0 : Hid (VS w V B M k q lv tv m cn T f n (w.alloc (Obj.cells (ndA n) 40 (0,0))).drew) := ⟨h0.1.trans ⟨rfl,rfl,rfl,Nat.le_refl _,fun _ _ => rfl⟩,⟨h0.2.1.vb,h0.2.1.tm,h0.2.1.ul.keep rfl⟩,h0.2.2⟩; obtain ⟨op,u,a,b,c,num,nm⟩ := n
  dsimp only at *
  subst ea eb ec; obtain rfl : op = 24 := eop; clear h0; unfold nodeV ndA at *
  dsimp only at *
  go_enter Tryz.func39,Tryz.ntmps39
  go_upto_region 1 with fail
  refine qn_intro ?_; have hz0 := HS0.out
  generalize (w.alloc (Obj.cells #[.int .i64 24,.int .i64 u,.int .i64 (ia : Int),.int .i64 (ib : Int),.int .i64 (ic : Int),.int .u64 num,.string nm] 40 (0,0))) = W0 at *
  refine sq_start (VS w V B M k q lv tv m cn T f ⟨24,u,ia,ib,ic,num,nm⟩) [6,13,20] [0,1,2,3,4,5,7,8,9,10,11,12,14,15,16,17,18,19,6,13,20,21,22,23] (by kernel_rfl) (by kernel_rfl) hz0 ?_
  repeat (refine sq_op (v := ?_) (by rfl) (by rfl) (by rfl) ?_ ?_; rotate_left; (focus (intro w hSw; obtain ⟨c0,c1,c2,c3,d0,d1,d2,d3,d4,d5,d6⟩ := hSw.cs; go_simp <;> with_reducible rfl)); simp only [Act.put,List.setIfInBounds_toArray,List.set_cons_zero,List.set_cons_succ])
  refine sq_do (by rfl) (by rfl) (by rfl) (fun K hK => ?_)
  go_simp
  go_at_call 62
  refine (HAt.out _ _ la hz0).mono ?_; rintro e w3 ⟨rfl,hz1⟩; refine hK.out _ _ hz1 (fun _ => ?_); clear hK K
  try simp only [Act.put,List.setIfInBounds_toArray,List.set_cons_zero,List.set_cons_succ]
  repeat (refine sq_op (v := ?_) (by rfl) (by rfl) (by rfl) ?_ ?_; rotate_left; (focus (intro w hSw; obtain ⟨c0,c1,c2,c3,d0,d1,d2,d3,d4,d5,d6⟩ := hSw.cs; go_simp <;> with_reducible rfl)); simp only [Act.put,List.setIfInBounds_toArray,List.set_cons_zero,List.set_cons_succ])
  refine sq_do (by rfl) (by rfl) (by rfl) (fun K hK => ?_)
  go_simp
  go_at_call 62
  refine (HAt.out _ _ lb hz1).mono ?_; rintro e w4 ⟨rfl,hz2⟩; refine hK.out _ _ hz2 (fun _ => ?_); clear hK K
  try simp only [Act.put,List.setIfInBounds_toArray,List.set_cons_zero,List.set_cons_succ]
  repeat (refine sq_op (v := ?_) (by rfl) (by rfl) (by rfl) ?_ ?_; rotate_left; (focus (intro w hSw; obtain ⟨c0,c1,c2,c3,d0,d1,d2,d3,d4,d5,d6⟩ := hSw.cs; go_simp <;> with_reducible rfl)); simp only [Act.put,List.setIfInBounds_toArray,List.set_cons_zero,List.set_cons_succ])
  refine sq_do (by rfl) (by rfl) (by rfl) (fun K hK => ?_)
  go_simp
  go_at_call 62
  refine (HAt.out _ _ lc hz2).mono ?_; rintro e w5 ⟨rfl,hz3⟩; refine hK.out _ _ hz3 (fun _ => ?_); clear hK K
  try simp only [Act.put,List.setIfInBounds_toArray,List.set_cons_zero,List.set_cons_succ]
  repeat (refine sq_op (v := ?_) (by rfl) (by rfl) (by rfl) ?_ ?_; rotate_left; (focus (intro w hSw; obtain ⟨c0,c1,c2,c3,d0,d1,d2,d3,d4,d5,d6⟩ := hSw.cs; go_simp <;> with_reducible rfl)); simp only [Act.put,List.setIfInBounds_toArray,List.set_cons_zero,List.set_cons_succ])
  refine sq_end (fun _ => ?_); unfold QN
  dsimp only
  have HZ3 : Hid (VS w V B M k q lv tv m cn T f ⟨24,u,ia,ib,ic,num,nm⟩ w5) := hz3; obtain ⟨c0,c1,c2,c3,d0,d1,d2,d3,d4,d5,d6⟩ := hz3.cs
  dsimp only at d0 d1 d2 d3 d4 d5 d6
  clear hz0 hz1 hz2 hz3 HS0 HAt
  generalize ((f ia : Nat) : Int) = x at *
  generalize ((f ib : Nat) : Int) = y at *
  generalize ((f ic : Nat) : Int) = z at *
  go_wp2_with fail
  refine (HB.out w5).mono ?_; rintro e w6 ⟨rfl,hb6⟩; have HZ6 := HZ3.out.1.trans (below_le' hb6 HZ3.out.1.size)
  go_wp2_with fail
  exact HPP.out _ _ rfl HZ6
theorem of_p25 (V B M k q : Nat) (lv tv : Value) (m cn : Nat) (T : ByteArray -> Option Vl) (f : Nat -> Nat) (n : Nd) (ia ib ic : Nat) (w : World) (h : VA w V B M k q lv tv m cn T f) (ea : n.a = (ia : Int)) (eb : n.b = (ib : Int)) (ec : n.c = (ic : Int)) (la : ia < m) (lb : ib < m) (lc : ic < m) (eop : n.op = 25) (r er : Int) (hB : ∀ W,Calls Tryz.prog 69 #[.int .i64 25,.int .i64 n.w,.int .u64 ((f ia : Nat) : Int),.int .u64 ((f ib : Nat) : Int)] W fun e w' => e = .returned (.tuple #[.int .u64 r,.int .i64 er]) /\ Below W.heap.size W w') :
    Calls Tryz.prog 39 #[.pointer (some ⟨V,0,none⟩),nodeV n] w fun e w' => e = .returned (.int .u64 (r)) /\ Below w.heap.size w w' := by
  generalize hPP : (fun (e : Ending) (w' : World) => e = .returned (.int .u64 (r)) /\ Below w.heap.size w w') = PP
  have HPP : Hid (∀ v w',v = .int .u64 (r) -> Below w.heap.size w w' -> PP (.returned v) w') := fun v w' h1 h2 => by rw [<- hPP]; exact ⟨by rw [h1],h2⟩
  clear hPP; have h0 : VS w V B M k q lv tv m cn T f n (w.alloc (Obj.cells (ndA n) 40 (0,0))) := ⟨bel1 w _,h.below (bel1 w _),heap_alloc_new w _⟩; have HAt : Hid (∀ X i,i < m -> VS w V B M k q lv tv m cn T f n X -> Calls Tryz.prog 62 #[.agg #[lv,tv],.int .i64 (i : Int)] X fun e w' => e = .returned (.int .u64 ((f i : Nat) : Int)) /\ VS w V B M k q lv tv m cn T f n w') := fun X i hi hS => (nat_any q m cn lv tv f i X hS.2.1.ul hi).mono fun e w' ⟨he,hb⟩ => ⟨he,hS.to hb⟩
  have HB : Hid (∀ W,Calls Tryz.prog 69 #[.int .i64 25,.int .i64 n.w,.int .u64 ((f ia : Nat) : Int),.int .u64 ((f ib : Nat) : Int)] W fun e w' => e = .returned (.tuple #[.int .u64 r,.int .i64 er]) /\ Below W.heap.size W w') := hB; clear hB; clear h; have HS0 : Hid (VS w V B M k q lv tv m cn T f n (w.alloc (Obj.cells (ndA n) 40 (0,0))).drew) := ⟨h0.1.trans ⟨rfl,rfl,rfl,Nat.le_refl _,fun _ _ => rfl⟩,⟨h0.2.1.vb,h0.2.1.tm,h0.2.1.ul.keep rfl⟩,h0.2.2⟩; obtain ⟨op,u,a,b,c,num,nm⟩ := n
  dsimp only at *
  subst ea eb ec; obtain rfl : op = 25 := eop; clear h0; unfold nodeV ndA at *
  dsimp only at *
  go_enter Tryz.func39,Tryz.ntmps39
  go_upto_region 1 with fail
  refine qn_intro ?_; have hz0 := HS0.out
  generalize (w.alloc (Obj.cells #[.int .i64 25,.int .i64 u,.int .i64 (ia : Int),.int .i64 (ib : Int),.int .i64 (ic : Int),.int .u64 num,.string nm] 40 (0,0))) = W0 at *
  refine sq_start (VS w V B M k q lv tv m cn T f ⟨25,u,ia,ib,ic,num,nm⟩) [6,13,20] [0,1,2,3,4,5,7,8,9,10,11,12,14,15,16,17,18,19,6,13,20,21,22,23] (by kernel_rfl) (by kernel_rfl) hz0 ?_
  repeat (refine sq_op (v := ?_) (by rfl) (by rfl) (by rfl) ?_ ?_; rotate_left; (focus (intro w hSw; obtain ⟨c0,c1,c2,c3,d0,d1,d2,d3,d4,d5,d6⟩ := hSw.cs; go_simp <;> with_reducible rfl)); simp only [Act.put,List.setIfInBounds_toArray,List.set_cons_zero,List.set_cons_succ])
  refine sq_do (by rfl) (by rfl) (by rfl) (fun K hK => ?_)
  go_simp
  go_at_call 62
  refine (HAt.out _ _ la hz0).mono ?_; rintro e w3 ⟨rfl,hz1⟩; refine hK.out _ _ hz1 (fun _ => ?_); clear hK K
  try simp only [Act.put,List.setIfInBounds_toArray,List.set_cons_zero,List.set_cons_succ]
  repeat (refine sq_op (v := ?_) (by rfl) (by rfl) (by rfl) ?_ ?_; rotate_left; (focus (intro w hSw; obtain ⟨c0,c1,c2,c3,d0,d1,d2,d3,d4,d5,d6⟩ := hSw.cs; go_simp <;> with_reducible rfl)); simp only [Act.put,List.setIfInBounds_toArray,List.set_cons_zero,List.set_cons_succ])
  refine sq_do (by rfl) (by rfl) (by rfl) (fun K hK => ?_)
  go_simp
  go_at_call 62
  refine (HAt.out _ _ lb hz1).mono ?_; rintro e w4 ⟨rfl,hz2⟩; refine hK.out _ _ hz2 (fun _ => ?_); clear hK K
  try simp only [Act.put,List.setIfInBounds_toArray,List.set_cons_zero,List.set_cons_succ]
  repeat (refine sq_op (v := ?_) (by rfl) (by rfl) (by rfl) ?_ ?_; rotate_left; (focus (intro w hSw; obtain ⟨c0,c1,c2,c3,d0,d1,d2,d3,d4,d5,d6⟩ := hSw.cs; go_simp <;> with_reducible rfl)); simp only [Act.put,List.setIfInBounds_toArray,List.set_cons_zero,List.set_cons_succ])
  refine sq_do (by rfl) (by rfl) (by rfl) (fun K hK => ?_)
  go_simp
  go_at_call 62
  refine (HAt.out _ _ lc hz2).mono ?_; rintro e w5 ⟨rfl,hz3⟩; refine hK.out _ _ hz3 (fun _ => ?_); clear hK K
  try simp only [Act.put,List.setIfInBounds_toArray,List.set_cons_zero,List.set_cons_succ]
  repeat (refine sq_op (v := ?_) (by rfl) (by rfl) (by rfl) ?_ ?_; rotate_left; (focus (intro w hSw; obtain ⟨c0,c1,c2,c3,d0,d1,d2,d3,d4,d5,d6⟩ := hSw.cs; go_simp <;> with_reducible rfl)); simp only [Act.put,List.setIfInBounds_toArray,List.set_cons_zero,List.set_cons_succ])
  refine sq_end (fun _ => ?_); unfold QN
  dsimp only
  have HZ3 : Hid (VS w V B M k q lv tv m cn T f ⟨25,u,ia,ib,ic,num,nm⟩ w5) := hz3; obtain ⟨c0,c1,c2,c3,d0,d1,d2,d3,d4,d5,d6⟩ := hz3.cs
  dsimp only at d0 d1 d2 d3 d4 d5 d6
  clear hz0 hz1 hz2 hz3 HS0 HAt
  generalize ((f ia : Nat) : Int) = x at *
  generalize ((f ib : Nat) : Int) = y at *
  generalize ((f ic : Nat) : Int) = z at *
  go_wp2_with fail
  refine (HB.out w5).mono ?_; rintro e w6 ⟨rfl,hb6⟩; have HZ6 := HZ3.out.1.trans (below_le' hb6 HZ3.out.1.size)
  go_wp2_with fail
  exact HPP.out _ _ rfl HZ6
theorem of_p26 (V B M k q : Nat) (lv tv : Value) (m cn : Nat) (T : ByteArray -> Option Vl) (f : Nat -> Nat) (n : Nd) (ia ib ic : Nat) (w : World) (h : VA w V B M k q lv tv m cn T f) (ea : n.a = (ia : Int)) (eb : n.b = (ib : Int)) (ec : n.c = (ic : Int)) (la : ia < m) (lb : ib < m) (lc : ic < m) (eop : n.op = 26) (r er : Int) (hB : ∀ W,Calls Tryz.prog 69 #[.int .i64 26,.int .i64 n.w,.int .u64 ((f ia : Nat) : Int),.int .u64 ((f ib : Nat) : Int)] W fun e w' => e = .returned (.tuple #[.int .u64 r,.int .i64 er]) /\ Below W.heap.size W w') :
    Calls Tryz.prog 39 #[.pointer (some ⟨V,0,none⟩),nodeV n] w fun e w' => e = .returned (.int .u64 (r)) /\ Below w.heap.size w w' := by
  generalize hPP : (fun (e : Ending) (w' : World) => e = .returned (.int .u64 (r)) /\ Below w.heap.size w w') = PP
  have HPP : Hid (∀ v w',v = .int .u64 (r) -> Below w.heap.size w w' -> PP (.returned v) w') := fun v w' h1 h2 => by rw [<- hPP]; exact ⟨by rw [h1],h2⟩
  clear hPP; have h0 : VS w V B M k q lv tv m cn T f n (w.alloc (Obj.cells (ndA n) 40 (0,0))) := ⟨bel1 w _,h.below (bel1 w _),heap_alloc_new w _⟩; have HAt : Hid (∀ X i,i < m -> VS w V B M k q lv tv m cn T f n X -> Calls Tryz.prog 62 #[.agg #[lv,tv],.int .i64 (i : Int)] X fun e w' => e = .returned (.int .u64 ((f i : Nat) : Int)) /\ VS w V B M k q lv tv m cn T f n w') := fun X i hi hS => (nat_any q m cn lv tv f i X hS.2.1.ul hi).mono fun e w' ⟨he,hb⟩ => ⟨he,hS.to hb⟩
  have HB : Hid (∀ W,Calls Tryz.prog 69 #[.int .i64 26,.int .i64 n.w,.int .u64 ((f ia : Nat) : Int),.int .u64 ((f ib : Nat) : Int)] W fun e w' => e = .returned (.tuple #[.int .u64 r,.int .i64 er]) /\ Below W.heap.size W w') := hB; clear hB; clear h; have HS0 : Hid (VS w V B M k q lv tv m cn T f n (w.alloc (Obj.cells (ndA n) 40 (0,0))).drew) := ⟨h0.1.trans ⟨rfl,rfl,rfl,Nat.le_refl _,fun _ _ => rfl⟩,⟨h0.2.1.vb,h0.2.1.tm,h0.2.1.ul.keep rfl⟩,h0.2.2⟩; obtain ⟨op,u,a,b,c,num,nm⟩ := n
  dsimp only at *
  subst ea eb ec; obtain rfl : op = 26 := eop; clear h0; unfold nodeV ndA at *
  dsimp only at *
  go_enter Tryz.func39,Tryz.ntmps39
  go_upto_region 1 with fail
  refine qn_intro ?_; have hz0 := HS0.out
  generalize (w.alloc (Obj.cells #[.int .i64 26,.int .i64 u,.int .i64 (ia : Int),.int .i64 (ib : Int),.int .i64 (ic : Int),.int .u64 num,.string nm] 40 (0,0))) = W0 at *
  refine sq_start (VS w V B M k q lv tv m cn T f ⟨26,u,ia,ib,ic,num,nm⟩) [6,13,20] [0,1,2,3,4,5,7,8,9,10,11,12,14,15,16,17,18,19,6,13,20,21,22,23] (by kernel_rfl) (by kernel_rfl) hz0 ?_
  repeat (refine sq_op (v := ?_) (by rfl) (by rfl) (by rfl) ?_ ?_; rotate_left; (focus (intro w hSw; obtain ⟨c0,c1,c2,c3,d0,d1,d2,d3,d4,d5,d6⟩ := hSw.cs; go_simp <;> with_reducible rfl)); simp only [Act.put,List.setIfInBounds_toArray,List.set_cons_zero,List.set_cons_succ])
  refine sq_do (by rfl) (by rfl) (by rfl) (fun K hK => ?_)
  go_simp
  go_at_call 62
  refine (HAt.out _ _ la hz0).mono ?_; rintro e w3 ⟨rfl,hz1⟩; refine hK.out _ _ hz1 (fun _ => ?_); clear hK K
  try simp only [Act.put,List.setIfInBounds_toArray,List.set_cons_zero,List.set_cons_succ]
  repeat (refine sq_op (v := ?_) (by rfl) (by rfl) (by rfl) ?_ ?_; rotate_left; (focus (intro w hSw; obtain ⟨c0,c1,c2,c3,d0,d1,d2,d3,d4,d5,d6⟩ := hSw.cs; go_simp <;> with_reducible rfl)); simp only [Act.put,List.setIfInBounds_toArray,List.set_cons_zero,List.set_cons_succ])
  refine sq_do (by rfl) (by rfl) (by rfl) (fun K hK => ?_)
  go_simp
  go_at_call 62
  refine (HAt.out _ _ lb hz1).mono ?_; rintro e w4 ⟨rfl,hz2⟩; refine hK.out _ _ hz2 (fun _ => ?_); clear hK K
  try simp only [Act.put,List.setIfInBounds_toArray,List.set_cons_zero,List.set_cons_succ]
  repeat (refine sq_op (v := ?_) (by rfl) (by rfl) (by rfl) ?_ ?_; rotate_left; (focus (intro w hSw; obtain ⟨c0,c1,c2,c3,d0,d1,d2,d3,d4,d5,d6⟩ := hSw.cs; go_simp <;> with_reducible rfl)); simp only [Act.put,List.setIfInBounds_toArray,List.set_cons_zero,List.set_cons_succ])
  refine sq_do (by rfl) (by rfl) (by rfl) (fun K hK => ?_)
  go_simp
  go_at_call 62
  refine (HAt.out _ _ lc hz2).mono ?_; rintro e w5 ⟨rfl,hz3⟩; refine hK.out _ _ hz3 (fun _ => ?_); clear hK K
  try simp only [Act.put,List.setIfInBounds_toArray,List.set_cons_zero,List.set_cons_succ]
  repeat (refine sq_op (v := ?_) (by rfl) (by rfl) (by rfl) ?_ ?_; rotate_left; (focus (intro w hSw; obtain ⟨c0,c1,c2,c3,d0,d1,d2,d3,d4,d5,d6⟩ := hSw.cs; go_simp <;> with_reducible rfl)); simp only [Act.put,List.setIfInBounds_toArray,List.set_cons_zero,List.set_cons_succ])
  refine sq_end (fun _ => ?_); unfold QN
  dsimp only
  have HZ3 : Hid (VS w V B M k q lv tv m cn T f ⟨26,u,ia,ib,ic,num,nm⟩ w5) := hz3; obtain ⟨c0,c1,c2,c3,d0,d1,d2,d3,d4,d5,d6⟩ := hz3.cs
  dsimp only at d0 d1 d2 d3 d4 d5 d6
  clear hz0 hz1 hz2 hz3 HS0 HAt
  generalize ((f ia : Nat) : Int) = x at *
  generalize ((f ib : Nat) : Int) = y at *
  generalize ((f ic : Nat) : Int) = z at *
  go_wp2_with fail
  refine (HB.out w5).mono ?_; rintro e w6 ⟨rfl,hb6⟩; have HZ6 := HZ3.out.1.trans (below_le' hb6 HZ3.out.1.size)
  go_wp2_with fail
  exact HPP.out _ _ rfl HZ6
theorem of_p27 (V B M k q : Nat) (lv tv : Value) (m cn : Nat) (T : ByteArray -> Option Vl) (f : Nat -> Nat) (n : Nd) (ia ib ic : Nat) (w : World) (h : VA w V B M k q lv tv m cn T f) (ea : n.a = (ia : Int)) (eb : n.b = (ib : Int)) (ec : n.c = (ic : Int)) (la : ia < m) (lb : ib < m) (lc : ic < m) (eop : n.op = 27) (r er : Int) (hB : ∀ W,Calls Tryz.prog 69 #[.int .i64 27,.int .i64 n.w,.int .u64 ((f ia : Nat) : Int),.int .u64 ((f ib : Nat) : Int)] W fun e w' => e = .returned (.tuple #[.int .u64 r,.int .i64 er]) /\ Below W.heap.size W w') :
    Calls Tryz.prog 39 #[.pointer (some ⟨V,0,none⟩),nodeV n] w fun e w' => e = .returned (.int .u64 (r)) /\ Below w.heap.size w w' := by
  generalize hPP : (fun (e : Ending) (w' : World) => e = .returned (.int .u64 (r)) /\ Below w.heap.size w w') = PP
  have HPP : Hid (∀ v w',v = .int .u64 (r) -> Below w.heap.size w w' -> PP (.returned v) w') := fun v w' h1 h2 => by rw [<- hPP]; exact ⟨by rw [h1],h2⟩
  clear hPP; have h0 : VS w V B M k q lv tv m cn T f n (w.alloc (Obj.cells (ndA n) 40 (0,0))) := ⟨bel1 w _,h.below (bel1 w _),heap_alloc_new w _⟩; have HAt : Hid (∀ X i,i < m -> VS w V B M k q lv tv m cn T f n X -> Calls Tryz.prog 62 #[.agg #[lv,tv],.int .i64 (i : Int)] X fun e w' => e = .returned (.int .u64 ((f i : Nat) : Int)) /\ VS w V B M k q lv tv m cn T f n w') := fun X i hi hS => (nat_any q m cn lv tv f i X hS.2.1.ul hi).mono fun e w' ⟨he,hb⟩ => ⟨he,hS.to hb⟩
  have HB : Hid (∀ W,Calls Tryz.prog 69 #[.int .i64 27,.int .i64 n.w,.int .u64 ((f ia : Nat) : Int),.int .u64 ((f ib : Nat) : Int)] W fun e w' => e = .returned (.tuple #[.int .u64 r,.int .i64 er]) /\ Below W.heap.size W w') := hB; clear hB; clear h; have HS0 : Hid (VS w V B M k q lv tv m cn T f n (w.alloc (Obj.cells (ndA n) 40 (0,0))).drew) := ⟨h0.1.trans ⟨rfl,rfl,rfl,Nat.le_refl _,fun _ _ => rfl⟩,⟨h0.2.1.vb,h0.2.1.tm,h0.2.1.ul.keep rfl⟩,h0.2.2⟩; obtain ⟨op,u,a,b,c,num,nm⟩ := n
  dsimp only at *
  subst ea eb ec; obtain rfl : op = 27 := eop; clear h0; unfold nodeV ndA at *
  dsimp only at *
  go_enter Tryz.func39,Tryz.ntmps39
  go_upto_region 1 with fail
  refine qn_intro ?_; have hz0 := HS0.out
  generalize (w.alloc (Obj.cells #[.int .i64 27,.int .i64 u,.int .i64 (ia : Int),.int .i64 (ib : Int),.int .i64 (ic : Int),.int .u64 num,.string nm] 40 (0,0))) = W0 at *
  refine sq_start (VS w V B M k q lv tv m cn T f ⟨27,u,ia,ib,ic,num,nm⟩) [6,13,20] [0,1,2,3,4,5,7,8,9,10,11,12,14,15,16,17,18,19,6,13,20,21,22,23] (by kernel_rfl) (by kernel_rfl) hz0 ?_
  repeat (refine sq_op (v := ?_) (by rfl) (by rfl) (by rfl) ?_ ?_; rotate_left; (focus (intro w hSw; obtain ⟨c0,c1,c2,c3,d0,d1,d2,d3,d4,d5,d6⟩ := hSw.cs; go_simp <;> with_reducible rfl)); simp only [Act.put,List.setIfInBounds_toArray,List.set_cons_zero,List.set_cons_succ])
  refine sq_do (by rfl) (by rfl) (by rfl) (fun K hK => ?_)
  go_simp
  go_at_call 62
  refine (HAt.out _ _ la hz0).mono ?_; rintro e w3 ⟨rfl,hz1⟩; refine hK.out _ _ hz1 (fun _ => ?_); clear hK K
  try simp only [Act.put,List.setIfInBounds_toArray,List.set_cons_zero,List.set_cons_succ]
  repeat (refine sq_op (v := ?_) (by rfl) (by rfl) (by rfl) ?_ ?_; rotate_left; (focus (intro w hSw; obtain ⟨c0,c1,c2,c3,d0,d1,d2,d3,d4,d5,d6⟩ := hSw.cs; go_simp <;> with_reducible rfl)); simp only [Act.put,List.setIfInBounds_toArray,List.set_cons_zero,List.set_cons_succ])
  refine sq_do (by rfl) (by rfl) (by rfl) (fun K hK => ?_)
  go_simp
  go_at_call 62
  refine (HAt.out _ _ lb hz1).mono ?_; rintro e w4 ⟨rfl,hz2⟩; refine hK.out _ _ hz2 (fun _ => ?_); clear hK K
  try simp only [Act.put,List.setIfInBounds_toArray,List.set_cons_zero,List.set_cons_succ]
  repeat (refine sq_op (v := ?_) (by rfl) (by rfl) (by rfl) ?_ ?_; rotate_left; (focus (intro w hSw; obtain ⟨c0,c1,c2,c3,d0,d1,d2,d3,d4,d5,d6⟩ := hSw.cs; go_simp <;> with_reducible rfl)); simp only [Act.put,List.setIfInBounds_toArray,List.set_cons_zero,List.set_cons_succ])
  refine sq_do (by rfl) (by rfl) (by rfl) (fun K hK => ?_)
  go_simp
  go_at_call 62
  refine (HAt.out _ _ lc hz2).mono ?_; rintro e w5 ⟨rfl,hz3⟩; refine hK.out _ _ hz3 (fun _ => ?_); clear hK K
  try simp only [Act.put,List.setIfInBounds_toArray,List.set_cons_zero,List.set_cons_succ]
  repeat (refine sq_op (v := ?_) (by rfl) (by rfl) (by rfl) ?_ ?_; rotate_left; (focus (intro w hSw; obtain ⟨c0,c1,c2,c3,d0,d1,d2,d3,d4,d5,d6⟩ := hSw.cs; go_simp <;> with_reducible rfl)); simp only [Act.put,List.setIfInBounds_toArray,List.set_cons_zero,List.set_cons_succ])
  refine sq_end (fun _ => ?_); unfold QN
  dsimp only
  have HZ3 : Hid (VS w V B M k q lv tv m cn T f ⟨27,u,ia,ib,ic,num,nm⟩ w5) := hz3; obtain ⟨c0,c1,c2,c3,d0,d1,d2,d3,d4,d5,d6⟩ := hz3.cs
  dsimp only at d0 d1 d2 d3 d4 d5 d6
  clear hz0 hz1 hz2 hz3 HS0 HAt
  generalize ((f ia : Nat) : Int) = x at *
  generalize ((f ib : Nat) : Int) = y at *
  generalize ((f ic : Nat) : Int) = z at *
  go_wp2_with fail
  refine (HB.out w5).mono ?_; rintro e w6 ⟨rfl,hb6⟩; have HZ6 := HZ3.out.1.trans (below_le' hb6 HZ3.out.1.size)
  go_wp2_with fail
  exact HPP.out _ _ rfl HZ6
theorem of_p28 (V B M k q : Nat) (lv tv : Value) (m cn : Nat) (T : ByteArray -> Option Vl) (f : Nat -> Nat) (n : Nd) (ia ib ic : Nat) (w : World) (h : VA w V B M k q lv tv m cn T f) (ea : n.a = (ia : Int)) (eb : n.b = (ib : Int)) (ec : n.c = (ic : Int)) (la : ia < m) (lb : ib < m) (lc : ic < m) (eop : n.op = 28) (r er : Int) (hB : ∀ W,Calls Tryz.prog 69 #[.int .i64 28,.int .i64 n.w,.int .u64 ((f ia : Nat) : Int),.int .u64 ((f ib : Nat) : Int)] W fun e w' => e = .returned (.tuple #[.int .u64 r,.int .i64 er]) /\ Below W.heap.size W w') :
    Calls Tryz.prog 39 #[.pointer (some ⟨V,0,none⟩),nodeV n] w fun e w' => e = .returned (.int .u64 (r)) /\ Below w.heap.size w w' := by
  generalize hPP : (fun (e : Ending) (w' : World) => e = .returned (.int .u64 (r)) /\ Below w.heap.size w w') = PP
  have HPP : Hid (∀ v w',v = .int .u64 (r) -> Below w.heap.size w w' -> PP (.returned v) w') := fun v w' h1 h2 => by rw [<- hPP]; exact ⟨by rw [h1],h2⟩
  clear hPP; have h0 : VS w V B M k q lv tv m cn T f n (w.alloc (Obj.cells (ndA n) 40 (0,0))) := ⟨bel1 w _,h.below (bel1 w _),heap_alloc_new w _⟩; have HAt : Hid (∀ X i,i < m -> VS w V B M k q lv tv m cn T f n X -> Calls Tryz.prog 62 #[.agg #[lv,tv],.int .i64 (i : Int)] X fun e w' => e = .returned (.int .u64 ((f i : Nat) : Int)) /\ VS w V B M k q lv tv m cn T f n w') := fun X i hi hS => (nat_any q m cn lv tv f i X hS.2.1.ul hi).mono fun e w' ⟨he,hb⟩ => ⟨he,hS.to hb⟩
  have HB : Hid (∀ W,Calls Tryz.prog 69 #[.int .i64 28,.int .i64 n.w,.int .u64 ((f ia : Nat) : Int),.int .u64 ((f ib : Nat) : Int)] W fun e w' => e = .returned (.tuple #[.int .u64 r,.int .i64 er]) /\ Below W.heap.size W w') := hB; clear hB; clear h; have HS0 : Hid (VS w V B M k q lv tv m cn T f n (w.alloc (Obj.cells (ndA n) 40 (0,0))).drew) := ⟨h0.1.trans ⟨rfl,rfl,rfl,Nat.le_refl _,fun _ _ => rfl⟩,⟨h0.2.1.vb,h0.2.1.tm,h0.2.1.ul.keep rfl⟩,h0.2.2⟩; obtain ⟨op,u,a,b,c,num,nm⟩ := n
  dsimp only at *
  subst ea eb ec; obtain rfl : op = 28 := eop; clear h0; unfold nodeV ndA at *
  dsimp only at *
  go_enter Tryz.func39,Tryz.ntmps39
  go_upto_region 1 with fail
  refine qn_intro ?_; have hz0 := HS0.out
  generalize (w.alloc (Obj.cells #[.int .i64 28,.int .i64 u,.int .i64 (ia : Int),.int .i64 (ib : Int),.int .i64 (ic : Int),.int .u64 num,.string nm] 40 (0,0))) = W0 at *
  refine sq_start (VS w V B M k q lv tv m cn T f ⟨28,u,ia,ib,ic,num,nm⟩) [6,13,20] [0,1,2,3,4,5,7,8,9,10,11,12,14,15,16,17,18,19,6,13,20,21,22,23] (by kernel_rfl) (by kernel_rfl) hz0 ?_
  repeat (refine sq_op (v := ?_) (by rfl) (by rfl) (by rfl) ?_ ?_; rotate_left; (focus (intro w hSw; obtain ⟨c0,c1,c2,c3,d0,d1,d2,d3,d4,d5,d6⟩ := hSw.cs; go_simp <;> with_reducible rfl)); simp only [Act.put,List.setIfInBounds_toArray,List.set_cons_zero,List.set_cons_succ])
  refine sq_do (by rfl) (by rfl) (by rfl) (fun K hK => ?_)
  go_simp
  go_at_call 62
  refine (HAt.out _ _ la hz0).mono ?_; rintro e w3 ⟨rfl,hz1⟩; refine hK.out _ _ hz1 (fun _ => ?_); clear hK K
  try simp only [Act.put,List.setIfInBounds_toArray,List.set_cons_zero,List.set_cons_succ]
  repeat (refine sq_op (v := ?_) (by rfl) (by rfl) (by rfl) ?_ ?_; rotate_left; (focus (intro w hSw; obtain ⟨c0,c1,c2,c3,d0,d1,d2,d3,d4,d5,d6⟩ := hSw.cs; go_simp <;> with_reducible rfl)); simp only [Act.put,List.setIfInBounds_toArray,List.set_cons_zero,List.set_cons_succ])
  refine sq_do (by rfl) (by rfl) (by rfl) (fun K hK => ?_)
  go_simp
  go_at_call 62
  refine (HAt.out _ _ lb hz1).mono ?_; rintro e w4 ⟨rfl,hz2⟩; refine hK.out _ _ hz2 (fun _ => ?_); clear hK K
  try simp only [Act.put,List.setIfInBounds_toArray,List.set_cons_zero,List.set_cons_succ]
  repeat (refine sq_op (v := ?_) (by rfl) (by rfl) (by rfl) ?_ ?_; rotate_left; (focus (intro w hSw; obtain ⟨c0,c1,c2,c3,d0,d1,d2,d3,d4,d5,d6⟩ := hSw.cs; go_simp <;> with_reducible rfl)); simp only [Act.put,List.setIfInBounds_toArray,List.set_cons_zero,List.set_cons_succ])
  refine sq_do (by rfl) (by rfl) (by rfl) (fun K hK => ?_)
  go_simp
  go_at_call 62
  refine (HAt.out _ _ lc hz2).mono ?_; rintro e w5 ⟨rfl,hz3⟩; refine hK.out _ _ hz3 (fun _ => ?_); clear hK K
  try simp only [Act.put,List.setIfInBounds_toArray,List.set_cons_zero,List.set_cons_succ]
  repeat (refine sq_op (v := ?_) (by rfl) (by rfl) (by rfl) ?_ ?_; rotate_left; (focus (intro w hSw; obtain ⟨c0,c1,c2,c3,d0,d1,d2,d3,d4,d5,d6⟩ := hSw.cs; go_simp <;> with_reducible rfl)); simp only [Act.put,List.setIfInBounds_toArray,List.set_cons_zero,List.set_cons_succ])
  refine sq_end (fun _ => ?_); unfold QN
  dsimp only
  have HZ3 : Hid (VS w V B M k q lv tv m cn T f ⟨28,u,ia,ib,ic,num,nm⟩ w5) := hz3; obtain ⟨c0,c1,c2,c3,d0,d1,d2,d3,d4,d5,d6⟩ := hz3.cs
  dsimp only at d0 d1 d2 d3 d4 d5 d6
  clear hz0 hz1 hz2 hz3 HS0 HAt
  generalize ((f ia : Nat) : Int) = x at *
  generalize ((f ib : Nat) : Int) = y at *
  generalize ((f ic : Nat) : Int) = z at *
  go_wp2_with fail
  refine (HB.out w5).mono ?_; rintro e w6 ⟨rfl,hb6⟩; have HZ6 := HZ3.out.1.trans (below_le' hb6 HZ3.out.1.size)
  go_wp2_with fail
  exact HPP.out _ _ rfl HZ6
theorem of_p29 (V B M k q : Nat) (lv tv : Value) (m cn : Nat) (T : ByteArray -> Option Vl) (f : Nat -> Nat) (n : Nd) (ia ib ic : Nat) (w : World) (h : VA w V B M k q lv tv m cn T f) (ea : n.a = (ia : Int)) (eb : n.b = (ib : Int)) (ec : n.c = (ic : Int)) (la : ia < m) (lb : ib < m) (lc : ic < m) (eop : n.op = 29) (r er : Int) (hB : ∀ W,Calls Tryz.prog 69 #[.int .i64 29,.int .i64 n.w,.int .u64 ((f ia : Nat) : Int),.int .u64 ((f ib : Nat) : Int)] W fun e w' => e = .returned (.tuple #[.int .u64 r,.int .i64 er]) /\ Below W.heap.size W w') :
    Calls Tryz.prog 39 #[.pointer (some ⟨V,0,none⟩),nodeV n] w fun e w' => e = .returned (.int .u64 (r)) /\ Below w.heap.size w w' := by
  generalize hPP : (fun (e : Ending) (w' : World) => e = .returned (.int .u64 (r)) /\ Below w.heap.size w w') = PP
  have HPP : Hid (∀ v w',v = .int .u64 (r) -> Below w.heap.size w w' -> PP (.returned v) w') := fun v w' h1 h2 => by rw [<- hPP]; exact ⟨by rw [h1],h2⟩
  clear hPP; have h0 : VS w V B M k q lv tv m cn T f n (w.alloc (Obj.cells (ndA n) 40 (0,0))) := ⟨bel1 w _,h.below (bel1 w _),heap_alloc_new w _⟩; have HAt : Hid (∀ X i,i < m -> VS w V B M k q lv tv m cn T f n X -> Calls Tryz.prog 62 #[.agg #[lv,tv],.int .i64 (i : Int)] X fun e w' => e = .returned (.int .u64 ((f i : Nat) : Int)) /\ VS w V B M k q lv tv m cn T f n w') := fun X i hi hS => (nat_any q m cn lv tv f i X hS.2.1.ul hi).mono fun e w' ⟨he,hb⟩ => ⟨he,hS.to hb⟩
  have HB : Hid (∀ W,Calls Tryz.prog 69 #[.int .i64 29,.int .i64 n.w,.int .u64 ((f ia : Nat) : Int),.int .u64 ((f ib : Nat) : Int)] W fun e w' => e = .returned (.tuple #[.int .u64 r,.int .i64 er]) /\ Below W.heap.size W w') := hB; clear hB; clear h; have HS0 : Hid (VS w V B M k q lv tv m cn T f n (w.alloc (Obj.cells (ndA n) 40 (0,0))).drew) := ⟨h0.1.trans ⟨rfl,rfl,rfl,Nat.le_refl _,fun _ _ => rfl⟩,⟨h0.2.1.vb,h0.2.1.tm,h0.2.1.ul.keep rfl⟩,h0.2.2⟩; obtain ⟨op,u,a,b,c,num,nm⟩ := n
  dsimp only at *
  subst ea eb ec; obtain rfl : op = 29 := eop; clear h0; unfold nodeV ndA at *
  dsimp only at *
  go_enter Tryz.func39,Tryz.ntmps39
  go_upto_region 1 with fail
  refine qn_intro ?_; have hz0 := HS0.out
  generalize (w.alloc (Obj.cells #[.int .i64 29,.int .i64 u,.int .i64 (ia : Int),.int .i64 (ib : Int),.int .i64 (ic : Int),.int .u64 num,.string nm] 40 (0,0))) = W0 at *
  refine sq_start (VS w V B M k q lv tv m cn T f ⟨29,u,ia,ib,ic,num,nm⟩) [6,13,20] [0,1,2,3,4,5,7,8,9,10,11,12,14,15,16,17,18,19,6,13,20,21,22,23] (by kernel_rfl) (by kernel_rfl) hz0 ?_
  repeat (refine sq_op (v := ?_) (by rfl) (by rfl) (by rfl) ?_ ?_; rotate_left; (focus (intro w hSw; obtain ⟨c0,c1,c2,c3,d0,d1,d2,d3,d4,d5,d6⟩ := hSw.cs; go_simp <;> with_reducible rfl)); simp only [Act.put,List.setIfInBounds_toArray,List.set_cons_zero,List.set_cons_succ])
  refine sq_do (by rfl) (by rfl) (by rfl) (fun K hK => ?_)
  go_simp
  go_at_call 62
  refine (HAt.out _ _ la hz0).mono ?_; rintro e w3 ⟨rfl,hz1⟩; refine hK.out _ _ hz1 (fun _ => ?_); clear hK K
  try simp only [Act.put,List.setIfInBounds_toArray,List.set_cons_zero,List.set_cons_succ]
  repeat (refine sq_op (v := ?_) (by rfl) (by rfl) (by rfl) ?_ ?_; rotate_left; (focus (intro w hSw; obtain ⟨c0,c1,c2,c3,d0,d1,d2,d3,d4,d5,d6⟩ := hSw.cs; go_simp <;> with_reducible rfl)); simp only [Act.put,List.setIfInBounds_toArray,List.set_cons_zero,List.set_cons_succ])
  refine sq_do (by rfl) (by rfl) (by rfl) (fun K hK => ?_)
  go_simp
  go_at_call 62
  refine (HAt.out _ _ lb hz1).mono ?_; rintro e w4 ⟨rfl,hz2⟩; refine hK.out _ _ hz2 (fun _ => ?_); clear hK K
  try simp only [Act.put,List.setIfInBounds_toArray,List.set_cons_zero,List.set_cons_succ]
  repeat (refine sq_op (v := ?_) (by rfl) (by rfl) (by rfl) ?_ ?_; rotate_left; (focus (intro w hSw; obtain ⟨c0,c1,c2,c3,d0,d1,d2,d3,d4,d5,d6⟩ := hSw.cs; go_simp <;> with_reducible rfl)); simp only [Act.put,List.setIfInBounds_toArray,List.set_cons_zero,List.set_cons_succ])
  refine sq_do (by rfl) (by rfl) (by rfl) (fun K hK => ?_)
  go_simp
  go_at_call 62
  refine (HAt.out _ _ lc hz2).mono ?_; rintro e w5 ⟨rfl,hz3⟩; refine hK.out _ _ hz3 (fun _ => ?_); clear hK K
  try simp only [Act.put,List.setIfInBounds_toArray,List.set_cons_zero,List.set_cons_succ]
  repeat (refine sq_op (v := ?_) (by rfl) (by rfl) (by rfl) ?_ ?_; rotate_left; (focus (intro w hSw; obtain ⟨c0,c1,c2,c3,d0,d1,d2,d3,d4,d5,d6⟩ := hSw.cs; go_simp <;> with_reducible rfl)); simp only [Act.put,List.setIfInBounds_toArray,List.set_cons_zero,List.set_cons_succ])
  refine sq_end (fun _ => ?_); unfold QN
  dsimp only
  have HZ3 : Hid (VS w V B M k q lv tv m cn T f ⟨29,u,ia,ib,ic,num,nm⟩ w5) := hz3; obtain ⟨c0,c1,c2,c3,d0,d1,d2,d3,d4,d5,d6⟩ := hz3.cs
  dsimp only at d0 d1 d2 d3 d4 d5 d6
  clear hz0 hz1 hz2 hz3 HS0 HAt
  generalize ((f ia : Nat) : Int) = x at *
  generalize ((f ib : Nat) : Int) = y at *
  generalize ((f ic : Nat) : Int) = z at *
  go_wp2_with fail
  refine (HB.out w5).mono ?_; rintro e w6 ⟨rfl,hb6⟩; have HZ6 := HZ3.out.1.trans (below_le' hb6 HZ3.out.1.size)
  go_wp2_with fail
  exact HPP.out _ _ rfl HZ6
theorem of_p15 (V B M k q : Nat) (lv tv : Value) (m cn : Nat) (T : ByteArray -> Option Vl) (f : Nat -> Nat) (n : Nd) (ia ib ic : Nat) (w : World) (h : VA w V B M k q lv tv m cn T f) (ea : n.a = (ia : Int)) (eb : n.b = (ib : Int)) (ec : n.c = (ic : Int)) (la : ia < m) (lb : ib < m) (lc : ic < m) (eop : n.op = 15) (r er : Int) (hB : ∀ W,Calls Tryz.prog 65 #[.int .i64 15,.int .i64 n.w,.int .u64 ((f ia : Nat) : Int)] W fun e w' => e = .returned (.tuple #[.int .u64 r,.int .i64 er]) /\ Below W.heap.size W w') :
    Calls Tryz.prog 39 #[.pointer (some ⟨V,0,none⟩),nodeV n] w fun e w' => e = .returned (.int .u64 (r)) /\ Below w.heap.size w w' := by
  generalize hPP : (fun (e : Ending) (w' : World) => e = .returned (.int .u64 (r)) /\ Below w.heap.size w w') = PP
  have HPP : Hid (∀ v w',v = .int .u64 (r) -> Below w.heap.size w w' -> PP (.returned v) w') := fun v w' h1 h2 => by rw [<- hPP]; exact ⟨by rw [h1],h2⟩
  clear hPP; have h0 : VS w V B M k q lv tv m cn T f n (w.alloc (Obj.cells (ndA n) 40 (0,0))) := ⟨bel1 w _,h.below (bel1 w _),heap_alloc_new w _⟩; have HAt : Hid (∀ X i,i < m -> VS w V B M k q lv tv m cn T f n X -> Calls Tryz.prog 62 #[.agg #[lv,tv],.int .i64 (i : Int)] X fun e w' => e = .returned (.int .u64 ((f i : Nat) : Int)) /\ VS w V B M k q lv tv m cn T f n w') := fun X i hi hS => (nat_any q m cn lv tv f i X hS.2.1.ul hi).mono fun e w' ⟨he,hb⟩ => ⟨he,hS.to hb⟩
  have HB : Hid (∀ W,Calls Tryz.prog 65 #[.int .i64 15,.int .i64 n.w,.int .u64 ((f ia : Nat) : Int)] W fun e w' => e = .returned (.tuple #[.int .u64 r,.int .i64 er]) /\ Below W.heap.size W w') := hB; clear hB; clear h; have HS0 : Hid (VS w V B M k q lv tv m cn T f n (w.alloc (Obj.cells (ndA n) 40 (0,0))).drew) := ⟨h0.1.trans ⟨rfl,rfl,rfl,Nat.le_refl _,fun _ _ => rfl⟩,⟨h0.2.1.vb,h0.2.1.tm,h0.2.1.ul.keep rfl⟩,h0.2.2⟩; obtain ⟨op,u,a,b,c,num,nm⟩ := n
  dsimp only at *
  subst ea eb ec; obtain rfl : op = 15 := eop; clear h0; unfold nodeV ndA at *
  dsimp only at *
  go_enter Tryz.func39,Tryz.ntmps39
  go_upto_region 1 with fail
  refine qn_intro ?_; have hz0 := HS0.out
  generalize (w.alloc (Obj.cells #[.int .i64 15,.int .i64 u,.int .i64 (ia : Int),.int .i64 (ib : Int),.int .i64 (ic : Int),.int .u64 num,.string nm] 40 (0,0))) = W0 at *
  refine sq_start (VS w V B M k q lv tv m cn T f ⟨15,u,ia,ib,ic,num,nm⟩) [6,13,20] [0,1,2,3,4,5,7,8,9,10,11,12,14,15,16,17,18,19,6,13,20,21,22,23] (by kernel_rfl) (by kernel_rfl) hz0 ?_
  repeat (refine sq_op (v := ?_) (by rfl) (by rfl) (by rfl) ?_ ?_; rotate_left; (focus (intro w hSw; obtain ⟨c0,c1,c2,c3,d0,d1,d2,d3,d4,d5,d6⟩ := hSw.cs; go_simp <;> with_reducible rfl)); simp only [Act.put,List.setIfInBounds_toArray,List.set_cons_zero,List.set_cons_succ])
  refine sq_do (by rfl) (by rfl) (by rfl) (fun K hK => ?_)
  go_simp
  go_at_call 62
  refine (HAt.out _ _ la hz0).mono ?_; rintro e w3 ⟨rfl,hz1⟩; refine hK.out _ _ hz1 (fun _ => ?_); clear hK K
  try simp only [Act.put,List.setIfInBounds_toArray,List.set_cons_zero,List.set_cons_succ]
  repeat (refine sq_op (v := ?_) (by rfl) (by rfl) (by rfl) ?_ ?_; rotate_left; (focus (intro w hSw; obtain ⟨c0,c1,c2,c3,d0,d1,d2,d3,d4,d5,d6⟩ := hSw.cs; go_simp <;> with_reducible rfl)); simp only [Act.put,List.setIfInBounds_toArray,List.set_cons_zero,List.set_cons_succ])
  refine sq_do (by rfl) (by rfl) (by rfl) (fun K hK => ?_)
  go_simp
  go_at_call 62
  refine (HAt.out _ _ lb hz1).mono ?_; rintro e w4 ⟨rfl,hz2⟩; refine hK.out _ _ hz2 (fun _ => ?_); clear hK K
  try simp only [Act.put,List.setIfInBounds_toArray,List.set_cons_zero,List.set_cons_succ]
  repeat (refine sq_op (v := ?_) (by rfl) (by rfl) (by rfl) ?_ ?_; rotate_left; (focus (intro w hSw; obtain ⟨c0,c1,c2,c3,d0,d1,d2,d3,d4,d5,d6⟩ := hSw.cs; go_simp <;> with_reducible rfl)); simp only [Act.put,List.setIfInBounds_toArray,List.set_cons_zero,List.set_cons_succ])
  refine sq_do (by rfl) (by rfl) (by rfl) (fun K hK => ?_)
  go_simp
  go_at_call 62
  refine (HAt.out _ _ lc hz2).mono ?_; rintro e w5 ⟨rfl,hz3⟩; refine hK.out _ _ hz3 (fun _ => ?_); clear hK K
  try simp only [Act.put,List.setIfInBounds_toArray,List.set_cons_zero,List.set_cons_succ]
  repeat (refine sq_op (v := ?_) (by rfl) (by rfl) (by rfl) ?_ ?_; rotate_left; (focus (intro w hSw; obtain ⟨c0,c1,c2,c3,d0,d1,d2,d3,d4,d5,d6⟩ := hSw.cs; go_simp <;> with_reducible rfl)); simp only [Act.put,List.setIfInBounds_toArray,List.set_cons_zero,List.set_cons_succ])
  refine sq_end (fun _ => ?_); unfold QN
  dsimp only
  have HZ3 : Hid (VS w V B M k q lv tv m cn T f ⟨15,u,ia,ib,ic,num,nm⟩ w5) := hz3; obtain ⟨c0,c1,c2,c3,d0,d1,d2,d3,d4,d5,d6⟩ := hz3.cs
  dsimp only at d0 d1 d2 d3 d4 d5 d6
  clear hz0 hz1 hz2 hz3 HS0 HAt
  generalize ((f ia : Nat) : Int) = x at *
  generalize ((f ib : Nat) : Int) = y at *
  generalize ((f ic : Nat) : Int) = z at *
  go_wp2_with fail
  refine (HB.out w5).mono ?_; rintro e w6 ⟨rfl,hb6⟩; have HZ6 := HZ3.out.1.trans (below_le' hb6 HZ3.out.1.size)
  go_wp2_with fail
  exact HPP.out _ _ rfl HZ6
theorem of_p16 (V B M k q : Nat) (lv tv : Value) (m cn : Nat) (T : ByteArray -> Option Vl) (f : Nat -> Nat) (n : Nd) (ia ib ic : Nat) (w : World) (h : VA w V B M k q lv tv m cn T f) (ea : n.a = (ia : Int)) (eb : n.b = (ib : Int)) (ec : n.c = (ic : Int)) (la : ia < m) (lb : ib < m) (lc : ic < m) (eop : n.op = 16) (r er : Int) (hB : ∀ W,Calls Tryz.prog 65 #[.int .i64 16,.int .i64 n.w,.int .u64 ((f ia : Nat) : Int)] W fun e w' => e = .returned (.tuple #[.int .u64 r,.int .i64 er]) /\ Below W.heap.size W w') :
    Calls Tryz.prog 39 #[.pointer (some ⟨V,0,none⟩),nodeV n] w fun e w' => e = .returned (.int .u64 (r)) /\ Below w.heap.size w w' := by
  generalize hPP : (fun (e : Ending) (w' : World) => e = .returned (.int .u64 (r)) /\ Below w.heap.size w w') = PP
  have HPP : Hid (∀ v w',v = .int .u64 (r) -> Below w.heap.size w w' -> PP (.returned v) w') := fun v w' h1 h2 => by rw [<- hPP]; exact ⟨by rw [h1],h2⟩
  clear hPP; have h0 : VS w V B M k q lv tv m cn T f n (w.alloc (Obj.cells (ndA n) 40 (0,0))) := ⟨bel1 w _,h.below (bel1 w _),heap_alloc_new w _⟩; have HAt : Hid (∀ X i,i < m -> VS w V B M k q lv tv m cn T f n X -> Calls Tryz.prog 62 #[.agg #[lv,tv],.int .i64 (i : Int)] X fun e w' => e = .returned (.int .u64 ((f i : Nat) : Int)) /\ VS w V B M k q lv tv m cn T f n w') := fun X i hi hS => (nat_any q m cn lv tv f i X hS.2.1.ul hi).mono fun e w' ⟨he,hb⟩ => ⟨he,hS.to hb⟩
  have HB : Hid (∀ W,Calls Tryz.prog 65 #[.int .i64 16,.int .i64 n.w,.int .u64 ((f ia : Nat) : Int)] W fun e w' => e = .returned (.tuple #[.int .u64 r,.int .i64 er]) /\ Below W.heap.size W w') := hB; clear hB; clear h; have HS0 : Hid (VS w V B M k q lv tv m cn T f n (w.alloc (Obj.cells (ndA n) 40 (0,0))).drew) := ⟨h0.1.trans ⟨rfl,rfl,rfl,Nat.le_refl _,fun _ _ => rfl⟩,⟨h0.2.1.vb,h0.2.1.tm,h0.2.1.ul.keep rfl⟩,h0.2.2⟩; obtain ⟨op,u,a,b,c,num,nm⟩ := n
  dsimp only at *
  subst ea eb ec; obtain rfl : op = 16 := eop; clear h0; unfold nodeV ndA at *
  dsimp only at *
  go_enter Tryz.func39,Tryz.ntmps39
  go_upto_region 1 with fail
  refine qn_intro ?_; have hz0 := HS0.out
  generalize (w.alloc (Obj.cells #[.int .i64 16,.int .i64 u,.int .i64 (ia : Int),.int .i64 (ib : Int),.int .i64 (ic : Int),.int .u64 num,.string nm] 40 (0,0))) = W0 at *
  refine sq_start (VS w V B M k q lv tv m cn T f ⟨16,u,ia,ib,ic,num,nm⟩) [6,13,20] [0,1,2,3,4,5,7,8,9,10,11,12,14,15,16,17,18,19,6,13,20,21,22,23] (by kernel_rfl) (by kernel_rfl) hz0 ?_
  repeat (refine sq_op (v := ?_) (by rfl) (by rfl) (by rfl) ?_ ?_; rotate_left; (focus (intro w hSw; obtain ⟨c0,c1,c2,c3,d0,d1,d2,d3,d4,d5,d6⟩ := hSw.cs; go_simp <;> with_reducible rfl)); simp only [Act.put,List.setIfInBounds_toArray,List.set_cons_zero,List.set_cons_succ])
  refine sq_do (by rfl) (by rfl) (by rfl) (fun K hK => ?_)
  go_simp
  go_at_call 62
  refine (HAt.out _ _ la hz0).mono ?_; rintro e w3 ⟨rfl,hz1⟩; refine hK.out _ _ hz1 (fun _ => ?_); clear hK K
  try simp only [Act.put,List.setIfInBounds_toArray,List.set_cons_zero,List.set_cons_succ]
  repeat (refine sq_op (v := ?_) (by rfl) (by rfl) (by rfl) ?_ ?_; rotate_left; (focus (intro w hSw; obtain ⟨c0,c1,c2,c3,d0,d1,d2,d3,d4,d5,d6⟩ := hSw.cs; go_simp <;> with_reducible rfl)); simp only [Act.put,List.setIfInBounds_toArray,List.set_cons_zero,List.set_cons_succ])
  refine sq_do (by rfl) (by rfl) (by rfl) (fun K hK => ?_)
  go_simp
  go_at_call 62
  refine (HAt.out _ _ lb hz1).mono ?_; rintro e w4 ⟨rfl,hz2⟩; refine hK.out _ _ hz2 (fun _ => ?_); clear hK K
  try simp only [Act.put,List.setIfInBounds_toArray,List.set_cons_zero,List.set_cons_succ]
  repeat (refine sq_op (v := ?_) (by rfl) (by rfl) (by rfl) ?_ ?_; rotate_left; (focus (intro w hSw; obtain ⟨c0,c1,c2,c3,d0,d1,d2,d3,d4,d5,d6⟩ := hSw.cs; go_simp <;> with_reducible rfl)); simp only [Act.put,List.setIfInBounds_toArray,List.set_cons_zero,List.set_cons_succ])
  refine sq_do (by rfl) (by rfl) (by rfl) (fun K hK => ?_)
  go_simp
  go_at_call 62
  refine (HAt.out _ _ lc hz2).mono ?_; rintro e w5 ⟨rfl,hz3⟩; refine hK.out _ _ hz3 (fun _ => ?_); clear hK K
  try simp only [Act.put,List.setIfInBounds_toArray,List.set_cons_zero,List.set_cons_succ]
  repeat (refine sq_op (v := ?_) (by rfl) (by rfl) (by rfl) ?_ ?_; rotate_left; (focus (intro w hSw; obtain ⟨c0,c1,c2,c3,d0,d1,d2,d3,d4,d5,d6⟩ := hSw.cs; go_simp <;> with_reducible rfl)); simp only [Act.put,List.setIfInBounds_toArray,List.set_cons_zero,List.set_cons_succ])
  refine sq_end (fun _ => ?_); unfold QN
  dsimp only
  have HZ3 : Hid (VS w V B M k q lv tv m cn T f ⟨16,u,ia,ib,ic,num,nm⟩ w5) := hz3; obtain ⟨c0,c1,c2,c3,d0,d1,d2,d3,d4,d5,d6⟩ := hz3.cs
  dsimp only at d0 d1 d2 d3 d4 d5 d6
  clear hz0 hz1 hz2 hz3 HS0 HAt
  generalize ((f ia : Nat) : Int) = x at *
  generalize ((f ib : Nat) : Int) = y at *
  generalize ((f ic : Nat) : Int) = z at *
  go_wp2_with fail
  refine (HB.out w5).mono ?_; rintro e w6 ⟨rfl,hb6⟩; have HZ6 := HZ3.out.1.trans (below_le' hb6 HZ3.out.1.size)
  go_wp2_with fail
  exact HPP.out _ _ rfl HZ6
end Go.Proofs.YtkpapgfbnledpaaGreatDoor.G2
