import Derived.Test.YtkpapgfbnledpaaGreatDoorGvK
import Derived.Test.YtkpapgfbnledpaaGreatDoorBnR
set_option maxHeartbeats 8000000
set_option maxRecDepth 100000
namespace Go.Proofs.YtkpapgfbnledpaaGreatDoor.G2
open Go.Proofs.YtkpapgfbnledpaaGreatDoor
open Go.ChangeShapes Go.WideShapes Go.ChangeAt Go.RowKit Go.Lib Go.Tm Go.Bw Go.Bn Go.WideMaps Go.Maps Go.ChangeMaps
attribute [local go_sem] Oper.semAt_some

theorem widOf_any (B g : Nat) (L : List Nd) (i : Nat) (w : World) (h : SR w B g L) (hi : i < L.length) : Calls Tryz.prog 32 #[.pointer (some ⟨B,0,none⟩),.int .i64 ((i + 1 : Nat) : Int)] w fun e w' => e = .returned (.int .i64 (L.getD i z0).w) /\ Below w.heap.size w w' := by
  have HN : Hid (Calls Tryz.prog 12 #[.pointer (some ⟨B,0,none⟩),.int .i64 ((i : Int) + 1)] w fun e w' => e = .returned (.tuple #[nodeV (L.getD i z0),.int .i64 0]) /\ Below w.heap.size w w') := node9_any B g L i w h hi; clear h hi
  generalize L.getD i z0 = nd at *
  obtain ⟨op,u,a,b,c,num,nm⟩ := nd; unfold nodeV at HN
  dsimp only at HN ⊢
  have e1 : ((i + 1 : Nat) : Int) = (i : Int) + 1 := by omega
  rw [e1]; clear e1
  go_enter Tryz.func32,Tryz.ntmps32
  go_wp2_with fail
  refine HN.out.mono ?_; rintro e w1 ⟨rfl,hb1⟩; have HB : Hid (Below w.heap.size w (w1.alloc (Obj.cells #[.int .i64 op,.int .i64 u,.int .i64 a,.int .i64 b,.int .i64 c,.int .u64 num,.string nm] 40 (0,0)))) := hb1.trans (below_le' (bel1 w1 _) hb1.size); clear hb1 HN
  go_wp2_with fail
  first | exact ⟨rfl,HB.out⟩ | (go_ret; exact ⟨rfl,HB.out⟩)
theorem of_p10 (V B M k q : Nat) (lv tv : Value) (m cn : Nat) (T : ByteArray -> Option Vl) (f : Nat -> Nat) (n : Nd) (ia ib ic : Nat) (w : World) (h : VA w V B M k q lv tv m cn T f) (ea : n.a = (ia : Int)) (eb : n.b = (ib : Int)) (ec : n.c = (ic : Int)) (la : ia < m) (lb : ib < m) (lc : ic < m) (eop : n.op = 10) (ua er : Int) (r : Bool) (hWa : ∀ X,Below w.heap.size w X -> Calls Tryz.prog 32 #[.pointer (some ⟨B,0,none⟩),.int .i64 (ia : Int)] X fun e w' => e = .returned (.int .i64 ua) /\ Below X.heap.size X w') (hB : ∀ W,Calls Tryz.prog 64 #[.int .i64 10,.int .i64 ua,.int .u64 ((f ia : Nat) : Int),.int .u64 ((f ib : Nat) : Int)] W fun e w' => e = .returned (.tuple #[.bool r,.int .i64 er]) /\ Below W.heap.size W w') :
    Calls Tryz.prog 39 #[.pointer (some ⟨V,0,none⟩),nodeV n] w fun e w' => e = .returned (.int .u64 (if r = true then 1 else 0)) /\ Below w.heap.size w w' := by
  generalize hPP : (fun (e : Ending) (w' : World) => e = .returned (.int .u64 (if r = true then 1 else 0)) /\ Below w.heap.size w w') = PP
  have HPP : Hid (∀ v w',v = .int .u64 (if r = true then 1 else 0) -> Below w.heap.size w w' -> PP (.returned v) w') := fun v w' h1 h2 => by rw [<- hPP]; exact ⟨by rw [h1],h2⟩
  clear hPP; have h0 : VS w V B M k q lv tv m cn T f n (w.alloc (Obj.cells (ndA n) 40 (0,0))) := ⟨bel1 w _,h.below (bel1 w _),heap_alloc_new w _⟩; have HAt : Hid (∀ X i,i < m -> VS w V B M k q lv tv m cn T f n X -> Calls Tryz.prog 62 #[.agg #[lv,tv],.int .i64 (i : Int)] X fun e w' => e = .returned (.int .u64 ((f i : Nat) : Int)) /\ VS w V B M k q lv tv m cn T f n w') := fun X i hi hS => (nat_any q m cn lv tv f i X hS.2.1.ul hi).mono fun e w' ⟨he,hb⟩ => ⟨he,hS.to hb⟩
  have HWa : Hid (∀ X,Below w.heap.size w X -> Calls Tryz.prog 32 #[.pointer (some ⟨B,0,none⟩),.int .i64 (ia : Int)] X fun e w' => e = .returned (.int .i64 ua) /\ Below X.heap.size X w') := hWa; clear hWa; have HB : Hid (∀ W,Calls Tryz.prog 64 #[.int .i64 10,.int .i64 ua,.int .u64 ((f ia : Nat) : Int),.int .u64 ((f ib : Nat) : Int)] W fun e w' => e = .returned (.tuple #[.bool r,.int .i64 er]) /\ Below W.heap.size W w') := hB; clear hB; clear h; have HS0 : Hid (VS w V B M k q lv tv m cn T f n (w.alloc (Obj.cells (ndA n) 40 (0,0))).drew) := ⟨h0.1.trans ⟨rfl,rfl,rfl,Nat.le_refl _,fun _ _ => rfl⟩,⟨h0.2.1.vb,h0.2.1.tm,h0.2.1.ul.keep rfl⟩,h0.2.2⟩; obtain ⟨op,u,a,b,c,num,nm⟩ := n
  dsimp only at *
  subst ea eb ec; obtain rfl : op = 10 := eop; clear h0; unfold nodeV ndA at *
  dsimp only at *
  go_enter Tryz.func39,Tryz.ntmps39
  go_upto_region 1 with fail
  refine qn_intro ?_; have hz0 := HS0.out
  generalize (w.alloc (Obj.cells #[.int .i64 10,.int .i64 u,.int .i64 (ia : Int),.int .i64 (ib : Int),.int .i64 (ic : Int),.int .u64 num,.string nm] 40 (0,0))) = W0 at *
  refine sq_start (VS w V B M k q lv tv m cn T f ⟨10,u,ia,ib,ic,num,nm⟩) [6,13,20] [0,1,2,3,4,5,7,8,9,10,11,12,14,15,16,17,18,19,6,13,20,21,22,23] (by kernel_rfl) (by kernel_rfl) hz0 ?_
  repeat (refine sq_op (v := ?_) (by rfl) (by rfl) (by rfl) ?_ ?_; rotate_left; (focus (intro w hSw; obtain ⟨c0,c1,c2,c3,d0,d1,d2,d3,d4,d5,d6⟩ := hSw.cs; go_simp <;> with_reducible rfl)); simp only [Act.put,List.setIfInBounds_toArray,List.set_cons_zero,List.set_cons_succ])
  refine sq_do (by rfl) (by rfl) (by rfl) (fun K hK => ?_)
  go_simp
  go_at_call 62
  refine (HAt.out _ _ la hz0).mono ?_; rintro e w3 ⟨rfl,hz1⟩; refine hK.out _ _ hz1 (fun _ => ?_); clear hK K
  try simp only [Act.put,List.setIfInBounds_toArray,List.set_cons_zero,List.set_cons_succ]
  repeat (refine sq_op (v := ?_) (by rfl) (by rfl) (by rfl) ?_ ?_; rotate_left; (focus (intro w hSw; obtain ⟨c0,c1,c2,c3,d0,d1,d2,d3,d4,d5,d6⟩ := hSw.cs; go_simp <;> with_reducible rfl)); simp only [Act.put,List.setIfInBounds_toArray,List.set_cons_zero,List.set_cons_succ])
  refine sq_do (by rfl) (by rfl) (by rfl) (fun K hK => ?_)
  go_simp
  go_at_call 62
  refine (HAt.out _ _ lb hz1).mono ?_; rintro e w4 ⟨rfl,hz2⟩; refine hK.out _ _ hz2 (fun _ => ?_); clear hK K
  try simp only [Act.put,List.setIfInBounds_toArray,List.set_cons_zero,List.set_cons_succ]
  repeat (refine sq_op (v := ?_) (by rfl) (by rfl) (by rfl) ?_ ?_; rotate_left; (focus (intro w hSw; obtain ⟨c0,c1,c2,c3,d0,d1,d2,d3,d4,d5,d6⟩ := hSw.cs; go_simp <;> with_reducible rfl)); simp only [Act.put,List.setIfInBounds_toArray,List.set_cons_zero,List.set_cons_succ])
  refine sq_do (by rfl) (by rfl) (by rfl) (fun K hK => ?_)
  go_simp
  go_at_call 62
  refine (HAt.out _ _ lc hz2).mono ?_; rintro e w5 ⟨rfl,hz3⟩; refine hK.out _ _ hz3 (fun _ => ?_); clear hK K
  try simp only [Act.put,List.setIfInBounds_toArray,List.set_cons_zero,List.set_cons_succ]
  repeat (refine sq_op (v := ?_) (by rfl) (by rfl) (by rfl) ?_ ?_; rotate_left; (focus (intro w hSw; obtain ⟨c0,c1,c2,c3,d0,d1,d2,d3,d4,d5,d6⟩ := hSw.cs; go_simp <;> with_reducible rfl)); simp only [Act.put,List.setIfInBounds_toArray,List.set_cons_zero,List.set_cons_succ])
  refine sq_end (fun _ => ?_); unfold QN
  dsimp only
  have HZ3 : Hid (VS w V B M k q lv tv m cn T f ⟨10,u,ia,ib,ic,num,nm⟩ w5) := hz3; obtain ⟨c0,c1,c2,c3,d0,d1,d2,d3,d4,d5,d6⟩ := hz3.cs
  dsimp only at d0 d1 d2 d3 d4 d5 d6
  clear hz0 hz1 hz2 hz3 HS0 HAt
  generalize ((f ia : Nat) : Int) = x at *
  generalize ((f ib : Nat) : Int) = y at *
  generalize ((f ic : Nat) : Int) = z at *
  go_upto_region 27 with fail
  refine qn_intro ?_; have hy0 : VS w V B M k q lv tv m cn T f ⟨10,u,ia,ib,ic,num,nm⟩ w5.drew := ⟨HZ3.out.1.trans ⟨rfl,rfl,rfl,Nat.le_refl _,fun _ _ => rfl⟩,⟨HZ3.out.2.1.vb,HZ3.out.2.1.tm,HZ3.out.2.1.ul.keep rfl⟩,HZ3.out.2.2⟩; clear c0 c1 c2 c3 d0 d1 d2 d3 d4 d5 d6; refine sq_start (VS w V B M k q lv tv m cn T f ⟨10,u,ia,ib,ic,num,nm⟩) [8,11] [0,1,2,3,4,5,6,7,9,10,8,11,12,13,14,15,16] (by kernel_rfl) (by kernel_rfl) hy0 ?_
  repeat (refine sq_op (v := ?_) (by rfl) (by rfl) (by rfl) ?_ ?_; rotate_left; (focus (intro w hSw; obtain ⟨c0,c1,c2,c3,d0,d1,d2,d3,d4,d5,d6⟩ := hSw.cs; go_simp <;> with_reducible rfl)); simp only [Act.put,List.setIfInBounds_toArray,List.set_cons_zero,List.set_cons_succ])
  refine sq_do (by rfl) (by rfl) (by rfl) (fun K hK => ?_)
  go_simp
  go_at_call 32
  refine (HWa.out _ hy0.1).mono ?_; rintro e w6 ⟨rfl,hb6⟩; have hy1 := hy0.to hb6; refine hK.out _ _ hy1 (fun _ => ?_); clear hK K
  try simp only [Act.put,List.setIfInBounds_toArray,List.set_cons_zero,List.set_cons_succ]
  repeat (refine sq_op (v := ?_) (by rfl) (by rfl) (by rfl) ?_ ?_; rotate_left; (focus (intro w hSw; obtain ⟨c0,c1,c2,c3,d0,d1,d2,d3,d4,d5,d6⟩ := hSw.cs; go_simp <;> with_reducible rfl)); simp only [Act.put,List.setIfInBounds_toArray,List.set_cons_zero,List.set_cons_succ])
  refine sq_do (by rfl) (by rfl) (by rfl) (fun K hK => ?_)
  go_simp
  go_at_call 64
  refine (HB.out _).mono ?_; rintro e w7 ⟨rfl,hb7⟩; have hy2 := hy1.to hb7; refine hK.out _ _ hy2 (fun _ => ?_); clear hK K
  try simp only [Act.put,List.setIfInBounds_toArray,List.set_cons_zero,List.set_cons_succ]
  repeat (refine sq_op (v := ?_) (by rfl) (by rfl) (by rfl) ?_ ?_; rotate_left; (focus (intro w hSw; obtain ⟨c0,c1,c2,c3,d0,d1,d2,d3,d4,d5,d6⟩ := hSw.cs; go_simp <;> with_reducible rfl)); simp only [Act.put,List.setIfInBounds_toArray,List.set_cons_zero,List.set_cons_succ])
  refine sq_end (fun _ => ?_); unfold QN
  dsimp only
  have HF : Hid (Below w.heap.size w w7) := hy2.1; clear hy0 hy1 hy2
  go_wp2_with fail
  refine (truth_any r w7).mono ?_; rintro e w8 ⟨rfl,rfl⟩; cases r
  · go_wp2_with fail
    exact HPP.out _ _ rfl HF.out
  go_wp2_with fail
  exact HPP.out _ _ rfl HF.out
theorem of_p11 (V B M k q : Nat) (lv tv : Value) (m cn : Nat) (T : ByteArray -> Option Vl) (f : Nat -> Nat) (n : Nd) (ia ib ic : Nat) (w : World) (h : VA w V B M k q lv tv m cn T f) (ea : n.a = (ia : Int)) (eb : n.b = (ib : Int)) (ec : n.c = (ic : Int)) (la : ia < m) (lb : ib < m) (lc : ic < m) (eop : n.op = 11) (ua er : Int) (r : Bool) (hWa : ∀ X,Below w.heap.size w X -> Calls Tryz.prog 32 #[.pointer (some ⟨B,0,none⟩),.int .i64 (ia : Int)] X fun e w' => e = .returned (.int .i64 ua) /\ Below X.heap.size X w') (hB : ∀ W,Calls Tryz.prog 64 #[.int .i64 11,.int .i64 ua,.int .u64 ((f ia : Nat) : Int),.int .u64 ((f ib : Nat) : Int)] W fun e w' => e = .returned (.tuple #[.bool r,.int .i64 er]) /\ Below W.heap.size W w') :
    Calls Tryz.prog 39 #[.pointer (some ⟨V,0,none⟩),nodeV n] w fun e w' => e = .returned (.int .u64 (if r = true then 1 else 0)) /\ Below w.heap.size w w' := by
  generalize hPP : (fun (e : Ending) (w' : World) => e = .returned (.int .u64 (if r = true then 1 else 0)) /\ Below w.heap.size w w') = PP
  have HPP : Hid (∀ v w',v = .int .u64 (if r = true then 1 else 0) -> Below w.heap.size w w' -> PP (.returned v) w') := fun v w' h1 h2 => by rw [<- hPP]; exact ⟨by rw [h1],h2⟩
  clear hPP; have h0 : VS w V B M k q lv tv m cn T f n (w.alloc (Obj.cells (ndA n) 40 (0,0))) := ⟨bel1 w _,h.below (bel1 w _),heap_alloc_new w _⟩; have HAt : Hid (∀ X i,i < m -> VS w V B M k q lv tv m cn T f n X -> Calls Tryz.prog 62 #[.agg #[lv,tv],.int .i64 (i : Int)] X fun e w' => e = .returned (.int .u64 ((f i : Nat) : Int)) /\ VS w V B M k q lv tv m cn T f n w') := fun X i hi hS => (nat_any q m cn lv tv f i X hS.2.1.ul hi).mono fun e w' ⟨he,hb⟩ => ⟨he,hS.to hb⟩
  have HWa : Hid (∀ X,Below w.heap.size w X -> Calls Tryz.prog 32 #[.pointer (some ⟨B,0,none⟩),.int .i64 (ia : Int)] X fun e w' => e = .returned (.int .i64 ua) /\ Below X.heap.size X w') := hWa; clear hWa; have HB : Hid (∀ W,Calls Tryz.prog 64 #[.int .i64 11,.int .i64 ua,.int .u64 ((f ia : Nat) : Int),.int .u64 ((f ib : Nat) : Int)] W fun e w' => e = .returned (.tuple #[.bool r,.int .i64 er]) /\ Below W.heap.size W w') := hB; clear hB; clear h; have HS0 : Hid (VS w V B M k q lv tv m cn T f n (w.alloc (Obj.cells (ndA n) 40 (0,0))).drew) := ⟨h0.1.trans ⟨rfl,rfl,rfl,Nat.le_refl _,fun _ _ => rfl⟩,⟨h0.2.1.vb,h0.2.1.tm,h0.2.1.ul.keep rfl⟩,h0.2.2⟩; obtain ⟨op,u,a,b,c,num,nm⟩ := n
  dsimp only at *
  subst ea eb ec; obtain rfl : op = 11 := eop; clear h0; unfold nodeV ndA at *
  dsimp only at *
  go_enter Tryz.func39,Tryz.ntmps39
  go_upto_region 1 with fail
  refine qn_intro ?_; have hz0 := HS0.out
  generalize (w.alloc (Obj.cells #[.int .i64 11,.int .i64 u,.int .i64 (ia : Int),.int .i64 (ib : Int),.int .i64 (ic : Int),.int .u64 num,.string nm] 40 (0,0))) = W0 at *
  refine sq_start (VS w V B M k q lv tv m cn T f ⟨11,u,ia,ib,ic,num,nm⟩) [6,13,20] [0,1,2,3,4,5,7,8,9,10,11,12,14,15,16,17,18,19,6,13,20,21,22,23] (by kernel_rfl) (by kernel_rfl) hz0 ?_
  repeat (refine sq_op (v := ?_) (by rfl) (by rfl) (by rfl) ?_ ?_; rotate_left; (focus (intro w hSw; obtain ⟨c0,c1,c2,c3,d0,d1,d2,d3,d4,d5,d6⟩ := hSw.cs; go_simp <;> with_reducible rfl)); simp only [Act.put,List.setIfInBounds_toArray,List.set_cons_zero,List.set_cons_succ])
  refine sq_do (by rfl) (by rfl) (by rfl) (fun K hK => ?_)
  go_simp
  go_at_call 62
  refine (HAt.out _ _ la hz0).mono ?_; rintro e w3 ⟨rfl,hz1⟩; refine hK.out _ _ hz1 (fun _ => ?_); clear hK K
  try simp only [Act.put,List.setIfInBounds_toArray,List.set_cons_zero,List.set_cons_succ]
  repeat (refine sq_op (v := ?_) (by rfl) (by rfl) (by rfl) ?_ ?_; rotate_left; (focus (intro w hSw; obtain ⟨c0,c1,c2,c3,d0,d1,d2,d3,d4,d5,d6⟩ := hSw.cs; go_simp <;> with_reducible rfl)); simp only [Act.put,List.setIfInBounds_toArray,List.set_cons_zero,List.set_cons_succ])
  refine sq_do (by rfl) (by rfl) (by rfl) (fun K hK => ?_)
  go_simp
  go_at_call 62
  refine (HAt.out _ _ lb hz1).mono ?_; rintro e w4 ⟨rfl,hz2⟩; refine hK.out _ _ hz2 (fun _ => ?_); clear hK K
  try simp only [Act.put,List.setIfInBounds_toArray,List.set_cons_zero,List.set_cons_succ]
  repeat (refine sq_op (v := ?_) (by rfl) (by rfl) (by rfl) ?_ ?_; rotate_left; (focus (intro w hSw; obtain ⟨c0,c1,c2,c3,d0,d1,d2,d3,d4,d5,d6⟩ := hSw.cs; go_simp <;> with_reducible rfl)); simp only [Act.put,List.setIfInBounds_toArray,List.set_cons_zero,List.set_cons_succ])
  refine sq_do (by rfl) (by rfl) (by rfl) (fun K hK => ?_)
  go_simp
  go_at_call 62
  refine (HAt.out _ _ lc hz2).mono ?_; rintro e w5 ⟨rfl,hz3⟩; refine hK.out _ _ hz3 (fun _ => ?_); clear hK K
  try simp only [Act.put,List.setIfInBounds_toArray,List.set_cons_zero,List.set_cons_succ]
  repeat (refine sq_op (v := ?_) (by rfl) (by rfl) (by rfl) ?_ ?_; rotate_left; (focus (intro w hSw; obtain ⟨c0,c1,c2,c3,d0,d1,d2,d3,d4,d5,d6⟩ := hSw.cs; go_simp <;> with_reducible rfl)); simp only [Act.put,List.setIfInBounds_toArray,List.set_cons_zero,List.set_cons_succ])
  refine sq_end (fun _ => ?_); unfold QN
  dsimp only
  have HZ3 : Hid (VS w V B M k q lv tv m cn T f ⟨11,u,ia,ib,ic,num,nm⟩ w5) := hz3; obtain ⟨c0,c1,c2,c3,d0,d1,d2,d3,d4,d5,d6⟩ := hz3.cs
  dsimp only at d0 d1 d2 d3 d4 d5 d6
  clear hz0 hz1 hz2 hz3 HS0 HAt
  generalize ((f ia : Nat) : Int) = x at *
  generalize ((f ib : Nat) : Int) = y at *
  generalize ((f ic : Nat) : Int) = z at *
  go_upto_region 27 with fail
  refine qn_intro ?_; have hy0 : VS w V B M k q lv tv m cn T f ⟨11,u,ia,ib,ic,num,nm⟩ w5.drew := ⟨HZ3.out.1.trans ⟨rfl,rfl,rfl,Nat.le_refl _,fun _ _ => rfl⟩,⟨HZ3.out.2.1.vb,HZ3.out.2.1.tm,HZ3.out.2.1.ul.keep rfl⟩,HZ3.out.2.2⟩; clear c0 c1 c2 c3 d0 d1 d2 d3 d4 d5 d6; refine sq_start (VS w V B M k q lv tv m cn T f ⟨11,u,ia,ib,ic,num,nm⟩) [8,11] [0,1,2,3,4,5,6,7,9,10,8,11,12,13,14,15,16] (by kernel_rfl) (by kernel_rfl) hy0 ?_
  repeat (refine sq_op (v := ?_) (by rfl) (by rfl) (by rfl) ?_ ?_; rotate_left; (focus (intro w hSw; obtain ⟨c0,c1,c2,c3,d0,d1,d2,d3,d4,d5,d6⟩ := hSw.cs; go_simp <;> with_reducible rfl)); simp only [Act.put,List.setIfInBounds_toArray,List.set_cons_zero,List.set_cons_succ])
  refine sq_do (by rfl) (by rfl) (by rfl) (fun K hK => ?_)
  go_simp
  go_at_call 32
  refine (HWa.out _ hy0.1).mono ?_; rintro e w6 ⟨rfl,hb6⟩; have hy1 := hy0.to hb6; refine hK.out _ _ hy1 (fun _ => ?_); clear hK K
  try simp only [Act.put,List.setIfInBounds_toArray,List.set_cons_zero,List.set_cons_succ]
  repeat (refine sq_op (v := ?_) (by rfl) (by rfl) (by rfl) ?_ ?_; rotate_left; (focus (intro w hSw; obtain ⟨c0,c1,c2,c3,d0,d1,d2,d3,d4,d5,d6⟩ := hSw.cs; go_simp <;> with_reducible rfl)); simp only [Act.put,List.setIfInBounds_toArray,List.set_cons_zero,List.set_cons_succ])
  refine sq_do (by rfl) (by rfl) (by rfl) (fun K hK => ?_)
  go_simp
  go_at_call 64
  refine (HB.out _).mono ?_; rintro e w7 ⟨rfl,hb7⟩; have hy2 := hy1.to hb7; refine hK.out _ _ hy2 (fun _ => ?_); clear hK K
  try simp only [Act.put,List.setIfInBounds_toArray,List.set_cons_zero,List.set_cons_succ]
  repeat (refine sq_op (v := ?_) (by rfl) (by rfl) (by rfl) ?_ ?_; rotate_left; (focus (intro w hSw; obtain ⟨c0,c1,c2,c3,d0,d1,d2,d3,d4,d5,d6⟩ := hSw.cs; go_simp <;> with_reducible rfl)); simp only [Act.put,List.setIfInBounds_toArray,List.set_cons_zero,List.set_cons_succ])
  refine sq_end (fun _ => ?_); unfold QN
  dsimp only
  have HF : Hid (Below w.heap.size w w7) := hy2.1; clear hy0 hy1 hy2
  go_wp2_with fail
  refine (truth_any r w7).mono ?_; rintro e w8 ⟨rfl,rfl⟩; cases r
  · go_wp2_with fail
    exact HPP.out _ _ rfl HF.out
  go_wp2_with fail
  exact HPP.out _ _ rfl HF.out
theorem of_p12 (V B M k q : Nat) (lv tv : Value) (m cn : Nat) (T : ByteArray -> Option Vl) (f : Nat -> Nat) (n : Nd) (ia ib ic : Nat) (w : World) (h : VA w V B M k q lv tv m cn T f) (ea : n.a = (ia : Int)) (eb : n.b = (ib : Int)) (ec : n.c = (ic : Int)) (la : ia < m) (lb : ib < m) (lc : ic < m) (eop : n.op = 12) (ua er : Int) (r : Bool) (hWa : ∀ X,Below w.heap.size w X -> Calls Tryz.prog 32 #[.pointer (some ⟨B,0,none⟩),.int .i64 (ia : Int)] X fun e w' => e = .returned (.int .i64 ua) /\ Below X.heap.size X w') (hB : ∀ W,Calls Tryz.prog 64 #[.int .i64 12,.int .i64 ua,.int .u64 ((f ia : Nat) : Int),.int .u64 ((f ib : Nat) : Int)] W fun e w' => e = .returned (.tuple #[.bool r,.int .i64 er]) /\ Below W.heap.size W w') :
    Calls Tryz.prog 39 #[.pointer (some ⟨V,0,none⟩),nodeV n] w fun e w' => e = .returned (.int .u64 (if r = true then 1 else 0)) /\ Below w.heap.size w w' := by
  generalize hPP : (fun (e : Ending) (w' : World) => e = .returned (.int .u64 (if r = true then 1 else 0)) /\ Below w.heap.size w w') = PP
  have HPP : Hid (∀ v w',v = .int .u64 (if r = true then 1 else 0) -> Below w.heap.size w w' -> PP (.returned v) w') := fun v w' h1 h2 => by rw [<- hPP]; exact ⟨by rw [h1],h2⟩
  clear hPP; have h0 : VS w V B M k q lv tv m cn T f n (w.alloc (Obj.cells (ndA n) 40 (0,0))) := ⟨bel1 w _,h.below (bel1 w _),heap_alloc_new w _⟩; have HAt : Hid (∀ X i,i < m -> VS w V B M k q lv tv m cn T f n X -> Calls Tryz.prog 62 #[.agg #[lv,tv],.int .i64 (i : Int)] X fun e w' => e = .returned (.int .u64 ((f i : Nat) : Int)) /\ VS w V B M k q lv tv m cn T f n w') := fun X i hi hS => (nat_any q m cn lv tv f i X hS.2.1.ul hi).mono fun e w' ⟨he,hb⟩ => ⟨he,hS.to hb⟩
  have HWa : Hid (∀ X,Below w.heap.size w X -> Calls Tryz.prog 32 #[.pointer (some ⟨B,0,none⟩),.int .i64 (ia : Int)] X fun e w' => e = .returned (.int .i64 ua) /\ Below X.heap.size X w') := hWa; clear hWa; have HB : Hid (∀ W,Calls Tryz.prog 64 #[.int .i64 12,.int .i64 ua,.int .u64 ((f ia : Nat) : Int),.int .u64 ((f ib : Nat) : Int)] W fun e w' => e = .returned (.tuple #[.bool r,.int .i64 er]) /\ Below W.heap.size W w') := hB; clear hB; clear h; have HS0 : Hid (VS w V B M k q lv tv m cn T f n (w.alloc (Obj.cells (ndA n) 40 (0,0))).drew) := ⟨h0.1.trans ⟨rfl,rfl,rfl,Nat.le_refl _,fun _ _ => rfl⟩,⟨h0.2.1.vb,h0.2.1.tm,h0.2.1.ul.keep rfl⟩,h0.2.2⟩; obtain ⟨op,u,a,b,c,num,nm⟩ := n
  dsimp only at *
  subst ea eb ec; obtain rfl : op = 12 := eop; clear h0; unfold nodeV ndA at *
  dsimp only at *
  go_enter Tryz.func39,Tryz.ntmps39
  go_upto_region 1 with fail
  refine qn_intro ?_; have hz0 := HS0.out
  generalize (w.alloc (Obj.cells #[.int .i64 12,.int .i64 u,.int .i64 (ia : Int),.int .i64 (ib : Int),.int .i64 (ic : Int),.int .u64 num,.string nm] 40 (0,0))) = W0 at *
  refine sq_start (VS w V B M k q lv tv m cn T f ⟨12,u,ia,ib,ic,num,nm⟩) [6,13,20] [0,1,2,3,4,5,7,8,9,10,11,12,14,15,16,17,18,19,6,13,20,21,22,23] (by kernel_rfl) (by kernel_rfl) hz0 ?_
  repeat (refine sq_op (v := ?_) (by rfl) (by rfl) (by rfl) ?_ ?_; rotate_left; (focus (intro w hSw; obtain ⟨c0,c1,c2,c3,d0,d1,d2,d3,d4,d5,d6⟩ := hSw.cs; go_simp <;> with_reducible rfl)); simp only [Act.put,List.setIfInBounds_toArray,List.set_cons_zero,List.set_cons_succ])
  refine sq_do (by rfl) (by rfl) (by rfl) (fun K hK => ?_)
  go_simp
  go_at_call 62
  refine (HAt.out _ _ la hz0).mono ?_; rintro e w3 ⟨rfl,hz1⟩; refine hK.out _ _ hz1 (fun _ => ?_); clear hK K
  try simp only [Act.put,List.setIfInBounds_toArray,List.set_cons_zero,List.set_cons_succ]
  repeat (refine sq_op (v := ?_) (by rfl) (by rfl) (by rfl) ?_ ?_; rotate_left; (focus (intro w hSw; obtain ⟨c0,c1,c2,c3,d0,d1,d2,d3,d4,d5,d6⟩ := hSw.cs; go_simp <;> with_reducible rfl)); simp only [Act.put,List.setIfInBounds_toArray,List.set_cons_zero,List.set_cons_succ])
  refine sq_do (by rfl) (by rfl) (by rfl) (fun K hK => ?_)
  go_simp
  go_at_call 62
  refine (HAt.out _ _ lb hz1).mono ?_; rintro e w4 ⟨rfl,hz2⟩; refine hK.out _ _ hz2 (fun _ => ?_); clear hK K
  try simp only [Act.put,List.setIfInBounds_toArray,List.set_cons_zero,List.set_cons_succ]
  repeat (refine sq_op (v := ?_) (by rfl) (by rfl) (by rfl) ?_ ?_; rotate_left; (focus (intro w hSw; obtain ⟨c0,c1,c2,c3,d0,d1,d2,d3,d4,d5,d6⟩ := hSw.cs; go_simp <;> with_reducible rfl)); simp only [Act.put,List.setIfInBounds_toArray,List.set_cons_zero,List.set_cons_succ])
  refine sq_do (by rfl) (by rfl) (by rfl) (fun K hK => ?_)
  go_simp
  go_at_call 62
  refine (HAt.out _ _ lc hz2).mono ?_; rintro e w5 ⟨rfl,hz3⟩; refine hK.out _ _ hz3 (fun _ => ?_); clear hK K
  try simp only [Act.put,List.setIfInBounds_toArray,List.set_cons_zero,List.set_cons_succ]
  repeat (refine sq_op (v := ?_) (by rfl) (by rfl) (by rfl) ?_ ?_; rotate_left; (focus (intro w hSw; obtain ⟨c0,c1,c2,c3,d0,d1,d2,d3,d4,d5,d6⟩ := hSw.cs; go_simp <;> with_reducible rfl)); simp only [Act.put,List.setIfInBounds_toArray,List.set_cons_zero,List.set_cons_succ])
  refine sq_end (fun _ => ?_); unfold QN
  dsimp only
  have HZ3 : Hid (VS w V B M k q lv tv m cn T f ⟨12,u,ia,ib,ic,num,nm⟩ w5) := hz3; obtain ⟨c0,c1,c2,c3,d0,d1,d2,d3,d4,d5,d6⟩ := hz3.cs
  dsimp only at d0 d1 d2 d3 d4 d5 d6
  clear hz0 hz1 hz2 hz3 HS0 HAt
  generalize ((f ia : Nat) : Int) = x at *
  generalize ((f ib : Nat) : Int) = y at *
  generalize ((f ic : Nat) : Int) = z at *
  go_upto_region 27 with fail
  refine qn_intro ?_; have hy0 : VS w V B M k q lv tv m cn T f ⟨12,u,ia,ib,ic,num,nm⟩ w5.drew := ⟨HZ3.out.1.trans ⟨rfl,rfl,rfl,Nat.le_refl _,fun _ _ => rfl⟩,⟨HZ3.out.2.1.vb,HZ3.out.2.1.tm,HZ3.out.2.1.ul.keep rfl⟩,HZ3.out.2.2⟩; clear c0 c1 c2 c3 d0 d1 d2 d3 d4 d5 d6; refine sq_start (VS w V B M k q lv tv m cn T f ⟨12,u,ia,ib,ic,num,nm⟩) [8,11] [0,1,2,3,4,5,6,7,9,10,8,11,12,13,14,15,16] (by kernel_rfl) (by kernel_rfl) hy0 ?_
  repeat (refine sq_op (v := ?_) (by rfl) (by rfl) (by rfl) ?_ ?_; rotate_left; (focus (intro w hSw; obtain ⟨c0,c1,c2,c3,d0,d1,d2,d3,d4,d5,d6⟩ := hSw.cs; go_simp <;> with_reducible rfl)); simp only [Act.put,List.setIfInBounds_toArray,List.set_cons_zero,List.set_cons_succ])
  refine sq_do (by rfl) (by rfl) (by rfl) (fun K hK => ?_)
  go_simp
  go_at_call 32
  refine (HWa.out _ hy0.1).mono ?_; rintro e w6 ⟨rfl,hb6⟩; have hy1 := hy0.to hb6; refine hK.out _ _ hy1 (fun _ => ?_); clear hK K
  try simp only [Act.put,List.setIfInBounds_toArray,List.set_cons_zero,List.set_cons_succ]
  repeat (refine sq_op (v := ?_) (by rfl) (by rfl) (by rfl) ?_ ?_; rotate_left; (focus (intro w hSw; obtain ⟨c0,c1,c2,c3,d0,d1,d2,d3,d4,d5,d6⟩ := hSw.cs; go_simp <;> with_reducible rfl)); simp only [Act.put,List.setIfInBounds_toArray,List.set_cons_zero,List.set_cons_succ])
  refine sq_do (by rfl) (by rfl) (by rfl) (fun K hK => ?_)
  go_simp
  go_at_call 64
  refine (HB.out _).mono ?_; rintro e w7 ⟨rfl,hb7⟩; have hy2 := hy1.to hb7; refine hK.out _ _ hy2 (fun _ => ?_); clear hK K
  try simp only [Act.put,List.setIfInBounds_toArray,List.set_cons_zero,List.set_cons_succ]
  repeat (refine sq_op (v := ?_) (by rfl) (by rfl) (by rfl) ?_ ?_; rotate_left; (focus (intro w hSw; obtain ⟨c0,c1,c2,c3,d0,d1,d2,d3,d4,d5,d6⟩ := hSw.cs; go_simp <;> with_reducible rfl)); simp only [Act.put,List.setIfInBounds_toArray,List.set_cons_zero,List.set_cons_succ])
  refine sq_end (fun _ => ?_); unfold QN
  dsimp only
  have HF : Hid (Below w.heap.size w w7) := hy2.1; clear hy0 hy1 hy2
  go_wp2_with fail
  refine (truth_any r w7).mono ?_; rintro e w8 ⟨rfl,rfl⟩; cases r
  · go_wp2_with fail
    exact HPP.out _ _ rfl HF.out
  go_wp2_with fail
  exact HPP.out _ _ rfl HF.out
theorem of_p13 (V B M k q : Nat) (lv tv : Value) (m cn : Nat) (T : ByteArray -> Option Vl) (f : Nat -> Nat) (n : Nd) (ia ib ic : Nat) (w : World) (h : VA w V B M k q lv tv m cn T f) (ea : n.a = (ia : Int)) (eb : n.b = (ib : Int)) (ec : n.c = (ic : Int)) (la : ia < m) (lb : ib < m) (lc : ic < m) (eop : n.op = 13) (ua er : Int) (r : Bool) (hWa : ∀ X,Below w.heap.size w X -> Calls Tryz.prog 32 #[.pointer (some ⟨B,0,none⟩),.int .i64 (ia : Int)] X fun e w' => e = .returned (.int .i64 ua) /\ Below X.heap.size X w') (hB : ∀ W,Calls Tryz.prog 64 #[.int .i64 13,.int .i64 ua,.int .u64 ((f ia : Nat) : Int),.int .u64 ((f ib : Nat) : Int)] W fun e w' => e = .returned (.tuple #[.bool r,.int .i64 er]) /\ Below W.heap.size W w') :
    Calls Tryz.prog 39 #[.pointer (some ⟨V,0,none⟩),nodeV n] w fun e w' => e = .returned (.int .u64 (if r = true then 1 else 0)) /\ Below w.heap.size w w' := by
  generalize hPP : (fun (e : Ending) (w' : World) => e = .returned (.int .u64 (if r = true then 1 else 0)) /\ Below w.heap.size w w') = PP
  have HPP : Hid (∀ v w',v = .int .u64 (if r = true then 1 else 0) -> Below w.heap.size w w' -> PP (.returned v) w') := fun v w' h1 h2 => by rw [<- hPP]; exact ⟨by rw [h1],h2⟩
  clear hPP; have h0 : VS w V B M k q lv tv m cn T f n (w.alloc (Obj.cells (ndA n) 40 (0,0))) := ⟨bel1 w _,h.below (bel1 w _),heap_alloc_new w _⟩; have HAt : Hid (∀ X i,i < m -> VS w V B M k q lv tv m cn T f n X -> Calls Tryz.prog 62 #[.agg #[lv,tv],.int .i64 (i : Int)] X fun e w' => e = .returned (.int .u64 ((f i : Nat) : Int)) /\ VS w V B M k q lv tv m cn T f n w') := fun X i hi hS => (nat_any q m cn lv tv f i X hS.2.1.ul hi).mono fun e w' ⟨he,hb⟩ => ⟨he,hS.to hb⟩
  have HWa : Hid (∀ X,Below w.heap.size w X -> Calls Tryz.prog 32 #[.pointer (some ⟨B,0,none⟩),.int .i64 (ia : Int)] X fun e w' => e = .returned (.int .i64 ua) /\ Below X.heap.size X w') := hWa; clear hWa; have HB : Hid (∀ W,Calls Tryz.prog 64 #[.int .i64 13,.int .i64 ua,.int .u64 ((f ia : Nat) : Int),.int .u64 ((f ib : Nat) : Int)] W fun e w' => e = .returned (.tuple #[.bool r,.int .i64 er]) /\ Below W.heap.size W w') := hB; clear hB; clear h; have HS0 : Hid (VS w V B M k q lv tv m cn T f n (w.alloc (Obj.cells (ndA n) 40 (0,0))).drew) := ⟨h0.1.trans ⟨rfl,rfl,rfl,Nat.le_refl _,fun _ _ => rfl⟩,⟨h0.2.1.vb,h0.2.1.tm,h0.2.1.ul.keep rfl⟩,h0.2.2⟩; obtain ⟨op,u,a,b,c,num,nm⟩ := n
  dsimp only at *
  subst ea eb ec; obtain rfl : op = 13 := eop; clear h0; unfold nodeV ndA at *
  dsimp only at *
  go_enter Tryz.func39,Tryz.ntmps39
  go_upto_region 1 with fail
  refine qn_intro ?_; have hz0 := HS0.out
  generalize (w.alloc (Obj.cells #[.int .i64 13,.int .i64 u,.int .i64 (ia : Int),.int .i64 (ib : Int),.int .i64 (ic : Int),.int .u64 num,.string nm] 40 (0,0))) = W0 at *
  refine sq_start (VS w V B M k q lv tv m cn T f ⟨13,u,ia,ib,ic,num,nm⟩) [6,13,20] [0,1,2,3,4,5,7,8,9,10,11,12,14,15,16,17,18,19,6,13,20,21,22,23] (by kernel_rfl) (by kernel_rfl) hz0 ?_
  repeat (refine sq_op (v := ?_) (by rfl) (by rfl) (by rfl) ?_ ?_; rotate_left; (focus (intro w hSw; obtain ⟨c0,c1,c2,c3,d0,d1,d2,d3,d4,d5,d6⟩ := hSw.cs; go_simp <;> with_reducible rfl)); simp only [Act.put,List.setIfInBounds_toArray,List.set_cons_zero,List.set_cons_succ])
  refine sq_do (by rfl) (by rfl) (by rfl) (fun K hK => ?_)
  go_simp
  go_at_call 62
  refine (HAt.out _ _ la hz0).mono ?_; rintro e w3 ⟨rfl,hz1⟩; refine hK.out _ _ hz1 (fun _ => ?_); clear hK K
  try simp only [Act.put,List.setIfInBounds_toArray,List.set_cons_zero,List.set_cons_succ]
  repeat (refine sq_op (v := ?_) (by rfl) (by rfl) (by rfl) ?_ ?_; rotate_left; (focus (intro w hSw; obtain ⟨c0,c1,c2,c3,d0,d1,d2,d3,d4,d5,d6⟩ := hSw.cs; go_simp <;> with_reducible rfl)); simp only [Act.put,List.setIfInBounds_toArray,List.set_cons_zero,List.set_cons_succ])
  refine sq_do (by rfl) (by rfl) (by rfl) (fun K hK => ?_)
  go_simp
  go_at_call 62
  refine (HAt.out _ _ lb hz1).mono ?_; rintro e w4 ⟨rfl,hz2⟩; refine hK.out _ _ hz2 (fun _ => ?_); clear hK K
  try simp only [Act.put,List.setIfInBounds_toArray,List.set_cons_zero,List.set_cons_succ]
  repeat (refine sq_op (v := ?_) (by rfl) (by rfl) (by rfl) ?_ ?_; rotate_left; (focus (intro w hSw; obtain ⟨c0,c1,c2,c3,d0,d1,d2,d3,d4,d5,d6⟩ := hSw.cs; go_simp <;> with_reducible rfl)); simp only [Act.put,List.setIfInBounds_toArray,List.set_cons_zero,List.set_cons_succ])
  refine sq_do (by rfl) (by rfl) (by rfl) (fun K hK => ?_)
  go_simp
  go_at_call 62
  refine (HAt.out _ _ lc hz2).mono ?_; rintro e w5 ⟨rfl,hz3⟩; refine hK.out _ _ hz3 (fun _ => ?_); clear hK K
  try simp only [Act.put,List.setIfInBounds_toArray,List.set_cons_zero,List.set_cons_succ]
  repeat (refine sq_op (v := ?_) (by rfl) (by rfl) (by rfl) ?_ ?_; rotate_left; (focus (intro w hSw; obtain ⟨c0,c1,c2,c3,d0,d1,d2,d3,d4,d5,d6⟩ := hSw.cs; go_simp <;> with_reducible rfl)); simp only [Act.put,List.setIfInBounds_toArray,List.set_cons_zero,List.set_cons_succ])
  refine sq_end (fun _ => ?_); unfold QN
  dsimp only
  have HZ3 : Hid (VS w V B M k q lv tv m cn T f ⟨13,u,ia,ib,ic,num,nm⟩ w5) := hz3; obtain ⟨c0,c1,c2,c3,d0,d1,d2,d3,d4,d5,d6⟩ := hz3.cs
  dsimp only at d0 d1 d2 d3 d4 d5 d6
  clear hz0 hz1 hz2 hz3 HS0 HAt
  generalize ((f ia : Nat) : Int) = x at *
  generalize ((f ib : Nat) : Int) = y at *
  generalize ((f ic : Nat) : Int) = z at *
  go_upto_region 27 with fail
  refine qn_intro ?_; have hy0 : VS w V B M k q lv tv m cn T f ⟨13,u,ia,ib,ic,num,nm⟩ w5.drew := ⟨HZ3.out.1.trans ⟨rfl,rfl,rfl,Nat.le_refl _,fun _ _ => rfl⟩,⟨HZ3.out.2.1.vb,HZ3.out.2.1.tm,HZ3.out.2.1.ul.keep rfl⟩,HZ3.out.2.2⟩; clear c0 c1 c2 c3 d0 d1 d2 d3 d4 d5 d6; refine sq_start (VS w V B M k q lv tv m cn T f ⟨13,u,ia,ib,ic,num,nm⟩) [8,11] [0,1,2,3,4,5,6,7,9,10,8,11,12,13,14,15,16] (by kernel_rfl) (by kernel_rfl) hy0 ?_
  repeat (refine sq_op (v := ?_) (by rfl) (by rfl) (by rfl) ?_ ?_; rotate_left; (focus (intro w hSw; obtain ⟨c0,c1,c2,c3,d0,d1,d2,d3,d4,d5,d6⟩ := hSw.cs; go_simp <;> with_reducible rfl)); simp only [Act.put,List.setIfInBounds_toArray,List.set_cons_zero,List.set_cons_succ])
  refine sq_do (by rfl) (by rfl) (by rfl) (fun K hK => ?_)
  go_simp
  go_at_call 32
  refine (HWa.out _ hy0.1).mono ?_; rintro e w6 ⟨rfl,hb6⟩; have hy1 := hy0.to hb6; refine hK.out _ _ hy1 (fun _ => ?_); clear hK K
  try simp only [Act.put,List.setIfInBounds_toArray,List.set_cons_zero,List.set_cons_succ]
  repeat (refine sq_op (v := ?_) (by rfl) (by rfl) (by rfl) ?_ ?_; rotate_left; (focus (intro w hSw; obtain ⟨c0,c1,c2,c3,d0,d1,d2,d3,d4,d5,d6⟩ := hSw.cs; go_simp <;> with_reducible rfl)); simp only [Act.put,List.setIfInBounds_toArray,List.set_cons_zero,List.set_cons_succ])
  refine sq_do (by rfl) (by rfl) (by rfl) (fun K hK => ?_)
  go_simp
  go_at_call 64
  refine (HB.out _).mono ?_; rintro e w7 ⟨rfl,hb7⟩; have hy2 := hy1.to hb7; refine hK.out _ _ hy2 (fun _ => ?_); clear hK K
  try simp only [Act.put,List.setIfInBounds_toArray,List.set_cons_zero,List.set_cons_succ]
  repeat (refine sq_op (v := ?_) (by rfl) (by rfl) (by rfl) ?_ ?_; rotate_left; (focus (intro w hSw; obtain ⟨c0,c1,c2,c3,d0,d1,d2,d3,d4,d5,d6⟩ := hSw.cs; go_simp <;> with_reducible rfl)); simp only [Act.put,List.setIfInBounds_toArray,List.set_cons_zero,List.set_cons_succ])
  refine sq_end (fun _ => ?_); unfold QN
  dsimp only
  have HF : Hid (Below w.heap.size w w7) := hy2.1; clear hy0 hy1 hy2
  go_wp2_with fail
  refine (truth_any r w7).mono ?_; rintro e w8 ⟨rfl,rfl⟩; cases r
  · go_wp2_with fail
    exact HPP.out _ _ rfl HF.out
  go_wp2_with fail
  exact HPP.out _ _ rfl HF.out
theorem of_p30 (V B M k q : Nat) (lv tv : Value) (m cn : Nat) (T : ByteArray -> Option Vl) (f : Nat -> Nat) (n : Nd) (ia ib ic : Nat) (w : World) (h : VA w V B M k q lv tv m cn T f) (ea : n.a = (ia : Int)) (eb : n.b = (ib : Int)) (ec : n.c = (ic : Int)) (la : ia < m) (lb : ib < m) (lc : ic < m) (eop : n.op = 30) (ua ub r er : Int) (hWa : ∀ X,Below w.heap.size w X -> Calls Tryz.prog 32 #[.pointer (some ⟨B,0,none⟩),.int .i64 (ia : Int)] X fun e w' => e = .returned (.int .i64 ua) /\ Below X.heap.size X w') (hWb : ∀ X,Below w.heap.size w X -> Calls Tryz.prog 32 #[.pointer (some ⟨B,0,none⟩),.int .i64 (ib : Int)] X fun e w' => e = .returned (.int .i64 ub) /\ Below X.heap.size X w') (hB : ∀ W,Calls Tryz.prog 66 #[.int .i64 ua,.int .u64 ((f ia : Nat) : Int),.int .i64 ub,.int .u64 ((f ib : Nat) : Int)] W fun e w' => e = .returned (.tuple #[.int .u64 r,.int .i64 er]) /\ Below W.heap.size W w') :
    Calls Tryz.prog 39 #[.pointer (some ⟨V,0,none⟩),nodeV n] w fun e w' => e = .returned (.int .u64 (r)) /\ Below w.heap.size w w' := by
  generalize hPP : (fun (e : Ending) (w' : World) => e = .returned (.int .u64 (r)) /\ Below w.heap.size w w') = PP
  have HPP : Hid (∀ v w',v = .int .u64 (r) -> Below w.heap.size w w' -> PP (.returned v) w') := fun v w' h1 h2 => by rw [<- hPP]; exact ⟨by rw [h1],h2⟩
  clear hPP; have h0 : VS w V B M k q lv tv m cn T f n (w.alloc (Obj.cells (ndA n) 40 (0,0))) := ⟨bel1 w _,h.below (bel1 w _),heap_alloc_new w _⟩; have HAt : Hid (∀ X i,i < m -> VS w V B M k q lv tv m cn T f n X -> Calls Tryz.prog 62 #[.agg #[lv,tv],.int .i64 (i : Int)] X fun e w' => e = .returned (.int .u64 ((f i : Nat) : Int)) /\ VS w V B M k q lv tv m cn T f n w') := fun X i hi hS => (nat_any q m cn lv tv f i X hS.2.1.ul hi).mono fun e w' ⟨he,hb⟩ => ⟨he,hS.to hb⟩
  have HWa : Hid (∀ X,Below w.heap.size w X -> Calls Tryz.prog 32 #[.pointer (some ⟨B,0,none⟩),.int .i64 (ia : Int)] X fun e w' => e = .returned (.int .i64 ua) /\ Below X.heap.size X w') := hWa; clear hWa; have HWb : Hid (∀ X,Below w.heap.size w X -> Calls Tryz.prog 32 #[.pointer (some ⟨B,0,none⟩),.int .i64 (ib : Int)] X fun e w' => e = .returned (.int .i64 ub) /\ Below X.heap.size X w') := hWb; clear hWb; have HB : Hid (∀ W,Calls Tryz.prog 66 #[.int .i64 ua,.int .u64 ((f ia : Nat) : Int),.int .i64 ub,.int .u64 ((f ib : Nat) : Int)] W fun e w' => e = .returned (.tuple #[.int .u64 r,.int .i64 er]) /\ Below W.heap.size W w') := hB; clear hB; clear h; have HS0 : Hid (VS w V B M k q lv tv m cn T f n (w.alloc (Obj.cells (ndA n) 40 (0,0))).drew) := ⟨h0.1.trans ⟨rfl,rfl,rfl,Nat.le_refl _,fun _ _ => rfl⟩,⟨h0.2.1.vb,h0.2.1.tm,h0.2.1.ul.keep rfl⟩,h0.2.2⟩; obtain ⟨op,u,a,b,c,num,nm⟩ := n
  dsimp only at *
  subst ea eb ec; obtain rfl : op = 30 := eop; clear h0; unfold nodeV ndA at *
  dsimp only at *
  go_enter Tryz.func39,Tryz.ntmps39
  go_upto_region 1 with fail
  refine qn_intro ?_; have hz0 := HS0.out
  generalize (w.alloc (Obj.cells #[.int .i64 30,.int .i64 u,.int .i64 (ia : Int),.int .i64 (ib : Int),.int .i64 (ic : Int),.int .u64 num,.string nm] 40 (0,0))) = W0 at *
  refine sq_start (VS w V B M k q lv tv m cn T f ⟨30,u,ia,ib,ic,num,nm⟩) [6,13,20] [0,1,2,3,4,5,7,8,9,10,11,12,14,15,16,17,18,19,6,13,20,21,22,23] (by kernel_rfl) (by kernel_rfl) hz0 ?_
  repeat (refine sq_op (v := ?_) (by rfl) (by rfl) (by rfl) ?_ ?_; rotate_left; (focus (intro w hSw; obtain ⟨c0,c1,c2,c3,d0,d1,d2,d3,d4,d5,d6⟩ := hSw.cs; go_simp <;> with_reducible rfl)); simp only [Act.put,List.setIfInBounds_toArray,List.set_cons_zero,List.set_cons_succ])
  refine sq_do (by rfl) (by rfl) (by rfl) (fun K hK => ?_)
  go_simp
  go_at_call 62
  refine (HAt.out _ _ la hz0).mono ?_; rintro e w3 ⟨rfl,hz1⟩; refine hK.out _ _ hz1 (fun _ => ?_); clear hK K
  try simp only [Act.put,List.setIfInBounds_toArray,List.set_cons_zero,List.set_cons_succ]
  repeat (refine sq_op (v := ?_) (by rfl) (by rfl) (by rfl) ?_ ?_; rotate_left; (focus (intro w hSw; obtain ⟨c0,c1,c2,c3,d0,d1,d2,d3,d4,d5,d6⟩ := hSw.cs; go_simp <;> with_reducible rfl)); simp only [Act.put,List.setIfInBounds_toArray,List.set_cons_zero,List.set_cons_succ])
  refine sq_do (by rfl) (by rfl) (by rfl) (fun K hK => ?_)
  go_simp
  go_at_call 62
  refine (HAt.out _ _ lb hz1).mono ?_; rintro e w4 ⟨rfl,hz2⟩; refine hK.out _ _ hz2 (fun _ => ?_); clear hK K
  try simp only [Act.put,List.setIfInBounds_toArray,List.set_cons_zero,List.set_cons_succ]
  repeat (refine sq_op (v := ?_) (by rfl) (by rfl) (by rfl) ?_ ?_; rotate_left; (focus (intro w hSw; obtain ⟨c0,c1,c2,c3,d0,d1,d2,d3,d4,d5,d6⟩ := hSw.cs; go_simp <;> with_reducible rfl)); simp only [Act.put,List.setIfInBounds_toArray,List.set_cons_zero,List.set_cons_succ])
  refine sq_do (by rfl) (by rfl) (by rfl) (fun K hK => ?_)
  go_simp
  go_at_call 62
  refine (HAt.out _ _ lc hz2).mono ?_; rintro e w5 ⟨rfl,hz3⟩; refine hK.out _ _ hz3 (fun _ => ?_); clear hK K
  try simp only [Act.put,List.setIfInBounds_toArray,List.set_cons_zero,List.set_cons_succ]
  repeat (refine sq_op (v := ?_) (by rfl) (by rfl) (by rfl) ?_ ?_; rotate_left; (focus (intro w hSw; obtain ⟨c0,c1,c2,c3,d0,d1,d2,d3,d4,d5,d6⟩ := hSw.cs; go_simp <;> with_reducible rfl)); simp only [Act.put,List.setIfInBounds_toArray,List.set_cons_zero,List.set_cons_succ])
  refine sq_end (fun _ => ?_); unfold QN
  dsimp only
  have HZ3 : Hid (VS w V B M k q lv tv m cn T f ⟨30,u,ia,ib,ic,num,nm⟩ w5) := hz3; obtain ⟨c0,c1,c2,c3,d0,d1,d2,d3,d4,d5,d6⟩ := hz3.cs
  dsimp only at d0 d1 d2 d3 d4 d5 d6
  clear hz0 hz1 hz2 hz3 HS0 HAt
  generalize ((f ia : Nat) : Int) = x at *
  generalize ((f ib : Nat) : Int) = y at *
  generalize ((f ic : Nat) : Int) = z at *
  go_upto_region 37 with fail
  refine qn_intro ?_; have hy0 : VS w V B M k q lv tv m cn T f ⟨30,u,ia,ib,ic,num,nm⟩ w5.drew := ⟨HZ3.out.1.trans ⟨rfl,rfl,rfl,Nat.le_refl _,fun _ _ => rfl⟩,⟨HZ3.out.2.1.vb,HZ3.out.2.1.tm,HZ3.out.2.1.ul.keep rfl⟩,HZ3.out.2.2⟩; clear c0 c1 c2 c3 d0 d1 d2 d3 d4 d5 d6; refine sq_start (VS w V B M k q lv tv m cn T f ⟨30,u,ia,ib,ic,num,nm⟩) [6,14,16] [0,1,2,3,4,5,7,8,9,10,11,12,13,15,6,14,16,17,18,19,20] (by kernel_rfl) (by kernel_rfl) hy0 ?_
  repeat (refine sq_op (v := ?_) (by rfl) (by rfl) (by rfl) ?_ ?_; rotate_left; (focus (intro w hSw; obtain ⟨c0,c1,c2,c3,d0,d1,d2,d3,d4,d5,d6⟩ := hSw.cs; go_simp <;> with_reducible rfl)); simp only [Act.put,List.setIfInBounds_toArray,List.set_cons_zero,List.set_cons_succ])
  refine sq_do (by rfl) (by rfl) (by rfl) (fun K hK => ?_)
  go_simp
  go_at_call 32
  refine (HWa.out _ hy0.1).mono ?_; rintro e w6 ⟨rfl,hb6⟩; have hy1 := hy0.to hb6; refine hK.out _ _ hy1 (fun _ => ?_); clear hK K
  try simp only [Act.put,List.setIfInBounds_toArray,List.set_cons_zero,List.set_cons_succ]
  repeat (refine sq_op (v := ?_) (by rfl) (by rfl) (by rfl) ?_ ?_; rotate_left; (focus (intro w hSw; obtain ⟨c0,c1,c2,c3,d0,d1,d2,d3,d4,d5,d6⟩ := hSw.cs; go_simp <;> with_reducible rfl)); simp only [Act.put,List.setIfInBounds_toArray,List.set_cons_zero,List.set_cons_succ])
  refine sq_do (by rfl) (by rfl) (by rfl) (fun K hK => ?_)
  go_simp
  go_at_call 32
  refine (HWb.out _ hy1.1).mono ?_; rintro e w7 ⟨rfl,hb7⟩; have hy2 := hy1.to hb7; refine hK.out _ _ hy2 (fun _ => ?_); clear hK K
  try simp only [Act.put,List.setIfInBounds_toArray,List.set_cons_zero,List.set_cons_succ]
  repeat (refine sq_op (v := ?_) (by rfl) (by rfl) (by rfl) ?_ ?_; rotate_left; (focus (intro w hSw; obtain ⟨c0,c1,c2,c3,d0,d1,d2,d3,d4,d5,d6⟩ := hSw.cs; go_simp <;> with_reducible rfl)); simp only [Act.put,List.setIfInBounds_toArray,List.set_cons_zero,List.set_cons_succ])
  refine sq_do (by rfl) (by rfl) (by rfl) (fun K hK => ?_)
  go_simp
  go_at_call 66
  refine (HB.out _).mono ?_; rintro e w8 ⟨rfl,hb8⟩; have hy3 := hy2.to hb8; refine hK.out _ _ hy3 (fun _ => ?_); clear hK K
  try simp only [Act.put,List.setIfInBounds_toArray,List.set_cons_zero,List.set_cons_succ]
  repeat (refine sq_op (v := ?_) (by rfl) (by rfl) (by rfl) ?_ ?_; rotate_left; (focus (intro w hSw; obtain ⟨c0,c1,c2,c3,d0,d1,d2,d3,d4,d5,d6⟩ := hSw.cs; go_simp <;> with_reducible rfl)); simp only [Act.put,List.setIfInBounds_toArray,List.set_cons_zero,List.set_cons_succ])
  refine sq_end (fun _ => ?_); unfold QN
  dsimp only
  have HF := hy3.1; clear hy0 hy1 hy2 hy3
  go_wp2_with fail
  exact HPP.out _ _ rfl HF
theorem of_p31 (V B M k q : Nat) (lv tv : Value) (m cn : Nat) (T : ByteArray -> Option Vl) (f : Nat -> Nat) (n : Nd) (ia ib ic : Nat) (w : World) (h : VA w V B M k q lv tv m cn T f) (ea : n.a = (ia : Int)) (eb : n.b = (ib : Int)) (ec : n.c = (ic : Int)) (la : ia < m) (lb : ib < m) (lc : ic < m) (eop : n.op = 31) (ua r er : Int) (hWa : ∀ X,Below w.heap.size w X -> Calls Tryz.prog 32 #[.pointer (some ⟨B,0,none⟩),.int .i64 (ia : Int)] X fun e w' => e = .returned (.int .i64 ua) /\ Below X.heap.size X w') (hB : ∀ W,Calls Tryz.prog 67 #[.int .i64 ua,.int .u64 ((f ia : Nat) : Int),.int .i64 (IntKind.i64.wrap n.num),.int .i64 n.w] W fun e w' => e = .returned (.tuple #[.int .u64 r,.int .i64 er]) /\ Below W.heap.size W w') :
    Calls Tryz.prog 39 #[.pointer (some ⟨V,0,none⟩),nodeV n] w fun e w' => e = .returned (.int .u64 (r)) /\ Below w.heap.size w w' := by
  generalize hPP : (fun (e : Ending) (w' : World) => e = .returned (.int .u64 (r)) /\ Below w.heap.size w w') = PP
  have HPP : Hid (∀ v w',v = .int .u64 (r) -> Below w.heap.size w w' -> PP (.returned v) w') := fun v w' h1 h2 => by rw [<- hPP]; exact ⟨by rw [h1],h2⟩
  clear hPP; have h0 : VS w V B M k q lv tv m cn T f n (w.alloc (Obj.cells (ndA n) 40 (0,0))) := ⟨bel1 w _,h.below (bel1 w _),heap_alloc_new w _⟩; have HAt : Hid (∀ X i,i < m -> VS w V B M k q lv tv m cn T f n X -> Calls Tryz.prog 62 #[.agg #[lv,tv],.int .i64 (i : Int)] X fun e w' => e = .returned (.int .u64 ((f i : Nat) : Int)) /\ VS w V B M k q lv tv m cn T f n w') := fun X i hi hS => (nat_any q m cn lv tv f i X hS.2.1.ul hi).mono fun e w' ⟨he,hb⟩ => ⟨he,hS.to hb⟩
  have HWa : Hid (∀ X,Below w.heap.size w X -> Calls Tryz.prog 32 #[.pointer (some ⟨B,0,none⟩),.int .i64 (ia : Int)] X fun e w' => e = .returned (.int .i64 ua) /\ Below X.heap.size X w') := hWa; clear hWa; have HB : Hid (∀ W,Calls Tryz.prog 67 #[.int .i64 ua,.int .u64 ((f ia : Nat) : Int),.int .i64 (IntKind.i64.wrap n.num),.int .i64 n.w] W fun e w' => e = .returned (.tuple #[.int .u64 r,.int .i64 er]) /\ Below W.heap.size W w') := hB; clear hB; clear h; have HS0 : Hid (VS w V B M k q lv tv m cn T f n (w.alloc (Obj.cells (ndA n) 40 (0,0))).drew) := ⟨h0.1.trans ⟨rfl,rfl,rfl,Nat.le_refl _,fun _ _ => rfl⟩,⟨h0.2.1.vb,h0.2.1.tm,h0.2.1.ul.keep rfl⟩,h0.2.2⟩; obtain ⟨op,u,a,b,c,num,nm⟩ := n
  dsimp only at *
  subst ea eb ec; obtain rfl : op = 31 := eop; clear h0; unfold nodeV ndA at *
  dsimp only at *
  go_enter Tryz.func39,Tryz.ntmps39
  go_upto_region 1 with fail
  refine qn_intro ?_; have hz0 := HS0.out
  generalize (w.alloc (Obj.cells #[.int .i64 31,.int .i64 u,.int .i64 (ia : Int),.int .i64 (ib : Int),.int .i64 (ic : Int),.int .u64 num,.string nm] 40 (0,0))) = W0 at *
  refine sq_start (VS w V B M k q lv tv m cn T f ⟨31,u,ia,ib,ic,num,nm⟩) [6,13,20] [0,1,2,3,4,5,7,8,9,10,11,12,14,15,16,17,18,19,6,13,20,21,22,23] (by kernel_rfl) (by kernel_rfl) hz0 ?_
  repeat (refine sq_op (v := ?_) (by rfl) (by rfl) (by rfl) ?_ ?_; rotate_left; (focus (intro w hSw; obtain ⟨c0,c1,c2,c3,d0,d1,d2,d3,d4,d5,d6⟩ := hSw.cs; go_simp <;> with_reducible rfl)); simp only [Act.put,List.setIfInBounds_toArray,List.set_cons_zero,List.set_cons_succ])
  refine sq_do (by rfl) (by rfl) (by rfl) (fun K hK => ?_)
  go_simp
  go_at_call 62
  refine (HAt.out _ _ la hz0).mono ?_; rintro e w3 ⟨rfl,hz1⟩; refine hK.out _ _ hz1 (fun _ => ?_); clear hK K
  try simp only [Act.put,List.setIfInBounds_toArray,List.set_cons_zero,List.set_cons_succ]
  repeat (refine sq_op (v := ?_) (by rfl) (by rfl) (by rfl) ?_ ?_; rotate_left; (focus (intro w hSw; obtain ⟨c0,c1,c2,c3,d0,d1,d2,d3,d4,d5,d6⟩ := hSw.cs; go_simp <;> with_reducible rfl)); simp only [Act.put,List.setIfInBounds_toArray,List.set_cons_zero,List.set_cons_succ])
  refine sq_do (by rfl) (by rfl) (by rfl) (fun K hK => ?_)
  go_simp
  go_at_call 62
  refine (HAt.out _ _ lb hz1).mono ?_; rintro e w4 ⟨rfl,hz2⟩; refine hK.out _ _ hz2 (fun _ => ?_); clear hK K
  try simp only [Act.put,List.setIfInBounds_toArray,List.set_cons_zero,List.set_cons_succ]
  repeat (refine sq_op (v := ?_) (by rfl) (by rfl) (by rfl) ?_ ?_; rotate_left; (focus (intro w hSw; obtain ⟨c0,c1,c2,c3,d0,d1,d2,d3,d4,d5,d6⟩ := hSw.cs; go_simp <;> with_reducible rfl)); simp only [Act.put,List.setIfInBounds_toArray,List.set_cons_zero,List.set_cons_succ])
  refine sq_do (by rfl) (by rfl) (by rfl) (fun K hK => ?_)
  go_simp
  go_at_call 62
  refine (HAt.out _ _ lc hz2).mono ?_; rintro e w5 ⟨rfl,hz3⟩; refine hK.out _ _ hz3 (fun _ => ?_); clear hK K
  try simp only [Act.put,List.setIfInBounds_toArray,List.set_cons_zero,List.set_cons_succ]
  repeat (refine sq_op (v := ?_) (by rfl) (by rfl) (by rfl) ?_ ?_; rotate_left; (focus (intro w hSw; obtain ⟨c0,c1,c2,c3,d0,d1,d2,d3,d4,d5,d6⟩ := hSw.cs; go_simp <;> with_reducible rfl)); simp only [Act.put,List.setIfInBounds_toArray,List.set_cons_zero,List.set_cons_succ])
  refine sq_end (fun _ => ?_); unfold QN
  dsimp only
  have HZ3 : Hid (VS w V B M k q lv tv m cn T f ⟨31,u,ia,ib,ic,num,nm⟩ w5) := hz3; obtain ⟨c0,c1,c2,c3,d0,d1,d2,d3,d4,d5,d6⟩ := hz3.cs
  dsimp only at d0 d1 d2 d3 d4 d5 d6
  clear hz0 hz1 hz2 hz3 HS0 HAt
  generalize ((f ia : Nat) : Int) = x at *
  generalize ((f ib : Nat) : Int) = y at *
  generalize ((f ic : Nat) : Int) = z at *
  go_upto_region 39 with fail
  refine qn_intro ?_; have hy0 : VS w V B M k q lv tv m cn T f ⟨31,u,ia,ib,ic,num,nm⟩ w5.drew := ⟨HZ3.out.1.trans ⟨rfl,rfl,rfl,Nat.le_refl _,fun _ _ => rfl⟩,⟨HZ3.out.2.1.vb,HZ3.out.2.1.tm,HZ3.out.2.1.ul.keep rfl⟩,HZ3.out.2.2⟩; clear c0 c1 c2 c3 d0 d1 d2 d3 d4 d5 d6; refine sq_start (VS w V B M k q lv tv m cn T f ⟨31,u,ia,ib,ic,num,nm⟩) [6,13] [0,1,2,3,4,5,7,8,9,10,11,12,6,13,14,15,16,17] (by kernel_rfl) (by kernel_rfl) hy0 ?_
  repeat (refine sq_op (v := ?_) (by rfl) (by rfl) (by rfl) ?_ ?_; rotate_left; (focus (intro w hSw; obtain ⟨c0,c1,c2,c3,d0,d1,d2,d3,d4,d5,d6⟩ := hSw.cs; go_simp <;> with_reducible rfl)); simp only [Act.put,List.setIfInBounds_toArray,List.set_cons_zero,List.set_cons_succ])
  refine sq_do (by rfl) (by rfl) (by rfl) (fun K hK => ?_)
  go_simp
  go_at_call 32
  refine (HWa.out _ hy0.1).mono ?_; rintro e w6 ⟨rfl,hb6⟩; have hy1 := hy0.to hb6; refine hK.out _ _ hy1 (fun _ => ?_); clear hK K
  try simp only [Act.put,List.setIfInBounds_toArray,List.set_cons_zero,List.set_cons_succ]
  repeat (refine sq_op (v := ?_) (by rfl) (by rfl) (by rfl) ?_ ?_; rotate_left; (focus (intro w hSw; obtain ⟨c0,c1,c2,c3,d0,d1,d2,d3,d4,d5,d6⟩ := hSw.cs; go_simp <;> with_reducible rfl)); simp only [Act.put,List.setIfInBounds_toArray,List.set_cons_zero,List.set_cons_succ])
  refine sq_do (by rfl) (by rfl) (by rfl) (fun K hK => ?_)
  go_simp
  go_at_call 67
  refine (HB.out _).mono ?_; rintro e w7 ⟨rfl,hb7⟩; have hy2 := hy1.to hb7; refine hK.out _ _ hy2 (fun _ => ?_); clear hK K
  try simp only [Act.put,List.setIfInBounds_toArray,List.set_cons_zero,List.set_cons_succ]
  repeat (refine sq_op (v := ?_) (by rfl) (by rfl) (by rfl) ?_ ?_; rotate_left; (focus (intro w hSw; obtain ⟨c0,c1,c2,c3,d0,d1,d2,d3,d4,d5,d6⟩ := hSw.cs; go_simp <;> with_reducible rfl)); simp only [Act.put,List.setIfInBounds_toArray,List.set_cons_zero,List.set_cons_succ])
  refine sq_end (fun _ => ?_); unfold QN
  dsimp only
  have HF := hy2.1; clear hy0 hy1 hy2
  go_wp2_with fail
  exact HPP.out _ _ rfl HF
theorem of_p32 (V B M k q : Nat) (lv tv : Value) (m cn : Nat) (T : ByteArray -> Option Vl) (f : Nat -> Nat) (n : Nd) (ia ib ic : Nat) (w : World) (h : VA w V B M k q lv tv m cn T f) (ea : n.a = (ia : Int)) (eb : n.b = (ib : Int)) (ec : n.c = (ic : Int)) (la : ia < m) (lb : ib < m) (lc : ic < m) (eop : n.op = 32) (ua r er : Int) (hWa : ∀ X,Below w.heap.size w X -> Calls Tryz.prog 32 #[.pointer (some ⟨B,0,none⟩),.int .i64 (ia : Int)] X fun e w' => e = .returned (.int .i64 ua) /\ Below X.heap.size X w') (hB : ∀ W,Calls Tryz.prog 68 #[.int .i64 32,.int .i64 ua,.int .u64 ((f ia : Nat) : Int),.int .i64 n.w] W fun e w' => e = .returned (.tuple #[.int .u64 r,.int .i64 er]) /\ Below W.heap.size W w') :
    Calls Tryz.prog 39 #[.pointer (some ⟨V,0,none⟩),nodeV n] w fun e w' => e = .returned (.int .u64 (r)) /\ Below w.heap.size w w' := by
  generalize hPP : (fun (e : Ending) (w' : World) => e = .returned (.int .u64 (r)) /\ Below w.heap.size w w') = PP
  have HPP : Hid (∀ v w',v = .int .u64 (r) -> Below w.heap.size w w' -> PP (.returned v) w') := fun v w' h1 h2 => by rw [<- hPP]; exact ⟨by rw [h1],h2⟩
  clear hPP; have h0 : VS w V B M k q lv tv m cn T f n (w.alloc (Obj.cells (ndA n) 40 (0,0))) := ⟨bel1 w _,h.below (bel1 w _),heap_alloc_new w _⟩; have HAt : Hid (∀ X i,i < m -> VS w V B M k q lv tv m cn T f n X -> Calls Tryz.prog 62 #[.agg #[lv,tv],.int .i64 (i : Int)] X fun e w' => e = .returned (.int .u64 ((f i : Nat) : Int)) /\ VS w V B M k q lv tv m cn T f n w') := fun X i hi hS => (nat_any q m cn lv tv f i X hS.2.1.ul hi).mono fun e w' ⟨he,hb⟩ => ⟨he,hS.to hb⟩
  have HWa : Hid (∀ X,Below w.heap.size w X -> Calls Tryz.prog 32 #[.pointer (some ⟨B,0,none⟩),.int .i64 (ia : Int)] X fun e w' => e = .returned (.int .i64 ua) /\ Below X.heap.size X w') := hWa; clear hWa; have HB : Hid (∀ W,Calls Tryz.prog 68 #[.int .i64 32,.int .i64 ua,.int .u64 ((f ia : Nat) : Int),.int .i64 n.w] W fun e w' => e = .returned (.tuple #[.int .u64 r,.int .i64 er]) /\ Below W.heap.size W w') := hB; clear hB; clear h; have HS0 : Hid (VS w V B M k q lv tv m cn T f n (w.alloc (Obj.cells (ndA n) 40 (0,0))).drew) := ⟨h0.1.trans ⟨rfl,rfl,rfl,Nat.le_refl _,fun _ _ => rfl⟩,⟨h0.2.1.vb,h0.2.1.tm,h0.2.1.ul.keep rfl⟩,h0.2.2⟩; obtain ⟨op,u,a,b,c,num,nm⟩ := n
  dsimp only at *
  subst ea eb ec; obtain rfl : op = 32 := eop; clear h0; unfold nodeV ndA at *
  dsimp only at *
  go_enter Tryz.func39,Tryz.ntmps39
  go_upto_region 1 with fail
  refine qn_intro ?_; have hz0 := HS0.out
  generalize (w.alloc (Obj.cells #[.int .i64 32,.int .i64 u,.int .i64 (ia : Int),.int .i64 (ib : Int),.int .i64 (ic : Int),.int .u64 num,.string nm] 40 (0,0))) = W0 at *
  refine sq_start (VS w V B M k q lv tv m cn T f ⟨32,u,ia,ib,ic,num,nm⟩) [6,13,20] [0,1,2,3,4,5,7,8,9,10,11,12,14,15,16,17,18,19,6,13,20,21,22,23] (by kernel_rfl) (by kernel_rfl) hz0 ?_
  repeat (refine sq_op (v := ?_) (by rfl) (by rfl) (by rfl) ?_ ?_; rotate_left; (focus (intro w hSw; obtain ⟨c0,c1,c2,c3,d0,d1,d2,d3,d4,d5,d6⟩ := hSw.cs; go_simp <;> with_reducible rfl)); simp only [Act.put,List.setIfInBounds_toArray,List.set_cons_zero,List.set_cons_succ])
  refine sq_do (by rfl) (by rfl) (by rfl) (fun K hK => ?_)
  go_simp
  go_at_call 62
  refine (HAt.out _ _ la hz0).mono ?_; rintro e w3 ⟨rfl,hz1⟩; refine hK.out _ _ hz1 (fun _ => ?_); clear hK K
  try simp only [Act.put,List.setIfInBounds_toArray,List.set_cons_zero,List.set_cons_succ]
  repeat (refine sq_op (v := ?_) (by rfl) (by rfl) (by rfl) ?_ ?_; rotate_left; (focus (intro w hSw; obtain ⟨c0,c1,c2,c3,d0,d1,d2,d3,d4,d5,d6⟩ := hSw.cs; go_simp <;> with_reducible rfl)); simp only [Act.put,List.setIfInBounds_toArray,List.set_cons_zero,List.set_cons_succ])
  refine sq_do (by rfl) (by rfl) (by rfl) (fun K hK => ?_)
  go_simp
  go_at_call 62
  refine (HAt.out _ _ lb hz1).mono ?_; rintro e w4 ⟨rfl,hz2⟩; refine hK.out _ _ hz2 (fun _ => ?_); clear hK K
  try simp only [Act.put,List.setIfInBounds_toArray,List.set_cons_zero,List.set_cons_succ]
  repeat (refine sq_op (v := ?_) (by rfl) (by rfl) (by rfl) ?_ ?_; rotate_left; (focus (intro w hSw; obtain ⟨c0,c1,c2,c3,d0,d1,d2,d3,d4,d5,d6⟩ := hSw.cs; go_simp <;> with_reducible rfl)); simp only [Act.put,List.setIfInBounds_toArray,List.set_cons_zero,List.set_cons_succ])
  refine sq_do (by rfl) (by rfl) (by rfl) (fun K hK => ?_)
  go_simp
  go_at_call 62
  refine (HAt.out _ _ lc hz2).mono ?_; rintro e w5 ⟨rfl,hz3⟩; refine hK.out _ _ hz3 (fun _ => ?_); clear hK K
  try simp only [Act.put,List.setIfInBounds_toArray,List.set_cons_zero,List.set_cons_succ]
  repeat (refine sq_op (v := ?_) (by rfl) (by rfl) (by rfl) ?_ ?_; rotate_left; (focus (intro w hSw; obtain ⟨c0,c1,c2,c3,d0,d1,d2,d3,d4,d5,d6⟩ := hSw.cs; go_simp <;> with_reducible rfl)); simp only [Act.put,List.setIfInBounds_toArray,List.set_cons_zero,List.set_cons_succ])
  refine sq_end (fun _ => ?_); unfold QN
  dsimp only
  have HZ3 : Hid (VS w V B M k q lv tv m cn T f ⟨32,u,ia,ib,ic,num,nm⟩ w5) := hz3; obtain ⟨c0,c1,c2,c3,d0,d1,d2,d3,d4,d5,d6⟩ := hz3.cs
  dsimp only at d0 d1 d2 d3 d4 d5 d6
  clear hz0 hz1 hz2 hz3 HS0 HAt
  generalize ((f ia : Nat) : Int) = x at *
  generalize ((f ib : Nat) : Int) = y at *
  generalize ((f ic : Nat) : Int) = z at *
  go_upto_region 42 with fail
  refine qn_intro ?_; have hy0 : VS w V B M k q lv tv m cn T f ⟨32,u,ia,ib,ic,num,nm⟩ w5.drew := ⟨HZ3.out.1.trans ⟨rfl,rfl,rfl,Nat.le_refl _,fun _ _ => rfl⟩,⟨HZ3.out.2.1.vb,HZ3.out.2.1.tm,HZ3.out.2.1.ul.keep rfl⟩,HZ3.out.2.2⟩; clear c0 c1 c2 c3 d0 d1 d2 d3 d4 d5 d6; refine sq_start (VS w V B M k q lv tv m cn T f ⟨32,u,ia,ib,ic,num,nm⟩) [8,12] [0,1,2,3,4,5,6,7,9,10,11,8,12,13,14,15,16] (by kernel_rfl) (by kernel_rfl) hy0 ?_
  repeat (refine sq_op (v := ?_) (by rfl) (by rfl) (by rfl) ?_ ?_; rotate_left; (focus (intro w hSw; obtain ⟨c0,c1,c2,c3,d0,d1,d2,d3,d4,d5,d6⟩ := hSw.cs; go_simp <;> with_reducible rfl)); simp only [Act.put,List.setIfInBounds_toArray,List.set_cons_zero,List.set_cons_succ])
  refine sq_do (by rfl) (by rfl) (by rfl) (fun K hK => ?_)
  go_simp
  go_at_call 32
  refine (HWa.out _ hy0.1).mono ?_; rintro e w6 ⟨rfl,hb6⟩; have hy1 := hy0.to hb6; refine hK.out _ _ hy1 (fun _ => ?_); clear hK K
  try simp only [Act.put,List.setIfInBounds_toArray,List.set_cons_zero,List.set_cons_succ]
  repeat (refine sq_op (v := ?_) (by rfl) (by rfl) (by rfl) ?_ ?_; rotate_left; (focus (intro w hSw; obtain ⟨c0,c1,c2,c3,d0,d1,d2,d3,d4,d5,d6⟩ := hSw.cs; go_simp <;> with_reducible rfl)); simp only [Act.put,List.setIfInBounds_toArray,List.set_cons_zero,List.set_cons_succ])
  refine sq_do (by rfl) (by rfl) (by rfl) (fun K hK => ?_)
  go_simp
  go_at_call 68
  refine (HB.out _).mono ?_; rintro e w7 ⟨rfl,hb7⟩; have hy2 := hy1.to hb7; refine hK.out _ _ hy2 (fun _ => ?_); clear hK K
  try simp only [Act.put,List.setIfInBounds_toArray,List.set_cons_zero,List.set_cons_succ]
  repeat (refine sq_op (v := ?_) (by rfl) (by rfl) (by rfl) ?_ ?_; rotate_left; (focus (intro w hSw; obtain ⟨c0,c1,c2,c3,d0,d1,d2,d3,d4,d5,d6⟩ := hSw.cs; go_simp <;> with_reducible rfl)); simp only [Act.put,List.setIfInBounds_toArray,List.set_cons_zero,List.set_cons_succ])
  refine sq_end (fun _ => ?_); unfold QN
  dsimp only
  have HF := hy2.1; clear hy0 hy1 hy2
  go_wp2_with fail
  exact HPP.out _ _ rfl HF
theorem of_p33 (V B M k q : Nat) (lv tv : Value) (m cn : Nat) (T : ByteArray -> Option Vl) (f : Nat -> Nat) (n : Nd) (ia ib ic : Nat) (w : World) (h : VA w V B M k q lv tv m cn T f) (ea : n.a = (ia : Int)) (eb : n.b = (ib : Int)) (ec : n.c = (ic : Int)) (la : ia < m) (lb : ib < m) (lc : ic < m) (eop : n.op = 33) (ua r er : Int) (hWa : ∀ X,Below w.heap.size w X -> Calls Tryz.prog 32 #[.pointer (some ⟨B,0,none⟩),.int .i64 (ia : Int)] X fun e w' => e = .returned (.int .i64 ua) /\ Below X.heap.size X w') (hB : ∀ W,Calls Tryz.prog 68 #[.int .i64 33,.int .i64 ua,.int .u64 ((f ia : Nat) : Int),.int .i64 n.w] W fun e w' => e = .returned (.tuple #[.int .u64 r,.int .i64 er]) /\ Below W.heap.size W w') :
    Calls Tryz.prog 39 #[.pointer (some ⟨V,0,none⟩),nodeV n] w fun e w' => e = .returned (.int .u64 (r)) /\ Below w.heap.size w w' := by
  generalize hPP : (fun (e : Ending) (w' : World) => e = .returned (.int .u64 (r)) /\ Below w.heap.size w w') = PP
  have HPP : Hid (∀ v w',v = .int .u64 (r) -> Below w.heap.size w w' -> PP (.returned v) w') := fun v w' h1 h2 => by rw [<- hPP]; exact ⟨by rw [h1],h2⟩
  clear hPP; have h0 : VS w V B M k q lv tv m cn T f n (w.alloc (Obj.cells (ndA n) 40 (0,0))) := ⟨bel1 w _,h.below (bel1 w _),heap_alloc_new w _⟩; have HAt : Hid (∀ X i,i < m -> VS w V B M k q lv tv m cn T f n X -> Calls Tryz.prog 62 #[.agg #[lv,tv],.int .i64 (i : Int)] X fun e w' => e = .returned (.int .u64 ((f i : Nat) : Int)) /\ VS w V B M k q lv tv m cn T f n w') := fun X i hi hS => (nat_any q m cn lv tv f i X hS.2.1.ul hi).mono fun e w' ⟨he,hb⟩ => ⟨he,hS.to hb⟩
  have HWa : Hid (∀ X,Below w.heap.size w X -> Calls Tryz.prog 32 #[.pointer (some ⟨B,0,none⟩),.int .i64 (ia : Int)] X fun e w' => e = .returned (.int .i64 ua) /\ Below X.heap.size X w') := hWa; clear hWa; have HB : Hid (∀ W,Calls Tryz.prog 68 #[.int .i64 33,.int .i64 ua,.int .u64 ((f ia : Nat) : Int),.int .i64 n.w] W fun e w' => e = .returned (.tuple #[.int .u64 r,.int .i64 er]) /\ Below W.heap.size W w') := hB; clear hB; clear h; have HS0 : Hid (VS w V B M k q lv tv m cn T f n (w.alloc (Obj.cells (ndA n) 40 (0,0))).drew) := ⟨h0.1.trans ⟨rfl,rfl,rfl,Nat.le_refl _,fun _ _ => rfl⟩,⟨h0.2.1.vb,h0.2.1.tm,h0.2.1.ul.keep rfl⟩,h0.2.2⟩; obtain ⟨op,u,a,b,c,num,nm⟩ := n
  dsimp only at *
  subst ea eb ec; obtain rfl : op = 33 := eop; clear h0; unfold nodeV ndA at *
  dsimp only at *
  go_enter Tryz.func39,Tryz.ntmps39
  go_upto_region 1 with fail
  refine qn_intro ?_; have hz0 := HS0.out
  generalize (w.alloc (Obj.cells #[.int .i64 33,.int .i64 u,.int .i64 (ia : Int),.int .i64 (ib : Int),.int .i64 (ic : Int),.int .u64 num,.string nm] 40 (0,0))) = W0 at *
  refine sq_start (VS w V B M k q lv tv m cn T f ⟨33,u,ia,ib,ic,num,nm⟩) [6,13,20] [0,1,2,3,4,5,7,8,9,10,11,12,14,15,16,17,18,19,6,13,20,21,22,23] (by kernel_rfl) (by kernel_rfl) hz0 ?_
  repeat (refine sq_op (v := ?_) (by rfl) (by rfl) (by rfl) ?_ ?_; rotate_left; (focus (intro w hSw; obtain ⟨c0,c1,c2,c3,d0,d1,d2,d3,d4,d5,d6⟩ := hSw.cs; go_simp <;> with_reducible rfl)); simp only [Act.put,List.setIfInBounds_toArray,List.set_cons_zero,List.set_cons_succ])
  refine sq_do (by rfl) (by rfl) (by rfl) (fun K hK => ?_)
  go_simp
  go_at_call 62
  refine (HAt.out _ _ la hz0).mono ?_; rintro e w3 ⟨rfl,hz1⟩; refine hK.out _ _ hz1 (fun _ => ?_); clear hK K
  try simp only [Act.put,List.setIfInBounds_toArray,List.set_cons_zero,List.set_cons_succ]
  repeat (refine sq_op (v := ?_) (by rfl) (by rfl) (by rfl) ?_ ?_; rotate_left; (focus (intro w hSw; obtain ⟨c0,c1,c2,c3,d0,d1,d2,d3,d4,d5,d6⟩ := hSw.cs; go_simp <;> with_reducible rfl)); simp only [Act.put,List.setIfInBounds_toArray,List.set_cons_zero,List.set_cons_succ])
  refine sq_do (by rfl) (by rfl) (by rfl) (fun K hK => ?_)
  go_simp
  go_at_call 62
  refine (HAt.out _ _ lb hz1).mono ?_; rintro e w4 ⟨rfl,hz2⟩; refine hK.out _ _ hz2 (fun _ => ?_); clear hK K
  try simp only [Act.put,List.setIfInBounds_toArray,List.set_cons_zero,List.set_cons_succ]
  repeat (refine sq_op (v := ?_) (by rfl) (by rfl) (by rfl) ?_ ?_; rotate_left; (focus (intro w hSw; obtain ⟨c0,c1,c2,c3,d0,d1,d2,d3,d4,d5,d6⟩ := hSw.cs; go_simp <;> with_reducible rfl)); simp only [Act.put,List.setIfInBounds_toArray,List.set_cons_zero,List.set_cons_succ])
  refine sq_do (by rfl) (by rfl) (by rfl) (fun K hK => ?_)
  go_simp
  go_at_call 62
  refine (HAt.out _ _ lc hz2).mono ?_; rintro e w5 ⟨rfl,hz3⟩; refine hK.out _ _ hz3 (fun _ => ?_); clear hK K
  try simp only [Act.put,List.setIfInBounds_toArray,List.set_cons_zero,List.set_cons_succ]
  repeat (refine sq_op (v := ?_) (by rfl) (by rfl) (by rfl) ?_ ?_; rotate_left; (focus (intro w hSw; obtain ⟨c0,c1,c2,c3,d0,d1,d2,d3,d4,d5,d6⟩ := hSw.cs; go_simp <;> with_reducible rfl)); simp only [Act.put,List.setIfInBounds_toArray,List.set_cons_zero,List.set_cons_succ])
  refine sq_end (fun _ => ?_); unfold QN
  dsimp only
  have HZ3 : Hid (VS w V B M k q lv tv m cn T f ⟨33,u,ia,ib,ic,num,nm⟩ w5) := hz3; obtain ⟨c0,c1,c2,c3,d0,d1,d2,d3,d4,d5,d6⟩ := hz3.cs
  dsimp only at d0 d1 d2 d3 d4 d5 d6
  clear hz0 hz1 hz2 hz3 HS0 HAt
  generalize ((f ia : Nat) : Int) = x at *
  generalize ((f ib : Nat) : Int) = y at *
  generalize ((f ic : Nat) : Int) = z at *
  go_upto_region 42 with fail
  refine qn_intro ?_; have hy0 : VS w V B M k q lv tv m cn T f ⟨33,u,ia,ib,ic,num,nm⟩ w5.drew := ⟨HZ3.out.1.trans ⟨rfl,rfl,rfl,Nat.le_refl _,fun _ _ => rfl⟩,⟨HZ3.out.2.1.vb,HZ3.out.2.1.tm,HZ3.out.2.1.ul.keep rfl⟩,HZ3.out.2.2⟩; clear c0 c1 c2 c3 d0 d1 d2 d3 d4 d5 d6; refine sq_start (VS w V B M k q lv tv m cn T f ⟨33,u,ia,ib,ic,num,nm⟩) [8,12] [0,1,2,3,4,5,6,7,9,10,11,8,12,13,14,15,16] (by kernel_rfl) (by kernel_rfl) hy0 ?_
  repeat (refine sq_op (v := ?_) (by rfl) (by rfl) (by rfl) ?_ ?_; rotate_left; (focus (intro w hSw; obtain ⟨c0,c1,c2,c3,d0,d1,d2,d3,d4,d5,d6⟩ := hSw.cs; go_simp <;> with_reducible rfl)); simp only [Act.put,List.setIfInBounds_toArray,List.set_cons_zero,List.set_cons_succ])
  refine sq_do (by rfl) (by rfl) (by rfl) (fun K hK => ?_)
  go_simp
  go_at_call 32
  refine (HWa.out _ hy0.1).mono ?_; rintro e w6 ⟨rfl,hb6⟩; have hy1 := hy0.to hb6; refine hK.out _ _ hy1 (fun _ => ?_); clear hK K
  try simp only [Act.put,List.setIfInBounds_toArray,List.set_cons_zero,List.set_cons_succ]
  repeat (refine sq_op (v := ?_) (by rfl) (by rfl) (by rfl) ?_ ?_; rotate_left; (focus (intro w hSw; obtain ⟨c0,c1,c2,c3,d0,d1,d2,d3,d4,d5,d6⟩ := hSw.cs; go_simp <;> with_reducible rfl)); simp only [Act.put,List.setIfInBounds_toArray,List.set_cons_zero,List.set_cons_succ])
  refine sq_do (by rfl) (by rfl) (by rfl) (fun K hK => ?_)
  go_simp
  go_at_call 68
  refine (HB.out _).mono ?_; rintro e w7 ⟨rfl,hb7⟩; have hy2 := hy1.to hb7; refine hK.out _ _ hy2 (fun _ => ?_); clear hK K
  try simp only [Act.put,List.setIfInBounds_toArray,List.set_cons_zero,List.set_cons_succ]
  repeat (refine sq_op (v := ?_) (by rfl) (by rfl) (by rfl) ?_ ?_; rotate_left; (focus (intro w hSw; obtain ⟨c0,c1,c2,c3,d0,d1,d2,d3,d4,d5,d6⟩ := hSw.cs; go_simp <;> with_reducible rfl)); simp only [Act.put,List.setIfInBounds_toArray,List.set_cons_zero,List.set_cons_succ])
  refine sq_end (fun _ => ?_); unfold QN
  dsimp only
  have HF := hy2.1; clear hy0 hy1 hy2
  go_wp2_with fail
  exact HPP.out _ _ rfl HF
end Go.Proofs.YtkpapgfbnledpaaGreatDoor.G2
