import Derived.Test.YtkpapgfbnledpaaGreatDoorEvJ
import Derived.Test.YtkpapgfbnledpaaGreatDoorTlS
import Derived.Deep.Cut
import Derived.Deep.CutBlock
import Derived.Maps.AppendAt
set_option maxHeartbeats 8000000
set_option maxRecDepth 100000
namespace Go.Proofs.YtkpapgfbnledpaaGreatDoor
open Go.ChangeShapes Go.WideShapes Go.ChangeAt Go.RowKit Go.Lib Go.Tm Go.Bw Go.Bn Go.WideMaps Go.Maps Go.ChangeMaps
attribute [local go_sem] Oper.semAt_some

structure VA (w : World) (V B M k g m : Nat) (T : ByteArray -> Option Vl) (f : Nat -> Nat) : Prop where
  vb : w.heap[V]? = some (Obj.cells #[.pointer (some ⟨B,0,none⟩),.map (some M),.slice (some ⟨g,0,none⟩) m m,.map none] 98 (0,0))
  tm : TMP w M k T
  ul : UL w g m f
theorem VA.below {w w' : World} {V B M k g m : Nat} {T : ByteArray -> Option Vl} {f : Nat -> Nat} (h : VA w V B M k g m T f) (hb : Below w.heap.size w w') : VA w' V B M k g m T f :=
  ⟨(hb.block V (Array.getElem?_eq_some_iff.1 h.vb).1).trans h.vb,h.tm.below hb,h.ul.below hb⟩
def VS (w : World) (V B M k g m : Nat) (T : ByteArray -> Option Vl) (f : Nat -> Nat) (n : Nd) (X : World) : Prop :=
  Below w.heap.size w X /\ VA X V B M k g m T f /\ X.heap[w.heap.size]? = some (Obj.cells (ndA n) 40 (0,0))
theorem VS.to {w X X' : World} {V B M k g m : Nat} {T : ByteArray -> Option Vl} {f : Nat -> Nat} {n : Nd} (h : VS w V B M k g m T f n X) (hb : Below X.heap.size X X') : VS w V B M k g m T f n X' :=
  ⟨h.1.trans (below_le' hb h.1.size),h.2.1.below hb,(hb.block _ (Array.getElem?_eq_some_iff.1 h.2.2).1).trans h.2.2⟩
theorem VS.cs {w X : World} {V B M k g m : Nat} {T : ByteArray -> Option Vl} {f : Nat -> Nat} {n : Nd} (h : VS w V B M k g m T f n X) :
    X.cell? ⟨V,0,none⟩ = some (.pointer (some ⟨B,0,none⟩)) /\ X.cell? ⟨V,1,none⟩ = some (.map (some M)) /\ X.cell? ⟨V,2,none⟩ = some (.slice (some ⟨g,0,none⟩) m m) /\ X.cell? ⟨V,3,none⟩ = some (.map none)
    /\ X.cell? ⟨w.heap.size,0,none⟩ = some (.int .i64 n.op) /\ X.cell? ⟨w.heap.size,1,none⟩ = some (.int .i64 n.w) /\ X.cell? ⟨w.heap.size,2,none⟩ = some (.int .i64 n.a) /\ X.cell? ⟨w.heap.size,3,none⟩ = some (.int .i64 n.b) /\ X.cell? ⟨w.heap.size,4,none⟩ = some (.int .i64 n.c) /\ X.cell? ⟨w.heap.size,5,none⟩ = some (.int .u64 n.num) /\ X.cell? ⟨w.heap.size,6,none⟩ = some (.string n.name) :=
  ⟨blk_cell h.2.1.vb 0,blk_cell h.2.1.vb 1,blk_cell h.2.1.vb 2,blk_cell h.2.1.vb 3,blk_cell h.2.2 0,blk_cell h.2.2 1,blk_cell h.2.2 2,blk_cell h.2.2 3,blk_cell h.2.2 4,blk_cell h.2.2 5,blk_cell h.2.2 6⟩
theorem run_fieldV (a : ByteArray) (b c : Int) (X : World) : (Instr.field 38 (.agg #[.string a,.int .i64 b,.int .u64 c]) 2).run Tryz.prog X = .ok (.int .u64 c) X := by
  have hc : Tryz.prog.cellsOf 36 = 1 := by kernel_rfl
  simp [Instr.field,run_underlying Tryz.underlying38,asAgg,part,Result.andThen]
  done
theorem truth_any (b : Bool) (w : World) : Calls Tryz.prog 63 #[.bool b] w fun e w' => e = .returned (.int .u64 (if b = true then 1 else 0)) /\ w' = w := by
  cases b
  · go_enter Tryz.func63,Tryz.ntmps63
    go_wp2
    go_ret
    exact ⟨rfl,rfl⟩
  go_enter Tryz.func63,Tryz.ntmps63
  go_wp2
  go_ret
  exact ⟨rfl,rfl⟩
theorem of_eq (V B M k g m : Nat) (T : ByteArray -> Option Vl) (f : Nat -> Nat) (n : Nd) (ia ib ic : Nat) (w : World) (h : VA w V B M k g m T f) (ea : n.a = (ia : Int)) (eb : n.b = (ib : Int)) (ec : n.c = (ic : Int)) (la : ia < m) (lb : ib < m) (lc : ic < m) (eop : n.op = 9) :
    Calls Tryz.prog 39 #[.pointer (some ⟨V,0,none⟩),nodeV n] w fun e w' => e = .returned (.int .u64 (if f ia = f ib then 1 else 0)) /\ Below w.heap.size w w' := by
  generalize hPP : (fun (e : Ending) (w' : World) => e = .returned (.int .u64 (if f ia = f ib then 1 else 0)) /\ Below w.heap.size w w') = PP
  have HPP : Hid (∀ v w',v = .int .u64 (if f ia = f ib then 1 else 0) -> Below w.heap.size w w' -> PP (.returned v) w') := fun v w' h1 h2 => by rw [<- hPP]; exact ⟨by rw [h1],h2⟩
  clear hPP; have h0 : VS w V B M k g m T f n (w.alloc (Obj.cells (ndA n) 40 (0,0))) := ⟨bel1 w _,h.below (bel1 w _),heap_alloc_new w _⟩; have HAt : Hid (∀ X i,i < m -> VS w V B M k g m T f n X -> Calls Tryz.prog 62 #[.agg #[.slice (some ⟨g,0,none⟩) m m,.map none],.int .i64 (i : Int)] X fun e w' => e = .returned (.int .u64 ((f i : Nat) : Int)) /\ VS w V B M k g m T f n w') := fun X i hi hS => (uat_any g m f i X hS.2.1.ul hi).mono fun e w' ⟨he,hb⟩ => ⟨he,hS.to hb⟩
  clear h; have HS0 : Hid (VS w V B M k g m T f n (w.alloc (Obj.cells (ndA n) 40 (0,0))).drew) := ⟨h0.1.trans ⟨rfl,rfl,rfl,Nat.le_refl _,fun _ _ => rfl⟩,⟨h0.2.1.vb,h0.2.1.tm,h0.2.1.ul.keep rfl⟩,h0.2.2⟩; obtain ⟨op,u,a,b,c,num,nm⟩ := n
  dsimp only at *
  subst ea eb ec; obtain rfl : op = 9 := eop; clear h0; unfold nodeV ndA at *
  dsimp only at *
  go_enter Tryz.func39,Tryz.ntmps39
  go_upto_region 1 with fail
  refine qn_intro ?_; have hz0 := HS0.out
  generalize (w.alloc (Obj.cells #[.int .i64 9,.int .i64 u,.int .i64 (ia : Int),.int .i64 (ib : Int),.int .i64 (ic : Int),.int .u64 num,.string nm] 40 (0,0))) = W0 at *
  refine sq_start (VS w V B M k g m T f ⟨9,u,ia,ib,ic,num,nm⟩) [6,13,20] [0,1,2,3,4,5,7,8,9,10,11,12,14,15,16,17,18,19,6,13,20,21,22,23] (by kernel_rfl) (by kernel_rfl) hz0 ?_
  repeat (refine sq_op (v := ?_) (by rfl) (by rfl) (by rfl) ?_ ?_; rotate_left; (focus (intro w hSw; obtain ⟨c0,c1,c2,c3,d0,d1,d2,d3,d4,d5,d6⟩ := hSw.cs; go_simp <;> with_reducible rfl)); simp only [Act.put,List.setIfInBounds_toArray,List.set_cons_zero,List.set_cons_succ])
  refine sq_do (by rfl) (by rfl) (by rfl) (fun K hK => ?_)
  go_simp
  go_at_call 62
  refine (HAt.out _ _ la hz0).mono ?_; rintro e w3 ⟨rfl,hz1⟩; refine hK.out _ _ hz1 (fun _ => ?_); clear hK K
  try simp only [Act.put,List.setIfInBounds_toArray,List.set_cons_zero,List.set_cons_succ]
  repeat (refine sq_op (v := ?_) (by rfl) (by rfl) (by rfl) ?_ ?_; rotate_left; (focus (intro w hSw; obtain ⟨c0,c1,c2,c3,d0,d1,d2,d3,d4,d5,d6⟩ := hSw.cs; go_simp <;> with_reducible rfl)); simp only [Act.put,List.setIfInBounds_toArray,List.set_cons_zero,List.set_cons_succ])
  refine sq_do (by rfl) (by rfl) (by rfl) (fun K hK => ?_)
  go_simp
  go_at_call 62
  refine (HAt.out _ _ lb hz1).mono ?_; rintro e w4 ⟨rfl,hz2⟩; refine hK.out _ _ hz2 (fun _ => ?_); clear hK K
  try simp only [Act.put,List.setIfInBounds_toArray,List.set_cons_zero,List.set_cons_succ]
  repeat (refine sq_op (v := ?_) (by rfl) (by rfl) (by rfl) ?_ ?_; rotate_left; (focus (intro w hSw; obtain ⟨c0,c1,c2,c3,d0,d1,d2,d3,d4,d5,d6⟩ := hSw.cs; go_simp <;> with_reducible rfl)); simp only [Act.put,List.setIfInBounds_toArray,List.set_cons_zero,List.set_cons_succ])
  refine sq_do (by rfl) (by rfl) (by rfl) (fun K hK => ?_)
  go_simp
  go_at_call 62
  refine (HAt.out _ _ lc hz2).mono ?_; rintro e w5 ⟨rfl,hz3⟩; refine hK.out _ _ hz3 (fun _ => ?_); clear hK K
  try simp only [Act.put,List.setIfInBounds_toArray,List.set_cons_zero,List.set_cons_succ]
  repeat (refine sq_op (v := ?_) (by rfl) (by rfl) (by rfl) ?_ ?_; rotate_left; (focus (intro w hSw; obtain ⟨c0,c1,c2,c3,d0,d1,d2,d3,d4,d5,d6⟩ := hSw.cs; go_simp <;> with_reducible rfl)); simp only [Act.put,List.setIfInBounds_toArray,List.set_cons_zero,List.set_cons_succ])
  refine sq_end (fun _ => ?_); unfold QN
  dsimp only
  have HZ3 : Hid (VS w V B M k g m T f ⟨9,u,ia,ib,ic,num,nm⟩ w5) := hz3; obtain ⟨c0,c1,c2,c3,d0,d1,d2,d3,d4,d5,d6⟩ := hz3.cs
  dsimp only at d0 d1 d2 d3 d4 d5 d6
  clear hz0 hz1 hz2 hz3 HS0 HAt; have HTr := fun (b : Bool) (X : World) => truth_any b X
  by_cases hq : f ia = f ib
  · have hd : ((f ia : Nat) : Int) = ((f ib : Nat) : Int) := by rw [hq]
    rw [if_pos hq] at HPP
    generalize ((f ia : Nat) : Int) = x at *
    generalize ((f ib : Nat) : Int) = y at *
    generalize ((f ic : Nat) : Int) = z at *
    subst hd
    go_wp2_with fail
    refine (HTr true w5).mono ?_; rintro e w6 ⟨rfl,rfl⟩
    go_wp2_with fail
    exact HPP.out _ _ rfl HZ3.out.1
  have hd : (((f ia : Nat) : Int) == ((f ib : Nat) : Int)) = false := by simp; omega
  rw [if_neg hq] at HPP
  generalize ((f ia : Nat) : Int) = x at *
  generalize ((f ib : Nat) : Int) = y at *
  generalize ((f ic : Nat) : Int) = z at *
  go_wp2_with fail
  refine (HTr false w5).mono ?_; rintro e w6 ⟨rfl,rfl⟩
  go_wp2_with fail
  exact HPP.out _ _ rfl HZ3.out.1
theorem of_var (V B M k g m : Nat) (T : ByteArray -> Option Vl) (f : Nat -> Nat) (n : Nd) (ia ib ic : Nat) (w : World) (h : VA w V B M k g m T f) (ea : n.a = (ia : Int)) (eb : n.b = (ib : Int)) (ec : n.c = (ic : Int)) (la : ia < m) (lb : ib < m) (lc : ic < m) (eop : n.op = 4) (hnm : n.name.size <= 140737488355328) :
    Calls Tryz.prog 39 #[.pointer (some ⟨V,0,none⟩),nodeV n] w fun e w' => e = .returned (.int .u64 (((T n.name).getD vZ).num)) /\ Below w.heap.size w w' := by
  generalize hPP : (fun (e : Ending) (w' : World) => e = .returned (.int .u64 (((T n.name).getD vZ).num)) /\ Below w.heap.size w w') = PP
  have HPP : Hid (∀ v w',v = .int .u64 (((T n.name).getD vZ).num) -> Below w.heap.size w w' -> PP (.returned v) w') := fun v w' h1 h2 => by rw [<- hPP]; exact ⟨by rw [h1],h2⟩
  clear hPP; have h0 : VS w V B M k g m T f n (w.alloc (Obj.cells (ndA n) 40 (0,0))) := ⟨bel1 w _,h.below (bel1 w _),heap_alloc_new w _⟩; have HAt : Hid (∀ X i,i < m -> VS w V B M k g m T f n X -> Calls Tryz.prog 62 #[.agg #[.slice (some ⟨g,0,none⟩) m m,.map none],.int .i64 (i : Int)] X fun e w' => e = .returned (.int .u64 ((f i : Nat) : Int)) /\ VS w V B M k g m T f n w') := fun X i hi hS => (uat_any g m f i X hS.2.1.ul hi).mono fun e w' ⟨he,hb⟩ => ⟨he,hS.to hb⟩
  clear h; have HS0 : Hid (VS w V B M k g m T f n (w.alloc (Obj.cells (ndA n) 40 (0,0))).drew) := ⟨h0.1.trans ⟨rfl,rfl,rfl,Nat.le_refl _,fun _ _ => rfl⟩,⟨h0.2.1.vb,h0.2.1.tm,h0.2.1.ul.keep rfl⟩,h0.2.2⟩; obtain ⟨op,u,a,b,c,num,nm⟩ := n
  dsimp only at *
  subst ea eb ec; obtain rfl : op = 4 := eop; clear h0; unfold nodeV ndA at *
  dsimp only at *
  go_enter Tryz.func39,Tryz.ntmps39
  go_upto_region 1 with fail
  refine qn_intro ?_; have hz0 := HS0.out
  generalize (w.alloc (Obj.cells #[.int .i64 4,.int .i64 u,.int .i64 (ia : Int),.int .i64 (ib : Int),.int .i64 (ic : Int),.int .u64 num,.string nm] 40 (0,0))) = W0 at *
  refine sq_start (VS w V B M k g m T f ⟨4,u,ia,ib,ic,num,nm⟩) [6,13,20] [0,1,2,3,4,5,7,8,9,10,11,12,14,15,16,17,18,19,6,13,20,21,22,23] (by kernel_rfl) (by kernel_rfl) hz0 ?_
  repeat (refine sq_op (v := ?_) (by rfl) (by rfl) (by rfl) ?_ ?_; rotate_left; (focus (intro w hSw; obtain ⟨c0,c1,c2,c3,d0,d1,d2,d3,d4,d5,d6⟩ := hSw.cs; go_simp <;> with_reducible rfl)); simp only [Act.put,List.setIfInBounds_toArray,List.set_cons_zero,List.set_cons_succ])
  refine sq_do (by rfl) (by rfl) (by rfl) (fun K hK => ?_)
  go_simp
  go_at_call 62
  refine (HAt.out _ _ la hz0).mono ?_; rintro e w3 ⟨rfl,hz1⟩; refine hK.out _ _ hz1 (fun _ => ?_); clear hK K
  try simp only [Act.put,List.setIfInBounds_toArray,List.set_cons_zero,List.set_cons_succ]
  repeat (refine sq_op (v := ?_) (by rfl) (by rfl) (by rfl) ?_ ?_; rotate_left; (focus (intro w hSw; obtain ⟨c0,c1,c2,c3,d0,d1,d2,d3,d4,d5,d6⟩ := hSw.cs; go_simp <;> with_reducible rfl)); simp only [Act.put,List.setIfInBounds_toArray,List.set_cons_zero,List.set_cons_succ])
  refine sq_do (by rfl) (by rfl) (by rfl) (fun K hK => ?_)
  go_simp
  go_at_call 62
  refine (HAt.out _ _ lb hz1).mono ?_; rintro e w4 ⟨rfl,hz2⟩; refine hK.out _ _ hz2 (fun _ => ?_); clear hK K
  try simp only [Act.put,List.setIfInBounds_toArray,List.set_cons_zero,List.set_cons_succ]
  repeat (refine sq_op (v := ?_) (by rfl) (by rfl) (by rfl) ?_ ?_; rotate_left; (focus (intro w hSw; obtain ⟨c0,c1,c2,c3,d0,d1,d2,d3,d4,d5,d6⟩ := hSw.cs; go_simp <;> with_reducible rfl)); simp only [Act.put,List.setIfInBounds_toArray,List.set_cons_zero,List.set_cons_succ])
  refine sq_do (by rfl) (by rfl) (by rfl) (fun K hK => ?_)
  go_simp
  go_at_call 62
  refine (HAt.out _ _ lc hz2).mono ?_; rintro e w5 ⟨rfl,hz3⟩; refine hK.out _ _ hz3 (fun _ => ?_); clear hK K
  try simp only [Act.put,List.setIfInBounds_toArray,List.set_cons_zero,List.set_cons_succ]
  repeat (refine sq_op (v := ?_) (by rfl) (by rfl) (by rfl) ?_ ?_; rotate_left; (focus (intro w hSw; obtain ⟨c0,c1,c2,c3,d0,d1,d2,d3,d4,d5,d6⟩ := hSw.cs; go_simp <;> with_reducible rfl)); simp only [Act.put,List.setIfInBounds_toArray,List.set_cons_zero,List.set_cons_succ])
  refine sq_end (fun _ => ?_); unfold QN
  dsimp only
  have HZ3 : Hid (VS w V B M k g m T f ⟨4,u,ia,ib,ic,num,nm⟩ w5) := hz3; obtain ⟨c0,c1,c2,c3,d0,d1,d2,d3,d4,d5,d6⟩ := hz3.cs
  dsimp only at d0 d1 d2 d3 d4 d5 d6
  clear hz0 hz1 hz2 hz3 HS0 HAt; have HLk : Hid (∀ X,VS w V B M k g m T f ⟨4,u,ia,ib,ic,num,nm⟩ X -> (Instr.lookup 89 (.map (some M)) (.string nm) false).run Tryz.prog X = .ok (.agg #[.string ((T nm).getD vZ).nm,.int .i64 ((T nm).getD vZ).w,.int .u64 ((T nm).getD vZ).num]) X) := fun X hX => hX.2.1.tm.look nm hnm
  generalize ((T nm).getD vZ) = vl at *
  obtain ⟨vn,vw,vx⟩ := vl
  dsimp only at HLk HPP
  generalize ((f ia : Nat) : Int) = x at *
  generalize ((f ib : Nat) : Int) = y at *
  generalize ((f ic : Nat) : Int) = z at *
  go_upto_region 12 with fail
  refine qn_intro ?_; have HZ4 : Hid (VS w V B M k g m T f ⟨4,u,ia,ib,ic,num,nm⟩ w5.drew) := ⟨HZ3.out.1.trans ⟨rfl,rfl,rfl,Nat.le_refl _,fun _ _ => rfl⟩,⟨HZ3.out.2.1.vb,HZ3.out.2.1.tm,HZ3.out.2.1.ul.keep rfl⟩,HZ3.out.2.2⟩; have hz4 := HZ4.out; clear c0 c1 c2 c3 d0 d1 d2 d3 d4 d5 d6; refine sq_start (VS w V B M k g m T f ⟨4,u,ia,ib,ic,num,nm⟩) [] [0,1,2,3,4,5,6,7,8] (by kernel_rfl) (by kernel_rfl) hz4 ?_
  repeat (refine sq_op (v := ?_) (by rfl) (by rfl) (by rfl) ?_ ?_; rotate_left; (focus (intro w hSw; obtain ⟨c0,c1,c2,c3,d0,d1,d2,d3,d4,d5,d6⟩ := hSw.cs; have hlk := HLk.out _ hSw; have hfd := run_fieldV vn vw vx; go_simp <;> with_reducible rfl)); simp only [Act.put,List.setIfInBounds_toArray,List.set_cons_zero,List.set_cons_succ])
  refine sq_end (fun _ => ?_); unfold QN
  dsimp only
  generalize w5.drew = w6 at *
  go_wp2_with fail
  exact HPP.out _ _ rfl HZ4.out.1
theorem of_b20 (V B M k g m : Nat) (T : ByteArray -> Option Vl) (f : Nat -> Nat) (n : Nd) (ia ib ic : Nat) (w : World) (h : VA w V B M k g m T f) (ea : n.a = (ia : Int)) (eb : n.b = (ib : Int)) (ec : n.c = (ic : Int)) (la : ia < m) (lb : ib < m) (lc : ic < m) (eop : n.op = 20) (r : Int) (hB : ∀ W,Calls Tryz.prog 69 #[.int .i64 20,.int .i64 n.w,.int .u64 ((f ia : Nat) : Int),.int .u64 ((f ib : Nat) : Int)] W fun e w' => e = .returned (.tuple #[.int .u64 r,.int .i64 0]) /\ Below W.heap.size W w') :
    Calls Tryz.prog 39 #[.pointer (some ⟨V,0,none⟩),nodeV n] w fun e w' => e = .returned (.int .u64 (r)) /\ Below w.heap.size w w' := by
  generalize hPP : (fun (e : Ending) (w' : World) => e = .returned (.int .u64 (r)) /\ Below w.heap.size w w') = PP
  have HPP : Hid (∀ v w',v = .int .u64 (r) -> Below w.heap.size w w' -> PP (.returned v) w') := fun v w' h1 h2 => by rw [<- hPP]; exact ⟨by rw [h1],h2⟩
  clear hPP; have h0 : VS w V B M k g m T f n (w.alloc (Obj.cells (ndA n) 40 (0,0))) := ⟨bel1 w _,h.below (bel1 w _),heap_alloc_new w _⟩; have HAt : Hid (∀ X i,i < m -> VS w V B M k g m T f n X -> Calls Tryz.prog 62 #[.agg #[.slice (some ⟨g,0,none⟩) m m,.map none],.int .i64 (i : Int)] X fun e w' => e = .returned (.int .u64 ((f i : Nat) : Int)) /\ VS w V B M k g m T f n w') := fun X i hi hS => (uat_any g m f i X hS.2.1.ul hi).mono fun e w' ⟨he,hb⟩ => ⟨he,hS.to hb⟩
  have HB : Hid (∀ W,Calls Tryz.prog 69 #[.int .i64 20,.int .i64 n.w,.int .u64 ((f ia : Nat) : Int),.int .u64 ((f ib : Nat) : Int)] W fun e w' => e = .returned (.tuple #[.int .u64 r,.int .i64 0]) /\ Below W.heap.size W w') := hB; clear hB; clear h; have HS0 : Hid (VS w V B M k g m T f n (w.alloc (Obj.cells (ndA n) 40 (0,0))).drew) := ⟨h0.1.trans ⟨rfl,rfl,rfl,Nat.le_refl _,fun _ _ => rfl⟩,⟨h0.2.1.vb,h0.2.1.tm,h0.2.1.ul.keep rfl⟩,h0.2.2⟩; obtain ⟨op,u,a,b,c,num,nm⟩ := n
  dsimp only at *
  subst ea eb ec; obtain rfl : op = 20 := eop; clear h0; unfold nodeV ndA at *
  dsimp only at *
  go_enter Tryz.func39,Tryz.ntmps39
  go_upto_region 1 with fail
  refine qn_intro ?_; have hz0 := HS0.out
  generalize (w.alloc (Obj.cells #[.int .i64 20,.int .i64 u,.int .i64 (ia : Int),.int .i64 (ib : Int),.int .i64 (ic : Int),.int .u64 num,.string nm] 40 (0,0))) = W0 at *
  refine sq_start (VS w V B M k g m T f ⟨20,u,ia,ib,ic,num,nm⟩) [6,13,20] [0,1,2,3,4,5,7,8,9,10,11,12,14,15,16,17,18,19,6,13,20,21,22,23] (by kernel_rfl) (by kernel_rfl) hz0 ?_
  repeat (refine sq_op (v := ?_) (by rfl) (by rfl) (by rfl) ?_ ?_; rotate_left; (focus (intro w hSw; obtain ⟨c0,c1,c2,c3,d0,d1,d2,d3,d4,d5,d6⟩ := hSw.cs; go_simp <;> with_reducible rfl)); simp only [Act.put,List.setIfInBounds_toArray,List.set_cons_zero,List.set_cons_succ])
  refine sq_do (by rfl) (by rfl) (by rfl) (fun K hK => ?_)
  go_simp
  go_at_call 62
  refine (HAt.out _ _ la hz0).mono ?_; rintro e w3 ⟨rfl,hz1⟩; refine hK.out _ _ hz1 (fun _ => ?_); clear hK K
  try simp only [Act.put,List.setIfInBounds_toArray,List.set_cons_zero,List.set_cons_succ]
  repeat (refine sq_op (v := ?_) (by rfl) (by rfl) (by rfl) ?_ ?_; rotate_left; (focus (intro w hSw; obtain ⟨c0,c1,c2,c3,d0,d1,d2,d3,d4,d5,d6⟩ := hSw.cs; go_simp <;> with_reducible rfl)); simp only [Act.put,List.setIfInBounds_toArray,List.set_cons_zero,List.set_cons_succ])
  refine sq_do (by rfl) (by rfl) (by rfl) (fun K hK => ?_)
  go_simp
  go_at_call 62
  refine (HAt.out _ _ lb hz1).mono ?_; rintro e w4 ⟨rfl,hz2⟩; refine hK.out _ _ hz2 (fun _ => ?_); clear hK K
  try simp only [Act.put,List.setIfInBounds_toArray,List.set_cons_zero,List.set_cons_succ]
  repeat (refine sq_op (v := ?_) (by rfl) (by rfl) (by rfl) ?_ ?_; rotate_left; (focus (intro w hSw; obtain ⟨c0,c1,c2,c3,d0,d1,d2,d3,d4,d5,d6⟩ := hSw.cs; go_simp <;> with_reducible rfl)); simp only [Act.put,List.setIfInBounds_toArray,List.set_cons_zero,List.set_cons_succ])
  refine sq_do (by rfl) (by rfl) (by rfl) (fun K hK => ?_)
  go_simp
  go_at_call 62
  refine (HAt.out _ _ lc hz2).mono ?_; rintro e w5 ⟨rfl,hz3⟩; refine hK.out _ _ hz3 (fun _ => ?_); clear hK K
  try simp only [Act.put,List.setIfInBounds_toArray,List.set_cons_zero,List.set_cons_succ]
  repeat (refine sq_op (v := ?_) (by rfl) (by rfl) (by rfl) ?_ ?_; rotate_left; (focus (intro w hSw; obtain ⟨c0,c1,c2,c3,d0,d1,d2,d3,d4,d5,d6⟩ := hSw.cs; go_simp <;> with_reducible rfl)); simp only [Act.put,List.setIfInBounds_toArray,List.set_cons_zero,List.set_cons_succ])
  refine sq_end (fun _ => ?_); unfold QN
  dsimp only
  have HZ3 : Hid (VS w V B M k g m T f ⟨20,u,ia,ib,ic,num,nm⟩ w5) := hz3; obtain ⟨c0,c1,c2,c3,d0,d1,d2,d3,d4,d5,d6⟩ := hz3.cs
  dsimp only at d0 d1 d2 d3 d4 d5 d6
  clear hz0 hz1 hz2 hz3 HS0 HAt
  generalize ((f ia : Nat) : Int) = x at *
  generalize ((f ib : Nat) : Int) = y at *
  generalize ((f ic : Nat) : Int) = z at *
  go_wp2_with fail
  refine (HB.out w5).mono ?_; rintro e w6 ⟨rfl,hb6⟩; have HZ6 := HZ3.out.1.trans (below_le' hb6 HZ3.out.1.size)
  go_wp2_with fail
  exact HPP.out _ _ rfl HZ6
end Go.Proofs.YtkpapgfbnledpaaGreatDoor
namespace Go.Proofs.YtkpapgfbnledpaaGreatDoor
open Go.ChangeShapes Go.WideShapes Go.ChangeAt Go.RowKit Go.Lib Go.Tm Go.Bw Go.Bn Go.WideMaps Go.Maps Go.ChangeMaps Go.Shelf
attribute [local go_sem] Oper.semAt_some

def vC (x : Vl) : List Value := [.string x.nm,.int .i64 x.w,.int .u64 x.num]
def flatV : List Vl -> List Value
  | [] => []
  | x :: xs => vC x ++ flatV xs
theorem flatV_app (xs ys : List Vl) : flatV (xs ++ ys) = flatV xs ++ flatV ys := by
  induction xs with
  | nil => rfl
  | cons x xs ih => show vC x ++ flatV (xs ++ ys) = _; rw [ih]; show _ = (vC x ++ flatV xs) ++ _; rw [List.append_assoc]
theorem flatV_at : ∀ (xs : List Vl) (i j : Nat),i < xs.length -> j < 3 -> (flatV xs)[i * 3 + j]? = (vC (xs.getD i vZ))[j]?
  | x :: xs,0,j,_,hj => by
    show (vC x ++ flatV xs)[0 * 3 + j]? = (vC x)[j]?
    rw [Nat.zero_mul,Nat.zero_add,List.getElem?_append_left (by show j < 3; exact hj)]
  | x :: xs,i + 1,j,hi,hj => by
    have h := flatV_at xs i j (by simpa using hi) hj
    show (vC x ++ flatV xs)[(i + 1) * 3 + j]? = (vC (xs.getD i vZ))[j]?
    rw [List.getElem?_append_right (by show 3 <= _; omega)]; rw [show (i + 1) * 3 + j - (vC x).length = i * 3 + j by show (i + 1) * 3 + j - 3 = _; omega]; exact h
theorem ownsRow_le {w : World} {B B' e k n : Nat} {v : Value} {xs : List Value} (h : w.ownsRow B e k v n xs) (hB : B' <= B) : w.ownsRow B' e k v n xs := by
  refine ⟨h.1,?_⟩
  rcases h.2 with h0 | ⟨g,cap,cur,e,h2,h3⟩
  · exact Or.inl h0
  exact Or.inr ⟨g,cap,cur,e,Nat.le_trans hB h2,h3⟩
theorem vr_row {w : World} {B : Nat} {v : Value} {xs : List Vl} (h : w.ownsRow B 38 3 v xs.length (flatV xs)) : ∃ ad c,v = .slice ad xs.length c /\ VR w ad xs := by
  obtain ⟨ad,c,rfl,hg⟩ := row_form h; refine ⟨ad,c,rfl,fun h0 => ?_⟩; obtain ⟨g,rfl⟩ := hg h0; have hl : (flatV xs).length = xs.length * 3 := h.1; have k : ∀ i j,i < xs.length -> j < 3 -> w.cell? ⟨g,0 + i * 3 + j,none⟩ = (vC (xs.getD i vZ))[j]? := fun i j hi hj => by
    rw [Nat.zero_add,h.cellAt (i * 3 + j) (by omega)]; exact flatV_at xs i j hi hj
  exact ⟨g,0,rfl,(h.lt g rfl).2,fun j hj => ⟨k j 0 hj (by omega),k j 1 hj (by omega),k j 2 hj (by omega)⟩⟩
def vrN (L : List Nd) (t : Nat) : List Vl := if (L.getD (t - 1) z0).op = 4 then [⟨(L.getD (t - 1) z0).name,(L.getD (t - 1) z0).w,0⟩] else []
def varsF (L : List Nd) (O : List Nat) : List Vl := O.flatMap (vrN L)
def vP (L : List Nd) {O : List Nat} (pre : List (ET O)) : List Vl := varsF L (pre.map (·.1))
theorem vP_snoc (L : List Nd) {O : List Nat} (pre : List (ET O)) (x : ET O) : vP L (pre ++ [x]) = vP L pre ++ vrN L x.1 := by
  unfold vP varsF; rw [List.map_append,List.flatMap_append,List.map_cons,List.map_nil,List.flatMap_cons,List.flatMap_nil,List.append_nil]
theorem varsF_len (L : List Nd) : ∀ O : List Nat,(varsF L O).length <= O.length
  | [] => Nat.le_refl _
  | t :: O => by
    have h := varsF_len L O; unfold varsF at h ⊢; rw [List.flatMap_cons,List.length_append,List.length_cons]; have : (vrN L t).length <= 1 := by unfold vrN; split <;> simp
    omega
theorem app_kc {W w1 : World} {n₀ H V : Nat} {t e : TypeId} {size : Nat} {v v' : Value} {k m : Nat} {xs ys : List Value} {tmp : Obj}
    (hv : Boxed W V t v) (hte : t ≠ e) (hrow : W.ownsRow H e size v k xs) (hH : H <= W.heap.size) (hV : V < H) (hn : n₀ <= V)
    (hown' : w1.ownsRow H e size v' m ys) (hgrow : (W.alloc tmp).grownBy w1 v.ownBlock) :
    Boxed w1 V t v /\ Boxed (w1.setCell ⟨V,0,none⟩ v') V t v' /\ (w1.setCell ⟨V,0,none⟩ v').ownsRow H e size v' m ys /\ KeepsOthers W (w1.setCell ⟨V,0,none⟩ v') /\ Below n₀ W (w1.setCell ⟨V,0,none⟩ v') /\ KC H V W (w1.setCell ⟨V,0,none⟩ v') := by
  obtain ⟨h1,h2,h3,h4,h5⟩ := hv.appended hte (ownsRow_le hrow (show n₀ <= H by omega)) (by omega) hn (ownsRow_le hown' (show n₀ <= H by omega)) hgrow; refine ⟨h1,h2,hown'.kept (grownBy_setCell' w1 V v') (.inr (h1.not_row hte hown').symm),h4,h5,fun j hj hne => ?_,h5.size⟩; refine (heap_setCell_other _ _ _ _ hne).trans ((hgrow.block j (by simp; omega) (fun ej => ?_)).trans (Below.heap_alloc _ _ _ (by omega)))
  rcases hrow.2 with ⟨rfl,_⟩ | ⟨g,cap,cur,rfl,hb,_⟩
  · simp [Value.ownBlock] at ej
  obtain rfl : g = j := by simpa [Value.ownBlock] using ej.symm
  omega
theorem cells_new3 (W : World) (cs : List Value) (t : TypeId) : ∀ j u,cs[j]? = some u -> (W.alloc (.cells cs.toArray t)).cell? ((⟨W.heap.size,0,none⟩ : Addr).add j) = some u := fun j u h => by
  rw [Addr.add_lit,Nat.zero_add]; exact (blk_cell (heap_alloc_new W _) j).trans (by simpa using h)
def VI (w : World) (H Vb : Nat) (L : List Nd) {O : List Nat} (pre : List (ET O)) (W : World) : Prop :=
  ((∃ v,Boxed W Vb 28 v /\ W.ownsRow H 38 3 v (vP L pre).length (flatV (vP L pre)) /\ True) /\ Below w.heap.size w W) /\ H <= W.heap.size
theorem vars_own {aO : Option Addr} {cO B g0 : Nat} {L : List Nd} {O : List Nat} (w : World) (hSR : SR w B g0 L) (hO : OR w aO O) (hob : ∀ t ∈ O,1 <= t /\ t <= L.length) (hl : O.length <= 1000000000000) :
    Calls Tryz.prog 27 #[.agg #[.pointer (some ⟨B,0,none⟩),.slice aO O.length cO]] w fun e w' => ∃ v,e = .returned v /\ w'.ownsRow w.heap.size 38 3 v (varsF L O).length (flatV (varsF L O)) /\ Below w.heap.size w w' := by
  generalize hPP : (fun (e : Ending) (w' : World) => ∃ v,e = .returned v /\ w'.ownsRow w.heap.size 38 3 v (varsF L O).length (flatV (varsF L O)) /\ Below w.heap.size w w') = PP
  have HPP : Hid (∀ H v w',w.heap.size <= H -> w'.ownsRow H 38 3 v (varsF L O).length (flatV (varsF L O)) -> Below w.heap.size w w' -> PP (.returned v) w') := fun H v w' h0 h1 h2 => by
    rw [<- hPP]; exact ⟨v,rfl,ownsRow_le h1 h0,h2⟩
  clear hPP; obtain ⟨n,hn⟩ : ∃ n,O.length = n := ⟨_,rfl⟩; have HN : Hid (O.length = n) := hn; have HSR : Hid (SR w B g0 L) := hSR; have HO : Hid (OR w aO O) := hO; have HOB : Hid (∀ t ∈ O,1 <= t /\ t <= L.length) := hob; rw [hn] at hl ⊢; have hBl := hSR.bl; clear hn hSR hO hob; obtain ⟨i0,hi,hz0,hz1,hz2⟩ := info_parts (P := Tryz.prog) (e := 38) (z := vV vZ) (size := 3) (bytes := 32) (by kernel_rfl); refine (callsIn_wide (n := 9)).1 ?_; refine callsIn_of_wp_marks Tryz.func27 rfl trivial ?_ rfl; simp only [Tryz.ntmps27,List.size_toArray,List.length_cons,List.length_nil,Nat.reduceAdd,Nat.reduceSub,Array.replicate_succ,Array.replicate_zero,List.push_toArray,List.append_toArray,List.nil_append,List.cons_append]
  gi_wp2_with fail
  refine ⟨trivial,(callsIn_wide.2 (nodes_in _ _ _ _ _)).mono ?_⟩; rintro e w' ⟨rfl,rfl⟩
  gi_wp2_with fail
  obtain ⟨W0,hW0⟩ : ∃ W0,((w.alloc (Obj.cells #[.pointer (some ⟨B,0,none⟩),.slice aO n cO] 68)).alloc (Obj.cells #[.slice none 0 0] 28)).alloc (Obj.cells #[.pointer (some ⟨B,0,none⟩),.slice aO n cO] 68) = W0 := ⟨_,rfl⟩; have hB0 : Below w.heap.size w W0 := by rw [<- hW0]; exact bel3 _ _ _ _
  have h0s : W0.heap.size = w.heap.size + 1 + 1 + 1 := by rw [<- hW0]; simp
  have hbv : Boxed W0 (w.heap.size + 1) 28 (.slice none 0 0) := by rw [<- hW0]; exact heap3b w _ _ _
  have hbs : W0.heap[w.heap.size + 1 + 1]? = some (Obj.cells #[.pointer (some ⟨B,0,none⟩),.slice aO n cO] 68 (0,0)) := by rw [<- hW0]; exact heap3 w _ _ _
  have h0w : w.heap.size <= W0.heap.size := hB0.size; have HI0 : Hid (VI w W0.heap.size (w.heap.size + 1) L (O := O) [] W0) := ⟨⟨⟨_,hbv,World.ownsRow_nil _ _ _ _,trivial⟩,hB0⟩,Nat.le_refl _⟩; have HO0 : Hid (OR W0 aO O) := HO.out.below hB0; have HS0 : Hid (SR W0 B g0 L) := HSR.out.below hB0; have HNE : Hid (0 < O.length -> ∀ b o,aO = some ⟨b,o,none⟩ -> b ≠ w.heap.size + 1) := fun h0 b o e => by
    obtain ⟨b',o',e',hb',_⟩ := HO.out h0; rw [e] at e'; cases e'
    omega
  have hlO2 : O.length <= 1000000000000 := by rw [HN.out]; exact hl
  have hgl := fun h0 => HSR.out.gl h0
  rw [hW0]; clear hW0 hbv; refine wpIn_rangeFunc_ownH (F := Fence.wide) rfl (by omega) (gf := 61) (lb := #[.pointer (some ⟨w.heap.size + 1 + 1,0,none⟩)]) rfl trivial (enters_of Tryz.func61 (by kernel_rfl) rfl)
    (nodes_stops _ (by omega) (w.heap.size + 1 + 1) (w.heap.size + 1) B g0 cO aO L O HOB.out hlO2 W0 ⟨by omega,by omega⟩ (by omega) (fun h0 => by have := hgl h0; omega) (blk_cell hbs 0) (by rw [HN.out]; exact blk_cell hbs 1) HO0.out HNE.out HS0.out) (fun h1 h2 => h1.t h2) (fun W l o o' h1 h2 h3 h4 => KC.b W l o o' h1 h2 h3 h4) (Below.refl _ _) (fun _ => rfl)
    (fun pre W => VI w W0.heap.size (w.heap.size + 1) L pre W) (fun _ _ _ => False) (OwnFrom.and (OwnFrom.and (Own.from (holdsRow_own W0.heap.size (w.heap.size + 1) 28 38 3 (fun pre => (vP L pre).length) (fun pre => flatV (vP L pre)) (fun _ _ => True)) _) (ownFrom_below (Nat.le_refl _) hB0.size)) (fun s A A' row hs hg hr => Nat.le_trans hs hg.size)) (fun cd => fun _ _ _ _ h _ _ => h.elim)
    HI0.out
    (fun x a' W => ∃ Bx,W0.heap.size <= Bx /\ W.heap[Bx]? = some (Obj.cells (ndA (L.getD (x.1 - 1) z0)) 40 (0,0)) /\ a' = { tmps := #[.agg #[.pointer (some ⟨B,0,none⟩),.slice aO n cO],.pointer (some ⟨w.heap.size,0,none⟩),.slice none 0 0,.pointer (some ⟨w.heap.size + 1,0,none⟩),undef,.pointer (some ⟨Bx,0,none⟩),.agg #[.pointer (some ⟨B,0,none⟩),.slice aO n cO],.func (.func 61) #[] #[.pointer (some ⟨w.heap.size + 1 + 1,0,none⟩)],.int .i64 (x.1 : Int),nodeV (L.getD (x.1 - 1) z0),undef,undef,undef,undef,undef,undef,undef,undef,undef,undef,undef,undef],defers := [] })
    ?hax ?assign ?body ?done ?stop
  case hax =>
    rintro x a' _ X Y row ⟨Bx,h1,h2,h3⟩ hg2 hr; exact ⟨Bx,h1,(hg2.block Bx (Array.getElem?_eq_some_iff.1 h2).1 (fun e => by
      obtain ⟨_,o,ho,hc⟩ := hr Bx e.symm; rw [h2] at ho; cases ho; cases hc)).trans h2,h3⟩
  case assign =>
    rintro l pre x W K hi' hK; simp only [encT,nodeV]; unfold nodeV ndA at hK
    generalize L.getD (x.1 - 1) z0 = nd at *
    gi_wp2
    exact hK _ _ ⟨by simp,fun k o _ hk _ => (Below.heap_alloc _ _ _ (Array.getElem?_eq_some_iff.1 hk).1).trans hk⟩ (KC.of (bel1 W _) hi'.2) (by
      obtain ⟨⟨⟨v,h1,h2,_⟩,h3⟩,h4⟩ := hi'; exact ⟨⟨⟨v,h1.alloc _,h2.alloc _,trivial⟩,h3.trans (below_le' (bel1 W _) h3.size)⟩,by simp; omega⟩) ⟨W.heap.size,hi'.2,heap_alloc_new W _,rfl⟩
  case body =>
    rintro l pre x a' W hl' _ hI ⟨Bx,hBx,hbx,rfl⟩ hlt; obtain ⟨⟨⟨v,hv,hrow,_⟩,hB⟩,hH⟩ := hI; have HB : Hid (Below w.heap.size w W) := hB; have hpl : (vP L pre).length <= pre.length := by
      have := varsF_len L (pre.map (·.1)); rw [List.length_map] at this; exact this
    have hpl2 : pre.length < n := by rw [<- HN.out]; exact hlt
    have hc := hv.cell; have n0 : W.cell? ⟨Bx,0,none⟩ = _ := blk_cell hbx 0; have n1 : W.cell? ⟨Bx,1,none⟩ = _ := blk_cell hbx 1; have n6 : W.cell? ⟨Bx,6,none⟩ = _ := blk_cell hbx 6; have hsn := vP_snoc L pre x
    by_cases h4 : (L.getD (x.1 - 1) z0).op = 4
    · have hvr : vrN L x.1 = [⟨(L.getD (x.1 - 1) z0).name,(L.getD (x.1 - 1) z0).w,0⟩] := if_pos h4
      rw [hvr] at hsn; have HSN : Hid (vP L (pre ++ [x]) = vP L pre ++ [⟨(L.getD (x.1 - 1) z0).name,(L.getD (x.1 - 1) z0).w,0⟩]) := hsn; clear hvr hsn hbx; unfold ndA at n0 n1 n6
      generalize nodeV (L.getD (x.1 - 1) z0) = nv at *
      generalize L.getD (x.1 - 1) z0 = nd at *
      obtain ⟨op,u,a,b,c,num,nm⟩ := nd
      dsimp only at *
      subst h4
      simp at n0 n1 n6
      gi_wp2_with (gi_at_builtin; refine wpListIn_append_own _ rfl _ _ 28 rfl W0.heap.size 38 i0 (vV vZ) 3 32 Tryz.underlying28 hi hz0 hz1 hz2 rfl (by decide) _ _ _ rfl (hrow.alloc _) ⟨W.heap.size,0,none⟩ 1 1 [.string nm,.int .i64 u,.int .u64 0] rfl rfl (cells_new3 _ _ _) (by simp [Value.oneCell']) (by unfold maxLen; omega) (by omega) (by simp; omega) ?_; intro v' w1 hown' hgrow _; obtain ⟨g',cap',rfl⟩ := ownsRow_succ hown'; obtain ⟨hv1,hv2,hr2,hk2,hb2,hkc⟩ := app_kc (n₀ := w.heap.size) hv (by decide) hrow hH (by omega) (by omega) hown' hgrow; have hc1 := hv1.cell; have hf1 := hv1.frozen)
      refine ⟨hk2.from _,hkc,⟨⟨⟨_,hv2,?_,trivial⟩,HB.out.trans hb2⟩,Nat.le_trans hH hk2.size⟩⟩; rw [HSN.out,List.length_append,flatV_app]; exact hr2
    have hvr : vrN L x.1 = [] := if_neg h4; rw [hvr,List.append_nil] at hsn; have HSN : Hid (vP L (pre ++ [x]) = vP L pre) := hsn; clear hvr hsn hbx; unfold ndA at n0 n1 n6
    generalize nodeV (L.getD (x.1 - 1) z0) = nv at *
    generalize L.getD (x.1 - 1) z0 = nd at *
    obtain ⟨op,u,a,b,c,num,nm⟩ := nd
    dsimp only at *
    simp at n0 n1 n6
    gi_wp2
    exact ⟨KeepsFrom.refl _ _,KC.refl _ _ _,⟨⟨⟨v,hv,by rw [HSN.out]; exact hrow,trivial⟩,HB.out⟩,hH⟩⟩
  case stop =>
    rintro D c pre W _ _ h _; exact h.elim
  case done =>
    rintro D xs W hD hxs ⟨⟨⟨v,hv,hrow,_⟩,hB⟩,hH⟩ hK; have e0 : vP L xs = varsF L O := by
      unfold vP; rw [hxs]
      congr 1
      exact List.attach_map_subtype_val O
    rw [e0] at hrow; have hc := hv.cell
    gi_wp2
    refine ⟨by simp,.inl ⟨_,_,rfl,run_takeDeferred hK,?_⟩⟩; exact ⟨_,results_tmp rfl _ _ _,HPP.out _ _ _ h0w (ownsRow_putObj hrow _ hK rfl) (hB.trans (belowK_b (w := w) (Nat.le_refl _) W D _ _ (by omega) hK rfl rfl))⟩
theorem vars_any {aO : Option Addr} {cO B g0 : Nat} {L : List Nd} {O : List Nat} (w : World) (hSR : SR w B g0 L) (hO : OR w aO O) (hob : ∀ t ∈ O,1 <= t /\ t <= L.length) (hl : O.length <= 1000000000000) :
    Calls Tryz.prog 27 #[.agg #[.pointer (some ⟨B,0,none⟩),.slice aO O.length cO]] w fun e w' => ∃ ad cp,e = .returned (.slice ad (varsF L O).length cp) /\ VR w' ad (varsF L O) /\ Below w.heap.size w w' :=
  (vars_own w hSR hO hob hl).mono fun _ _ ⟨_,he,h1,h2⟩ => by
    obtain ⟨ad,c,rfl,hV⟩ := vr_row h1; exact ⟨ad,c,he,hV,h2⟩
end Go.Proofs.YtkpapgfbnledpaaGreatDoor
namespace Go.Proofs.YtkpapgfbnledpaaGreatDoor
open Go.ChangeShapes Go.WideShapes Go.ChangeAt Go.RowKit Go.Lib Go.Tm Go.Bw Go.Bn Go.WideMaps Go.Maps Go.ChangeMaps Go.Shelf
attribute [local go_sem] Oper.semAt_some

theorem ishift_no (op : Int) (w : World) (h1 : op < 25) :
    Calls Tryz.prog 102 #[.int .i64 op] w fun e w' => e = .returned (.bool false) /\ w' = w := by
  go_enter Tryz.func102,Tryz.ntmps102
  go_wp2
  go_ret
  exact ⟨rfl,rfl⟩
theorem joined_20 (s t : Int) (w : World) :
    Calls Tryz.prog 105 #[.int .i64 20,.int .u64 s,.int .u64 t] w fun e w' => e = .returned (.int .u64 (IntKind.u64.wrap (s + t))) /\ w' = w := by
  go_enter Tryz.func105,Tryz.ntmps105
  go_wp2
  go_ret
  exact ⟨rfl,rfl⟩
theorem U_wrap (x : Int) : U (IntKind.u64.wrap x) := by
  unfold U
  simp [IntKind.wrap,IntKind.bits,IntKind.signed]
  omega
theorem bin_20 (a x y : Int) (h1 : 1 <= a) (h2 : a <= 64) (hx : U x) (hy : U y) (w : World) :
    Calls Tryz.prog 69 #[.int .i64 20,.int .i64 a,.int .u64 x,.int .u64 y] w fun e w' => e = .returned (.tuple #[.int .u64 (trimI a (IntKind.u64.wrap ((trimI a x) + (trimI a y)))),.int .i64 0]) /\ w' = w := by
  go_enter Tryz.func69,Tryz.ntmps69
  go_wp2_with (first | (go_at_call 99; refine (right_yes _ _ ?_ ?_).mono ?_; omega; omega; rintro e w' ⟨rfl,rfl⟩) | (go_at_call 102; refine (ishift_no _ _ ?_).mono ?_; omega; rintro e w' ⟨rfl,rfl⟩) | (go_at_call 105; refine (joined_20 _ _ _).mono ?_; rintro e w' ⟨rfl,rfl⟩) | (go_at_call 100; refine (trim_any _ _ _ ?_).mono ?_; (first | exact hx | exact hy | exact U_wrap _); rintro e w' ⟨rfl,rfl⟩))
  go_ret2
  exact ⟨rfl,rfl⟩
abbrev gT := Nat -> (Nat -> Nat) -> Nat
def OFW (B m : Nat) (L : List Nd) (O : List Nat) (T : ByteArray -> Option Vl) (G : gT) : Prop :=
  ∀ t ∈ O,∀ f : Nat -> Nat,(∀ y,f y <= 18446744073709551615) -> G t f <= 18446744073709551615 /\ ∀ (V M k g : Nat) (w : World),VA w V B M k g m T f -> Calls Tryz.prog 39 #[.pointer (some ⟨V,0,none⟩),nodeV (L.getD (t - 1) z0)] w fun e w' => e = .returned (.int .u64 ((G t f : Nat) : Int)) /\ Below w.heap.size w w'
def vlP (G : gT) {O : List Nat} (pre : List (ET O)) : Nat -> Nat := folN G 0 (pre.map (·.1))
theorem vlP_snoc (G : gT) {O : List Nat} (pre : List (ET O)) (x : ET O) : vlP G (pre ++ [x]) = fun y => if y = x.1 then G x.1 (vlP G pre) else vlP G pre y := by
  unfold vlP; rw [List.map_append,List.map_cons,List.map_nil,folN_snoc]
  rfl
structure VLI (w : World) (H Vb B M k g m : Nat) (T : ByteArray -> Option Vl) (G : gT) {O : List Nat} (pre : List (ET O)) (W : World) : Prop where
  va : VA W Vb B M k g m T (vlP G pre)
  le : ∀ y,vlP G pre y <= 18446744073709551615
  bel : Below w.heap.size w W
  hs : H <= W.heap.size
theorem VLI.own {w : World} {H Vb B M k g m : Nat} {T : ByteArray -> Option Vl} {G : gT} {O : List Nat} (hH : w.heap.size <= H) (hM : M < H) : OwnFrom H (fun s W => VLI w H Vb B M k g m T G (O := O) s W) := fun s W W' row hs hg hr => by
  have hk : ∀ (j : Nat) (cs : Array Value) (t : TypeId) (fr : Nat × Nat),W.heap[j]? = some (Obj.cells cs t fr) -> W'.heap[j]? = W.heap[j]? := fun j cs t fr hj => hg.block j (Array.getElem?_eq_some_iff.1 hj).1 (fun e => by
    obtain ⟨_,o,ho,hc⟩ := hr j e.symm; rw [hj] at ho; cases ho; cases hc)
  obtain ⟨A,hA,_⟩ := hs.va.ul.blk; exact ⟨⟨(hk _ _ _ _ hs.va.vb).trans hs.va.vb,hs.va.tm.keep (hg.block M hs.va.tm.lt (fun e => by have := (hr M e.symm).1; omega)),hs.va.ul.keep (hk _ _ _ _ hA)⟩,hs.le,(ownFrom_below (β := Unit) (Nat.le_refl _) hH) () W W' row hs.bel hg hr,Nat.le_trans hs.hs hg.size⟩
theorem VLI.over {w : World} {H Vb B M k g m : Nat} {T : ByteArray -> Option Vl} {G : gT} {O : List Nat} {pre : List (ET O)} {W W' : World} (h : VLI w H Vb B M k g m T G pre W) (hb : Below W.heap.size W W') : VLI w H Vb B M k g m T G pre W' :=
  ⟨h.va.below hb,h.le,h.bel.trans (below_le' hb h.bel.size),Nat.le_trans h.hs hb.size⟩
def VSR (Vb g m Bx : Nat) (nd : Nd) (X : World) : Prop := X.cell? ⟨Vb,2,none⟩ = some (.slice (some ⟨g,0,none⟩) m m) /\ X.cell? ⟨Vb,3,none⟩ = some (.map none) /\ X.heap[Bx]? = some (Obj.cells (ndA nd) 40 (0,0))
theorem values_any (B0 B : Nat) (lim : Int) (L : List Nd) (v : Value) (M1 M2 : Option Nat) {aR aV : Option Addr} {cR cV : Nat} {rs : List Int} {xs : List Vl} (G : gT) (w : World) (hS : SM 78 w B0 B lim L v M1 M2) (hP : PAR L) (hI : IR w aR rs) (hr : ∀ x ∈ rs,isT L x = true) (hrl : rs.length <= 1000000000000) (hV : VR w aV xs) (hvl : xs.length <= 1000000000000) (hn : ∀ i j,i < j -> j < xs.length -> ¬ (xs.getD j vZ).nm = (xs.getD i vZ).nm) (hg : ∀ x ∈ xs,nmB x.nm = true /\ x.nm.size <= 140737488355328 /\ okV x)
    (hsz : ∀ x ∈ varsF L (og L [] (toN rs)),x.nm.size <= 140737488355328) (hfit : ∀ x ∈ varsF L (og L [] (toN rs)),∀ y,tellF xs x.nm = some y -> y.w = x.w)
    (hd : mxN (og L [] (toN rs)) / 16 <= (og L [] (toN rs)).length) (hof : OFW B (mxN (og L [] (toN rs)) + 1) L (og L [] (toN rs)) (tellF xs) G) :
    Calls Tryz.prog 16 #[.pointer (some ⟨B,0,none⟩),.slice aR rs.length cR,.slice aV xs.length cV] w fun e w' => ∃ g2,e = .returned (.tuple #[.slice (some ⟨g2,0,none⟩) rs.length rs.length,.int .i64 0]) /\ UL w' g2 rs.length (fun j => folN G 0 (og L [] (toN rs)) (rs.getD j 0).toNat) /\ Below w.heap.size w w' := by
  have HC : Hid (Calls Tryz.prog 26 #[.pointer (some ⟨B,0,none⟩),.slice aR rs.length cR] w fun e w' => ∃ aO cO,e = .returned (.tuple #[.agg #[.pointer (some ⟨B,0,none⟩),.slice aO (og L [] (toN rs)).length cO],.int .i64 0]) /\ Below w.heap.size w w' /\ OR w' aO (og L [] (toN rs))) := coneOf_ok (cp := cR) B0 B lim L v M1 M2 w hS hP hI (by omega) hr; obtain ⟨g0,hSR,_,_⟩ := hS.sr; have hLl := hS.len; have hrr := fun x hx => (of_decide_eq_true (hr x hx) : 1 <= x /\ x <= (L.length : Int))
  have hb : ∀ r ∈ toN rs,1 <= r /\ r <= L.length /\ True := fun r hr' => by
    obtain ⟨y,hy,rfl⟩ := List.mem_map.1 hr'; have := hrr y hy; exact ⟨by omega,by omega,trivial⟩
  obtain ⟨hPW,_,hroot,_⟩ := og_ok (R := fun _ => True) hP (toN rs) [] (PW.nil L) ⟨fun _ _ _ _ => Or.inl trivial,fun _ _ _ _ => Or.inl trivial⟩ hb; have htO : ∀ x ∈ rs,x.toNat ∈ og L [] (toN rs) := fun x hx => hroot _ (List.mem_map.2 ⟨x,hx,rfl⟩)
  have HSR : Hid (SR w B g0 L) := hSR; have HPAR : Hid (PAR L) := hP; clear hS hSR hroot hb hr
  generalize og L [] (toN rs) = O at *
  have HOB : Hid (∀ x ∈ O,1 <= x /\ x <= L.length) := hPW.ob; have hlO : O.length <= L.length := by have := hPW.len; simpa using this
  have hmx : mxN O <= 1000000000000 := mxN_le (fun x hx => by have := (hPW.ob x hx).2; omega); have HRT : Hid (∀ x ∈ rs,0 <= x /\ x.toNat < mxN O + 1) := fun x hx => ⟨by have := hrr x hx; omega,by have := mxN_ge (htO x hx); omega⟩
  clear hPW hP hrr htO
  generalize hPP : (fun (e : Ending) (w' : World) => ∃ g2,e = .returned (.tuple #[.slice (some ⟨g2,0,none⟩) rs.length rs.length,.int .i64 0]) /\ UL w' g2 rs.length (fun j => folN G 0 O (rs.getD j 0).toNat) /\ Below w.heap.size w w') = PP
  obtain ⟨q,hq⟩ : ∃ q,rs.length = q := ⟨_,rfl⟩; have HQ : Hid (rs.length = q) := hq; have HPP : Hid (∀ g2 w',UL w' g2 q (fun j => folN G 0 O (rs.getD j 0).toNat) -> Below w.heap.size w w' -> PP (.returned (.tuple #[.slice (some ⟨g2,0,none⟩) q q,.int .i64 0])) w') := fun g2 w' h1 h2 => by rw [<- hPP,<- hq]; rw [<- hq] at h1; exact ⟨g2,rfl,h1,h2⟩
  clear hPP; have HIR : Hid (IR w aR rs) := hI; have HVR : Hid (VR w aV xs) := hV; obtain ⟨d,hdd⟩ : ∃ d,xs.length = d := ⟨_,rfl⟩; have HTO : Hid (∀ W,VR W aV xs -> Calls Tryz.prog 35 #[.slice aV d cV] W fun e w' => e = .returned (.tuple #[.map (some W.heap.size),.int .i64 0]) /\ TMP w' W.heap.size d (tellF xs) /\ Below W.heap.size W w') := fun W h => by subst hdd; exact told_ok W h hvl hn hg
  have HVS : Hid (∀ W (aO : Option Addr) cO,SR W B g0 L -> OR W aO O -> Calls Tryz.prog 27 #[.agg #[.pointer (some ⟨B,0,none⟩),.slice aO O.length cO]] W fun e w' => ∃ ad cp,e = .returned (.slice ad (varsF L O).length cp) /\ VR w' ad (varsF L O) /\ Below W.heap.size W w') := fun W aO cO h1 h2 => vars_any W h1 h2 HOB.out (by omega)
  have hvn : (varsF L O).length <= 1000000000000 := Nat.le_trans (varsF_len L O) (by omega); obtain ⟨m,hm⟩ : ∃ m,mxN O + 1 = m := ⟨_,rfl⟩; have HM : Hid (mxN O + 1 = m) := hm; rw [hm] at hof HRT; obtain ⟨n,hnn⟩ : ∃ n,O.length = n := ⟨_,rfl⟩; have HN : Hid (O.length = n) := hnn; have HZn : Hid (∀ W aO cO,OR W aO O -> Calls Tryz.prog 36 #[.slice aO n cO] W fun e w' => ∃ g,e = .returned (.agg #[.slice (some ⟨g,0,none⟩) m m,.map none]) /\ UL w' g m (fun _ => 0) /\ Below W.heap.size W w' /\ W.heap.size <= g) := fun W aO cO h => by
    rw [<- hnn,<- hm]; exact unew_any W h hd hmx (by omega)
  have HOF : Hid (OFW B m L O (tellF xs) G) := hof; have HFIT : Hid ((∀ x ∈ varsF L O,x.nm.size <= 140737488355328) /\ (∀ x ∈ varsF L O,∀ y,tellF xs x.nm = some y -> y.w = x.w)) := ⟨hsz,hfit⟩; rw [hnn] at HC HVS hlO hd; rw [hq] at HC hrl ⊢; rw [hdd] at hvl ⊢; have hm2 : m <= 1000000000001 := by omega
  clear hq hdd hm hnn hd hof hsz hfit hn hg hI hV hmx
  generalize varsF L O = vs at *
  generalize tellF xs = T at *
  obtain ⟨vn,hvq⟩ : ∃ vn,vs.length = vn := ⟨_,rfl⟩; have HVN : Hid (vs.length = vn) := hvq; rw [hvq] at HVS hvn; clear hvq; refine (callsIn_wide (n := 9)).1 ?_; refine callsIn_of_wp_marks Tryz.func16 rfl trivial ?_ rfl; simp only [Tryz.ntmps16,List.size_toArray,List.length_cons,List.length_nil,Nat.reduceAdd,Nat.reduceSub,Array.replicate_succ,Array.replicate_zero,List.push_toArray,List.append_toArray,List.nil_append,List.cons_append]
  gi_wp2_with fail
  refine ⟨trivial,(callsIn_wide.2 HC.out).mono ?_⟩; rintro e w1 ⟨aO,cO,rfl,hb1,hO1⟩; have HB1 : Hid (Below w.heap.size w w1 /\ OR w1 aO O) := ⟨hb1,hO1⟩; clear hb1 hO1 HC
  gi_wp2_with fail
  obtain ⟨Cb,hCb⟩ : ∃ Cb,w1.heap.size = Cb := ⟨_,rfl⟩; obtain ⟨w2,hw2⟩ : ∃ w2,w1.alloc (Obj.cells #[.pointer (some ⟨B,0,none⟩),.slice aO n cO] 68) = w2 := ⟨_,rfl⟩; have HB2 : Hid (Below w.heap.size w w2 /\ OR w2 aO O /\ w2.heap[Cb]? = some (Obj.cells #[.pointer (some ⟨B,0,none⟩),.slice aO n cO] 68 (0,0))) := by
    rw [<- hw2,<- hCb]; exact ⟨HB1.out.1.trans (below_le' (bel1 w1 _) HB1.out.1.size),HB1.out.2.below (bel1 w1 _),heap_alloc_new w1 _⟩
  rw [hCb,hw2]; clear hCb hw2 HB1; refine ⟨trivial,(callsIn_wide.2 (HTO.out w2 (HVR.out.below HB2.out.1))).mono ?_⟩; rintro e w3 ⟨rfl,ht3,hb3⟩; obtain ⟨M,hM⟩ : ∃ M,w2.heap.size = M := ⟨_,rfl⟩; rw [hM] at ht3; have HB3 : Hid (Below w.heap.size w w3 /\ OR w3 aO O /\ w3.heap[Cb]? = some (Obj.cells #[.pointer (some ⟨B,0,none⟩),.slice aO n cO] 68 (0,0)) /\ TMP w3 M d T /\ w.heap.size <= M) := ⟨HB2.out.1.trans (below_le' hb3 HB2.out.1.size),HB2.out.2.1.below hb3,(hb3.block _ (Array.getElem?_eq_some_iff.1 HB2.out.2.2).1).trans HB2.out.2.2,ht3,by rw [<- hM]; exact HB2.out.1.size⟩; have k0 : w3.cell? ⟨Cb,0,none⟩ = some (.pointer (some ⟨B,0,none⟩)) := blk_cell HB3.out.2.2.1 0; have k1 : w3.cell? ⟨Cb,1,none⟩ = some (.slice aO n cO) := blk_cell HB3.out.2.2.1 1; rw [hM]; clear hM ht3 hb3 HB2
  gi_wp2_with fail
  refine ⟨trivial,(callsIn_wide.2 (HVS.out w3 aO cO (HSR.out.below HB3.out.1) HB3.out.2.1)).mono ?_⟩; rintro e w4 ⟨aS,cS,rfl,hv4,hb4⟩; have HB4 : Hid (Below w.heap.size w w4 /\ OR w4 aO O /\ w4.heap[Cb]? = some (Obj.cells #[.pointer (some ⟨B,0,none⟩),.slice aO n cO] 68 (0,0)) /\ TMP w4 M d T /\ VR w4 aS vs) := ⟨HB3.out.1.trans (below_le' hb4 HB3.out.1.size),HB3.out.2.1.below hb4,(hb4.block _ (Array.getElem?_eq_some_iff.1 HB3.out.2.2.1).1).trans HB3.out.2.2.1,HB3.out.2.2.2.1.below hb4,hv4⟩; have HMw : Hid (w.heap.size <= M) := HB3.out.2.2.2.2; clear k0 k1 hv4 hb4 HB3 HVS HTO
  gi_wp2_with fail
  have HGO : Hid (∀ W W',Below W.heap.size W W' -> (Below w.heap.size w W /\ OR W aO O /\ W.heap[Cb]? = some (Obj.cells #[.pointer (some ⟨B,0,none⟩),.slice aO n cO] 68 (0,0)) /\ TMP W M d T /\ VR W aS vs) -> (Below w.heap.size w W' /\ OR W' aO O /\ W'.heap[Cb]? = some (Obj.cells #[.pointer (some ⟨B,0,none⟩),.slice aO n cO] 68 (0,0)) /\ TMP W' M d T /\ VR W' aS vs)) := fun W W' hb h => ⟨h.1.trans (below_le' hb h.1.size),h.2.1.below hb,(hb.block _ (Array.getElem?_eq_some_iff.1 h.2.2.1).1).trans h.2.2.1,h.2.2.2.1.below hb,h.2.2.2.2.below hb⟩
  gi_loopw [38] (fun i wr => ∃ k : Nat,k <= vn /\ i = .int .i64 (k : Int) /\ (Below w.heap.size w wr /\ OR wr aO O /\ wr.heap[Cb]? = some (Obj.cells #[.pointer (some ⟨B,0,none⟩),.slice aO n cO] 68 (0,0)) /\ TMP wr M d T /\ VR wr aS vs))
    (fun i _ => (vn - (Lib.intOf i).toNat))
  case atStart => exact ⟨0,Nat.zero_le _,by simp,HB4.out⟩
  case round =>
    obtain ⟨k,hk,rfl,hR⟩ := hrel; have HR : Hid (Below w.heap.size w wr /\ OR wr aO O /\ wr.heap[Cb]? = some (Obj.cells #[.pointer (some ⟨B,0,none⟩),.slice aO n cO] 68 (0,0)) /\ TMP wr M d T /\ VR wr aS vs) := hR; clear hR
    by_cases hlt : k < vn
    · have hlx : k < vs.length := by rw [HVN.out]; exact hlt
      obtain ⟨b,o,rfl,hbl,hc⟩ := HR.out.2.2.2.2 (by rw [HVN.out]; omega); obtain ⟨c1,c2,c3⟩ := hc k hlx; have q0 : (k : Int) < (vn : Int) := by omega
      have hxm : vs.getD k vZ ∈ vs := by rw [List.getD_eq_getElem?_getD,List.getElem?_eq_getElem hlx]; exact List.getElem_mem _
      have hs1 := HFIT.out.1 _ hxm; have hs2 := HFIT.out.2 _ hxm; have HLk : Hid (∀ W,Below wr.heap.size wr W -> (Instr.lookup 89 (.map (some M)) (.string (vs.getD k vZ).nm) true).run Tryz.prog W = .ok (.tuple #[vV ((T (vs.getD k vZ).nm).getD vZ),.bool (T (vs.getD k vZ).nm).isSome]) W) := fun W hb => (HR.out.2.2.2.1.below hb).look_ok _ hs1
      clear hc hxm hs1
      generalize vs.getD k vZ = x at *
      obtain ⟨nm,xw,xn⟩ := x
      dsimp only at c1 c2 c3 HLk hs2
      have hlk := HLk.out _ (bel1 wr (Obj.cells #[.string nm,.int .i64 xw,.int .u64 xn] 38 (0,0))); have HE : Hid (∀ a b,_ /\ _) := fun a b => HGO.out _ _ (bel2 wr a b) HR.out
      cases hT : T nm with
      | none =>
        rw [hT] at hlk; unfold vV at hlk
        dsimp only [vZ,Option.getD,Option.isSome] at hlk
        gi_wp2
        go_roundw
        case rel => exact ⟨k + 1,by omega,by simp,HE.out _ _⟩
        case measure => (simp [Lib.intOf]; omega)
      | some y =>
        rw [hT] at hlk; have hyw := hs2 y hT; obtain ⟨ym,yw,yn⟩ := y; obtain rfl : yw = xw := hyw; unfold vV at hlk
        dsimp only [vZ,Option.getD,Option.isSome] at hlk
        gi_wp2
        go_roundw
        case rel => exact ⟨k + 1,by omega,by simp,HE.out _ _⟩
        case measure => (simp [Lib.intOf]; omega)
    obtain rfl : k = vn := by omega
    have q0 : ¬ (k : Int) < (k : Int) := by omega
    have k0 : wr.cell? ⟨Cb,0,none⟩ = some (.pointer (some ⟨B,0,none⟩)) := blk_cell HR.out.2.2.1 0; have k1 : wr.cell? ⟨Cb,1,none⟩ = some (.slice aO n cO) := blk_cell HR.out.2.2.1 1
    gi_wp2_with fail
    refine ⟨trivial,(callsIn_wide.2 (HZn.out wr aO cO HR.out.2.1)).mono ?_⟩; rintro e w5 ⟨g,rfl,hz5,hb5,hg5⟩; have HB5 : Hid ((Below w.heap.size w w5 /\ OR w5 aO O /\ w5.heap[Cb]? = some (Obj.cells #[.pointer (some ⟨B,0,none⟩),.slice aO n cO] 68 (0,0)) /\ TMP w5 M d T /\ VR w5 aS vs) /\ UL w5 g m (fun _ => 0) /\ M < g /\ w.heap.size <= g /\ (0 < O.length -> ∀ b o,aO = some ⟨b,o,none⟩ -> b < g)) := ⟨HGO.out _ _ hb5 HR.out,hz5,Nat.lt_of_lt_of_le HR.out.2.2.2.1.lt hg5,Nat.le_trans HR.out.1.size hg5,fun h0 b o e => by
      obtain ⟨b',o',e',hb',_⟩ := HR.out.2.1 h0; rw [e] at e'; cases e'
      omega⟩
    have k0 : w5.cell? ⟨Cb,0,none⟩ = some (.pointer (some ⟨B,0,none⟩)) := blk_cell HB5.out.1.2.2.1 0; have k1 : w5.cell? ⟨Cb,1,none⟩ = some (.slice aO n cO) := blk_cell HB5.out.1.2.2.1 1; have hcl : Cb < w5.heap.size := (Array.getElem?_eq_some_iff.1 HB5.out.1.2.2.1).1; clear hz5 hb5 hg5 HZn HB4
    gi_wp2_with fail
    refine ⟨trivial,(callsIn_wide.2 (nodes_in _ _ _ _ _)).mono ?_⟩; rintro e w' ⟨rfl,rfl⟩
    gi_wp2_with fail
    have hs2 : (w5.alloc (Obj.cells #[.pointer (some ⟨B,0,none⟩),.map (some M),.slice (some ⟨g,0,none⟩) m m,.map none] 98)).heap.size = w5.heap.size + 1 := by simp
    try rw [hs2]
    obtain ⟨Vb,hVb⟩ : ∃ Vb,w5.heap.size = Vb := ⟨_,rfl⟩; obtain ⟨W0,hW0⟩ : ∃ W0,((w5.alloc (Obj.cells #[.pointer (some ⟨B,0,none⟩),.map (some M),.slice (some ⟨g,0,none⟩) m m,.map none] 98)).alloc (Obj.cells #[.pointer (some ⟨B,0,none⟩),.slice aO n cO] 68)) = W0 := ⟨_,rfl⟩; have hgl : g < w5.heap.size := HB5.out.2.1.lt; have hml : M < w5.heap.size := HB5.out.1.2.2.2.1.lt; have hb05 : Below w5.heap.size w5 W0 := by rw [<- hW0]; exact bel2 _ _ _
    have h0s : W0.heap.size = Vb + 1 + 1 := by rw [<- hW0,<- hVb]; simp
    have HB0 : Hid (W0.heap[Vb]? = some (Obj.cells #[.pointer (some ⟨B,0,none⟩),.map (some M),.slice (some ⟨g,0,none⟩) m m,.map none] 98 (0,0)) /\ W0.heap[Vb + 1]? = some (Obj.cells #[.pointer (some ⟨B,0,none⟩),.slice aO n cO] 68 (0,0))) := by
      rw [<- hW0,<- hVb]; refine ⟨?_,heap2 w5 _ _⟩; rw [Below.heap_alloc _ _ _ (by simp)]; exact heap_alloc_new w5 _
    have hW5 := HB5.out.1.1.size; have hBw : Below w.heap.size w W0 := HB5.out.1.1.trans (below_le' hb05 hW5); have HI0 : Hid (VLI w W0.heap.size Vb B M d g m T G (O := O) [] W0) := ⟨⟨HB0.out.1,HB5.out.1.2.2.2.1.below hb05,HB5.out.2.1.below hb05⟩,fun y => by show (0 : Nat) <= _; omega,hBw,Nat.le_refl _⟩; have HO0 : Hid (OR W0 aO O) := HB5.out.1.2.1.below hb05; have HS0 : Hid (SR W0 B g0 L) := HSR.out.below hBw; have HNE : Hid (B ≠ g /\ (0 < L.length -> g0 ≠ g) /\ (0 < O.length -> ∀ b o,aO = some ⟨b,o,none⟩ -> b ≠ g) /\ Vb + 1 ≠ g /\ Vb ≠ g /\ M ≠ g /\ g < Vb /\ M < Vb /\ w.heap.size <= g) := by
      have q1 := HSR.out.bl; have q2 := HB5.out.2.2.1; have q3 := HB5.out.2.2.2.1; refine ⟨by omega,fun h0 => by have := HSR.out.gl h0; omega,fun h0 b o e => by have := HB5.out.2.2.2.2 h0 b o e; omega,by omega,by omega,by omega,by omega,by omega,q3⟩
    have hlO2 : O.length <= 1000000000000 := by rw [HN.out]; omega
    rw [hVb,hW0]; clear hW0 hb05 hBw HB5 k0 k1 hs2 hVb hgl hml hW5 hcl; have hVb1 : Vb + 1 < W0.heap.size := by omega
    refine wpIn_rangeFunc_ownH (F := Fence.wide) rfl (by omega) (gf := 61) (lb := #[.pointer (some ⟨Vb + 1,0,none⟩)]) rfl trivial (enters_of Tryz.func61 (by kernel_rfl) rfl)
      (nodes_stops _ (by omega) (Vb + 1) g B g0 cO aO L O HOB.out hlO2 W0 ⟨hVb1,HNE.out.2.2.2.1⟩ HNE.out.1 HNE.out.2.1 (blk_cell HB0.out.2 0) (by rw [HN.out]; exact blk_cell HB0.out.2 1) HO0.out HNE.out.2.2.1 HS0.out) (fun h1 h2 => h1.t h2) (fun W l o o' h1 h2 h3 h4 => KC.b W l o o' h1 h2 h3 h4) (Below.refl _ _) (fun _ => rfl)
      (fun pre W => VLI w W0.heap.size Vb B M d g m T G pre W) (fun _ _ _ => False) (VLI.own HI0.out.bel.size (by have := HNE.out.2.2.2.2.2.2.2.1; omega)) (fun cd => fun _ _ _ _ h _ _ => h.elim)
      HI0.out
      (fun x a' W => ∃ Bx,W0.heap.size <= Bx /\ W.heap[Bx]? = some (Obj.cells (ndA (L.getD (x.1 - 1) z0)) 40 (0,0)) /\ a' = { tmps := #[.pointer (some ⟨B,0,none⟩),.slice aR q cR,.slice aV d cV,undef,undef,undef,u6,u7,.pointer (some ⟨Cb,0,none⟩),.int .i64 0,.map (some M),undef,u12,u13,u14,.pointer (some ⟨Vb,0,none⟩),.int .i64 (x.1 : Int),.pointer (some ⟨Bx,0,none⟩),.tuple #[.agg #[.pointer (some ⟨B,0,none⟩),.slice aO n cO],.int .i64 0],.pointer (some ⟨B,0,none⟩),.slice aR q cR,.tuple #[.agg #[.pointer (some ⟨B,0,none⟩),.slice aO n cO],.int .i64 0],.agg #[.pointer (some ⟨B,0,none⟩),.slice aO n cO],.int .i64 0,.int .i64 0,.bool false,undef,.tuple #[.map (some M),.int .i64 0],.slice aV d cV,.tuple #[.map (some M),.int .i64 0],.map (some M),.int .i64 0,.int .i64 0,.bool false,undef,.agg #[.pointer (some ⟨B,0,none⟩),.slice aO n cO],.slice aS k cS,.int .i64 (k : Int),.int .i64 (k : Int),.bool false,u40,u41,u42,u43,u44,u45,u46,u47,u48,u49,u50,u51,u52,u53,u54,u55,u56,u57,.pointer (some ⟨B,0,none⟩),.map (some M),.pointer (some ⟨Cb,1,none⟩),.slice aO n cO,.agg #[.slice (some ⟨g,0,none⟩) m m,.map none],.agg #[.pointer (some ⟨B,0,none⟩),.map (some M),.slice (some ⟨g,0,none⟩) m m,.map none],.agg #[.pointer (some ⟨B,0,none⟩),.slice aO n cO],.func (.func 61) #[] #[.pointer (some ⟨Vb + 1,0,none⟩)],.int .i64 (x.1 : Int),nodeV (L.getD (x.1 - 1) z0),undef,undef,undef,undef,undef,undef,undef,undef,undef,undef],defers := [] })
      ?hax ?assign ?body ?done ?stop
    case hax =>
      rintro x a' _ X Y row ⟨Bx,h1,h2,h3⟩ hg2 hr; exact ⟨Bx,h1,(hg2.block Bx (Array.getElem?_eq_some_iff.1 h2).1 (fun e => by
        obtain ⟨_,o,ho,hc⟩ := hr Bx e.symm; rw [h2] at ho; cases ho; cases hc)).trans h2,h3⟩
    case assign =>
      rintro l pre x W K hi hK; simp only [encT,nodeV]; unfold nodeV ndA at hK
      generalize L.getD (x.1 - 1) z0 = nd at *
      gi_wp2
      exact hK _ _ ⟨by simp,fun k o _ hk _ => (Below.heap_alloc _ _ _ (Array.getElem?_eq_some_iff.1 hk).1).trans hk⟩ (KC.of (bel1 W _) hi.hs) (hi.over (bel1 W _)) ⟨W.heap.size,hi.hs,heap_alloc_new W _,rfl⟩
    case body =>
      rintro l pre x a' W hl _ hI ⟨Bx,hBx,hbx,rfl⟩ hlt; obtain ⟨b1,b2⟩ := HOB.out x.1 x.2; have hxm : x.1 < m := by
        have := mxN_ge x.2; have := HM.out
        omega
      have hVg : Vb ≠ g := HNE.out.2.2.2.2.1; have hBg : Bx ≠ g := by have := HNE.out.2.2.2.2.2.2.1; omega
      have hMg : M ≠ g := HNE.out.2.2.2.2.2.1; have hwg := HNE.out.2.2.2.2.2.2.2.2; obtain ⟨hG,hcall⟩ := HOF.out x.1 x.2 (vlP G pre) hI.le; have hVAd : VA W.drew Vb B M d g m T (vlP G pre) := ⟨hI.va.vb,hI.va.tm,hI.va.ul.keep rfl⟩; have hdr : Below W.heap.size W W.drew := ⟨rfl,rfl,rfl,Nat.le_refl _,fun _ _ => rfl⟩; have KA1 : Hid (Calls Tryz.prog 39 #[.pointer (some ⟨Vb,0,none⟩),nodeV (L.getD (x.1 - 1) z0)] W.drew fun e w' => e = .returned (.int .u64 ((G x.1 (vlP G pre) : Nat) : Int)) /\ VSR Vb g m Bx (L.getD (x.1 - 1) z0) w' /\ UL w' g m (vlP G pre) /\ Below W.heap.size W w') := (hcall Vb M d g W.drew hVAd).mono fun e w' ⟨he,hb⟩ => by
        have hb' : Below W.heap.size W w' := hdr.trans hb; have hv := hVAd.below hb; exact ⟨he,⟨blk_cell hv.vb 2,blk_cell hv.vb 3,(hb'.block Bx (Array.getElem?_eq_some_iff.1 hbx).1).trans hbx⟩,hv.ul,hb'⟩
      have KA2 : Hid (∀ X,UL X g m (vlP G pre) -> VSR Vb g m Bx (L.getD (x.1 - 1) z0) X -> Calls Tryz.prog 38 #[.agg #[.slice (some ⟨g,0,none⟩) m m,.map none],.int .i64 (x.1 : Int),.int .u64 ((G x.1 (vlP G pre) : Nat) : Int)] X fun e w' => e = .returned (.tuple #[]) /\ VSR Vb g m Bx (L.getD (x.1 - 1) z0) w' /\ UL w' g m (vlP G (pre ++ [x])) /\ X.grownBy w' (some g)) := fun X hu hs => (uset_any g m _ x.1 (G x.1 (vlP G pre)) X hu hxm).mono fun e w' ⟨he,h8,h9⟩ => by
        obtain ⟨s1,s2,s3⟩ := hs; have kk : ∀ (k j : Nat) (vv : Value),k ≠ g -> X.cell? ⟨k,j,none⟩ = some vv -> w'.cell? ⟨k,j,none⟩ = some vv := fun k j vv hn hc => (World.cell?_of_block (w' := w') (w := X) (a := ⟨k,j,none⟩) (h9.block k (block_lt_of_cell hc) (fun e => hn (by cases e; rfl)))).trans hc
        refine ⟨he,⟨kk _ _ _ hVg s1,kk _ _ _ hVg s2,(h9.block Bx (Array.getElem?_eq_some_iff.1 s3).1 (fun e => hBg (by cases e; rfl))).trans s3⟩,?_,h9⟩; rw [vlP_snoc]; exact h8
      have hz0 : VSR Vb g m Bx (L.getD (x.1 - 1) z0) W.drew := ⟨blk_cell hI.va.vb 2,blk_cell hI.va.vb 3,hbx⟩; have HEND : Hid (∀ X Y,Below W.heap.size W X -> X.grownBy Y (some g) -> UL Y g m (vlP G (pre ++ [x])) -> KeepsFrom W0.heap.size W Y /\ KC W0.heap.size g W Y /\ VLI w W0.heap.size Vb B M d g m T G (pre ++ [x]) Y) := fun X Y hb hg9 hu => by
        have hg : W.grownBy Y (some g) := grown_t ⟨hb.os,hb.tape,hb.output,hb.size,fun k hk _ => hb.block k hk⟩ hg9; obtain ⟨A,hA,_⟩ := hI.va.ul.blk; have kk : ∀ k (o : Obj),W.heap[k]? = some o -> k ≠ g -> Y.heap[k]? = some o := fun k o hk hn => (hg.block k (Array.getElem?_eq_some_iff.1 hk).1 (fun e => hn (by cases e; rfl))).trans hk
        refine ⟨⟨hg.size,fun k o _ hk hc => kk k o hk (fun e => by rw [e,hA] at hk; cases hk; cases hc)⟩,⟨fun j hj hn => hg.block j (Nat.lt_of_lt_of_le hj hI.hs) (fun e => hn (by cases e; rfl)),hg.size⟩,⟨⟨kk _ _ hI.va.vb hVg,hI.va.tm.keep (hg.block M hI.va.tm.lt (fun e => hMg (by cases e; rfl))),hu⟩,fun y => ?_,⟨hg.os.trans hI.bel.os,hg.tape.trans hI.bel.tape,hg.output.trans hI.bel.output,Nat.le_trans hI.bel.size hg.size,fun k hk => (hg.block k (Nat.lt_of_lt_of_le hk hI.bel.size) (fun e => by cases e; omega)).trans (hI.bel.block k hk)⟩,Nat.le_trans hI.hs hg.size⟩⟩; rw [vlP_snoc]
        show (if y = x.1 then G x.1 (vlP G pre) else vlP G pre y) <= _
        split
        · exact hG
        exact hI.le y
      clear hI hbx hG hcall hVAd hdr; unfold VSR at KA1 KA2 hz0
      generalize ((G x.1 (vlP G pre) : Nat) : Int) = gx at *
      generalize vlP G pre = f at *
      generalize vlP G (pre ++ [x]) = f2 at *
      have hnv : nodeV (L.getD (x.1 - 1) z0) = .agg (ndA (L.getD (x.1 - 1) z0)) := rfl; rw [hnv] at KA1 ⊢; clear hnv
      generalize L.getD (x.1 - 1) z0 = nd at *
      obtain ⟨op,u,na,nb,nc,num,nm⟩ := nd; unfold ndA at *
      dsimp only at *
      gi_wp2_with fail
      refine sq_round (fun X => X.cell? ⟨Vb,2,none⟩ = some (.slice (some ⟨g,0,none⟩) m m) /\ X.cell? ⟨Vb,3,none⟩ = some (.map none) /\ X.heap[Bx]? = some (Obj.cells #[.int .i64 op,.int .i64 u,.int .i64 na,.int .i64 nb,.int .i64 nc,.int .u64 num,.string nm] 40 (0,0))) [4,5] [0,1,2,3,4,5] (by kernel_rfl) (by kernel_rfl) (by rintro ⟨_,_,h⟩; exact h) (by kernel_rfl) hz0 ?_
      repeat (refine sq_op (v := ?_) (by rfl) (by rfl) (by rfl) ?_ ?_; rotate_left; (focus (intro w hSw; obtain ⟨c1,c2,c3⟩ := hSw; have d0 := blk_cell c3 0; have d1 := blk_cell c3 1; have d2 := blk_cell c3 2; have d3 := blk_cell c3 3; have d4 := blk_cell c3 4; have d5 := blk_cell c3 5; have d6 := blk_cell c3 6; simp at d0 d1 d2 d3 d4 d5 d6; go_simp <;> with_reducible rfl)); simp only [Act.put,List.setIfInBounds_toArray,List.set_cons_zero,List.set_cons_succ])
      refine sq_do (by rfl) (by rfl) (by rfl) (fun K hK => ?_)
      go_simp
      go_at_call 39
      refine KA1.out.mono ?_; rintro e w3 ⟨rfl,hz1,hu1,hb1⟩; refine hK.out _ _ hz1 (fun _ => ?_); clear hK K
      try simp only [Act.put,List.setIfInBounds_toArray,List.set_cons_zero,List.set_cons_succ]
      refine sq_do (by rfl) (by rfl) (by rfl) (fun K hK => ?_)
      go_simp
      go_at_call 38
      refine (KA2.out _ hu1 hz1).mono ?_; rintro e w4 ⟨rfl,hz2,hu2,hg2⟩; refine hK.out _ _ hz2 (fun _ => ?_); clear hK K
      try simp only [Act.put,List.setIfInBounds_toArray,List.set_cons_zero,List.set_cons_succ]
      refine sq_end (fun _ => ?_); have HE := HEND.out _ _ hb1 hg2 hu2; clear HEND KA1 KA2 hz0 hz1 hz2 hu1 hu2 hg2
      gi_wp2
      first | exact HE
    case stop =>
      rintro D c pre W _ _ h _; exact h.elim
    case done =>
      rintro D ys W hD hys hI hK; have e0 : vlP G ys = folN G 0 O := by
        unfold vlP; rw [hys]
        congr 1
        exact List.attach_map_subtype_val O
      have hu := hI.va.ul; rw [e0] at hu; have HAL : Hid (Calls Tryz.prog 40 #[.agg #[.slice (some ⟨g,0,none⟩) m m,.map none],.slice aR q cR] W fun e w' => ∃ g2,e = .returned (.slice (some ⟨g2,0,none⟩) q q) /\ UL w' g2 q (fun j => folN G 0 O (rs.getD j 0).toNat) /\ Below W.heap.size W w' /\ W.heap.size <= g2) := by
        have h9 := uall_any (cp := cR) g m _ W hu (HIR.out.below hI.bel) HRT.out (by rw [HQ.out]; exact hrl); rw [HQ.out] at h9; exact h9
      have HB : Hid (Below w.heap.size w W) := hI.bel; have k2 : W.cell? ⟨Vb,2,none⟩ = some (.slice (some ⟨g,0,none⟩) m m) := blk_cell hI.va.vb 2; have k3 : W.cell? ⟨Vb,3,none⟩ = some (.map none) := blk_cell hI.va.vb 3; have hDw : w.heap.size <= D := Nat.le_trans HI0.out.bel.size hD; clear hI hu e0 hys
      gi_wp2_with fail
      refine ⟨trivial,(callsIn_wide.2 HAL.out).mono ?_⟩; rintro e w5 ⟨g2,rfl,hu5,hb5,hg5⟩; have hK5 : w5.heap[D]? = some (.deferred (some [])) := (hb5.block D (Array.getElem?_eq_some_iff.1 hK).1).trans hK; have hgD : g2 ≠ D := by have := (Array.getElem?_eq_some_iff.1 hK).1; omega
      have HF : Hid (PP (.returned (.tuple #[.slice (some ⟨g2,0,none⟩) q q,.int .i64 0])) (w5.putObj D (Obj.deferred none))) := HPP.out _ _ (hu5.keep (World.putObj_heap_other hgD)) ((HB.out.trans (below_le' hb5 HB.out.size)).trans (below_le' (B := w.heap.size) (belowK_b (w := w) (Nat.le_refl _) w5 D _ _ hDw hK5 rfl rfl) (Nat.le_refl _))); clear hu5 hb5 hg5 hK HAL
      gi_wp2
      refine ⟨by simp,.inl ⟨_,_,rfl,run_takeDeferred hK5,?_⟩⟩; refine ⟨.tuple #[.slice (some ⟨g2,0,none⟩) q q,.int .i64 0],?hres,HF.out⟩
      case hres => first | rfl | (simp [results]; done)
end Go.Proofs.YtkpapgfbnledpaaGreatDoor
namespace Go.Proofs.YtkpapgfbnledpaaGreatDoor
open Go.ChangeShapes Go.WideShapes Go.ChangeAt Go.RowKit Go.Lib Go.Tm Go.Bw Go.Bn Go.WideMaps Go.Maps Go.ChangeMaps Go.Shelf
attribute [local go_sem] Oper.semAt_some

theorem values_bad (B0 B : Nat) (lim : Int) (L : List Nd) (v : Value) (M1 M2 : Option Nat) {aR aV : Option Addr} {cR cV : Nat} {rs : List Int} {xs : List Vl} (w : World) (hS : SM 78 w B0 B lim L v M1 M2) (hP : PAR L) (hI : IR w aR rs) (hr : ∀ x ∈ rs,isT L x = true) (hrl : rs.length <= 1000000000000) (hV : VR w aV xs) (hvl : xs.length <= 1000000000000) (hn : ∀ i j,i < j -> j < xs.length -> ¬ (xs.getD j vZ).nm = (xs.getD i vZ).nm) (hg : ∀ x ∈ xs,nmB x.nm = true /\ x.nm.size <= 140737488355328 /\ okV x)
    (hsz : ∀ x ∈ varsF L (og L [] (toN rs)),x.nm.size <= 140737488355328) (hbad : ∃ x ∈ varsF L (og L [] (toN rs)),∃ y,tellF xs x.nm = some y /\ y.w ≠ x.w) :
    Calls Tryz.prog 16 #[.pointer (some ⟨B,0,none⟩),.slice aR rs.length cR,.slice aV xs.length cV] w fun e w' => e = .returned (.tuple #[.slice none 0 0,.int .i64 71]) /\ Below w.heap.size w w' := by
  have HC : Hid (Calls Tryz.prog 26 #[.pointer (some ⟨B,0,none⟩),.slice aR rs.length cR] w fun e w' => ∃ aO cO,e = .returned (.tuple #[.agg #[.pointer (some ⟨B,0,none⟩),.slice aO (og L [] (toN rs)).length cO],.int .i64 0]) /\ Below w.heap.size w w' /\ OR w' aO (og L [] (toN rs))) := coneOf_ok (cp := cR) B0 B lim L v M1 M2 w hS hP hI (by omega) hr; obtain ⟨g0,hSR,_,_⟩ := hS.sr; have hLl := hS.len; have hrr := fun x hx => (of_decide_eq_true (hr x hx) : 1 <= x /\ x <= (L.length : Int))
  have hb : ∀ r ∈ toN rs,1 <= r /\ r <= L.length /\ True := fun r hr' => by
    obtain ⟨y,hy,rfl⟩ := List.mem_map.1 hr'; have := hrr y hy; exact ⟨by omega,by omega,trivial⟩
  obtain ⟨hPW,_,hroot,_⟩ := og_ok (R := fun _ => True) hP (toN rs) [] (PW.nil L) ⟨fun _ _ _ _ => Or.inl trivial,fun _ _ _ _ => Or.inl trivial⟩ hb; have htO : ∀ x ∈ rs,x.toNat ∈ og L [] (toN rs) := fun x hx => hroot _ (List.mem_map.2 ⟨x,hx,rfl⟩)
  have HSR : Hid (SR w B g0 L) := hSR; have HPAR : Hid (PAR L) := hP; clear hS hSR hroot hb hr
  generalize og L [] (toN rs) = O at *
  have HOB : Hid (∀ x ∈ O,1 <= x /\ x <= L.length) := hPW.ob; have hlO : O.length <= L.length := by have := hPW.len; simpa using this
  have hmx : mxN O <= 1000000000000 := mxN_le (fun x hx => by have := (hPW.ob x hx).2; omega); have HRT : Hid (∀ x ∈ rs,0 <= x /\ x.toNat < mxN O + 1) := fun x hx => ⟨by have := hrr x hx; omega,by have := mxN_ge (htO x hx); omega⟩
  clear hPW hP hrr htO
  generalize hPP : (fun (e : Ending) (w' : World) => e = .returned (.tuple #[.slice none 0 0,.int .i64 71]) /\ Below w.heap.size w w') = PP
  have HPP : Hid (∀ w',Below w.heap.size w w' -> PP (.returned (.tuple #[.slice none 0 0,.int .i64 71])) w') := fun w' h2 => by rw [<- hPP]; exact ⟨rfl,h2⟩
  clear hPP; obtain ⟨q,hq⟩ : ∃ q,rs.length = q := ⟨_,rfl⟩; have HIR : Hid (IR w aR rs) := hI; have HVR : Hid (VR w aV xs) := hV; obtain ⟨d,hdd⟩ : ∃ d,xs.length = d := ⟨_,rfl⟩; have HTO : Hid (∀ W,VR W aV xs -> Calls Tryz.prog 35 #[.slice aV d cV] W fun e w' => e = .returned (.tuple #[.map (some W.heap.size),.int .i64 0]) /\ TMP w' W.heap.size d (tellF xs) /\ Below W.heap.size W w') := fun W h => by subst hdd; exact told_ok W h hvl hn hg
  have HVS : Hid (∀ W (aO : Option Addr) cO,SR W B g0 L -> OR W aO O -> Calls Tryz.prog 27 #[.agg #[.pointer (some ⟨B,0,none⟩),.slice aO O.length cO]] W fun e w' => ∃ ad cp,e = .returned (.slice ad (varsF L O).length cp) /\ VR w' ad (varsF L O) /\ Below W.heap.size W w') := fun W aO cO h1 h2 => vars_any W h1 h2 HOB.out (by omega)
  have hvn : (varsF L O).length <= 1000000000000 := Nat.le_trans (varsF_len L O) (by omega); obtain ⟨n,hnn⟩ : ∃ n,O.length = n := ⟨_,rfl⟩; have HN : Hid (O.length = n) := hnn; have HFIT : Hid (∀ x ∈ varsF L O,x.nm.size <= 140737488355328) := hsz; rw [hnn] at HC HVS hlO; rw [hq] at HC hrl ⊢; rw [hdd] at hvl ⊢; clear hq hdd hnn hsz hn hg hI hV hmx HRT HIR
  generalize varsF L O = vs at *
  generalize tellF xs = T at *
  have HBAD : Hid (¬ ∀ j,j < vs.length -> ∀ y,T (vs.getD j vZ).nm = some y -> y.w = (vs.getD j vZ).w) := fun hall => by
    obtain ⟨x,hx,y,hy,hne⟩ := hbad; obtain ⟨j,hj,e⟩ := List.mem_iff_getElem.1 hx; have h7 := hall j hj y; rw [show vs.getD j vZ = x by rw [<- e,List.getD_eq_getElem?_getD,List.getElem?_eq_getElem hj]; rfl] at h7; exact hne (h7 hy)
  clear hbad; obtain ⟨vn,hvq⟩ : ∃ vn,vs.length = vn := ⟨_,rfl⟩; have HVN : Hid (vs.length = vn) := hvq; rw [hvq] at HVS hvn; clear hvq; refine (callsIn_wide (n := 9)).1 ?_; refine callsIn_of_wp_marks Tryz.func16 rfl trivial ?_ rfl; simp only [Tryz.ntmps16,List.size_toArray,List.length_cons,List.length_nil,Nat.reduceAdd,Nat.reduceSub,Array.replicate_succ,Array.replicate_zero,List.push_toArray,List.append_toArray,List.nil_append,List.cons_append]
  gi_wp2_with fail
  refine ⟨trivial,(callsIn_wide.2 HC.out).mono ?_⟩; rintro e w1 ⟨aO,cO,rfl,hb1,hO1⟩; have HB1 : Hid (Below w.heap.size w w1 /\ OR w1 aO O) := ⟨hb1,hO1⟩; clear hb1 hO1 HC
  gi_wp2_with fail
  obtain ⟨Cb,hCb⟩ : ∃ Cb,w1.heap.size = Cb := ⟨_,rfl⟩; obtain ⟨w2,hw2⟩ : ∃ w2,w1.alloc (Obj.cells #[.pointer (some ⟨B,0,none⟩),.slice aO n cO] 68) = w2 := ⟨_,rfl⟩; have HB2 : Hid (Below w.heap.size w w2 /\ OR w2 aO O /\ w2.heap[Cb]? = some (Obj.cells #[.pointer (some ⟨B,0,none⟩),.slice aO n cO] 68 (0,0))) := by
    rw [<- hw2,<- hCb]; exact ⟨HB1.out.1.trans (below_le' (bel1 w1 _) HB1.out.1.size),HB1.out.2.below (bel1 w1 _),heap_alloc_new w1 _⟩
  rw [hCb,hw2]; clear hCb hw2 HB1; refine ⟨trivial,(callsIn_wide.2 (HTO.out w2 (HVR.out.below HB2.out.1))).mono ?_⟩; rintro e w3 ⟨rfl,ht3,hb3⟩; obtain ⟨M,hM⟩ : ∃ M,w2.heap.size = M := ⟨_,rfl⟩; rw [hM] at ht3; have HB3 : Hid (Below w.heap.size w w3 /\ OR w3 aO O /\ w3.heap[Cb]? = some (Obj.cells #[.pointer (some ⟨B,0,none⟩),.slice aO n cO] 68 (0,0)) /\ TMP w3 M d T /\ w.heap.size <= M) := ⟨HB2.out.1.trans (below_le' hb3 HB2.out.1.size),HB2.out.2.1.below hb3,(hb3.block _ (Array.getElem?_eq_some_iff.1 HB2.out.2.2).1).trans HB2.out.2.2,ht3,by rw [<- hM]; exact HB2.out.1.size⟩; have k0 : w3.cell? ⟨Cb,0,none⟩ = some (.pointer (some ⟨B,0,none⟩)) := blk_cell HB3.out.2.2.1 0; have k1 : w3.cell? ⟨Cb,1,none⟩ = some (.slice aO n cO) := blk_cell HB3.out.2.2.1 1; rw [hM]; clear hM ht3 hb3 HB2
  gi_wp2_with fail
  refine ⟨trivial,(callsIn_wide.2 (HVS.out w3 aO cO (HSR.out.below HB3.out.1) HB3.out.2.1)).mono ?_⟩; rintro e w4 ⟨aS,cS,rfl,hv4,hb4⟩; have HB4 : Hid (Below w.heap.size w w4 /\ OR w4 aO O /\ w4.heap[Cb]? = some (Obj.cells #[.pointer (some ⟨B,0,none⟩),.slice aO n cO] 68 (0,0)) /\ TMP w4 M d T /\ VR w4 aS vs) := ⟨HB3.out.1.trans (below_le' hb4 HB3.out.1.size),HB3.out.2.1.below hb4,(hb4.block _ (Array.getElem?_eq_some_iff.1 HB3.out.2.2.1).1).trans HB3.out.2.2.1,HB3.out.2.2.2.1.below hb4,hv4⟩; have HMw : Hid (w.heap.size <= M) := HB3.out.2.2.2.2; clear k0 k1 hv4 hb4 HB3 HVS HTO
  gi_wp2_with fail
  have HGO : Hid (∀ W W',Below W.heap.size W W' -> (Below w.heap.size w W /\ OR W aO O /\ W.heap[Cb]? = some (Obj.cells #[.pointer (some ⟨B,0,none⟩),.slice aO n cO] 68 (0,0)) /\ TMP W M d T /\ VR W aS vs) -> (Below w.heap.size w W' /\ OR W' aO O /\ W'.heap[Cb]? = some (Obj.cells #[.pointer (some ⟨B,0,none⟩),.slice aO n cO] 68 (0,0)) /\ TMP W' M d T /\ VR W' aS vs)) := fun W W' hb h => ⟨h.1.trans (below_le' hb h.1.size),h.2.1.below hb,(hb.block _ (Array.getElem?_eq_some_iff.1 h.2.2.1).1).trans h.2.2.1,h.2.2.2.1.below hb,h.2.2.2.2.below hb⟩
  gi_loopw [38] (fun i wr => ∃ k : Nat,k <= vn /\ i = .int .i64 (k : Int) /\ (Below w.heap.size w wr /\ OR wr aO O /\ wr.heap[Cb]? = some (Obj.cells #[.pointer (some ⟨B,0,none⟩),.slice aO n cO] 68 (0,0)) /\ TMP wr M d T /\ VR wr aS vs) /\ ∀ j,j < k -> ∀ y,T (vs.getD j vZ).nm = some y -> y.w = (vs.getD j vZ).w)
    (fun i _ => (vn - (Lib.intOf i).toNat))
  case atStart => exact ⟨0,Nat.zero_le _,by simp,HB4.out,fun j hj => by omega⟩
  case round =>
    obtain ⟨k,hk,rfl,hR,hfs⟩ := hrel; have HFS : Hid (∀ j,j < k -> ∀ y,T (vs.getD j vZ).nm = some y -> y.w = (vs.getD j vZ).w) := hfs; clear hfs; have HR : Hid (Below w.heap.size w wr /\ OR wr aO O /\ wr.heap[Cb]? = some (Obj.cells #[.pointer (some ⟨B,0,none⟩),.slice aO n cO] 68 (0,0)) /\ TMP wr M d T /\ VR wr aS vs) := hR; clear hR
    by_cases hlt : k < vn
    · have hlx : k < vs.length := by rw [HVN.out]; exact hlt
      obtain ⟨b,o,rfl,hbl,hc⟩ := HR.out.2.2.2.2 (by rw [HVN.out]; omega); obtain ⟨c1,c2,c3⟩ := hc k hlx; have q0 : (k : Int) < (vn : Int) := by omega
      have hxm : vs.getD k vZ ∈ vs := by rw [List.getD_eq_getElem?_getD,List.getElem?_eq_getElem hlx]; exact List.getElem_mem _
      have hs1 := HFIT.out _ hxm; have HNX : Hid ((∀ y,T (vs.getD k vZ).nm = some y -> y.w = (vs.getD k vZ).w) -> ∀ j,j < k + 1 -> ∀ y,T (vs.getD j vZ).nm = some y -> y.w = (vs.getD j vZ).w) := fun h j hj => by
        by_cases e : j = k
        · subst e; exact h
        exact HFS.out j (by omega)
      have HLk : Hid (∀ W,Below wr.heap.size wr W -> (Instr.lookup 89 (.map (some M)) (.string (vs.getD k vZ).nm) true).run Tryz.prog W = .ok (.tuple #[vV ((T (vs.getD k vZ).nm).getD vZ),.bool (T (vs.getD k vZ).nm).isSome]) W) := fun W hb => (HR.out.2.2.2.1.below hb).look_ok _ hs1
      clear hc hxm hs1
      generalize vs.getD k vZ = x at *
      obtain ⟨nm,xw,xn⟩ := x
      dsimp only at c1 c2 c3 HLk HNX
      have hlk := HLk.out _ (bel1 wr (Obj.cells #[.string nm,.int .i64 xw,.int .u64 xn] 38 (0,0))); have HE : Hid (∀ a b,_ /\ _) := fun a b => HGO.out _ _ (bel2 wr a b) HR.out
      have HB9 : Hid (Below w.heap.size w wr) := HR.out.1; cases hT : T nm with
      | none =>
        rw [hT] at hlk; unfold vV at hlk
        dsimp only [vZ,Option.getD,Option.isSome] at hlk
        gi_wp2
        go_roundw
        case rel => exact ⟨k + 1,by omega,by simp,HE.out _ _,HNX.out (fun y hy => by rw [hT] at hy; cases hy)⟩
        case measure => (simp [Lib.intOf]; omega)
      | some y =>
        rw [hT] at hlk; obtain ⟨ym,yw,yn⟩ := y; unfold vV at hlk
        dsimp only [vZ,Option.getD,Option.isSome] at hlk
        by_cases hyw : yw = xw
        · subst hyw
          gi_wp2
          go_roundw
          case rel => exact ⟨k + 1,by omega,by simp,HE.out _ _,HNX.out (fun y hy => by rw [hT] at hy; cases hy; rfl)⟩
          case measure => (simp [Lib.intOf]; omega)
        gi_wp2
        refine ⟨.tuple #[.slice none 0 0,.int .i64 71],?hres,HPP.out _ (HE.out _ _).1⟩
        case hres => first | rfl | (simp [results]; done)
    obtain rfl : k = vn := by omega
    exact absurd (by rw [HVN.out]; exact HFS.out) HBAD.out
theorem value_bad (B0 B : Nat) (lim : Int) (L : List Nd) (v : Value) (M1 M2 : Option Nat) {aV : Option Addr} {cV : Nat} {t : Nat} {xs : List Vl} (w : World) (hS : SM 78 w B0 B lim L v M1 M2) (hP : PAR L) (h1 : 1 <= t) (h2 : t <= L.length) (hV : VR w aV xs) (hvl : xs.length <= 1000000000000) (hn : ∀ i j,i < j -> j < xs.length -> ¬ (xs.getD j vZ).nm = (xs.getD i vZ).nm) (hg : ∀ x ∈ xs,nmB x.nm = true /\ x.nm.size <= 140737488355328 /\ okV x)
    (hsz : ∀ x ∈ varsF L (og L [] [t]),x.nm.size <= 140737488355328) (hbad : ∃ x ∈ varsF L (og L [] [t]),∃ y,tellF xs x.nm = some y /\ y.w ≠ x.w) :
    Calls Tryz.prog 25 #[.pointer (some ⟨B,0,none⟩),.int .i64 (t : Int),.slice aV xs.length cV] w fun e w' => e = .returned (.tuple #[.int .u64 0,.int .i64 71]) /\ Below w.heap.size w w' := by
  have eT : toN [(t : Int)] = [t] := rfl; have hl1 : ([(t : Int)] : List Int).length <= 1000000000000 := by rw [List.length_singleton]; omega
  have hr1 : ∀ x ∈ [(t : Int)],isT L x = true := fun x hx => by rw [List.mem_singleton.1 hx]; exact decide_eq_true (by omega)
  have HC : Hid (∀ W c,Below w.heap.size w W -> IR W (some ⟨w.heap.size,0,none⟩) [(t : Int)] -> Calls Tryz.prog 16 #[.pointer (some ⟨B,0,none⟩),.slice (some ⟨w.heap.size,0,none⟩) 1 c,.slice aV xs.length cV] W fun e w' => e = .returned (.tuple #[.slice none 0 0,.int .i64 71]) /\ Below W.heap.size W w') := fun W c hb hi => by
    have h9 := values_bad (rs := [(t : Int)]) (xs := xs) (aR := some ⟨w.heap.size,0,none⟩) (aV := aV) (cR := c) (cV := cV) B0 B lim L v M1 M2 W (hS.below hb) hP hi hr1 hl1 (hV.below hb) hvl hn hg (by rw [eT]; exact hsz) (by rw [eT]; exact hbad); rw [List.length_singleton] at h9; exact h9
  clear hS hP hV hn hg hsz hbad
  generalize xs.length = d at *
  go_enter Tryz.func25,Tryz.ntmps25
  go_wp2_with fail
  refine (HC.out _ 1 (bel1 _ _) ?ir).mono ?_
  case ir => exact fun _ => ⟨w.heap.size,0,rfl,by simp,fun j hj => by
    obtain rfl : j = 0 := by simpa using hj
    exact (blk_cell (heap_alloc_new w _) 0).trans rfl⟩
  rintro e w1 ⟨rfl,hb1⟩; have HB : Hid (Below w.heap.size w w1) := (bel1 w _).trans (below_le' hb1 (by simp)); clear hb1 HC
  go_wp2_with fail
  first
    | (go_ret2; exact ⟨rfl,HB.out⟩)
    | exact ⟨rfl,HB.out⟩
end Go.Proofs.YtkpapgfbnledpaaGreatDoor
