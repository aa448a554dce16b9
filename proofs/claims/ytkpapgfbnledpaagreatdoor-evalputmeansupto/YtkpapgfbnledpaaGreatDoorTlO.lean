import Derived.Test.YtkpapgfbnledpaaGreatDoorTlM
import Derived.Test.YtkpapgfbnledpaaGreatDoorTmU
import Derived.Defers
import Derived.Recover
import Derived.WalkLawsBesides
set_option maxHeartbeats 8000000
set_option maxRecDepth 100000
namespace Go.Proofs.YtkpapgfbnledpaaGreatDoor
open Go.ChangeShapes Go.WideShapes Go.ChangeAt Go.RowKit Go.Lib Go.Tm Go.Bw Go.Bn Go.Bd

structure BX4 (W : World) (E : Nat) (a b c d : Value) : Prop where
  b0 : W.heap[E]? = some (.cells #[a] 25 (0,0))
  b1 : W.heap[E + 1]? = some (.cells #[b] 23 (0,0))
  b2 : W.heap[E + 2]? = some (.cells #[c] 3 (0,0))
  b3 : W.heap[E + 3]? = some (.cells #[d] 29 (0,0))
theorem BX4.keep {W W' : World} {E : Nat} {a b c d : Value} (h : BX4 W E a b c d) (hb : ∀ j,E <= j -> j < E + 4 -> W'.heap[j]? = W.heap[j]?) : BX4 W' E a b c d := ⟨(hb _ (by omega) (by omega)).trans h.b0,(hb _ (by omega) (by omega)).trans h.b1,(hb _ (by omega) (by omega)).trans h.b2,(hb _ (by omega) (by omega)).trans h.b3⟩
theorem set1 {W : World} {g : Nat} {a : Value} {t : TypeId} (h : W.heap[g]? = some (.cells #[a] t (0,0))) (v : Value) : (W.setCell ⟨g,0,none⟩ v).heap[g]? = some (.cells #[v] t (0,0)) := by
  rw [heap_setCell_same _ _ 0 _ _ _ h]
  simp
theorem BX4.s0 {W : World} {E : Nat} {a b c d : Value} (h : BX4 W E a b c d) (v : Value) : BX4 (W.setCell ⟨E,0,none⟩ v) E v b c d := ⟨set1 h.b0 v,(heap_setCell_other _ _ _ _ (show E + 1 ≠ E by omega)).trans h.b1,(heap_setCell_other _ _ _ _ (show E + 2 ≠ E by omega)).trans h.b2,(heap_setCell_other _ _ _ _ (show E + 3 ≠ E by omega)).trans h.b3⟩
theorem BX4.s1 {W : World} {E : Nat} {a b c d : Value} (h : BX4 W E a b c d) (v : Value) : BX4 (W.setCell ⟨E + 1,0,none⟩ v) E a v c d := ⟨(heap_setCell_other _ _ _ _ (show E ≠ E + 1 by omega)).trans h.b0,set1 h.b1 v,(heap_setCell_other _ _ _ _ (show E + 2 ≠ E + 1 by omega)).trans h.b2,(heap_setCell_other _ _ _ _ (show E + 3 ≠ E + 1 by omega)).trans h.b3⟩
theorem BX4.s2 {W : World} {E : Nat} {a b c d : Value} (h : BX4 W E a b c d) (v : Value) : BX4 (W.setCell ⟨E + 2,0,none⟩ v) E a b v d := ⟨(heap_setCell_other _ _ _ _ (show E ≠ E + 2 by omega)).trans h.b0,(heap_setCell_other _ _ _ _ (show E + 1 ≠ E + 2 by omega)).trans h.b1,set1 h.b2 v,(heap_setCell_other _ _ _ _ (show E + 3 ≠ E + 2 by omega)).trans h.b3⟩
theorem BX4.s3 {W : World} {E : Nat} {a b c d : Value} (h : BX4 W E a b c d) (v : Value) : BX4 (W.setCell ⟨E + 3,0,none⟩ v) E a b c v := ⟨(heap_setCell_other _ _ _ _ (show E ≠ E + 3 by omega)).trans h.b0,(heap_setCell_other _ _ _ _ (show E + 1 ≠ E + 3 by omega)).trans h.b1,(heap_setCell_other _ _ _ _ (show E + 2 ≠ E + 3 by omega)).trans h.b2,set1 h.b3 v⟩
structure RNG (a b : Nat) (w w' : World) : Prop where
  os : w'.os = w.os
  tape : w'.tape = w.tape
  output : w'.output = w.output
  size : w.heap.size <= w'.heap.size
  block : ∀ j,j < w.heap.size -> (j < a ∨ b <= j) -> w'.heap[j]? = w.heap[j]?
theorem RNG.set {a b : Nat} (w : World) {g i : Nat} (v : Value) (h1 : a <= g) (h2 : g < b) : RNG a b w (w.setCell ⟨g,i,none⟩ v) := ⟨rfl,rfl,rfl,by simp,fun j _ hj => heap_setCell_other _ _ _ _ (show j ≠ g by omega)⟩
theorem RNG.refl (a b : Nat) (w : World) : RNG a b w w := ⟨rfl,rfl,rfl,Nat.le_refl _,fun _ _ _ => rfl⟩
theorem RNG.trans {a b : Nat} {w w1 w2 : World} (h : RNG a b w w1) (h2 : RNG a b w1 w2) : RNG a b w w2 := ⟨h2.os.trans h.os,h2.tape.trans h.tape,h2.output.trans h.output,Nat.le_trans h.size h2.size,fun j hj hn => (h2.block j (Nat.lt_of_lt_of_le hj h.size) hn).trans (h.block j hj hn)⟩
theorem catch7_idle (p0 p1 p2 p3 : Addr) (w : World) :
    CallsD Tryz.prog 49 #[.pointer (some p0),.pointer (some p1),.pointer (some p2),.pointer (some p3)] .returning w fun e u' w' => e = .returned (.tuple #[]) /\ u' = .returning /\ w' = w := by
  refine callsD_of_wpS Tryz.func49 rfl fun c₀ cs hu => ?_
  apply wpS_seq
  apply wpS_region
  simp [wpOpsS,go_sem,recoverD,hu,Tryz.ntmps49,Exit.thenS]
  apply wpS_seq
  apply wpS_region
  simp [wpOpsS,go_sem,Exit.thenS]
  refine wpS_cond (t := false) (by simp [Act.eval,Array.replicate]) ?_; refine wpS_of_wp (wp_skip ?_); cases c₀
  simp_all [bodyPostS,results,Tryz.results49]
theorem catch7_hit (E : Nat) (w : World) (k c : Int) (a b cc d : Value) (older : List PanicEntry) (h : BX4 w E a b cc d) :
    CallsD Tryz.prog 49 #[.pointer (some ⟨E,0,none⟩),.pointer (some ⟨E + 1,0,none⟩),.pointer (some ⟨E + 2,0,none⟩),.pointer (some ⟨E + 3,0,none⟩)] (.panicking ({ v := .iface 119 (.agg #[.int .i64 k,.int .i64 c]),recovered := false } :: older)) w fun e u' w' => e = .returned (.tuple #[]) /\ u' = (.panicking ({ v := .iface 119 (.agg #[.int .i64 k,.int .i64 c]),recovered := true } :: older)) /\ BX4 w' E (.pointer none) (.slice none 0 0) (.int .i64 k) (.int .i64 c) /\ RNG E (E + 4) w w' := by
  obtain ⟨D,hD⟩ : ∃ D,w.heap.size = D := ⟨_,rfl⟩; obtain ⟨W1,hW1⟩ : ∃ W1,w.alloc (.cells #[.int .i64 k,.int .i64 c] 119) = W1 := ⟨_,rfl⟩; have HW1 : Hid (w.alloc (.cells #[.int .i64 k,.int .i64 c] 119) = W1 /\ w.heap.size = D) := ⟨hW1,hD⟩; have hE3 := (Array.getElem?_eq_some_iff.1 h.b3).1; have HD : Hid (E + 4 <= D) := by show _ <= _; omega
  have H1 : Hid (BX4 W1.drew E a b cc d /\ RNG E (E + 4) w W1.drew /\ W1.drew.heap[D]? = some (.cells #[.int .i64 k,.int .i64 c] 119 (0,0))) := by
    have hb1 : Below w.heap.size w W1 := by rw [<- hW1]; exact bel1 _ _
    refine ⟨h.keep (fun j h1 h2 => hb1.block j (by omega)),⟨hb1.os,hb1.tape,hb1.output,hb1.size,fun j hj _ => hb1.block j hj⟩,?_⟩; have := heap_alloc_new w (.cells #[.int .i64 k,.int .i64 c] 119); rw [hW1,hD] at this; exact this
  have hS0 : W1.drew.cell? ⟨D,0,none⟩ = some (.int .i64 k) /\ W1.drew.cell? ⟨D,1,none⟩ = some (.int .i64 c) := ⟨cell_of H1.out.2.2 0,cell_of H1.out.2.2 1⟩; clear h hD hW1 hE3; refine callsD_of_wpS Tryz.func49 rfl fun c₀ cs hu => ?_
  apply wpS_seq
  apply wpS_region
  simp [wpOpsS,go_sem,recoverD,hu,Tryz.ntmps49,Exit.thenS]
  apply wpS_seq
  apply wpS_region
  simp [wpOpsS,go_sem,Exit.thenS]
  refine wpS_cond (t := true) (by simp [Act.eval,Array.replicate]) ?_; simp only [if_true]; refine wpS_of_wp ?_; have hT : ∀ (v : Value) (w : World),(Instr.typeAssert (.iface 119 v) 20 119 false).run Tryz.prog w = .ok v w := fun _ _ => by kernel_rfl
  simp only [Array.replicate,List.replicate,List.setIfInBounds_toArray,List.set_cons_zero,List.set_cons_succ,List.append_toArray,List.cons_append,List.nil_append]
  go_upto_region 3 with fail
  rw [HW1.out.1,HW1.out.2]; refine sq_start (fun X => X.cell? ⟨D,0,none⟩ = some (.int .i64 k) /\ X.cell? ⟨D,1,none⟩ = some (.int .i64 c)) [4,5,6,7] [0,1,2,3,4,5,6,7] (by kernel_rfl) (by kernel_rfl) hS0 ?_
  generalize W1.drew = WD at *
  repeat (refine sq_op (v := ?_) (by rfl) (by rfl) (by rfl) ?_ ?_; rotate_left; (focus (intro X hX; obtain ⟨zz0,zz1⟩ := hX; go_simp <;> with_reducible rfl)); simp only [Act.put,List.setIfInBounds_toArray,List.set_cons_zero,List.set_cons_succ])
  have e0 := cell_of H1.out.1.b0 0; have f0 := fz_of H1.out.1.b0 0; have H2 : Hid (BX4 (WD.setCell ⟨E,0,none⟩ (.pointer none)) E (.pointer none) (b) (cc) (d) /\ RNG E (E + 4) w (WD.setCell ⟨E,0,none⟩ (.pointer none)) /\ (WD.setCell ⟨E,0,none⟩ (.pointer none)).heap[D]? = some (.cells #[.int .i64 k,.int .i64 c] 119 (0,0))) := ⟨H1.out.1.s0 _,H1.out.2.1.trans (RNG.set _ _ (by omega) (by omega)),(heap_setCell_other _ _ _ _ (show D ≠ E by have := HD.out; omega)).trans H1.out.2.2⟩; refine sq_do (by rfl) (by rfl) (by rfl) (fun K hK => ?_)
  go_simp
  obtain ⟨w2,hw⟩ : ∃ X,WD.setCell ⟨E,0,none⟩ (.pointer none) = X := ⟨_,rfl⟩; rw [hw] at H2; rw [hw]; clear hw e0 f0 H1; refine hK.out _ _ ⟨cell_of H2.out.2.2 0,cell_of H2.out.2.2 1⟩ (fun _ => ?_); clear hK K
  try simp only [Act.put,List.setIfInBounds_toArray,List.set_cons_zero,List.set_cons_succ]
  have e1 := cell_of H2.out.1.b1 0; have f1 := fz_of H2.out.1.b1 0; have H3 : Hid (BX4 (w2.setCell ⟨E + 1,0,none⟩ (.slice none 0 0)) E (.pointer none) (.slice none 0 0) (cc) (d) /\ RNG E (E + 4) w (w2.setCell ⟨E + 1,0,none⟩ (.slice none 0 0)) /\ (w2.setCell ⟨E + 1,0,none⟩ (.slice none 0 0)).heap[D]? = some (.cells #[.int .i64 k,.int .i64 c] 119 (0,0))) := ⟨H2.out.1.s1 _,H2.out.2.1.trans (RNG.set _ _ (by omega) (by omega)),(heap_setCell_other _ _ _ _ (show D ≠ E + 1 by have := HD.out; omega)).trans H2.out.2.2⟩; refine sq_do (by rfl) (by rfl) (by rfl) (fun K hK => ?_)
  go_simp
  obtain ⟨w3,hw⟩ : ∃ X,w2.setCell ⟨E + 1,0,none⟩ (.slice none 0 0) = X := ⟨_,rfl⟩; rw [hw] at H3; rw [hw]; clear hw e1 f1 H2; refine hK.out _ _ ⟨cell_of H3.out.2.2 0,cell_of H3.out.2.2 1⟩ (fun _ => ?_); clear hK K
  try simp only [Act.put,List.setIfInBounds_toArray,List.set_cons_zero,List.set_cons_succ]
  have e2 := cell_of H3.out.1.b2 0; have f2 := fz_of H3.out.1.b2 0; have H4 : Hid (BX4 (w3.setCell ⟨E + 2,0,none⟩ (.int .i64 k)) E (.pointer none) (.slice none 0 0) (.int .i64 k) (d) /\ RNG E (E + 4) w (w3.setCell ⟨E + 2,0,none⟩ (.int .i64 k)) /\ (w3.setCell ⟨E + 2,0,none⟩ (.int .i64 k)).heap[D]? = some (.cells #[.int .i64 k,.int .i64 c] 119 (0,0))) := ⟨H3.out.1.s2 _,H3.out.2.1.trans (RNG.set _ _ (by omega) (by omega)),(heap_setCell_other _ _ _ _ (show D ≠ E + 2 by have := HD.out; omega)).trans H3.out.2.2⟩; refine sq_do (by rfl) (by rfl) (by rfl) (fun K hK => ?_)
  go_simp
  obtain ⟨w4,hw⟩ : ∃ X,w3.setCell ⟨E + 2,0,none⟩ (.int .i64 k) = X := ⟨_,rfl⟩; rw [hw] at H4; rw [hw]; clear hw e2 f2 H3; refine hK.out _ _ ⟨cell_of H4.out.2.2 0,cell_of H4.out.2.2 1⟩ (fun _ => ?_); clear hK K
  try simp only [Act.put,List.setIfInBounds_toArray,List.set_cons_zero,List.set_cons_succ]
  have e3 := cell_of H4.out.1.b3 0; have f3 := fz_of H4.out.1.b3 0; have H5 : Hid (BX4 (w4.setCell ⟨E + 3,0,none⟩ (.int .i64 c)) E (.pointer none) (.slice none 0 0) (.int .i64 k) (.int .i64 c) /\ RNG E (E + 4) w (w4.setCell ⟨E + 3,0,none⟩ (.int .i64 c)) /\ (w4.setCell ⟨E + 3,0,none⟩ (.int .i64 c)).heap[D]? = some (.cells #[.int .i64 k,.int .i64 c] 119 (0,0))) := ⟨H4.out.1.s3 _,H4.out.2.1.trans (RNG.set _ _ (by omega) (by omega)),(heap_setCell_other _ _ _ _ (show D ≠ E + 3 by have := HD.out; omega)).trans H4.out.2.2⟩; refine sq_do (by rfl) (by rfl) (by rfl) (fun K hK => ?_)
  go_simp
  obtain ⟨w5,hw⟩ : ∃ X,w4.setCell ⟨E + 3,0,none⟩ (.int .i64 c) = X := ⟨_,rfl⟩; rw [hw] at H5; rw [hw]; clear hw e3 f3 H4; refine hK.out _ _ ⟨cell_of H5.out.2.2 0,cell_of H5.out.2.2 1⟩ (fun _ => ?_); clear hK K
  try simp only [Act.put,List.setIfInBounds_toArray,List.set_cons_zero,List.set_cons_succ]
  refine sq_end (fun _ => ?_); have HF : Hid (BX4 w5 E (.pointer none) (.slice none 0 0) (.int .i64 k) (.int .i64 c) /\ RNG E (E + 4) w w5) := ⟨H5.out.1,H5.out.2.1⟩; clear H5 HW1 HD; refine ⟨rfl,_,rfl,.tuple #[],?_,rfl,rfl,HF.out.1,HF.out.2⟩
  simp [results,Tryz.results49,go_sem]
end Go.Proofs.YtkpapgfbnledpaaGreatDoor
namespace Go.Proofs.YtkpapgfbnledpaaGreatDoor
open Go.ChangeShapes Go.WideShapes Go.ChangeAt Go.RowKit Go.Lib Go.Tm Go.Bw Go.Bn Go.Bd

theorem leaves_congr {P : Program} {fn : Func} {t t' : Array Value} {R : Ending -> World -> Prop} (h : ∀ w,(results fn t).run P w = (results fn t').run P w) : ∀ (ds : List Deferred) (u : FrameMode) (w : World),Leaves P fn t R ds u w -> Leaves P fn t' R ds u w
  | [],.returning,w,⟨v,h1,h2⟩ => ⟨v,(h w) ▸ h1,h2⟩
  | [],.panicking _,_,h => h
  | [],.run,_,h => h.elim
  | d :: ds,u,w,⟨hu,fv,cap,f,args,h1,h2,h3⟩ => ⟨hu,fv,cap,f,args,h1,h2,h3.mono (fun e u' w' hh => by
      cases e with
      | returned v => exact leaves_congr h ds _ _ hh
      | panicked c => exact leaves_congr h ds _ _ hh
      | outgrown => exact hh)⟩
theorem res_put (a : Act) (i : Nat) (v : Value) (hi : 8 <= i) (w : World) : (results Tryz.f23 (a.put (some i) v).tmps).run Tryz.prog w = (results Tryz.f23 a.tmps).run Tryz.prog w := by
  have e : ∀ j,j < 8 -> (a.put (some i) v).tmps[j]? = a.tmps[j]? := fun j hj => by
    simp only [Act.put,Array.getElem?_setIfInBounds]; rw [if_neg (by omega)]
  have e4 := e 4 (by omega); have e5 := e 5 (by omega); have e6 := e 6 (by omega); have e7 := e 7 (by omega); simp only [results,Tryz.results23]
  simp [e4,e5,e6,e7]
theorem SM.base {ty : TypeId} {w : World} {B0 B1 B : Nat} {lim : Int} {L : List Nd} {v : Value} {M1 M2 : Option Nat} (h : SM ty w B1 B lim L v M1 M2) (hb : B0 <= B1) : SM ty w B0 B lim L v M1 M2 := ⟨h.blk,row_base h.row hb,h.m1,h.m2,Nat.le_trans hb h.b0,fun m hm => Nat.le_trans hb (h.b1 m hm),h.ne,h.nil,h.nil2,h.okL,h.wds,h.limI,h.len⟩
theorem four_new (w : World) : ∃ W1,(((w.alloc (.cells #[.pointer none] 25)).alloc (.cells #[.slice none 0 0] 23)).alloc (.cells #[.int .i64 0] 3)).alloc (.cells #[.int .i64 0] 29) = W1 /\ Below w.heap.size w W1 /\ BX4 W1 w.heap.size (.pointer none) (.slice none 0 0) (.int .i64 0) (.int .i64 0) /\ W1.heap.size = w.heap.size + 4 := by
  obtain ⟨A1,h1⟩ : ∃ A1,w.alloc (.cells #[.pointer none] 25) = A1 := ⟨_,rfl⟩; have b1 := bel1 w (.cells #[.pointer none] 25); have k1 := heap_alloc_new w (.cells #[.pointer none] 25); have s1 : A1.heap.size = w.heap.size + 1 := by rw [<- h1]; simp
  rw [h1] at b1 k1 ⊢; obtain ⟨A2,h2⟩ : ∃ A2,A1.alloc (.cells #[.slice none 0 0] 23) = A2 := ⟨_,rfl⟩; have b2 := bel1 A1 (.cells #[.slice none 0 0] 23); have k2 := heap_alloc_new A1 (.cells #[.slice none 0 0] 23); have s2 : A2.heap.size = A1.heap.size + 1 := by rw [<- h2]; simp
  rw [h2] at b2 k2 ⊢; obtain ⟨A3,h3⟩ : ∃ A3,A2.alloc (.cells #[.int .i64 0] 3) = A3 := ⟨_,rfl⟩; have b3 := bel1 A2 (.cells #[.int .i64 0] 3); have k3 := heap_alloc_new A2 (.cells #[.int .i64 0] 3); have s3 : A3.heap.size = A2.heap.size + 1 := by rw [<- h3]; simp
  rw [h3] at b3 k3 ⊢; have b4 := bel1 A3 (.cells #[.int .i64 0] 29); have k4 := heap_alloc_new A3 (.cells #[.int .i64 0] 29); have s4 : (A3.alloc (.cells #[.int .i64 0] 29)).heap.size = A3.heap.size + 1 := by simp
  rw [s1] at k2 s2; rw [s2] at k3 s3; rw [s3] at k4 s4; have t2 := b1.trans (b2.mono b1.size); have t3 := t2.trans (b3.mono t2.size); have t4 := t3.trans (b4.mono t3.size); exact ⟨_,rfl,t4,⟨(b4.block _ (by omega)).trans ((b3.block _ (by omega)).trans ((b2.block _ (by omega)).trans k1)),(b4.block _ (by omega)).trans ((b3.block _ (by omega)).trans k2),(b4.block _ (by omega)).trans k3,k4⟩,s4⟩
theorem load_any (l : List UInt8) (lim : Int) (w : World) (h : ¬ lim < 0) (hlim : I64 lim) (hE : ENV w) (h9 : 10 <= w.heap.size) (hl : l.length <= 1048575) (G : List Nd × List Int × Nat × Int) (hG : ldG lim (lgo [] l) [] [] = G) :
    Calls Tryz.prog 23 #[.string ⟨l.toArray⟩,.int .i64 lim] w fun e w' => Below w.heap.size w w' /\ ((G.2.2.2 ≠ 0 /\ e = .returned (.tuple #[.pointer none,.slice none 0 0,.int .i64 (G.2.2.1 : Int),.int .i64 G.2.2.2])) ∨ (G.2.2.2 = 0 /\ G.2.2.1 = 0 /\ ∃ B v,e = .returned (.tuple #[.pointer (some ⟨B,0,none⟩),v,.int .i64 0,.int .i64 0]) /\ w'.ownsRow w.heap.size 3 1 v G.2.1.length (G.2.1.map (Value.int .i64)) /\ ∃ v1 M1 M2,SM 78 w' w.heap.size B lim G.1 v1 M1 M2)) := by
  have hmf : ∀ (fn : Fn) (first cap : Array Value) (w : World),(Instr.makeFunc fn first cap).run Tryz.prog w = .ok (.func fn first cap) w := fun _ _ _ _ => rfl
  obtain ⟨W1,hW1,hb1,hx1,hz1⟩ := four_new w; obtain ⟨E,hEe⟩ : ∃ E,w.heap.size = E := ⟨_,rfl⟩; have HW1 : Hid ((((w.alloc (.cells #[.pointer none] 25)).alloc (.cells #[.slice none 0 0] 23)).alloc (.cells #[.int .i64 0] 3)).alloc (.cells #[.int .i64 0] 29) = W1 /\ w.heap.size = E) := ⟨hW1,hEe⟩; rw [hEe] at hx1 hz1; have H1 : Hid (BX4 W1 E (.pointer none) (.slice none 0 0) (.int .i64 0) (.int .i64 0) /\ Below w.heap.size w W1 /\ W1.heap.size = E + 4) := ⟨hx1,hb1,hz1⟩; have HN : Hid (Calls Tryz.prog 18 #[.int .i64 lim] W1 fun e w' => ∃ B,e = .returned (.tuple #[.pointer (some ⟨B,0,none⟩),.int .i64 0]) /\ Below W1.heap.size W1 w' /\ SM 78 w' W1.heap.size B lim [] (.slice none 0 0) none none) := new_ok lim W1 h hlim; have HEn : Hid (ENV w /\ 10 <= w.heap.size /\ l.length <= 1048575 /\ ldG lim (lgo [] l) [] [] = G) := ⟨hE,h9,hl,hG⟩; have hne1 : ¬ E = E + 3 := by omega
  have hne2 : ¬ E + 3 = E := by omega
  clear hW1 hb1 hx1 hz1 hEe h hlim hE h9 hl hG
  go_enter_defers Tryz.func23,Tryz.ntmps23
  go_upto_region 1 with fail
  rw [HW1.out.1,HW1.out.2]
  go_wp2_with fail
  refine HN.out.mono ?_; rintro e w2 ⟨B,rfl,hb2,hS2⟩; rw [H1.out.2.2] at hb2 hS2; have hx2 : BX4 w2 E (.pointer none) (.slice none 0 0) (.int .i64 0) (.int .i64 0) := H1.out.1.keep (fun j h1 h2 => hb2.block j (by omega)); have HB2 : Hid (Below w.heap.size w w2) := H1.out.2.1.trans (hb2.mono (by have h1 := HW1.out.2; omega)); have e0 := cell_of hx2.b0 0; have f0 := fz_of hx2.b0 0; have e3 := cell_of hx2.b3 0; have f3 := fz_of hx2.b3 0; have HA : Hid (BX4 ((w2.setCell ⟨E,0,none⟩ (.pointer (some ⟨B,0,none⟩))).setCell ⟨E + 1 + 1 + 1,0,none⟩ (.int .i64 0)) E (.pointer (some ⟨B,0,none⟩)) (.slice none 0 0) (.int .i64 0) (.int .i64 0) /\ RNG E (E + 4) w2 ((w2.setCell ⟨E,0,none⟩ (.pointer (some ⟨B,0,none⟩))).setCell ⟨E + 1 + 1 + 1,0,none⟩ (.int .i64 0))) := ⟨(hx2.s0 _).s3 (.int .i64 0),(RNG.set _ _ (Nat.le_refl _) (by omega)).trans (RNG.set _ _ (show E <= E + 1 + 1 + 1 by omega) (by omega))⟩; obtain ⟨w3,hw⟩ : ∃ X,(w2.setCell ⟨E,0,none⟩ (.pointer (some ⟨B,0,none⟩))).setCell ⟨E + 1 + 1 + 1,0,none⟩ (.int .i64 0) = X := ⟨_,rfl⟩; have HW3 : Hid ((w2.setCell ⟨E,0,none⟩ (.pointer (some ⟨B,0,none⟩))).setCell ⟨E + 1 + 1 + 1,0,none⟩ (.int .i64 0) = w3) := hw; rw [hw] at HA; have HS3 : Hid (SM 78 w3 (E + 4) B lim [] (.slice none 0 0) none none /\ Below w.heap.size w w3 /\ E + 4 <= w3.heap.size) := by
    have hr := HA.out.2; have hz2 := hb2.size; have hz1 := H1.out.2.2; have he := HW1.out.2; refine ⟨hS2.stands (fun q hq => hr.block q (hS2.lt hq) (Or.inr (hS2.ge hq))),?_,by have := hr.size; omega⟩; have hb := HB2.out; exact ⟨hr.os.trans hb.os,hr.tape.trans hb.tape,hr.output.trans hb.output,Nat.le_trans hb.size hr.size,fun j hj => (hr.block j (by have := hb.size; omega) (Or.inl (by omega))).trans (hb.block j hj)⟩
  clear hw hx2 hb2 hS2 HN H1 HB2
  go_upto_region 2 with fail
  rw [HW3.out]; have g3 : w3.cell? ⟨E + 1 + 1 + 1,0,none⟩ = some (.int .i64 0) := cell_of HA.out.1.b3 0; have g0 : w3.cell? ⟨E,0,none⟩ = some (.pointer (some ⟨B,0,none⟩)) := cell_of HA.out.1.b0 0; clear e0 f0 e3 f3 HW3; obtain ⟨R,hR⟩ : ∃ R,w3.heap.size = R := ⟨_,rfl⟩; obtain ⟨w4,hw4⟩ : ∃ w4,w3.alloc (.cells #[.pointer (some ⟨B,0,none⟩),.slice none 0 0,.int .i64 0,.string ⟨#[]⟩] 121) = w4 := ⟨_,rfl⟩; have HW4 : Hid (w3.alloc (.cells #[.pointer (some ⟨B,0,none⟩),.slice none 0 0,.int .i64 0,.string ⟨#[]⟩] 121) = w4 /\ w3.heap.size = R) := ⟨hw4,hR⟩; have hb4 : Below w3.heap.size w3 w4 := by rw [<- hw4]; exact bel1 _ _
  have H4 : Hid (RBx w4 R (.pointer (some ⟨B,0,none⟩)) (.slice none 0 0) 0 [] /\ Below w3.heap.size w3 w4 /\ BX4 w4 E (.pointer (some ⟨B,0,none⟩)) (.slice none 0 0) (.int .i64 0) (.int .i64 0) /\ E + 4 <= R) := ⟨by unfold RBx; rw [<- hw4,<- hR]; exact heap_alloc_new _ _,hb4,HA.out.1.keep (fun j h1 h2 => hb4.block j (by have := HS3.out.2.2; omega)),by rw [<- hR]; exact HS3.out.2.2⟩; clear hw4 hR hb4
  go_upto_region 6 with fail
  rw [HW4.out.1,HW4.out.2]; have HD : Hid (BX4 w4.drew E (.pointer (some ⟨B,0,none⟩)) (.slice none 0 0) (.int .i64 0) (.int .i64 0) /\ Below w.heap.size w w4.drew /\ (Calls Tryz.prog 50 #[.pointer (some ⟨R,0,none⟩),.string ⟨l.toArray⟩] w4.drew fun e w' => Below (E + 4) w4.drew w' /\ ((G.2.2.2 ≠ 0 /\ e = gv (G.2.2.1 : Int) G.2.2.2) ∨ (G.2.2.2 = 0 /\ G.2.2.1 = 0 /\ ∃ v,e = .returned v /\ w'.ownsRow (E + 4) 3 1 v G.2.1.length (G.2.1.map (Value.int .i64)) /\ ∃ v1 M1 M2,SM 78 w' (E + 4) B lim G.1 v1 M1 M2))) /\ E + 4 <= w4.drew.heap.size) := by
    have hb4 := H4.out.2.1; have hs := HS3.out; have hdr : Below w4.heap.size w4 w4.drew := ⟨rfl,rfl,rfl,Nat.le_refl _,fun _ _ => rfl⟩; have hbw : Below w.heap.size w w4 := hs.2.1.trans (hb4.mono hs.2.1.size); have hbd : Below w.heap.size w w4.drew := hbw.trans (hdr.mono hbw.size); have hz : E + 4 <= w4.drew.heap.size := Nat.le_trans hs.2.2 hb4.size; have he := HW1.out.2; have hen := HEn.out; refine ⟨H4.out.2.2.1.keep (fun _ _ _ => rfl),hbd,?_,hz⟩; exact all_any (H0 := E + 4) (w0 := w4.drew) l (Below.refl _ _) hz (by omega) (hen.1.bel hbd hen.2.1) ⟨_,_,_,(hs.1.below hb4).below hdr⟩ (H4.out.1.over hdr) H4.out.2.2.2 hen.2.2.1 G hen.2.2.2
  clear H4 HS3 HA g3 g0 HW4 HEn; refine sq_start (fun X => X.cell? ⟨E,0,none⟩ = some (.pointer (some ⟨B,0,none⟩))) [2,3,4,5,6] [0,1,2,3,4,5,6] (by kernel_rfl) (by kernel_rfl) (cell_of HD.out.1.b0 0) ?_
  generalize w4.drew = WD at *
  repeat (refine sq_op (v := ?_) (by rfl) (by rfl) (by rfl) ?_ ?_ ?_; rotate_left; (focus (intro X hX; have zz0 : X.cell? ⟨E,0,none⟩ = some (.pointer (some ⟨B,0,none⟩)) := hX; go_simp <;> with_reducible rfl)); rotate_left; (focus (exact fun c a w h => leaves_congr (fun w => res_put _ _ _ (by decide) w) _ _ _ h)); simp only [Act.put,List.setIfInBounds_toArray,List.set_cons_zero,List.set_cons_succ])
  refine sq_do (by rfl) (by rfl) (by rfl) (fun K hK => ?_)
  go_simp
  go_at_call 50
  refine HD.out.2.2.1.mono ?_; rintro e w5 ⟨hb5,⟨hG,rfl⟩ | ⟨hG,hG2,v,rfl,hrow,v1,M1,M2,hSM⟩⟩
  · have hx5 : BX4 w5 E (.pointer (some ⟨B,0,none⟩)) (.slice none 0 0) (.int .i64 0) (.int .i64 0) := HD.out.1.keep (fun j h1 h2 => hb5.block j (by omega))
    have HZ : Hid (BX4 w5 E (.pointer (some ⟨B,0,none⟩)) (.slice none 0 0) (.int .i64 0) (.int .i64 0) /\ (∀ w',RNG E (E + 4) w5 w' -> Below w.heap.size w w') /\ G.2.2.2 ≠ 0) := by
      refine ⟨hx5,fun w' hr => ?_,hG⟩; have hb := HD.out.2.1; have hz := HD.out.2.2.2; have hz5 := hb5.size; have he := HW1.out.2; exact ⟨hr.os.trans (hb5.os.trans hb.os),hr.tape.trans (hb5.tape.trans hb.tape),hr.output.trans (hb5.output.trans hb.output),Nat.le_trans hb.size (Nat.le_trans hz5 hr.size),fun j hj => (hr.block j (by omega) (Or.inl (by omega))).trans ((hb5.block j (by omega)).trans (hb.block j hj))⟩
    unfold gv
    dsimp only
    clear hb5 hG hx5 hK K; refine leaves_cons (f := 49) (args := #[.pointer (some ⟨E,0,none⟩),.pointer (some ⟨E + 1,0,none⟩),.pointer (some ⟨E + 1 + 1,0,none⟩),.pointer (some ⟨E + 1 + 1 + 1,0,none⟩)]) (by simp) (by simp [go_sem]) ?_; refine (catch7_hit E _ _ _ _ _ _ _ [] HZ.out.1).mono ?_; rintro e u' w6 ⟨rfl,rfl,hx6,hr6⟩; have c0 : w6.cell? ⟨E,0,none⟩ = some (.pointer none) := cell_of hx6.b0 0; have c1 : w6.cell? ⟨E + 1,0,none⟩ = some (.slice none 0 0) := cell_of hx6.b1 0; have c2 : w6.cell? ⟨E + 1 + 1,0,none⟩ = some (.int .i64 (G.2.2.1 : Int)) := cell_of hx6.b2 0; have c3 : w6.cell? ⟨E + 1 + 1 + 1,0,none⟩ = some (.int .i64 G.2.2.2) := cell_of hx6.b3 0; have HB6 : Hid (Below w.heap.size w w6) := HZ.out.2.1 w6 hr6; have HG6 : Hid (G.2.2.2 ≠ 0) := HZ.out.2.2; clear hx6 hr6 HZ
    generalize hg1 : (G.2.2.1 : Int) = g1 at *
    generalize hg2 : G.2.2.2 = g2 at *
    simp [Leaves,settle,results,Tryz.results23,go_sem,c0,c1,c2,c3]
    exact ⟨HB6.out,HG6.out⟩
  obtain ⟨aV,cV,hv⟩ := row_formJ hrow; have HRN : Hid (∃ nV,G.2.1.length = nV) := ⟨_,rfl⟩; obtain ⟨nV,hnV⟩ := HRN.out; rw [hnV] at hv; subst hv; have hx5 : BX4 w5 E (.pointer (some ⟨B,0,none⟩)) (.slice none 0 0) (.int .i64 0) (.int .i64 0) := HD.out.1.keep (fun j h1 h2 => hb5.block j (by omega)); have HA1 : Hid (BX4 w5 E (.pointer (some ⟨B,0,none⟩)) (.slice none 0 0) (.int .i64 0) (.int .i64 0) /\ RNG E (E + 4) w5 w5) := ⟨hx5,RNG.refl _ _ _⟩; have HZ : Hid ((∀ w',RNG E (E + 4) w5 w' -> Below w.heap.size w w' /\ w'.ownsRow w.heap.size 3 1 (.slice aV nV cV) G.2.1.length (G.2.1.map (Value.int .i64)) /\ SM 78 w' w.heap.size B lim G.1 v1 M1 M2) /\ G.2.2.2 = 0 /\ G.2.2.1 = 0) := by
    refine ⟨fun w' hr => ?_,hG,hG2⟩; have hb := HD.out.2.1; have hz := HD.out.2.2.2; have hz5 := hb5.size; have he := HW1.out.2; refine ⟨⟨hr.os.trans (hb5.os.trans hb.os),hr.tape.trans (hb5.tape.trans hb.tape),hr.output.trans (hb5.output.trans hb.output),Nat.le_trans hb.size (Nat.le_trans hz5 hr.size),fun j hj => (hr.block j (by omega) (Or.inl (by omega))).trans ((hb5.block j (by omega)).trans (hb.block j hj))⟩,?_,?_⟩
    · exact row_base (row_is hrow (fun j hj => hr.block j (hrow.lt j hj).2 (Or.inr (hrow.lt j hj).1))) (by omega)
    exact (hSM.stands (fun q hq => hr.block q (hSM.lt hq) (Or.inr (hSM.ge hq)))).base (by omega)
  clear hb5 hG hG2 hx5 hrow hSM HD; refine hK.out _ _ (cell_of HA1.out.1.b0 0) (fun _ => ?_); clear hK K
  try simp only [Act.put,List.setIfInBounds_toArray,List.set_cons_zero,List.set_cons_succ]
  have e0 : w5.cell? ⟨E,0,none⟩ = some (.pointer (some ⟨B,0,none⟩)) := cell_of HA1.out.1.b0 0; have f0 : w5.frozen? ⟨E,0,none⟩ = false := fz_of HA1.out.1.b0 0; have HA2 : Hid (BX4 (w5.setCell ⟨E,0,none⟩ (.pointer (some ⟨B,0,none⟩))) E (.pointer (some ⟨B,0,none⟩)) (.slice none 0 0) (.int .i64 0) (.int .i64 0) /\ RNG E (E + 4) w5 (w5.setCell ⟨E,0,none⟩ (.pointer (some ⟨B,0,none⟩)))) := ⟨HA1.out.1.s0 _,HA1.out.2.trans (RNG.set _ _ (by omega) (by omega))⟩; refine sq_do (by rfl) (by rfl) (by rfl) (fun K hK => ?_)
  go_simp
  obtain ⟨w6,hw⟩ : ∃ X,w5.setCell ⟨E,0,none⟩ (.pointer (some ⟨B,0,none⟩)) = X := ⟨_,rfl⟩; rw [hw] at HA2; rw [hw]; clear hw e0 f0 HA1; refine hK.out _ _ (cell_of HA2.out.1.b0 0) (fun _ => ?_); clear hK K
  try simp only [Act.put,List.setIfInBounds_toArray,List.set_cons_zero,List.set_cons_succ]
  have e1 : w6.cell? ⟨E + 1,0,none⟩ = some (.slice none 0 0) := cell_of HA2.out.1.b1 0; have f1 : w6.frozen? ⟨E + 1,0,none⟩ = false := fz_of HA2.out.1.b1 0; have HA3 : Hid (BX4 (w6.setCell ⟨E + 1,0,none⟩ (.slice aV nV cV)) E (.pointer (some ⟨B,0,none⟩)) (.slice aV nV cV) (.int .i64 0) (.int .i64 0) /\ RNG E (E + 4) w5 (w6.setCell ⟨E + 1,0,none⟩ (.slice aV nV cV))) := ⟨HA2.out.1.s1 _,HA2.out.2.trans (RNG.set _ _ (by omega) (by omega))⟩; refine sq_do (by rfl) (by rfl) (by rfl) (fun K hK => ?_)
  go_simp
  obtain ⟨w7,hw⟩ : ∃ X,w6.setCell ⟨E + 1,0,none⟩ (.slice aV nV cV) = X := ⟨_,rfl⟩; rw [hw] at HA3; rw [hw]; clear hw e1 f1 HA2; refine hK.out _ _ (cell_of HA3.out.1.b0 0) (fun _ => ?_); clear hK K
  try simp only [Act.put,List.setIfInBounds_toArray,List.set_cons_zero,List.set_cons_succ]
  have e2 : w7.cell? ⟨E + 1 + 1,0,none⟩ = some (.int .i64 0) := cell_of HA3.out.1.b2 0; have f2 : w7.frozen? ⟨E + 1 + 1,0,none⟩ = false := fz_of HA3.out.1.b2 0; have HA4 : Hid (BX4 (w7.setCell ⟨E + 1 + 1,0,none⟩ (.int .i64 0)) E (.pointer (some ⟨B,0,none⟩)) (.slice aV nV cV) (.int .i64 0) (.int .i64 0) /\ RNG E (E + 4) w5 (w7.setCell ⟨E + 1 + 1,0,none⟩ (.int .i64 0))) := ⟨HA3.out.1.s2 _,HA3.out.2.trans (RNG.set _ _ (by omega) (by omega))⟩; refine sq_do (by rfl) (by rfl) (by rfl) (fun K hK => ?_)
  go_simp
  obtain ⟨w8,hw⟩ : ∃ X,w7.setCell ⟨E + 1 + 1,0,none⟩ (.int .i64 0) = X := ⟨_,rfl⟩; rw [hw] at HA4; rw [hw]; clear hw e2 f2 HA3; refine hK.out _ _ (cell_of HA4.out.1.b0 0) (fun _ => ?_); clear hK K
  try simp only [Act.put,List.setIfInBounds_toArray,List.set_cons_zero,List.set_cons_succ]
  have e3 : w8.cell? ⟨E + 1 + 1 + 1,0,none⟩ = some (.int .i64 0) := cell_of HA4.out.1.b3 0; have f3 : w8.frozen? ⟨E + 1 + 1 + 1,0,none⟩ = false := fz_of HA4.out.1.b3 0; have HA5 : Hid (BX4 (w8.setCell ⟨E + 1 + 1 + 1,0,none⟩ (.int .i64 0)) E (.pointer (some ⟨B,0,none⟩)) (.slice aV nV cV) (.int .i64 0) (.int .i64 0) /\ RNG E (E + 4) w5 (w8.setCell ⟨E + 1 + 1 + 1,0,none⟩ (.int .i64 0))) := ⟨HA4.out.1.s3 _,HA4.out.2.trans (RNG.set _ _ (by omega) (by omega))⟩; refine sq_do (by rfl) (by rfl) (by rfl) (fun K hK => ?_)
  go_simp
  obtain ⟨w9,hw⟩ : ∃ X,w8.setCell ⟨E + 1 + 1 + 1,0,none⟩ (.int .i64 0) = X := ⟨_,rfl⟩; rw [hw] at HA5; rw [hw]; clear hw e3 f3 HA4; refine hK.out _ _ (cell_of HA5.out.1.b0 0) (fun _ => ?_); clear hK K
  try simp only [Act.put,List.setIfInBounds_toArray,List.set_cons_zero,List.set_cons_succ]
  refine sq_end (fun _ => ?_); have c0 : w9.cell? ⟨E,0,none⟩ = some (.pointer (some ⟨B,0,none⟩)) := cell_of HA5.out.1.b0 0; have c1 : w9.cell? ⟨E + 1,0,none⟩ = some (.slice aV nV cV) := cell_of HA5.out.1.b1 0; have c2 : w9.cell? ⟨E + 1 + 1,0,none⟩ = some (.int .i64 0) := cell_of HA5.out.1.b2 0; have c3 : w9.cell? ⟨E + 1 + 1 + 1,0,none⟩ = some (.int .i64 0) := cell_of HA5.out.1.b3 0; have HF := HZ.out.1 w9 HA5.out.2; have HF2 : Hid (Below w.heap.size w w9 /\ w9.ownsRow w.heap.size 3 1 (.slice aV nV cV) G.2.1.length (G.2.1.map (Value.int .i64)) /\ SM 78 w9 w.heap.size B lim G.1 v1 M1 M2 /\ G.2.2.2 = 0 /\ G.2.2.1 = 0) := ⟨HF.1,HF.2.1,HF.2.2,HZ.out.2⟩; clear HF HA5 HZ hnV HRN
  go_wp2_with fail
  refine leaves_cons (f := 49) (args := #[.pointer (some ⟨E,0,none⟩),.pointer (some ⟨E + 1,0,none⟩),.pointer (some ⟨E + 1 + 1,0,none⟩),.pointer (some ⟨E + 1 + 1 + 1,0,none⟩)]) (by simp) (by simp [go_sem]) ?_; refine (catch7_idle ⟨E,0,none⟩ ⟨E + 1,0,none⟩ ⟨E + 1 + 1,0,none⟩ ⟨E + 1 + 1 + 1,0,none⟩ _).mono ?_; rintro e u' w'' ⟨rfl,rfl,hw⟩; subst w''; refine ⟨.tuple #[.pointer (some ⟨B,0,none⟩),.slice aV nV cV,.int .i64 0,.int .i64 0],?_,?_⟩
  · simp [results,Tryz.results23,go_sem,c0,c1,c2,c3]
  exact ⟨HF2.out.1,Or.inr ⟨HF2.out.2.2.2.1,HF2.out.2.2.2.2,B,_,rfl,HF2.out.2.1,_,_,_,HF2.out.2.2.1⟩⟩
end Go.Proofs.YtkpapgfbnledpaaGreatDoor
