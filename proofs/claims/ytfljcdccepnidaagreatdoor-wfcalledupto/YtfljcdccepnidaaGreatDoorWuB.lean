import Derived.Test.YtfljcdccepnidaaGreatDoorSqA
import Derived.Test.YtfljcdccepnidaaGreatDoorWuA
import Derived.OrdersHeld
import Derived.Deep.RegionHeld
namespace Go.Proofs.YtfljcdccepnidaaGreatDoor
open Go.ChangeShapes Go.WideShapes Go.ChangeAt Go.RowKit Go.Lib

section
variable {P : Program} {ops : Array Oper} {Q : Exit -> Act -> World -> Prop} {md : Region.Mode} {S : World -> Prop} {z : Nat}
def AnyE (P : Program) (md : Region.Mode) (ops : Array Oper) (Q : Exit -> Act -> World -> Prop) (S : World -> Prop) (z : Nat) : Nat -> Array Bool -> Act -> World -> Prop
  | 0,l,a,w => Region.ready md ops l = [] /\ Q .normal a w
  | n + 1,l,a,w => (Region.ready md ops l = [] -> Q .normal a w) /\ ∀ i ∈ Region.ready md ops l,wpOp P ops Q i (fun a' w' => (i ≠ z -> S w') /\ AnyE P md ops Q S z n (l.setIfInBounds i true) a' w') a w
theorem AnyE.any : ∀ (n : Nat) (l : Array Bool) (a : Act) (w : World),AnyE P md ops Q S z n l a w -> wpAny P md ops Q n l a w
  | 0,_,_,_,h => h
  | n + 1,_,_,_,h => ⟨h.1,fun i hi => wpOp_mono (fun a' w' h' => AnyE.any n _ a' w' h'.2) (h.2 i hi)⟩
def awaits (md : Region.Mode) (ops : Array Oper) (z i : Nat) : Bool := match ops[z]? with
  | some o => o.after.any fun e => Region.binds md e && e.on == i
  | none => false
theorem awaits.not {i : Nat} {l : Array Bool} (h : awaits md ops z i = true) (hi : i ∈ Region.ready md ops l) : ¬ z ∈ Region.ready md ops l := fun hz => by
  obtain ⟨_,o,ho,hall⟩ := mem_ready.1 hz; unfold awaits at h; rw [ho] at h; obtain ⟨j,hj,he⟩ := Array.any_eq_true.1 h; rw [Bool.and_eq_true,beq_iff_eq] at he; have h1 := hall _ (Array.getElem_mem hj) he.1; have h0 := (mem_ready.1 hi).1; rw [he.2] at h1
  rcases Nat.lt_or_ge i l.size with h' | h'
  · simp [h'] at h0 h1
    rw [h0] at h1; cases h1
  simp [Array.getElem?_eq_none h'] at h1
theorem AnyE.first {i : Nat} {oi : Oper} {v : Value} (hi : ops[i]? = some oi) (hsel : ∀ (j : Nat) (o : Oper) cs b,ops[j]? = some o -> o.op ≠ .select cs b) (hQ : ∀ c a w,Q (.panic c) (a.put oi.dst v) w -> Q (.panic c) a w) (hz : awaits md ops z i = true) :
    ∀ (n : Nat) (l : Array Bool) (a : Act) (w : World),(∀ j oj,ops[j]? = some oj -> j ≠ i -> l.getD j true = false -> (∀ e ∈ oj.after,Region.binds md e = true -> e.on ≠ i) -> oi.apart ops oj = true) -> i ∈ Region.ready md ops l -> YieldsIf P ops S oi v a -> S w -> AnyE P md ops Q S z n (l.setIfInBounds i true) (a.put oi.dst v) w -> AnyE P md ops Q S z (n + 1) l a w := by
  intro n
  induction n with
  | zero =>
    intro l a w _ hr hy hS H; refine ⟨fun h => (by rw [h] at hr; cases hr),fun j hj => ?_⟩
    by_cases hji : j = i
    · subst hji
      exact hy.wpOp hi hS ⟨fun _ => hS,H⟩
    have h5 := ready_mono hj hji; rw [H.1] at h5; cases h5
  | succ n ih =>
    intro l a w hfree hr hy hS H; refine ⟨fun h => (by rw [h] at hr; cases hr),fun j hj => ?_⟩
    by_cases hji : j = i
    · subst hji
      exact hy.wpOp hi hS ⟨fun _ => hS,H⟩
    have hjz : j ≠ z := fun e => awaits.not hz hr (e ▸ hj)
    have h1 := H.2 j (ready_mono hj hji); obtain ⟨hjun,oj,hoj,hall⟩ := mem_ready.1 hj; have hnot : ∀ e ∈ oj.after,Region.binds md e = true -> e.on ≠ i := fun e he hb heq => by
      have h1 := hall e he hb; have h0 := (mem_ready.1 hr).1; rw [heq] at h1
      rcases Nat.lt_or_ge i l.size with h' | h'
      · simp [h'] at h0 h1
        rw [h0] at h1; cases h1
      simp [Array.getElem?_eq_none h'] at h1
    have h2 := wpOp_putIf hoj (hfree j oj hoj hji hjun hnot) (fun cs b => hsel i oi cs b hi) (fun cs b => hsel j oj cs b hoj) hQ hy h1; have hfree' : ∀ k ok,ops[k]? = some ok -> k ≠ i -> (l.setIfInBounds j true).getD k true = false -> (∀ e ∈ ok.after,Region.binds md e = true -> e.on ≠ i) -> oi.apart ops ok = true := fun k ok hk hki hun hno => by
      refine hfree k ok hk hki ?_ hno
      by_cases hjk : j = k
      · subst hjk
        exact hjun
      rw [getD_set_ne true hjk] at hun; exact hun
    refine wpOp_mono (fun a' w' h3 => ⟨h3.2.1,ih (l.setIfInBounds j true) a' w' hfree' (ready_mono hr (Ne.symm hji)) h3.1 (h3.2.1 hjz) ?_⟩) h2; rw [Array.setIfInBounds_comm _ _ hji]; exact h3.2.2
theorem AnyE.take {i : Nat} {oi : Oper} {v : Value} {n : Nat} {l : Array Bool} {a : Act} {w : World} (hi : ops[i]? = some oi) (hs : Region.noSelect ops = true) (hf : Region.free md ops l i = true) (hr : (Region.ready md ops l).contains i = true) (hz : awaits md ops z i = true)
    (hQ : ∀ c a w,Q (.panic c) (a.put oi.dst v) w -> Q (.panic c) a w) (hy : YieldsIf P ops S oi v a) (hS : S w) (h : AnyE P md ops Q S z n (l.setIfInBounds i true) (a.put oi.dst v) w) : AnyE P md ops Q S z (n + 1) l a w :=
  AnyE.first hi (Region.noSelect_spec hs) hQ hz n l a w (Region.free_spec hi hf) (by simpa using hr) hy hS h
theorem AnyE.one {i : Nat} {o : Oper} {n : Nat} {l : Array Bool} {a : Act} {w : World} (hr : Region.ready md ops l = [i]) (ho : ops[i]? = some o)
    (h : ∀ K' : Act -> World -> Prop,Shut (∀ a w,(i ≠ z -> S w) -> AnyE P md ops Q S z n (l.setIfInBounds i true) a w -> K' a w) -> if Region.wanted o (yielded ops a.tmps) = true then Oper.wp P o a w K' Q else K' (a.put o.dst undef) w) : AnyE P md ops Q S z (n + 1) l a w :=
  ⟨fun h0 => (by rw [hr] at h0; cases h0),fun j hj => by
    rw [hr] at hj; obtain rfl := List.mem_singleton.1 hj; exact wpOp_step ho (fun K' hK => h K' (fun a w hS hW => hK a w ⟨hS,hW⟩))⟩
theorem AnyE.done {l : Array Bool} {a : Act} {w : World} (hr : Region.ready md ops l = []) (h : Q .normal a w) : ∀ n,AnyE P md ops Q S z n l a w
  | 0 => ⟨hr,h⟩
  | _ + 1 => ⟨fun _ => h,by rw [hr]; simp⟩
theorem AnyE.region {id : Nat} {a : Act} {w : World} (S : World -> Prop) (z : Nat) (hm : P.follows .mixedOrders = true) (h : AnyE P .any ops Q S z ops.size (Array.replicate ops.size false) a w.drew) : (Code.region id ops true).wp P Q a w :=
  wp_region_any hm (AnyE.any _ _ _ _ h)
end

theorem cf_of {f : FuncId} {fn : Func} (h : Tryz.prog.funcs[f]? = some fn) (h1 : (fn.name == "runtime.NumGoroutine") = false) (h2 : fn.body.isNone = false) (args : Array Value) (W : World) : (callFunc f args).run Tryz.prog W = .ok (.enter f args) W := by
  have e1 : ¬ fn.name = "runtime.NumGoroutine" := fun e => by rw [e] at h1; simp at h1
  have e2 : ¬ fn.body = none := fun e => by rw [e] at h2; cases h2
  unfold callFunc
  simp [h,e1,e2]
theorem step_clo2 {ops : Array Oper} {o : Oper} {a : Act} {w : World} {K : Act -> World -> Prop} {Q : Exit -> Act -> World -> Prop} {E : Prop} (hgd : o.guard = none) (f : FuncId) (x0 x : Operand) (ts : Array TypeId)
    (ho : o.op = .call { callee := .value x0,args := #[x],argTypes := ts }) (c1 c2 : Value) (h0 : a.eval x0 = .func (.func f) #[] #[c1,c2]) (xv : Value) (hx : a.eval x = xv) {R : Ending -> World -> Prop} (hcf : ∀ args W,(callFunc f args).run Tryz.prog W = .ok (.enter f args) W) (hc : Calls Tryz.prog f #[xv,c1,c2] w R)
    (h : ∀ e w',R e w' -> (∃ v,e = .returned v /\ K (a.put o.dst v) w') ∨ ∃ ch,e = .panicked ch /\ Q (.panic ch) a w') :
    if Region.wanted o (yielded ops a.tmps) = true then Oper.wp Tryz.prog o a w K Q else E := by
  have hw : Region.wanted o (yielded ops a.tmps) = true := by simp [Region.wanted,hgd]
  rw [if_pos hw]; have hr : (execOp a.eval o).run Tryz.prog w = .ok (.enter f #[xv,c1,c2]) w := by
    unfold execOp
    simp [ho,resolve,Deferred.ofValue,invoke,hx,h0,hcf]
  unfold Oper.wp; rw [hr,Oper.upon_enter]; refine hc.mono fun e w' hR => ?_
  rcases h e w' hR with ⟨v,rfl,hk⟩ | ⟨ch,rfl,hk⟩
  · exact hk
  exact hk
structure OT2 (X Y : Nat) (w w' : World) : Prop where
  os : w'.os = w.os
  tape : w'.tape = w.tape
  output : w'.output = w.output
  size : w.heap.size <= w'.heap.size
  block : ∀ j,j < w.heap.size -> j ≠ X -> j ≠ Y -> w'.heap[j]? = w.heap[j]?
theorem OT2.refl (X Y : Nat) (w : World) : OT2 X Y w w := ⟨rfl,rfl,rfl,Nat.le_refl _,fun _ _ _ _ => rfl⟩
theorem OT2.trans {X Y : Nat} {w w1 w2 : World} (h : OT2 X Y w w1) (h2 : OT2 X Y w1 w2) : OT2 X Y w w2 := ⟨h2.os.trans h.os,h2.tape.trans h.tape,h2.output.trans h.output,Nat.le_trans h.size h2.size,fun j hj hn hm => (h2.block j (Nat.lt_of_lt_of_le hj h.size) hn hm).trans (h.block j hj hn hm)⟩
theorem OT2.left {X Y : Nat} {w w1 : World} (h : OTH X w w1) : OT2 X Y w w1 := ⟨h.os,h.tape,h.output,h.size,fun j hj hn _ => h.block j hj hn⟩
theorem OT2.right {X Y : Nat} {w w1 : World} (h : OTH Y w w1) : OT2 X Y w w1 := ⟨h.os,h.tape,h.output,h.size,fun j hj _ hn => h.block j hj hn⟩
theorem OT2.of {X Y : Nat} {w w1 : World} (h : Below w.heap.size w w1) : OT2 X Y w w1 := OT2.left (OTH.of h)
def vans (b : Bool) (tc : Array Value) : Ending := if b then .panicked [{ v := .iface 87 (.agg tc),recovered := false }] else .returned (.tuple #[])
theorem cfVis (args : Array Value) (W : World) : (callFunc 50 args).run Tryz.prog W = .ok (.enter 50 args) W := cf_of Tryz.func50 (by kernel_rfl) (by kernel_rfl) args W
set_option maxHeartbeats 4000000 in
set_option maxRecDepth 100000 in
theorem tell_any (b : Bool) (pl : Int) (a1 a2 a3 : Option Addr) (dp : Int) (tp : Bool) (a6 : Option Addr) (hb xb X Wb : Nat) (vB vE : Value) (w : World) (J : World -> Prop) (hpl : IntKind.i64.wrap (pl + 1) = pl + 1) (hbox : w.heap[Wb]? = some (.cells #[.func (.func 50) #[] #[.pointer (some ⟨hb,0,none⟩),.pointer (some ⟨xb,0,none⟩)],.int .i64 pl,vB,vE] 104 (0,0))) (hWX : Wb ≠ X) (hX : X < w.heap.size)
    (HV : Hid (∀ w',OTH Wb w w' -> Calls Tryz.prog 50 #[.agg (tcs pl a1 a2 a3 dp tp a6),.pointer (some ⟨hb,0,none⟩),.pointer (some ⟨xb,0,none⟩)] w' fun e w'' => e = vans b (tcs pl a1 a2 a3 dp tp a6) /\ OTH X w' w'' /\ J w'')) :
    Calls Tryz.prog 76 #[.pointer (some ⟨Wb,0,none⟩),.agg (tcs 0 a1 a2 a3 dp tp a6)] w fun e w' => e = vans b (tcs pl a1 a2 a3 dp tp a6) /\ OT2 X Wb w w' /\ J w' /\ w'.heap[Wb]? = some (.cells #[.func (.func 50) #[] #[.pointer (some ⟨hb,0,none⟩),.pointer (some ⟨xb,0,none⟩)],.int .i64 (pl + 1),vB,vE] 104 (0,0)) := by
  obtain ⟨Eb,hEb⟩ : ∃ Eb,w.heap.size = Eb := ⟨_,rfl⟩; have hlt := (Array.getElem?_eq_some_iff.1 hbox).1; have hne : ¬ Wb = Eb := by omega
  have hne2 : ¬ Eb = Wb := by omega
  obtain ⟨W1,hW1⟩ : ∃ W1,w.alloc (.cells (tcs 0 a1 a2 a3 dp tp a6) 70) = W1 := ⟨_,rfl⟩; have k0 : W1.heap[Eb]? = some (.cells (tcs 0 a1 a2 a3 dp tp a6) 70 (0,0)) := by rw [<- hW1,<- hEb]; exact heap_alloc_new _ _
  have k1 : Below w.heap.size w W1 := by rw [<- hW1]; exact bel1 _ _
  have k2 := blk_next hbox k1; have n1 : W1.cell? ⟨Wb,1,none⟩ = some (.int .i64 pl) := cell_of k2 1; have f1 := fz_of k2 1; have z0 : W1.cell? ⟨Eb,0,none⟩ = some (.int .i64 0) := cell_of k0 0; have zf := fz_of k0 0; obtain ⟨W2,hW2⟩ : ∃ W2,(W1.setCell ⟨Eb,0,none⟩ (.int .i64 pl)).setCell ⟨Wb,1,none⟩ (.int .i64 (pl + 1)) = W2 := ⟨_,rfl⟩; have q1 : (W1.setCell ⟨Eb,0,none⟩ (.int .i64 pl)).heap[Wb]? = some (.cells #[.func (.func 50) #[] #[.pointer (some ⟨hb,0,none⟩),.pointer (some ⟨xb,0,none⟩)],.int .i64 pl,vB,vE] 104 (0,0)) := (heap_setCell_other _ _ _ _ hne).trans k2; have q2 := heap_setCell_same _ Eb 0 _ _ (.int .i64 pl) k0; have e1 : W2.heap[Wb]? = some (.cells #[.func (.func 50) #[] #[.pointer (some ⟨hb,0,none⟩),.pointer (some ⟨xb,0,none⟩)],.int .i64 (pl + 1),vB,vE] 104 (0,0)) := by rw [<- hW2,heap_setCell_same _ Wb 1 _ _ _ q1]; rfl
  have e2 : W2.heap[Eb]? = some (.cells #[.int .i64 pl,.pointer a1,.pointer a2,.pointer a3,.int .i64 dp,.bool tp,.pointer a6] 70 (0,0)) := by rw [<- hW2,heap_setCell_other _ _ _ _ hne2,q2]; rfl
  have HO : Hid (OTH Wb w W2) := by
    rw [<- hW2]; refine ⟨k1.os,k1.tape,k1.output,by have := k1.size; simpa using this,fun j hj hn => ?_⟩; rw [heap_setCell_other _ _ _ _ hn,heap_setCell_other _ _ _ _ (show j ≠ Eb by omega),k1.block j hj]
  have HS : Hid (W2.drew.heap[Wb]? = some (.cells #[.func (.func 50) #[] #[.pointer (some ⟨hb,0,none⟩),.pointer (some ⟨xb,0,none⟩)],.int .i64 (pl + 1),vB,vE] 104 (0,0)) /\ W2.drew.heap[Eb]? = some (.cells #[.int .i64 pl,.pointer a1,.pointer a2,.pointer a3,.int .i64 dp,.bool tp,.pointer a6] 70 (0,0))) := ⟨e1,e2⟩; have HC := HV.out W2.drew ⟨HO.out.os,HO.out.tape,HO.out.output,HO.out.size,HO.out.block⟩; replace HC : Hid (Calls Tryz.prog 50 #[.agg #[.int .i64 pl,.pointer a1,.pointer a2,.pointer a3,.int .i64 dp,.bool tp,.pointer a6],.pointer (some ⟨hb,0,none⟩),.pointer (some ⟨xb,0,none⟩)] W2.drew fun e w'' => e = vans b (tcs pl a1 a2 a3 dp tp a6) /\ OTH X W2.drew w'' /\ J w'') := HC; have HEnd : Hid (∀ w'',OTH X W2.drew w'' -> J w'' -> OT2 X Wb w w'' /\ J w'' /\ w''.heap[Wb]? = some (.cells #[.func (.func 50) #[] #[.pointer (some ⟨hb,0,none⟩),.pointer (some ⟨xb,0,none⟩)],.int .i64 (pl + 1),vB,vE] 104 (0,0))) := fun w'' h1 h2 => by
    refine ⟨(OT2.right HO.out).trans (OT2.left ⟨h1.os,h1.tape,h1.output,h1.size,h1.block⟩),h2,?_⟩; exact (h1.block Wb (Array.getElem?_eq_some_iff.1 e1).1 hWX).trans e1
  have HW : Hid (w.alloc (.cells (tcs 0 a1 a2 a3 dp tp a6) 70) = W1 /\ w.heap.size = Eb /\ (W1.setCell ⟨Eb,0,none⟩ (.int .i64 pl)).setCell ⟨Wb,1,none⟩ (.int .i64 (pl + 1)) = W2) := ⟨hW1,hEb,hW2⟩; have HWX : Hid (Wb ≠ X) := hWX; have HEX : Hid (Eb ≠ X) := by show _ ≠ _; omega
  clear hW1 hEb hW2 k0 k1 k2 q1 q2 e1 e2 hbox hlt HV HO hWX hX
  generalize hPP : (fun (e : Ending) (w' : World) => e = vans b (tcs pl a1 a2 a3 dp tp a6) /\ OT2 X Wb w w' /\ J w' /\ w'.heap[Wb]? = some (.cells #[.func (.func 50) #[] #[.pointer (some ⟨hb,0,none⟩),.pointer (some ⟨xb,0,none⟩)],.int .i64 (pl + 1),vB,vE] 104 (0,0))) = PP
  have HP : Hid (∀ w'',OTH X W2.drew w'' -> J w'' -> PP (vans b (tcs pl a1 a2 a3 dp tp a6)) w'') := fun w'' h1 h2 => by rw [<- hPP]; exact ⟨rfl,HEnd.out w'' h1 h2⟩
  clear hPP HEnd
  go_enter Tryz.func76,Tryz.ntmps76
  go_upto_region 1 with fail
  rw [HW.out.1,HW.out.2.1]
  go_upto_region 3 with fail
  rw [HW.out.2.2]; clear n1 f1 z0 zf; refine wp_region_held_drew (S := (fun Wc => Hid (Wc.heap[Wb]? = some (.cells #[.func (.func 50) #[] #[.pointer (some ⟨hb,0,none⟩),.pointer (some ⟨xb,0,none⟩)],.int .i64 (pl + 1),vB,vE] 104 (0,0)) /\ Wc.heap[Eb]? = some (.cells #[.int .i64 pl,.pointer a1,.pointer a2,.pointer a3,.int .i64 dp,.bool tp,.pointer a6] 70 (0,0))))) (by kernel_rfl) HS (fun hHeld => ?_); refine wpAnyH_take (i := 0) (oi := { dst := some 16,op := Op.move (Operand.tmp 0),type := 119,pos := "walk.go:146",after := #[],guard := none }) (v := .pointer (some ⟨Wb,0,none⟩)) rfl (by kernel_rfl) (by kernel_rfl) (by kernel_rfl) (fun _ _ _ h => h) (Or.inl ⟨by kernel_rfl,?_⟩) (by assumption) ?_
  · intro W _
    go_simp
  try simp only [Act.put,z0,z1,z2]
  refine wpAnyH_take (i := 1) (oi := { dst := some 17,op := Op.nilCheck (Operand.tmp 16),type := 0,pos := "walk.go:146",after := #[{ on := 0,ground := Ground.data }],guard := none }) (v := .pointer (some ⟨Wb,0,none⟩)) rfl (by kernel_rfl) (by kernel_rfl) (by kernel_rfl) (fun _ _ _ h => h) (Or.inl ⟨by kernel_rfl,?_⟩) (by assumption) ?_
  · intro W _
    go_simp
  try simp only [Act.put,z0,z1,z2]
  refine wpAnyH_take (i := 2) (oi := { dst := some 18,op := Op.fieldAddr 104 (Operand.tmp 17) 0,type := 0,pos := "walk.go:146",after := #[{ on := 1,ground := Ground.data }],guard := none }) (v := .pointer (some ⟨Wb,0,none⟩)) rfl (by kernel_rfl) (by kernel_rfl) (by kernel_rfl) (fun _ _ _ h => h) (Or.inl ⟨by kernel_rfl,?_⟩) (by assumption) ?_
  · intro W _
    go_simp
  try simp only [Act.put,z0,z1,z2]
  refine wpAnyH_take (i := 3) (oi := { dst := some 19,op := Op.load 88 (Operand.tmp 18),type := 88,pos := "walk.go:146",after := #[{ on := 2,ground := Ground.data }],guard := none }) (v := .func (.func 50) #[] #[.pointer (some ⟨hb,0,none⟩),.pointer (some ⟨xb,0,none⟩)]) rfl (by kernel_rfl) (by kernel_rfl) (by kernel_rfl) (fun _ _ _ h => h) (Or.inl ⟨by kernel_rfl,?_⟩) (by assumption) ?_
  · intro W hW
    have s1 : W.cell? ⟨Wb,0,none⟩ = some (.func (.func 50) #[] #[.pointer (some ⟨hb,0,none⟩),.pointer (some ⟨xb,0,none⟩)]) := cell_of hW.out.1 0
    go_simp
  try simp only [Act.put,z0,z1,z2]
  refine wpAnyH_take (i := 4) (oi := { dst := some 20,op := Op.load 70 (Operand.tmp 3),type := 70,pos := "walk.go:146",after := #[],guard := none }) (v := .agg #[.int .i64 pl,.pointer a1,.pointer a2,.pointer a3,.int .i64 dp,.bool tp,.pointer a6]) rfl (by kernel_rfl) (by kernel_rfl) (by kernel_rfl) (fun _ _ _ h => h) (Or.inl ⟨by kernel_rfl,?_⟩) (by assumption) ?_
  · intro W hW
    have z0 : W.cell? ⟨Eb,0,none⟩ = some (.int .i64 pl) := cell_of hW.out.2 0; have z1 : W.cell? ⟨Eb,1,none⟩ = some (.pointer a1) := cell_of hW.out.2 1; have z2 : W.cell? ⟨Eb,2,none⟩ = some (.pointer a2) := cell_of hW.out.2 2; have z3 : W.cell? ⟨Eb,3,none⟩ = some (.pointer a3) := cell_of hW.out.2 3; have z4 : W.cell? ⟨Eb,4,none⟩ = some (.int .i64 dp) := cell_of hW.out.2 4; have z5 : W.cell? ⟨Eb,5,none⟩ = some (.bool tp) := cell_of hW.out.2 5; have z6 : W.cell? ⟨Eb,6,none⟩ = some (.pointer a6) := cell_of hW.out.2 6
    go_simp
  try simp only [Act.put,z0,z1,z2]
  refine wpAnyH_ready (rs := [5]) (by kernel_rfl) (by simp) ?_; refine AllReadyH.cons (o := { dst := some 21,op := Op.call { callee := Callee.value (Operand.tmp 19),args := #[Operand.tmp 20],argTypes := #[70] },type := 0,pos := "walk.go:146",after := #[{ on := 3,ground := Ground.data },{ on := 4,ground := Ground.data }],guard := none }) rfl (fun K hK => ?_) AllReadyH.nil; refine step_clo2 rfl 50 _ _ _ rfl (.pointer (some ⟨hb,0,none⟩)) (.pointer (some ⟨xb,0,none⟩)) (by rfl) (.agg #[.int .i64 pl,.pointer a1,.pointer a2,.pointer a3,.int .i64 dp,.bool tp,.pointer a6]) (by rfl) cfVis HC.out ?_; rintro e w5 ⟨rfl,h1,h2⟩; have HS5 : Hid (w5.heap[Wb]? = some (.cells #[.func (.func 50) #[] #[.pointer (some ⟨hb,0,none⟩),.pointer (some ⟨xb,0,none⟩)],.int .i64 (pl + 1),vB,vE] 104 (0,0)) /\ w5.heap[Eb]? = some (.cells #[.int .i64 pl,.pointer a1,.pointer a2,.pointer a3,.int .i64 dp,.bool tp,.pointer a6] 70 (0,0))) := ⟨(h1.block _ (Array.getElem?_eq_some_iff.1 HS.out.1).1 HWX.out).trans HS.out.1,(h1.block _ (Array.getElem?_eq_some_iff.1 HS.out.2).1 HEX.out).trans HS.out.2⟩; have HZ : Hid (PP (vans b (tcs pl a1 a2 a3 dp tp a6)) w5) := HP.out w5 h1 h2; clear h1 h2 HP HC HS hHeld; cases b with
  | false =>
    refine Or.inl ⟨_,rfl,hK.out _ _ HS5 (fun _ => wpAnyH_done (by kernel_rfl) ?_ _)⟩; clear hK K
    try simp only [Act.put,z0,z1,z2]
    go_wp2_with fail
    go_end0
    exact HZ.out
  | true =>
    refine Or.inr ⟨_,rfl,?_⟩; clear hK K
    go_wp2_with fail
    exact ⟨rfl,HZ.out⟩
end Go.Proofs.YtfljcdccepnidaaGreatDoor
