import Derived.Test.YtekdmdnnpcjaoaaAgUb
namespace Go.Proofs.Ytekdmdnnpcjaoaa
open Go.ChangeShapes Go.WideShapes Go.ChangeAt Go.RowKit Go.Lib Go.Ag Go.WideMaps Go.Maps Go.ChangeMaps Go.Cn

theorem step_call2 {ops : Array Oper} {o : Oper} {a : Act} {w : World} {K : Act → World → Prop} {Q : Exit → Act → World → Prop} {E : Prop} (hgd : o.guard = none) (f : FuncId) (x y : Operand) (ts : Array TypeId)
    (ho : o.op = .call { callee := .value (.func f), args := #[x, y], argTypes := ts }) (xv yv : Value) (hx : a.eval x = xv) (hy : a.eval y = yv) {R : Ending → World → Prop} (hcf : ∀ args W, (callFunc f args).run Try.prog W = .ok (.enter f args) W) (hc : Calls Try.prog f #[xv, yv] w R)
    (h : ∀ e w', R e w' → ∃ v, e = .returned v ∧ K (a.put o.dst v) w') :
    if Region.wanted o (yielded ops a.tmps) = true then Oper.wp Try.prog o a w K Q else E := by
  have hw : Region.wanted o (yielded ops a.tmps) = true := by simp [Region.wanted, hgd]
  rw [if_pos hw]
  have hr : (execOp a.eval o).run Try.prog w = .ok (.enter f #[xv, yv]) w := by
    unfold execOp
    have ef : a.eval (.func f) = .func (.func f) #[] #[] := rfl
    simp [ho, resolve, Deferred.ofValue, invoke, hx, hy, ef, hcf]
  unfold Oper.wp
  rw [hr, Oper.upon_enter]
  refine hc.mono fun e w' hR => ?_
  obtain ⟨v, rfl, hk⟩ := h e w' hR
  exact hk
theorem cfThr (args : Array Value) (W : World) : (callFunc 35 args).run Try.prog W = .ok (.enter 35 args) W := cf_of Try.func35 (by kernel_rfl) (by kernel_rfl) args W
theorem cfAnd (args : Array Value) (W : World) : (callFunc 34 args).run Try.prog W = .ok (.enter 34 args) W := cf_of Try.func34 (by kernel_rfl) (by kernel_rfl) args W
theorem cfSetU (args : Array Value) (W : World) : (callFunc 33 args).run Try.prog W = .ok (.enter 33 args) W := cf_of Try.func33 (by kernel_rfl) (by kernel_rfl) args W
def layF (hs : Nds) (ins : List Nat) (s : Nds × (Nat → Nat)) (n : Nat) : Option (Nds × (Nat → Nat)) :=
  if (nodK hs n).1 = 1 then some (s.1, updF s.2 n (ins.getD (nodK hs n).2.1 0)) else (andN s.1 (thrN s.2 (nodK hs n).2.1) (thrN s.2 (nodK hs n).2.2)).map fun x => (x.2, updF s.2 n x.1)
/-- the nodes of a cone laid one by one -/
def layN (hs : Nds) (ins : List Nat) (s : Nds × (Nat → Nat)) : List Nat → Option (Nds × (Nat → Nat))
  | [] => some s
  | n :: cn => (layF hs ins s n).bind fun s2 => layN hs ins s2 cn
theorem layN_snoc (hs : Nds) (ins : List Nat) : ∀ (cn : List Nat) (s : Nds × (Nat → Nat)) (n : Nat), layN hs ins s (cn ++ [n]) = (layN hs ins s cn).bind fun s2 => layF hs ins s2 n
  | [], s, n => by
    show (layF hs ins s n).bind _ = layF hs ins s n
    cases layF hs ins s n <;> rfl
  | m :: cn, s, n => by
    show (layF hs ins s m).bind _ = ((layF hs ins s m).bind _).bind _
    cases layF hs ins s m with
    | none => rfl
    | some v => exact layN_snoc hs ins cn v n
theorem andN_ext {ns ns' : Nds} {a b l : Nat} (h : andN ns a b = some (l, ns')) : ∃ t, ns' = ns ++ t := by
  unfold andN at h
  split at h
  · cases h; exact ⟨[], by rw [List.append_nil]⟩
  · split at h
    · cases h; exact ⟨[], by rw [List.append_nil]⟩
    · split at h
      · cases h
      · cases h; exact ⟨_, rfl⟩
end Go.Proofs.Ytekdmdnnpcjaoaa
