import Derived.Test.YtkomadlmonhlhaaTsE
import Derived.Test.YtkomadlmonhlhaaTsO
import Derived.Test.YtkomadlmonhlhaaTsS
namespace Go.Proofs.Ytkomadlmonhlhaa
open Go.ChangeShapes Go.WideShapes Go.ChangeAt Go.RowKit Go.Lib Go.Ag Go.WideMaps Go.Maps Go.ChangeMaps Go.Cn

theorem step_call2 {ops : Array Oper} {o : Oper} {a : Act} {w : World} {K : Act → World → Prop} {Q : Exit → Act → World → Prop} {E : Prop} (hgd : o.guard = none) (f : FuncId) (x y : Operand) (ts : Array TypeId)
    (ho : o.op = .call { callee := .value (.func f), args := #[x, y], argTypes := ts }) (xv yv : Value) (hx : a.eval x = xv) (hy : a.eval y = yv) {R : Ending → World → Prop} (hcf : ∀ args W, (callFunc f args).run Try.prog W = .ok (.enter f args) W) (hc : Calls Try.prog f #[xv, yv] w R)
    (h : ∀ e w', R e w' → ∃ v, e = .returned v ∧ K (a.put o.dst v) w') :
    if Region.wanted o (yielded ops a.tmps) = true then Oper.wp Try.prog o a w K Q else E := by
  have hw : Region.wanted o (yielded ops a.tmps) = true := by simp [Region.wanted, hgd]
  rw [if_pos hw]
  have hr : (execOp a.eval o).run Try.prog w = .ok (.enter f #[xv, yv]) w := by
    unfold execOp
    have ef : a.eval (.func f) = .func (.func f) #[] #[] := rfl
    simp [ho, resolve, Deferred.ofValue, invoke, hx, hy, ef, hcf]
  unfold Oper.wp
  rw [hr, Oper.upon_enter]
  refine hc.mono fun e w' hR => ?_
  obtain ⟨v, rfl, hk⟩ := h e w' hR
  exact hk
theorem cfLit (args : Array Value) (W : World) : (callFunc 61 args).run Try.prog W = .ok (.enter 61 args) W := cf_of Try.func61 (by kernel_rfl) (by kernel_rfl) args W
/-- the cells of gates of clauses -/
def gtV (g : GT) : List Value := [.int .i64 g.1, .int .i64 g.2.1, .int .i64 g.2.2]
def gtC : List GT → List Value
  | [] => []
  | g :: gs => gtV g ++ gtC gs
theorem gtC_len : ∀ gs : List GT, (gtC gs).length = gs.length * 3
  | [] => rfl
  | g :: gs => by rw [gtC, List.length_append, gtC_len gs, List.length_cons]; show 3 + _ = _; omega
theorem gtC_snoc : ∀ (gs : List GT) (g : GT), gtC (gs ++ [g]) = gtC gs ++ gtV g
  | [], g => by simp [gtC]
  | x :: gs, g => by rw [List.cons_append, gtC, gtC_snoc gs g, gtC, List.append_assoc]
theorem gtC_at : ∀ (gs : List GT) (i j : Nat), i < gs.length → j < 3 → (gtC gs)[i * 3 + j]? = (gtV (gs.getD i (0, 0, 0)))[j]?
  | [], i, j, h, _ => by simp at h
  | g :: gs, 0, j, _, hj => by rw [gtC, List.getElem?_append_left (by show _ < 3; omega), Nat.zero_mul, Nat.zero_add]; rfl
  | g :: gs, i + 1, j, h, hj => by
    rw [gtC, List.getElem?_append_right (by show 3 ≤ _; omega), show (i + 1) * 3 + j - (gtV g).length = i * 3 + j by show _ - 3 = _; omega, gtC_at gs i j (by simpa using h) hj]
    rfl
theorem gts_of {w : World} {B n : Nat} {ad : Option Addr} {cp : Nat} {gs : List GT} (h : w.ownsRow B 130 3 (.slice ad n cp) n (gtC gs)) : Gts w ad gs := fun h0 => by
  have hn : gs.length = n := by have := h.1; rw [gtC_len] at this; omega
  obtain ⟨a2, c2, e, _, h3⟩ := row_form h
  cases e
  obtain ⟨g, rfl⟩ := h3 (by omega)
  refine ⟨g, 0, rfl, (h.lt g rfl).2, fun j hj => ?_⟩
  have k : ∀ i, i < 3 → w.cell? ⟨g, j * 3 + i, none⟩ = (gtV (gs.getD j (0, 0, 0)))[i]? := fun i hi => by rw [h.cellAt (j * 3 + i) (by omega), gtC_at gs j i hj hi]
  rw [Nat.zero_add]
  exact ⟨k 0 (by omega), k 1 (by omega), k 2 (by omega)⟩
/-- a circuit on its way -/
structure NC (w wr : World) (Rb M Cb : Nat) (vR : Value) (cn : List Nat) (k : Nat) (gs : List GT) (vG : Value) : Prop where
  rb : wr.heap[Rb]? = some (.cells #[.slice none 0 0, .map none, .slice none 0 0] 83 (0, 0))
  cb : wr.heap[Cb]? = some (.cells #[vR, .map (some M), vG] 83 (0, 0))
  vm : VM wr M k (vN (cn.take k)) (fun n => n ∈ cn.take k)
  row : wr.ownsRow w.heap.size 130 3 vG gs.length (gtC gs)
  bel : Below w.heap.size w wr
  l1 : w.heap.size ≤ M
  l2 : w.heap.size ≤ Cb
  ne : Rb ≠ Cb
theorem NC.over {w wr w' : World} {Rb M Cb : Nat} {vR : Value} {cn : List Nat} {k : Nat} {gs : List GT} {vG : Value} (h : NC w wr Rb M Cb vR cn k gs vG) (hb : Below wr.heap.size wr w') : NC w w' Rb M Cb vR cn k gs vG :=
  ⟨(hb.block _ (Array.getElem?_eq_some_iff.1 h.rb).1).trans h.rb, (hb.block _ (Array.getElem?_eq_some_iff.1 h.cb).1).trans h.cb, h.vm.keep (hb.block _ h.vm.lt), ag_same h.row (fun j hj => hb.block j (h.row.lt j hj).2), h.bel.trans (hb.mono h.bel.size), h.l1, h.l2, h.ne⟩
/-- one more variable -/
theorem NC.vput {w wr w' : World} {Rb M Cb : Nat} {vR : Value} {cn : List Nat} {k n : Nat} {gs : List GT} {vG : Value} (h : NC w wr Rb M Cb vR cn k gs vG) (hd : cn.Nodup) (hn : cn[k]? = some n) (hv : VM w' M (k + 1) (fun y => if y = n then k + 1 else vN (cn.take k) y) (fun y => y = n ∨ y ∈ cn.take k)) (hg : wr.grownBy w' (some M)) : NC w w' Rb M Cb vR cn (k + 1) gs vG := by
  obtain ⟨hk, e⟩ := List.getElem?_eq_some_iff.1 hn
  have ht : cn.take (k + 1) = cn.take k ++ [n] := by rw [List.take_succ_eq_append_getElem hk, e]
  have hni : n ∉ cn.take k := fun hm => by
    obtain ⟨j, hj, e2⟩ := List.getElem_of_mem hm
    rw [List.length_take] at hj
    rw [List.getElem_take] at e2
    exact (List.pairwise_iff_getElem.1 hd) j k (by omega) hk (by omega) (e2.trans e.symm)
  obtain ⟨es, cl, hM⟩ := h.vm.obj
  have kp : ∀ j t cs fr, wr.heap[j]? = some (Obj.cells cs t fr) → w'.heap[j]? = wr.heap[j]? := fun j t cs fr hj => hg.block j (Array.getElem?_eq_some_iff.1 hj).1 (fun e => by cases e; rw [hM] at hj; cases hj)
  refine ⟨(kp _ _ _ _ h.rb).trans h.rb, (kp _ _ _ _ h.cb).trans h.cb, hv.congr (fun x hx => ?_) (fun x => ?_), ag_same h.row (fun j hj => ?_), ⟨hg.os.trans h.bel.os, hg.tape.trans h.bel.tape, hg.output.trans h.bel.output, Nat.le_trans h.bel.size hg.size, fun j hj => ?_⟩, h.l1, h.l2, h.ne⟩
  · show (if x = n then k + 1 else vN (cn.take k) x) = vN (cn.take (k + 1)) x
    by_cases e2 : x = n
    · rw [if_pos e2, e2]
      have h1 : vN (cn.take (k + 1)) n = vN cn n := vN_take (by rw [ht]; simp)
      rw [h1, vN_at hd hn]
    · rw [if_neg e2]
      have hx2 : x ∈ cn.take k := hx.elim (fun h => absurd h e2) id
      rw [vN_take hx2, vN_take (take_mono hx2 (Nat.le_succ k))]
  · rw [ht, List.mem_append, List.mem_singleton]
    exact ⟨fun h => h.elim Or.inr Or.inl, fun h => h.elim Or.inr Or.inl⟩
  · rcases h.row.2 with ⟨e1, _⟩ | ⟨b, cap, cur, e1, _, hb2, _⟩
    · rw [e1] at hj; cases hj
    · rw [e1] at hj
      have e2 : b = j := by simpa [Value.ownBlock] using hj
      subst e2
      exact kp _ _ _ _ hb2
  · rw [hg.block j (Nat.lt_of_lt_of_le hj h.bel.size) (fun e => by cases e; have := h.l1; omega)]
    exact h.bel.block j hj
/-- one more gate -/
theorem NC.gput {w wr w7 : World} {Rb M Cb : Nat} {vR : Value} {cn : List Nat} {k : Nat} {gs : List GT} {vG : Value} (h : NC w wr Rb M Cb vR cn k gs vG) {ob : Obj} {g : GT} {g7 cap7 : Nat} (hown : w7.ownsRow w.heap.size 130 3 (.slice (some ⟨g7, 0, none⟩) (gs.length + 1) cap7) (gs.length + 1) (gtC gs ++ gtV g)) (hg : (wr.alloc ob).grownBy w7 vG.ownBlock) :
    w7.heap[Cb]? = some (.cells #[vR, .map (some M), vG] 83 (0, 0)) ∧ NC w (w7.setCell ⟨Cb, 2, none⟩ (.slice (some ⟨g7, 0, none⟩) (gs.length + 1) cap7)) Rb M Cb vR cn k (gs ++ [g]) (.slice (some ⟨g7, 0, none⟩) (gs.length + 1) cap7) := by
  have hz := hg.size
  have hk : ∀ j, j < wr.heap.size → vG.ownBlock ≠ some j → w7.heap[j]? = wr.heap[j]? := fun j hj hne => by
    rw [hg.block j (by simp; omega) (fun e => hne e.symm)]
    exact Below.heap_alloc _ _ j hj
  have hcb := (hk Cb (Array.getElem?_eq_some_iff.1 h.cb).1 (ag_ne h.row h.cb (by decide))).trans h.cb
  have hrb := (hk Rb (Array.getElem?_eq_some_iff.1 h.rb).1 (ag_ne h.row h.rb (by decide))).trans h.rb
  obtain ⟨es, cl, hM⟩ := h.vm.obj
  have hvm : VM w7 M k (vN (cn.take k)) (fun n => n ∈ cn.take k) := h.vm.keep (hk M h.vm.lt (fun e => by
    rcases h.row.2 with ⟨e1, _⟩ | ⟨b, cap, cur, e1, _, hb2, _⟩
    · rw [e1] at e; cases e
    · rw [e1] at e
      have e2 : b = M := by simpa [Value.ownBlock] using e
      subst e2
      rw [hM] at hb2; cases hb2))
  have ho : ∀ j, j ≠ Cb → (w7.setCell ⟨Cb, 2, none⟩ (.slice (some ⟨g7, 0, none⟩) (gs.length + 1) cap7)).heap[j]? = w7.heap[j]? := fun j hj => heap_setCell_other _ _ _ _ hj
  refine ⟨hcb, (ho Rb h.ne).trans hrb, ?_, hvm.keep (ho M (fun e => by rw [e, h.cb] at hM; cases hM)), ?_, ⟨hg.os.trans h.bel.os, hg.tape.trans h.bel.tape, hg.output.trans h.bel.output, by have := h.bel.size; simp at hz ⊢; omega, fun j hj => ?_⟩, h.l1, h.l2, h.ne⟩
  · rw [heap_setCell_same _ Cb 2 _ _ _ hcb]
    rfl
  · rw [gtC_snoc, List.length_append]
    exact ag_same hown (fun j hj => ho j (fun e => ag_ne hown hcb (by decide) (by rw [hj, e])))
  · rw [ho j (fun e => by have := h.l2; omega), hk j (Nat.lt_of_lt_of_le hj h.bel.size) (fun e => by have := (h.row.lt j e).1; omega)]
    exact h.bel.block j hj
end Go.Proofs.Ytkomadlmonhlhaa
