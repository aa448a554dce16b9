import Derived.Test.YtekdmdnnpcjaoaaAgFb
import Derived.Deep.Upon
namespace Go.Proofs.Ytekdmdnnpcjaoaa
open Go.ChangeShapes Go.WideShapes Go.ChangeAt Go.RowKit Go.Lib Go.Ag Go.WideMaps Go.Maps Go.ChangeMaps Go.Cn

theorem bel_grown0 {W w' : World} {ty : TypeId} (h : (W.alloc (.cells #[] ty)).grownBy w' (some W.heap.size)) : Below W.heap.size W w' := by
  have hsz : (W.alloc (.cells #[] ty)).heap.size = W.heap.size + 1 := by simp
  exact ⟨h.os, h.tape, h.output, Nat.le_trans (ag_bel1 W (.cells #[] ty)).size h.size, fun j hj => (h.block j (by rw [hsz]; omega) (fun e => by injection e with e2; omega)).trans ((ag_bel1 W (.cells #[] ty)).block j hj)⟩
set_option maxRecDepth 100000 in
/-- append([]int{}, xs...): a copy -/
theorem run_copyI {W : World} {H n : Nat} {ad : Option Addr} {cp : Nat} {xs : List Value} (h : W.ownsRow H 3 1 (.slice ad n cp) n xs) (h1c : ∀ u ∈ xs, u.oneCell' = true) (hl : n ≤ 17592186044416) (ty : TypeId) :
    ∃ g cap w', (Builtin.append_ #[33, 33] ty #[.slice (some ⟨W.heap.size, 0, none⟩) 0 0, .slice ad n cp]).run Try.prog (W.alloc (.cells #[] 3)) = .ok (.slice (some ⟨g, 0, none⟩) n cap) w' ∧ Below W.heap.size W w' ∧ w'.ownsRow W.heap.size 3 1 (.slice (some ⟨g, 0, none⟩) n cap) n xs := by
  obtain ⟨i0, hi, hz0, hz1, hz2⟩ := info_parts (P := Try.prog) (e := 3) (z := .int .i64 0) (size := 1) (bytes := 8) (by kernel_rfl)
  have hxl : xs.length = n := by have := h.1; omega
  have hlit : (W.alloc (.cells #[] 3)).ownsRow W.heap.size 3 1 (.slice (some ⟨W.heap.size, 0, none⟩) 0 0) 0 [] := ⟨rfl, Or.inr ⟨W.heap.size, 0, #[], rfl, Nat.le_refl _, heap_alloc_new _ _, Nat.le_refl _, Nat.zero_le _, rfl, rfl⟩⟩
  by_cases h0 : 0 < n
  · obtain ⟨a2, c2, e, _, h3⟩ := row_form h
    cases e
    obtain ⟨b, rfl⟩ := h3 h0
    have hrw := (rw_of h).1.over (ag_bel1 W (.cells #[] 3))
    obtain ⟨g, cap, w', h1, h2, h3, h4, h5⟩ := run_append_lies (P := Try.prog) (W.alloc (.cells #[] 3)) 33 ty W.heap.size 3 i0 (.int .i64 0) 1 8 Try.underlying33 hi hz0 hz1 hz2 rfl (by decide) _ 0 [] hlit ⟨b, 0, none⟩ n cp xs (by omega) (fun j u hu => by
      have hj : j < xs.length := (List.getElem?_eq_some_iff.1 hu).1
      rw [Addr.add_lit, Nat.zero_add, hrw.cell hj, hu]) h1c h0 (by unfold maxLen; omega) (by omega) (by simp) _ rfl
    rw [Nat.zero_add] at h1 h2
    rw [List.nil_append] at h2
    exact ⟨g, cap, w', h1, bel_grown0 h3, h2⟩
  · obtain rfl : n = 0 := by omega
    have e : xs = [] := List.eq_nil_of_length_eq_zero hxl
    subst e
    refine ⟨W.heap.size, 0, _, run_append_nothing _ _ _ _ _ i0 Try.underlying33 hi _ 0 0 (Nat.le_refl _) _ ?_, ag_bel1 W _, hlit⟩
    cases ad with
    | none => exact Src.ofNil _ Try.underlying33 _
    | some a => exact Src.ofSlice _ Try.underlying33 a 0 _ [] (by simp) (fun j u hu => by simp at hu) (fun u hu => by simp at hu)
/-- the same at the walk's list -/
theorem wpList_copyI {ops : Array Oper} {rest : List Oper} {o : Oper} {a : Act} {Q : Exit → Act → World → Prop} (hgd : o.guard = none) (s x : Operand)
    (ho : o.op = .call { callee := .builtin .append, args := #[s, x], argTypes := #[33, 33] }) (W : World) (H n : Nat) (ad : Option Addr) (cp : Nat) (xs : List Value) (hs : a.eval s = .slice (some ⟨W.heap.size, 0, none⟩) 0 0) (hx : a.eval x = .slice ad n cp) (hi : W.ownsRow H 3 1 (.slice ad n cp) n xs) (h1c : ∀ u ∈ xs, u.oneCell' = true) (hl : n ≤ 17592186044416)
    (h : ∀ g cap w', Below W.heap.size W w' → w'.ownsRow W.heap.size 3 1 (.slice (some ⟨g, 0, none⟩) n cap) n xs → wpList Try.prog ops Q rest (a.put o.dst (.slice (some ⟨g, 0, none⟩) n cap)) w') : wpList Try.prog ops Q (o :: rest) a (W.alloc (.cells #[] 3)) := by
  refine wpList_plain hgd fun _ hK => ?_
  obtain ⟨g, cap, w', hr, h2, h3⟩ := run_copyI (cp := cp) hi h1c hl o.type
  unfold Oper.wp execOp
  simp only [ho, resolve, invoke, builtin, Sem.run_bind, Sem.run_pure, Result.andThen_ok, List.map_toArray, List.map_cons, List.map_nil, hs, hx, hr]
  exact hK _ _ (h g cap w' h2 h3)
end Go.Proofs.Ytekdmdnnpcjaoaa
