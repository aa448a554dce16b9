import Derived.Test.YtdoeggompochoaaAgD
import Derived.Lib.AppendZerosOnto
namespace Go.Proofs.Ytdoeggompochoaa
open Go.ChangeShapes Go.WideShapes Go.ChangeAt Go.RowKit Go.Lib Go.Ag Go.WideMaps Go.Maps Go.ChangeMaps

theorem bz : (Value.agg #[.int .u64 0, .int .i64 0]).cells.size = 2 := rfl
/-- room for more blocks: the append of zeros that Grow makes -/
theorem grow_run (w : World) (B : Nat) (ad : Option Addr) (nb cap : Nat) (bc : List Value) (h : w.ownsRow B 163 2 (.slice ad nb cap) nb bc) (k : Nat) (hk : 0 < k) (hn : cap + k ≤ 1000000000) (hB : B ≤ w.heap.size) (ty : TypeId) :
    ∃ C w', (Builtin.append_ #[94, 3] ty #[.slice ad cap cap, .int .i64 (k : Int)]).run Try.prog w = .ok (.slice (some ⟨w.heap.size, 0, none⟩) (cap + k) C) w' ∧ cap + k ≤ C ∧ w'.ownsRow B 163 2 (.slice (some ⟨w.heap.size, 0, none⟩) nb C) nb bc ∧ Below w.heap.size w w' := by
  obtain ⟨i0, hi, hz0, hz1, hz2⟩ := info_parts (P := Try.prog) (e := 163) (z := .agg #[.int .u64 0, .int .i64 0]) (size := 2) (bytes := 16) (by kernel_rfl)
  obtain ⟨olds, hol, hot, hrun⟩ : ∃ olds : List Value, olds.length = cap * 2 ∧ olds.take (nb * 2) = bc ∧ (Builtin.firstCells i0.size cap (.slice ad cap cap)).run Try.prog w.drew = .ok olds.toArray w.drew := by
    rcases h.2 with ⟨e, h0⟩ | ⟨g, cap', cur, e, hb, hg, hc1, hc2, hc3, hc4⟩
    · cases e
      refine ⟨[], by simp, ?_, run_firstCells_none w.drew _ _ _ _⟩
      have := h.1
      have hx : bc = [] := List.eq_nil_of_length_eq_zero (by simpa using this)
      rw [hx]
      rfl
    · cases e
      refine ⟨cur.toList, by simpa using hc3, hc4, run_firstCells_some w.drew _ _ _ _ _ _ (by rw [hz1]; simpa using hc3) (fun j v hj => ?_)⟩
      have : w.cell? (Addr.add ⟨g, 0, none⟩ j) = cur[j]? := by
        rw [Addr.add_lit, Nat.zero_add]
        exact ag_cell hg j
      show w.cell? _ = _
      rw [this, ← hj]
      simp
  have hb16 : i0.bytes = 16 := hz2
  have hnc : nb ≤ cap := by
    rcases h.2 with ⟨e, h0⟩ | ⟨g, cap', cur, e, _, _, hc1, _⟩
    · omega
    · cases e
      omega
  have hnx := nextslicecap_le (need := cap + k) (old := cap) (by omega)
  have hr := run_append_grow_zeros (P := Try.prog) w 94 3 ty 163 i0 _ .i64 .i64 Try.underlying94 Try.underlying3 hi hz0 ad cap cap olds hrun k hk (by omega) (by omega) (by omega) (by rw [hb16]; omega) (by rw [hb16]; omega)
  have hge := grownCap_ge w (cap + k) cap 163
  have hle := grownCap_le_maxLen w (cap + k) cap 163 (by unfold maxLen; omega)
  refine ⟨_, _, hr, hge, ?_, ?_⟩
  · generalize grownCap w (cap + k) cap 163 = C at *
    refine ⟨h.1, Or.inr ⟨w.heap.size, C, _, rfl, hB, heap_alloc_new _ _, by omega, hle, ?_, ?_⟩⟩
    · simp only [Array.size_append, List.size_toArray, size_zeroCells, bz, hol]
      omega
    · rw [← hot]
      simp only [Array.toList_append]
      rw [List.take_append_of_le_length (by simp [hol]; omega), List.take_append_of_le_length (by simp [hol]; omega)]
  · have h5 : Below w.heap.size w w.drew := ⟨rfl, rfl, rfl, Nat.le_refl _, fun _ _ => rfl⟩
    exact h5.alloc (Nat.le_refl _) _
theorem wpList_zeros {ops : Array Oper} {rest : List Oper} {o : Oper} {a : Act} {w : World} {Q : Exit → Act → World → Prop} (hgd : o.guard = none) (sl x : Operand)
    (ho : o.op = .call { callee := .builtin .append, args := #[sl, x], argTypes := #[94, 3] }) {B nb cap : Nat} {ad : Option Addr} {bc : List Value} (hs : a.eval sl = .slice ad cap cap) (hown : w.ownsRow B 163 2 (.slice ad nb cap) nb bc) (k : Nat) (hx : a.eval x = .int .i64 (k : Int)) (hk : 0 < k) (hn : cap + k ≤ 1000000000) (hB : B ≤ w.heap.size)
    (h : ∀ C w', cap + k ≤ C → w'.ownsRow B 163 2 (.slice (some ⟨w.heap.size, 0, none⟩) nb C) nb bc → Below w.heap.size w w' → wpList Try.prog ops Q rest (a.put o.dst (.slice (some ⟨w.heap.size, 0, none⟩) (cap + k) C)) w') : wpList Try.prog ops Q (o :: rest) a w := by
  refine wpList_plain hgd fun K hK => ?_
  obtain ⟨C, w', hr, h1, h2, h3⟩ := grow_run w B ad nb cap bc hown k hk hn hB o.type
  unfold Oper.wp execOp
  simp only [ho, resolve, invoke, builtin, Sem.run_bind, Sem.run_pure, Result.andThen_ok, List.map_toArray, List.map_cons, List.map_nil, hs, hx, hr]
  exact hK _ _ (h C w' h1 h2 h3)
set_option maxHeartbeats 2000000 in
/-- room for so many blocks more: the blocks are as they were -/
theorem grow_any (w : World) (B : Nat) (ad : Option Addr) (nb cap n : Nat) (bc : List Value) (h : w.ownsRow B 163 2 (.slice ad nb cap) nb bc) (hn : nb + n ≤ 500000000) (hB : B ≤ w.heap.size) :
    Calls Try.prog 103 #[.slice ad nb cap, .int .i64 (n : Int)] w fun e w' => ∃ ad' cap', e = .returned (.slice ad' nb cap') ∧ w'.ownsRow B 163 2 (.slice ad' nb cap') nb bc ∧ Below w.heap.size w w' ∧ ∀ j, (Value.slice ad' nb cap').ownBlock = some j → (Value.slice ad nb cap).ownBlock = some j ∨ w.heap.size ≤ j := by
  have hnc : nb ≤ cap ∧ cap ≤ 9223372036854775807 := by
    rcases h.2 with ⟨e, h0⟩ | ⟨g, cap', cur, e, _, _, hc1, hc2, _⟩
    · cases e
      exact ⟨Nat.le_refl _, by omega⟩
    · cases e
      unfold maxLen at hc2
      omega
  obtain ⟨hnc, hcm⟩ := hnc
  have HO : Hid (w.ownsRow B 163 2 (.slice ad nb cap) nb bc) := h
  clear h
  by_cases hr : nb + n ≤ cap
  · have q1 : ¬ (0 : Int) < (n : Int) - ((cap : Int) - (nb : Int)) := by omega
    go_enter Try.func103, Try.ntmps103
    go_wp2
    first | exact ⟨ad, cap, rfl, HO.out, Below.refl _ _, fun j hj => Or.inl hj⟩ | (go_ret; exact ⟨ad, cap, rfl, HO.out, Below.refl _ _, fun j hj => Or.inl hj⟩)
  · obtain ⟨k, hk⟩ : ∃ k : Nat, (n : Int) - ((cap : Int) - (nb : Int)) = (k : Int) := ⟨nb + n - cap, by omega⟩
    have hk0 : 0 < k := by omega
    have q1 : (0 : Int) < (k : Int) := by omega
    go_enter Try.func103, Try.ntmps103
    go_wp2_with (at_builtin; refine wpList_zeros rfl _ _ rfl rfl HO.out k rfl hk0 (by omega) hB ?_; intro C w2 hC ho2 hb2; have HP : Hid (w2.ownsRow B 163 2 (.slice (some ⟨w.heap.size, 0, none⟩) nb C) nb bc ∧ Below w.heap.size w w2) := ⟨ho2, hb2⟩; have hC2 : nb ≤ C := (by omega); have hC3 : (nb : Int) ≤ (C : Int) := (by omega); clear ho2 hb2)
    first | exact ⟨_, C, rfl, HP.out.1, HP.out.2, fun j hj => Or.inr (by cases hj; exact Nat.le_refl _)⟩ | (go_ret; exact ⟨_, C, rfl, HP.out.1, HP.out.2, fun j hj => Or.inr (by cases hj; exact Nat.le_refl _)⟩)
end Go.Proofs.Ytdoeggompochoaa
