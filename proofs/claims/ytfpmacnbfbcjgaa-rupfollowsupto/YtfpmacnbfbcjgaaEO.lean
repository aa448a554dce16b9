import Derived.Test.YtfpmacnbfbcjgaaEB
namespace Go.Pr
/-- an engine at its beginning -/
def es0 (n : Nat) : ES := ⟨n, [], [], 0, (-1) :: List.replicate (2 * n + 1) 0, List.replicate (n + 1) (0, some 0), List.replicate (2 * n + 2) [], [], 0, [], [], 0, none⟩
end Go.Pr
namespace Go.Proofs.Ytfpmacnbfbcjgaa
open Go.ChangeShapes Go.WideShapes Go.ChangeAt Go.RowKit
open Go.Pr
theorem made_two (a b : Value) (k : Nat) : (madeCells #[a, b] (k * 2)).toList = (List.replicate k [a, b]).flatten := by
  refine List.ext_getElem? fun i => ?_
  have hl : ((List.replicate k [a, b]).flatten).length = k * 2 := by simp [List.length_flatten, List.map_replicate, List.sum_replicate_nat]
  by_cases hi : i < k * 2
  · have h1 : (madeCells #[a, b] (k * 2)).toList[i]? = some (if i % 2 = 0 then a else b) := by
      unfold madeCells
      simp [hi]
      have : i % 2 = 0 ∨ i % 2 = 1 := by omega
      rcases this with e | e <;> simp [e]
    rw [h1]
    clear h1 hl
    induction k generalizing i with
    | zero => omega
    | succ k ih =>
      rw [List.replicate_succ, List.flatten_cons]
      match i, hi with
      | 0, _ => rfl
      | 1, _ => rfl
      | i + 2, hi =>
        have := ih i (by omega)
        have e : (i + 2) % 2 = i % 2 := by omega
        rw [e, this]
        rfl
  · rw [List.getElem?_eq_none (by rw [Array.length_toList, size_madeCells]; omega), List.getElem?_eq_none (by rw [hl]; omega)]
/-- where the new engine's rows lie -/
def p0 (n a b c : Nat) : Nat → Value
  | 3 => .slice (some ⟨a, 0, none⟩) (2 * n + 2) (2 * n + 2)
  | 4 => .slice (some ⟨b, 0, none⟩) (n + 1) (n + 1)
  | 5 => .slice (some ⟨c, 0, none⟩) (2 * n + 2) (2 * n + 2)
  | _ => .slice none 0 0
theorem p0_other {n a b c i : Nat} (h3 : i ≠ 3) (h4 : i ≠ 4) (h5 : i ≠ 5) : p0 n a b c i = .slice none 0 0 := by
  unfold p0
  split
  · exact absurd rfl h3
  · exact absurd rfl h4
  · exact absurd rfl h5
  · rfl
theorem mem0 {W : World} {n a b c g : Nat} {A B C : Array Value} (hn : n ≤ 1048576) (hA : W.heap[a]? = some (.cells A 69 (0, 0))) (hB : W.heap[b]? = some (.cells B 91 (0, 0))) (hC : W.heap[c]? = some (.cells C 85 (0, 0)))
    (hG : W.heap[g]? = some (.cells #[.slice none 0 0, .slice none 0 0, .int .i64 0, .slice (some ⟨a, 0, none⟩) (2 * n + 2) (2 * n + 2), .slice (some ⟨b, 0, none⟩) (n + 1) (n + 1), .slice (some ⟨c, 0, none⟩) (2 * n + 2) (2 * n + 2), .slice none 0 0, .int .i64 0, .slice none 0 0, .slice none 0 0, .int .i64 0, .int .i32 (-1)] 64 (0, 0)))
    (eA : A.toList = (Value.int .i8 (-1)) :: List.replicate (2 * n + 1) (.int .i8 0)) (eB : B.toList = (List.replicate (n + 1) [Value.int .i32 0, .int .i32 0]).flatten) (eC : C.toList = List.replicate (2 * n + 2) (.slice none 0 0)) :
    Mem W g (fun k => k = a ∨ k = b ∨ k = c ∨ k = g) (es0 n) (p0 n a b c) := by
  have lt : ∀ k o, W.heap[k]? = some o → k < W.heap.size := fun k o h => (Array.getElem?_eq_some_iff.1 h).1
  have hAs : A.size = 2 * n + 2 := by rw [← Array.length_toList, eA]; simp
  have hBs : B.size = (n + 1) * 2 := by rw [← Array.length_toList, eB]; simp [List.length_flatten, List.map_replicate, List.sum_replicate_nat]
  have hCs : C.size = 2 * n + 2 := by rw [← Array.length_toList, eC]; simp
  have hab : a ≠ b := fun e => by rw [e, hB] at hA; cases hA
  have hac : a ≠ c := fun e => by rw [e, hC] at hA; cases hA
  have hbc : b ≠ c := fun e => by rw [e, hC] at hB; cases hB
  have hwl : (es0 n).wat.length = 2 * n + 2 := by show (List.replicate _ _).length = _; simp
  have hwt : ∀ x, (es0 n).watch x = [] := fun x => by
    show (List.replicate (2 * n + 2) ([] : List (Nat × Nat))).getD x [] = []
    rw [List.getD_eq_getElem?_getD, List.getElem?_replicate]
    split <;> rfl
  refine ⟨hG, Or.inr (Or.inr (Or.inr rfl)), fun k hk => ?_, fun i hi => ?_, fun i hi k hk => ?_, fun i j hij hi hj => ?_⟩
  · rcases hk with e | e | e | e
    · rw [e]; exact lt _ _ hA
    · rw [e]; exact lt _ _ hB
    · rw [e]; exact lt _ _ hC
    · rw [e]; exact lt _ _ hG
  · rcases hi with rfl | rfl | rfl | rfl | rfl | rfl | rfl | rfl | hi
    · exact World.ownsRow_nil _ _ _ _
    · exact World.ownsRow_nil _ _ _ _
    · refine ⟨?_, Or.inr ⟨a, 2 * n + 2, A, ?_, Nat.zero_le _, hA, ?_, by unfold maxLen; omega, ?_, ?_⟩⟩
      · show (((-1) :: List.replicate (2 * n + 1) 0).map (Value.int .i8)).length = ((-1 : Int) :: List.replicate (2 * n + 1) 0).length * 1
        simp
      · show Value.slice _ _ _ = .slice _ ((-1 : Int) :: List.replicate (2 * n + 1) 0).length _
        simp
      · show ((-1 : Int) :: List.replicate (2 * n + 1) 0).length ≤ _
        simp
      · show A.size = (2 * n + 2) * 1
        omega
      · show A.toList.take (((-1 : Int) :: List.replicate (2 * n + 1) 0).length * 1) = ((-1) :: List.replicate (2 * n + 1) 0).map (Value.int .i8)
        rw [eA, List.map_cons, List.map_replicate]
        exact List.take_of_length_le (by simp)
    · refine ⟨?_, Or.inr ⟨b, n + 1, B, ?_, Nat.zero_le _, hB, ?_, by unfold maxLen; omega, ?_, ?_⟩⟩
      · show ((List.replicate (n + 1) ((0 : Nat), some 0)).flatMap givF).length = (List.replicate (n + 1) ((0 : Nat), some 0)).length * 2
        exact fm_len givF 2 (fun _ => rfl) _
      · show Value.slice _ _ _ = .slice _ (List.replicate (n + 1) ((0 : Nat), some 0)).length _
        simp
      · show (List.replicate (n + 1) ((0 : Nat), some 0)).length ≤ _
        simp
      · show B.size = (n + 1) * 2
        exact hBs
      · show B.toList.take ((List.replicate (n + 1) ((0 : Nat), some 0)).length * 2) = (List.replicate (n + 1) ((0 : Nat), some 0)).flatMap givF
        rw [List.length_replicate, List.take_of_length_le (by rw [Array.length_toList, hBs]; exact Nat.le_refl _), eB, List.flatMap_def, List.map_replicate]
        rfl
    · refine ⟨?_, Or.inr ⟨c, 2 * n + 2, C, ?_, Nat.zero_le _, hC, ?_, by unfold maxLen; omega, ?_, ?_⟩⟩
      · show ((List.range (es0 n).wat.length).map fun i => p0 n a b c (i + 12)).length = (es0 n).wat.length * 1
        simp
      · show Value.slice _ _ _ = .slice _ (es0 n).wat.length _
        rw [hwl]
      · show (es0 n).wat.length ≤ _
        omega
      · show C.size = (2 * n + 2) * 1
        omega
      · show C.toList.take ((es0 n).wat.length * 1) = (List.range (es0 n).wat.length).map fun i => p0 n a b c (i + 12)
        rw [eC, hwl, List.take_of_length_le (by simp)]
        refine List.ext_getElem? fun i => ?_
        rw [List.getElem?_replicate, List.getElem?_map]
        by_cases h : i < 2 * n + 2
        · rw [if_pos h, List.getElem?_range h]
          show _ = some (p0 n a b c (i + 12))
          rw [p0_other (by omega) (by omega) (by omega)]
        · rw [if_neg h, List.getElem?_eq_none (by simp; omega)]
          rfl
    · exact World.ownsRow_nil _ _ _ _
    · exact World.ownsRow_nil _ _ _ _
    · exact World.ownsRow_nil _ _ _ _
    · obtain ⟨k, rfl⟩ : ∃ k, i = k + 12 := ⟨i - 12, by omega⟩
      rw [p0_other (by omega) (by omega) (by omega)]
      have e1 : nR (es0 n) (k + 12) = 0 := by show ((es0 n).watch k).length = 0; rw [hwt]; rfl
      have e2 : lR (es0 n) (p0 n a b c) (k + 12) = [] := by show ((es0 n).watch k).flatMap watF = []; rw [hwt]; rfl
      rw [e1, e2]
      exact World.ownsRow_nil _ _ _ _
  · by_cases h3 : i = 3
    · subst h3; injection hk with hk; exact Or.inl hk.symm
    · by_cases h4 : i = 4
      · subst h4; injection hk with hk; exact Or.inr (Or.inl hk.symm)
      · by_cases h5 : i = 5
        · subst h5; injection hk with hk; exact Or.inr (Or.inr (Or.inl hk.symm))
        · rw [p0_other h3 h4 h5] at hk; cases hk
  · by_cases hi3 : i = 3 ∨ i = 4 ∨ i = 5
    · by_cases hj3 : j = 3 ∨ j = 4 ∨ j = 5
      · right
        have k3 : (p0 n a b c 3).ownBlock = some a := rfl
        have k4 : (p0 n a b c 4).ownBlock = some b := rfl
        have k5 : (p0 n a b c 5).ownBlock = some c := rfl
        rcases hi3 with rfl | rfl | rfl <;> rcases hj3 with rfl | rfl | rfl <;> first | exact absurd rfl hij | (simp only [k3, k4, k5]; intro e; injection e with e; first | exact hab e | exact hac e | exact hbc e | exact hab e.symm | exact hac e.symm | exact hbc e.symm)
      · right
        rw [p0_other (i := j) (by omega) (by omega) (by omega)]
        rcases hi3 with rfl | rfl | rfl <;> (intro e; cases e)
    · left
      rw [p0_other (by omega) (by omega) (by omega)]
      rfl
theorem at_0 (w : World) (b c d : Obj) (cs : Array Value) {t : TypeId} : ((((w.alloc (.cells cs t)).alloc b).alloc c).alloc d).drew.heap[w.heap.size]? = some (.cells cs t (0, 0)) := by
  show ((((w.alloc (.cells cs t)).alloc b).alloc c).alloc d).heap[w.heap.size]? = _
  rw [Below.heap_alloc _ _ _ (by simp; omega), Below.heap_alloc _ _ _ (by simp; omega), Below.heap_alloc _ _ _ (by simp)]
  exact heap_alloc_at _ _
theorem at_1 (w : World) (a c d : Obj) (cs : Array Value) {t : TypeId} : ((((w.alloc a).alloc (.cells cs t)).alloc c).alloc d).drew.heap[w.heap.size + 1]? = some (.cells cs t (0, 0)) := by
  show ((((w.alloc a).alloc (.cells cs t)).alloc c).alloc d).heap[w.heap.size + 1]? = _
  rw [Below.heap_alloc _ _ _ (by simp), Below.heap_alloc _ _ _ (by simp)]
  have := heap_alloc_at (w.alloc a) (Obj.cells cs t)
  rw [sz1] at this
  exact this
theorem at_2 (w : World) (a b d : Obj) (cs : Array Value) {t : TypeId} : ((((w.alloc a).alloc b).alloc (.cells cs t)).alloc d).drew.heap[w.heap.size + 1 + 1]? = some (.cells cs t (0, 0)) := by
  show ((((w.alloc a).alloc b).alloc (.cells cs t)).alloc d).heap[w.heap.size + 1 + 1]? = _
  rw [Below.heap_alloc _ _ _ (by simp)]
  have := heap_alloc_at ((w.alloc a).alloc b) (Obj.cells cs t)
  rw [sz1, sz1] at this
  exact this
end Go.Proofs.Ytfpmacnbfbcjgaa
