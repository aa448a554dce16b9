import Derived.Test.YtokpjegiinggdaaDoorForm
import Derived.Test.YtokpjegiinggdaaDoorRes
import Derived.Test.YtokpjegiinggdaaDoorMathL
namespace Go.Proofs.YtokpjegiinggdaaDoor
open Go.ChangeShapes Go.WideShapes Go.ChangeAt Go.RowKit Go.Cn

/-- clauses that are owned: a row of clauses, each a row of its own -/
structure OwnL (w : World) (B : Nat) (v : Value) (L : List Value) (cs : List (List Int)) : Prop where
  len : L.length = cs.length
  row : w.ownsRow B 40 1 v cs.length L
  each : ∀ j, j < cs.length → w.ownsRow B 3 1 (L.getD j (.slice none 0 0)) (cs.getD j []).length ((cs.getD j []).map (Value.int .i64))
theorem OwnL.nil (w : World) (B : Nat) : OwnL w B (.slice none 0 0) [] [] := ⟨rfl, World.ownsRow_nil _ _ _ _, fun j hj => absurd hj (by simp)⟩
theorem OwnL.below {w w' : World} {B : Nat} {v : Value} {L : List Value} {cs : List (List Int)} (h : OwnL w B v L cs) (hb : Below w.heap.size w w') : OwnL w' B v L cs :=
  ⟨h.len, own_below h.row hb, fun j hj => own_below (h.each j hj) hb⟩
theorem OwnL.up {w : World} {B B' : Nat} {v : Value} {L : List Value} {cs : List (List Int)} (h : OwnL w B v L cs) (hb : B' ≤ B) : OwnL w B' v L cs :=
  ⟨h.len, own_up h.row hb, fun j hj => own_up (h.each j hj) hb⟩
theorem OwnL.set {w : World} {B : Nat} {v : Value} {L : List Value} {cs : List (List Int)} (h : OwnL w B v L cs) (G k : Nat) (u : Value) {cells : Array Value} {t : TypeId} {fr : Nat × Nat} (hb : w.heap[G]? = some (.cells cells t fr)) (h1 : 40 ≠ t) (h2 : 3 ≠ t) : OwnL (w.setCell ⟨G, k, none⟩ u) B v L cs :=
  ⟨h.len, World.ownsRow.kept h.row (gb_set w ⟨G, k, none⟩ u) (Or.inr (row_ne_blk h.row hb h1)), fun j hj => World.ownsRow.kept (h.each j hj) (gb_set w ⟨G, k, none⟩ u) (Or.inr (row_ne_blk (h.each j hj) hb h2))⟩
theorem OwnL.cls {w : World} {B n c : Nat} {ad : Option Addr} {L : List Value} {cs : List (List Int)} (h : OwnL w B (.slice ad n c) L cs) : Cls w ad cs := by
  intro h0
  rcases h.row.2 with ⟨e, h1⟩ | ⟨g, cap, cur, e, hbg, hg, _⟩
  · omega
  · have hr := h.row
    cases e
    refine ⟨g, 0, rfl, (Array.getElem?_eq_some_iff.1 hg).1, fun j hj => ?_⟩
    obtain ⟨aj, cj, e2, hi⟩ := own_ints (h.each j hj)
    refine ⟨aj, cj, ?_, hi⟩
    rw [Nat.zero_add, hr.cellAt j (by omega), ← e2, List.getD_eq_getElem?_getD, List.getElem?_eq_getElem (by rw [h.len]; exact hj)]
    rfl
theorem getD_snoc_last {α : Type} (l : List α) (x d : α) : (l ++ [x]).getD l.length d = x := by
  rw [List.getD_eq_getElem?_getD, List.getElem?_append_right (Nat.le_refl _)]; simp
theorem getD_snoc_lt {α : Type} (l : List α) (x d : α) (j : Nat) (h : j < l.length) : (l ++ [x]).getD j d = l.getD j d := by
  rw [List.getD_eq_getElem?_getD, List.getElem?_append_left h, List.getD_eq_getElem?_getD]
/-- one more clause -/
theorem OwnL.snoc {w w3 : World} {B : Nat} {v v' x : Value} {L : List Value} {cs : List (List Int)} {c : List Int} (h : OwnL w B v L cs) (hx : w.ownsRow B 3 1 x c.length (c.map (Value.int .i64)))
    (hrow : w3.ownsRow B 40 1 v' (cs.length + 1) (L ++ [x])) (hg : w.grownBy w3 v.ownBlock) : OwnL w3 B v' (L ++ [x]) (cs ++ [c]) := by
  have key : ∀ {y : Value} {n : Nat} {M : List Value}, w.ownsRow B 3 1 y n M → w3.ownsRow B 3 1 y n M := by
    intro y n M hy
    refine World.ownsRow.kept hy hg ?_
    rcases h.row.2 with ⟨e, h1⟩ | ⟨g, cap, cur, e, hbg, hgg, _⟩
    · rw [e]; by_cases h0 : y.ownBlock = none
      · exact Or.inl h0
      · exact Or.inr h0
    · rw [e]; exact Or.inr (row_ne_blk hy hgg (by decide))
  refine ⟨by simp [h.len], by rw [List.length_append]; exact hrow, fun j hj => ?_⟩
  by_cases hlt : j < cs.length
  · rw [getD_snoc_lt _ _ _ j (by rw [h.len]; exact hlt), getD_snoc_lt _ _ _ j hlt]
    exact key (h.each j hlt)
  · have e : j = cs.length := by simp at hj; omega
    subst e
    rw [getD_snoc_last cs, ← h.len, getD_snoc_last L]
    exact key hx
set_option maxHeartbeats 2000000 in
theorem index_any (ad : Option Addr) (xs : List Int) (c : Nat) (l : Int) (w : World) (h : Ints w ad xs) (hl : xs.length ≤ 1000000000000000000) :
    Calls Tryd.prog 67 #[.slice ad xs.length c, .int .i64 l] w fun e w' => (∃ i : Int, e = .returned (.int .i64 i) ∧ decide (0 ≤ i) = decide (l ∈ xs)) ∧ w' = w := by
  have HI : Aside (Ints w ad xs) := h
  clear h
  generalize hr : decide (l ∈ xs) = r
  have HR : Aside (decide (l ∈ xs) = r) := hr
  clear hr
  generalize hn : xs.length = n
  have HL : Aside (xs.length = n) := hn
  rw [hn] at hl
  clear hn
  go_enter Tryd.func67, Tryd.ntmps67
  go_wp2
  go_loopg [8] n (fun gk i wr => ∃ k : Nat, i = .int .i64 k ∧ k + gk = n ∧ w = wr ∧ Aside (∀ j, j < k → xs.getD j 0 ≠ l))
  case atStart => exact ⟨0, rfl, by omega, rfl, fun j hj => absurd hj (Nat.not_lt_zero _)⟩
  case round =>
    obtain ⟨k, rfl, hk, rfl, HN⟩ := hrel
    by_cases hlt : k < n
    · obtain ⟨b, off, rfl, hb, hc⟩ := HI.out (by rw [HL.out]; omega)
      have ck := hc k (by rw [HL.out]; omega)
      obtain ⟨y, hy⟩ : ∃ y, xs.getD k 0 = y := ⟨_, rfl⟩
      rw [hy] at ck
      have HY : Aside (xs.getD k 0 = y) := hy
      clear hy hc
      have q1 : (k : Int) < (n : Int) := by omega
      by_cases hly : l = y
      · subst hly
        have HE : Aside (decide (0 ≤ (k : Int)) = r) := by
          show _ = r
          rw [← HR.out]
          have h1 : l ∈ xs := by rw [← HY.out]; exact getD_mem (by rw [HL.out]; exact hlt)
          simp [h1]
        go_wp2
        go_ret
        exact ⟨⟨_, rfl, HE.out⟩, rfl⟩
      · have HN2 : Aside (∀ j, j < k + 1 → xs.getD j 0 ≠ l) := by
          intro j hj
          by_cases h1 : j < k
          · exact HN.out j h1
          · have : j = k := by omega
            subst this
            rw [HY.out]; exact fun e => hly e.symm
        go_wp2
        go_roundg (gk - 1)
        case measure => omega
        case rel => exact ⟨k + 1, by simp, by omega, rfl, HN2⟩
    · obtain rfl : k = n := by omega
      have HE : Aside (decide (0 ≤ (-1 : Int)) = r) := by
        show _ = r
        rw [← HR.out]
        have h1 : l ∉ xs := by
          intro hm
          obtain ⟨i, hi, e⟩ := mem_getD hm
          exact HN.out i (by rw [← HL.out]; exact hi) e
        simp [h1]
      go_wp2
      go_ret
      exact ⟨⟨_, rfl, HE.out⟩, rfl⟩
theorem contains_any (ad : Option Addr) (xs : List Int) (c : Nat) (l : Int) (w : World) (h : Ints w ad xs) (hl : xs.length ≤ 1000000000000000000) :
    Calls Tryd.prog 41 #[.slice ad xs.length c, .int .i64 l] w fun e w' => e = .returned (.bool (decide (l ∈ xs))) ∧ w' = w := by
  have H : Hid (Calls Tryd.prog 67 #[.slice ad xs.length c, .int .i64 l] w fun e w' => (∃ i : Int, e = .returned (.int .i64 i) ∧ decide (0 ≤ i) = decide (l ∈ xs)) ∧ w' = w) := index_any ad xs c l w h hl
  clear h hl
  generalize decide (l ∈ xs) = r at *
  generalize xs.length = n at *
  go_enter Tryd.func41, Tryd.ntmps41
  go_wp2_with fail
  refine H.out.mono ?_
  rintro e w' ⟨⟨i, rfl, hi⟩, hw⟩
  obtain rfl := hw.symm
  have HE : Aside (decide (0 ≤ i) = r) := hi
  clear hi
  go_wp2
  go_ret
  exact ⟨ret_bool HE.out, rfl⟩
end Go.Proofs.YtokpjegiinggdaaDoor
