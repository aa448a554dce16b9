import Derived.Test.YtokpjegiinggdaaDoorSetR
import Derived.Test.YtokpjegiinggdaaDoorMathL
namespace Go.Proofs.YtokpjegiinggdaaDoor
open Go.ChangeShapes Go.WideShapes Go.ChangeAt Go.RowKit Go.Cn

/-- an assignment of all variables, in memory of its own -/
def RowPost (n : Nat) (w : World) : Ending → World → Prop := fun e w' =>
  ∃ (g : Nat) (ms : List Int), e = .returned (.slice (some ⟨g, 0, none⟩) n n) ∧ ms.length = n ∧ (∀ x ∈ ms, x = 1 ∨ x = -1) ∧ w'.ownsRow w.heap.size 43 1 (.slice (some ⟨g, 0, none⟩) n n) n (ms.map (Value.int .i8)) ∧ Below w.heap.size w w'
theorem set_pm {ms : List Int} {k : Nat} {y : Int} (hy : y = 1 ∨ y = -1) (hk : k < ms.length) (h : ∀ j, j < k → ms.getD j 0 = 1 ∨ ms.getD j 0 = -1) : ∀ j, j < k + 1 → (ms.set k y).getD j 0 = 1 ∨ (ms.set k y).getD j 0 = -1 := by
  intro j hj
  rw [List.getD_eq_getElem?_getD, List.getElem?_set]
  by_cases e : k = j
  · subst e
    rw [if_pos rfl, if_pos hk]
    exact hy
  · rw [if_neg e, ← List.getD_eq_getElem?_getD]
    exact h j (by omega)
theorem all_pm {ms : List Int} (h : ∀ j, j < ms.length → ms.getD j 0 = 1 ∨ ms.getD j 0 = -1) : ∀ x ∈ ms, x = 1 ∨ x = -1 := by
  intro x hx
  obtain ⟨j, hj, e⟩ := List.getElem_of_mem hx
  have := h j hj
  rw [List.getD_eq_getElem?_getD, List.getElem?_eq_getElem hj] at this
  rw [← e]
  exact this
set_option maxHeartbeats 4000000 in
set_option maxRecDepth 100000 in
theorem row_any (n : Nat) (bits : Int) (w : World) (hn : n ≤ 1048576) :
    Calls Tryd.prog 14 #[.int .i64 n, .int .u64 bits] w (RowPost n w) := by
  obtain ⟨i0, hi, hz0, hz1, hz2⟩ := info_parts (P := Tryd.prog) (e := 43) (z := .int .i8 0) (size := 1) (bytes := 1) (by kernel_rfl)
  generalize hpp : RowPost n w = PP
  have HPP : Hid (∀ e w', RowPost n w e w' → PP e w') := fun e w' hh => by rw [← hpp]; exact hh
  clear hpp
  go_enter Tryd.func14, Tryd.ntmps14
  go_wp2_with (at_make; refine wpList_make_full _ rfl _ _ 41 rfl w.heap.size 43 i0 (.int .i8 0) 1 Tryd.underlying41 hi hz0 hz1 .i64 .i64 _ _ n rfl rfl rfl rfl (by rw [hz2]; omega) (by unfold maxLen; omega) (Nat.le_refl _) ?_; intro w1 hown1 hgrow1; have HB1 : Aside (Below w.heap.size w w1) := (Below.refl _ _).grown hgrow1 (Nat.le_refl _) (fun k hk => by cases hk); have HO1 : Aside (w1.ownsRow w.heap.size 43 1 (.slice (some ⟨w.heap.size, 0, none⟩) n n) n ((List.replicate n (0 : Int)).map (Value.int .i8))) := (by rw [List.map_replicate]; have e : (madeCells (Value.int .i8 0).cells (n * 1)).toList = List.replicate n (Value.int .i8 0) := (by rw [Nat.mul_one]; exact toList_madeCells_one _ _); rw [← e]; exact hown1); clear hown1 hgrow1)
  generalize hG : w.heap.size = G at *
  have HG : Hid (w.heap.size = G) := hG
  clear hG
  go_loopg [6] n (fun gk i wr => ∃ (k : Nat) (ms : List Int), i = .int .i64 k ∧ k + gk = n ∧ ms.length = n ∧ Aside (∀ j, j < k → ms.getD j 0 = 1 ∨ ms.getD j 0 = -1) ∧ Aside (wr.ownsRow G 43 1 (.slice (some ⟨G, 0, none⟩) n n) n (ms.map (Value.int .i8))) ∧ Aside (Below G w wr))
  case atStart => exact ⟨0, List.replicate n 0, rfl, by omega, by simp, fun j hj => absurd hj (Nat.not_lt_zero _), HO1, HB1⟩
  case round =>
    obtain ⟨k, ms, rfl, hk, hl, HM, HO, HB⟩ := hrel
    by_cases hlt : k < n
    · have ck := HO.out.cellAt k (by omega)
      have f1 := HO.out.frozenAt k
      rw [List.getElem?_map, List.getElem?_eq_getElem (by omega)] at ck
      generalize ms[k] = y0 at ck
      have q1 : (k : Int) < (n : Int) := by omega
      have hgb : ∀ u, Below G w (wr.setCell ⟨G, k, none⟩ u) := fun u => HB.out.setCell (Nat.le_refl _) u
      have HA1 : Aside ((wr.setCell ⟨G, k, none⟩ (.int .i8 (-1))).ownsRow G 43 1 (.slice (some ⟨G, 0, none⟩) n n) n ((ms.set k (-1)).map (Value.int .i8)) ∧ Below G w (wr.setCell ⟨G, k, none⟩ (.int .i8 (-1)))) := ⟨by rw [List.map_set]; exact (HO.out.stored k _).1, hgb _⟩
      have HA : Aside (((wr.setCell ⟨G, k, none⟩ (.int .i8 (-1))).setCell ⟨G, k, none⟩ (.int .i8 1)).ownsRow G 43 1 (.slice (some ⟨G, 0, none⟩) n n) n (((ms.set k (-1)).set k 1).map (Value.int .i8)) ∧ Below G w ((wr.setCell ⟨G, k, none⟩ (.int .i8 (-1))).setCell ⟨G, k, none⟩ (.int .i8 1))) := ⟨by rw [List.map_set]; exact (HA1.out.1.stored k _).1, HA1.out.2.setCell (Nat.le_refl _) _⟩
      have HM1 : Aside (∀ j, j < k + 1 → (ms.set k (-1)).getD j 0 = 1 ∨ (ms.set k (-1)).getD j 0 = -1) := set_pm (Or.inr rfl) (by omega) HM.out
      have HM2 : Aside (∀ j, j < k + 1 → ((ms.set k (-1)).set k 1).getD j 0 = 1 ∨ ((ms.set k (-1)).set k 1).getD j 0 = -1) := set_pm (Or.inl rfl) (by simp; omega) (fun j hj => HM1.out j (by omega))
      clear hgb
      by_cases h64 : k < 64
      · have h6 : (k : Int) < 64 := by omega
        have f2 : (wr.setCell ⟨G, k, none⟩ (.int .i8 (-1))).frozen? ⟨G, k, none⟩ = false := HA1.out.1.frozenAt k
        by_cases ht : (Go.bits BinOp.and IntKind.u64 (bits / 2 ^ k) 1 == 1) = true
        · go_wp2
          go_roundg (gk - 1)
          case measure => omega
          case rel => exact ⟨k + 1, _, by simp, by omega, by simp; exact hl, HM2, HA.out.1, HA.out.2⟩
        · have ht2 : (Go.bits BinOp.and IntKind.u64 (bits / 2 ^ k) 1 == 1) = false := by simpa using ht
          go_wp2
          go_roundg (gk - 1)
          case measure => omega
          case rel => exact ⟨k + 1, _, by simp, by omega, by simp; exact hl, HM1, HA1.out.1, HA1.out.2⟩
      · have h6 : ¬ (k : Int) < 64 := by omega
        go_wp2
        go_roundg (gk - 1)
        case measure => omega
        case rel => exact ⟨k + 1, _, by simp, by omega, by simp; exact hl, HM1, HA1.out.1, HA1.out.2⟩
    · obtain rfl : k = n := by omega
      go_wp2
      exact HPP.out _ _ ⟨G, ms, rfl, hl, all_pm (by rw [hl]; exact HM.out), by rw [HG.out]; exact HO.out, by rw [HG.out]; exact HB.out⟩
end Go.Proofs.YtokpjegiinggdaaDoor
