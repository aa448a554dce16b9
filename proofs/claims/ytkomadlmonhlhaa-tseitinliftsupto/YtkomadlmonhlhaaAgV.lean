import Derived.Test.YtkomadlmonhlhaaAgU
namespace Go.Proofs.Ytkomadlmonhlhaa
open Go.ChangeShapes Go.WideShapes Go.ChangeAt Go.RowKit Go.Lib Go.Ag Go.WideMaps Go.Maps Go.ChangeMaps Go.Cn

theorem TB.over {w w' : World} {tp t : TypeId} {z : Value} {lo P n : Nat} {pg : Nat → Option Nat} {f : Nat → Value} (h : TB w tp t z lo P n pg f) (hb : Below w.heap.size w w') : TB w' tp t z lo P n pg f := by
  obtain ⟨cs, hc, hcs, hck⟩ := h.blk
  refine ⟨⟨cs, (hb.block P (Array.getElem?_eq_some_iff.1 hc).1).trans hc, hcs, hck⟩, h.low, fun k b hk hp => ?_, h.void, h.inj⟩
  obtain ⟨h1, h2, row, h3, h4⟩ := h.page k b hk hp
  exact ⟨h1, h2, row, (hb.block b (Array.getElem?_eq_some_iff.1 h3).1).trans h3, h4⟩
/-- the first operand that was not met yet -/
def unmN (ns : Nds) (mt : Nat → Bool) (n : Nat) : Nat := match nodK ns n with
  | (2, (a, b)) => if mt (a / 2) = false then a / 2 else if mt (b / 2) = false then b / 2 else 0
  | _ => 0
theorem nodK_le {w : World} {B R : Nat} {ns : Nds} {nb : Nat} {vb vg : Value} {M : Option Nat} {D : DataW Unit} (h : GM w B R ns nb vb vg M D) {n a b : Nat} (hk : nodK ns n = (2, (a, b))) : 0 < n ∧ n ≤ ns.length ∧ a / 2 < n ∧ b / 2 < n ∧ a < 4294967296 ∧ b < 4294967296 := by
  unfold nodK at hk
  split at hk
  · cases hk
  · rename_i hn
    split at hk
    · cases hk
    · rename_i g hg
      cases hk
      have hlt : n - 1 < ns.length := by
        by_cases e : n - 1 < ns.length
        · exact e
        · rw [List.getD_eq_getElem?_getD, List.getElem?_eq_none (by omega)] at hg
          cases hg
      rw [List.getD_eq_getElem?_getD, List.getElem?_eq_getElem hlt] at hg
      have h5 := h.ops (n - 1) (a, b) (by rw [List.getElem?_eq_getElem hlt]; exact congrArg some hg)
      exact ⟨by omega, by omega, by have := h5.1; simp at this; omega, by have := h5.2.1; simp at this; omega, h5.2.2.1, h5.2.2.2⟩
set_option maxHeartbeats 4000000 in
set_option maxRecDepth 100000 in
theorem unmet_any (w : World) {B R : Nat} {ns : Nds} {nb : Nat} {vb vg : Value} {M : Option Nat} {D : DataW Unit} (h : GM w B R ns nb vb vg M D) {lo P nt : Nat} {pg : Nat → Option Nat} {mt : Nat → Bool} (ht : TB w 49 4 (.bool false) lo P nt pg (fun i => .bool (mt i))) (n : Nat) (hn : n ≤ ns.length) (hnt : n / 1024 < nt) :
    Calls Try.prog 86 #[.pointer (some ⟨R, 0, none⟩), .int .i64 (n : Int), .agg #[.slice (some ⟨P, 0, none⟩) nt nt]] w fun e w' => e = .returned (.int .i64 (unmN ns mt n : Int)) ∧ Below w.heap.size w w' := by
  have HN : Hid (∀ W, Below w.heap.size w W → Calls Try.prog 66 #[.pointer (some ⟨R, 0, none⟩), .int .i64 (n : Int)] W fun e w' => e = .returned (.tuple #[.int .i64 ((nodK ns n).1 : Int), .agg #[.int .u32 ((nodK ns n).2.1 : Int), .int .u32 ((nodK ns n).2.2 : Int)]]) ∧ Below W.heap.size W w') := fun W hW => node_any W (h.over hW) n hn
  have HO : Hid (∀ W l, Below w.heap.size w W → l < 4294967296 → l / 2 / 1024 < nt → Calls Try.prog 85 #[.agg #[.slice (some ⟨P, 0, none⟩) nt nt], .int .u32 (l : Int)] W fun e w' => e = .returned (.bool (mt (l / 2))) ∧ Below W.heap.size W w') := fun W l hW hl hl2 => ofB_any W (ht.over hW) l hl hl2
  have HNO : Hid (∀ (l : Nat) W, l < 4294967296 → Calls Try.prog 74 #[.int .u32 (l : Int)] W fun e w' => e = .returned (.int .i64 ((l / 2 : Nat) : Int)) ∧ w' = W) := fun l W h => nodeOf_any l h W
  have HH : Hid (GM w B R ns nb vb vg M D) := h
  clear h ht
  go_enter Try.func86, Try.ntmps86
  go_wp2_with fail
  refine (HN.out _ (ag_bel1 _ _)).mono ?_
  rintro e w2 ⟨rfl, hb2⟩
  have HB2 : Hid (Below w.heap.size w w2 ∧ w2.heap[w.heap.size]? = some (.cells #[.slice (some ⟨P, 0, none⟩) nt nt] 157 (0, 0))) := ⟨ag_next (ag_bel1 _ _) hb2, (hb2.block _ (by simp)).trans (heap_alloc_new _ _)⟩
  have m0 : w2.cell? ⟨w.heap.size, 0, none⟩ = some (.slice (some ⟨P, 0, none⟩) nt nt) := ag_cell HB2.out.2 0
  have hsz : w.heap.size < w2.heap.size := (Array.getElem?_eq_some_iff.1 HB2.out.2).1
  clear hb2 HN
  have HU : Hid (unmN ns mt n = match nodK ns n with
    | (2, (a, b)) => if mt (a / 2) = false then a / 2 else if mt (b / 2) = false then b / 2 else 0
    | _ => 0) := rfl
  have HK : Hid (∀ a b, nodK ns n = (2, (a, b)) → 0 < n ∧ n ≤ ns.length ∧ a / 2 < n ∧ b / 2 < n ∧ a < 4294967296 ∧ b < 4294967296) := fun a b hk => nodK_le HH.out hk
  generalize nodK ns n = NK at *
  obtain ⟨kd, a, b⟩ := NK
  by_cases hkd : kd = 2
  · subst hkd
    have hab := HK.out a b rfl
    have HBa : Hid (∀ o, Below w.heap.size w (w2.alloc o)) := fun o => ag_next HB2.out.1 (ag_bel1 _ _)
    go_wp2_with fail
    have HA2 : Hid (Below w.heap.size w (w2.alloc (.cells #[.int .u32 (a : Int), .int .u32 (b : Int)] 96)) ∧ (w2.alloc (.cells #[.int .u32 (a : Int), .int .u32 (b : Int)] 96)).heap[w2.heap.size]? = some (.cells #[.int .u32 (a : Int), .int .u32 (b : Int)] 96 (0, 0)) ∧ (w2.alloc (.cells #[.int .u32 (a : Int), .int .u32 (b : Int)] 96)).heap[w.heap.size]? = some (.cells #[.slice (some ⟨P, 0, none⟩) nt nt] 157 (0, 0))) := ⟨HBa.out _, heap_alloc_new _ _, (Below.heap_alloc _ _ _ hsz).trans HB2.out.2⟩
    generalize w2.alloc (.cells #[.int .u32 (a : Int), .int .u32 (b : Int)] 96) = w3 at *
    generalize w2.heap.size = gb at *
    refine (HO.out w3 a HA2.out.1 (by omega) (by omega)).mono ?_
    rintro e w4 ⟨rfl, hb4⟩
    have HA4 : Hid (Below w.heap.size w w4 ∧ w4.heap[gb]? = some (.cells #[.int .u32 (a : Int), .int .u32 (b : Int)] 96 (0, 0)) ∧ w4.heap[w.heap.size]? = some (.cells #[.slice (some ⟨P, 0, none⟩) nt nt] 157 (0, 0))) := ⟨ag_next HA2.out.1 hb4, (hb4.block _ (Array.getElem?_eq_some_iff.1 HA2.out.2.1).1).trans HA2.out.2.1, (hb4.block _ (Array.getElem?_eq_some_iff.1 HA2.out.2.2).1).trans HA2.out.2.2⟩
    clear hb4 HA2 HBa m0 hsz HB2
    have m0 : w4.cell? ⟨w.heap.size, 0, none⟩ = some (.slice (some ⟨P, 0, none⟩) nt nt) := ag_cell HA4.out.2.2 0
    have g0 : w4.cell? ⟨gb, 0, none⟩ = some (.int .u32 (a : Int)) := ag_cell HA4.out.2.1 0
    have g1 : w4.cell? ⟨gb, 1, none⟩ = some (.int .u32 (b : Int)) := ag_cell HA4.out.2.1 1
    cases hma : mt (a / 2) with
    | false =>
      have HU2 : Hid (unmN ns mt n = a / 2) := by
        show _ = _
        rw [HU.out]
        show (if mt (a / 2) = false then a / 2 else _) = _
        rw [if_pos hma]
      go_wp2_with fail
      refine (HNO.out a _ (by omega)).mono ?_
      rintro e w5 ⟨rfl, hw5⟩; subst w5
      go_wp2_with fail
      go_ret
      exact ⟨by rw [HU2.out]; exact ag_reti (by omega), HA4.out.1⟩
    | true =>
      go_wp2_with fail
      refine (HO.out w4 b HA4.out.1 (by omega) (by omega)).mono ?_
      rintro e w5 ⟨rfl, hb5⟩
      have HA5 : Hid (Below w.heap.size w w5 ∧ w5.heap[gb]? = some (.cells #[.int .u32 (a : Int), .int .u32 (b : Int)] 96 (0, 0))) := ⟨ag_next HA4.out.1 hb5, (hb5.block _ (Array.getElem?_eq_some_iff.1 HA4.out.2.1).1).trans HA4.out.2.1⟩
      clear hb5 HA4 m0 g0 g1
      have g1 : w5.cell? ⟨gb, 1, none⟩ = some (.int .u32 (b : Int)) := ag_cell HA5.out.2 1
      have HU3 : Hid (unmN ns mt n = if mt (b / 2) = false then b / 2 else 0) := by
        show _ = _
        rw [HU.out]
        show (if mt (a / 2) = false then a / 2 else _) = _
        rw [if_neg (by rw [hma]; decide)]
      cases hmb : mt (b / 2) with
      | false =>
        go_wp2_with fail
        refine (HNO.out b _ (by omega)).mono ?_
        rintro e w6 ⟨rfl, hw6⟩; subst w6
        go_wp2_with fail
        go_ret
        exact ⟨by rw [HU3.out, if_pos hmb]; exact ag_reti (by omega), HA5.out.1⟩
      | true =>
        go_wp2_with fail
        go_ret
        exact ⟨by rw [HU3.out, if_neg (by rw [hmb]; decide)]; rfl, HA5.out.1⟩
  · have q2 : ((kd : Int) == 2) = false := by simp; omega
    have q3 : ((kd : Int) != 2) = true := by simp; omega
    have HU2 : Hid (unmN ns mt n = 0) := by
      show _ = _
      rw [HU.out]
      split
      · rename_i h; cases h; exact absurd rfl hkd
      · rfl
    go_wp2_with fail
    go_ret
    exact ⟨by rw [HU2.out]; rfl, ag_next HB2.out.1 (ag_bel1 _ _)⟩
end Go.Proofs.Ytkomadlmonhlhaa
