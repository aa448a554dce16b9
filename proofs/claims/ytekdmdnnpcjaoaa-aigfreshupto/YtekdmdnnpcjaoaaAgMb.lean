import Derived.Test.YtekdmdnnpcjaoaaAgMa
namespace Go.Proofs.Ytekdmdnnpcjaoaa
open Go.ChangeShapes Go.WideShapes Go.ChangeAt Go.RowKit Go.Lib Go.Ag Go.WideMaps Go.Maps Go.ChangeMaps Go.Cn

def rowB (bs : List Bool) (q : Nat) : List Bool := (List.range q).map fun i => bs.getD i false
theorem rowB_at (bs : List Bool) (q j : Nat) : (rowB bs q).getD j false = if j < q then bs.getD j false else false := by
  unfold rowB
  rw [List.getD_eq_getElem?_getD, List.getElem?_map]
  by_cases h : j < q
  · rw [List.getElem?_range h, if_pos h]; rfl
  · rw [List.getElem?_eq_none (by simp; omega), if_neg h]; rfl
theorem rowB_len (bs : List Bool) (q : Nat) : (rowB bs q).length = q := by unfold rowB; simp
set_option maxHeartbeats 4000000 in
theorem fit_any (w : World) {B R : Nat} {ns : Nds} {nb : Nat} {vb vg : Value} {M : Option Nat} {D : DataW Unit} (h : GM w B R ns nb vb vg M D) (ai : Option Addr) (bs : List Bool) (ci : Nat) (hbs : Bls w ai bs) (hn : bs.length ≤ 1000000000000) :
    Calls Try.prog 7 #[.pointer (some ⟨R, 0, none⟩), .slice ai bs.length ci] w fun e w' => ∃ O, e = .returned (.slice (some ⟨O, 0, none⟩) (inN ns) (inN ns)) ∧ Below w.heap.size w w' ∧ Bls w' (some ⟨O, 0, none⟩) (rowB bs (inN ns)) := by
  have HIn : Hid (Calls Try.prog 8 #[.pointer (some ⟨R, 0, none⟩)] w fun e w' => e = .returned (.int .i64 (inN ns : Int)) ∧ Below w.heap.size w w') := (Inputs_any w h).mono (by
    rintro e w' ⟨rfl, d, rfl⟩
    exact ⟨rfl, drw_bel _ _⟩)
  have hin : inN ns ≤ 1073741823 := Nat.le_trans (Nat.sub_le _ _) h.len
  generalize hPP : (fun (e : Ending) (w' : World) => ∃ O, e = .returned (.slice (some ⟨O, 0, none⟩) (inN ns) (inN ns)) ∧ Below w.heap.size w w' ∧ Bls w' (some ⟨O, 0, none⟩) (rowB bs (inN ns))) = PP
  have HPP : Hid (∀ O w', Below w.heap.size w w' → Bls w' (some ⟨O, 0, none⟩) (rowB bs (inN ns)) → PP (.returned (.slice (some ⟨O, 0, none⟩) (inN ns) (inN ns))) w') := fun O w' h1 h2 => by rw [← hPP]; exact ⟨O, rfl, h1, h2⟩
  have HBs : Hid (Bls w ai bs) := hbs
  clear hPP h hbs
  generalize inN ns = q at *
  generalize hmm : bs.length = m at *
  have HML : Hid (bs.length = m) := hmm
  clear hmm
  have r1 : decide ((q : Int) < 0) = false := decide_eq_false (by omega)
  have r2 : decide ((1073741824 : Int) < (q : Int)) = false := decide_eq_false (by omega)
  have r3 : decide (1073741824 < q) = false := decide_eq_false (by omega)
  obtain ⟨i2, hi2, hz2, hs2, hb2⟩ := info_parts (P := Try.prog) (e := 4) (z := .bool false) (size := 1) (bytes := 1) (by kernel_rfl)
  have eB : ∀ W : World, (Instr.makeSlice 23 (.int .i64 (q : Int)) (.int .i64 (q : Int))).run Try.prog W = .ok (.slice (some ⟨W.heap.size, 0, none⟩) q q) (W.alloc (.cells (madeCells (Value.bool false).cells (q * 1)) 4)) := fun W => by
    have := run_make (P := Try.prog) (w := W) 23 4 i2 (.bool false) Try.underlying23 hi2 hz2 .i64 .i64 (q : Int) (q : Int) (by omega) (by omega) (by rw [hb2]; omega) (by omega)
    rw [this, hs2, show ((q : Int)).toNat = q by omega]
  have HC0 : Hid ((madeCells (Value.bool false).cells (q * 1)).size = q ∧ ∀ i, i < q → (madeCells (Value.bool false).cells (q * 1))[i]? = some (.bool false)) := ⟨by rw [size_madeCells]; omega, fun i hi => made_at _ _ hi⟩
  generalize madeCells (Value.bool false).cells (q * 1) = C0 at *
  clear hi2 hz2 hs2 hb2
  go_enter Try.func7, Try.ntmps7
  go_wp2_with fail
  refine HIn.out.mono ?_
  rintro e w1 ⟨rfl, hb1⟩
  obtain ⟨O, hO⟩ : ∃ O, w1.heap.size = O := ⟨_, rfl⟩
  have hwO : w.heap.size ≤ O := by rw [← hO]; exact hb1.size
  have HO0 : Hid ((w1.alloc (.cells C0 4)).heap[O]? = some (.cells C0 4 (0, 0)) ∧ Below w1.heap.size w1 (w1.alloc (.cells C0 4))) := ⟨by rw [← hO]; exact heap_alloc_new _ _, ag_bel1 _ _⟩
  have HB1 : Hid (Below w.heap.size w w1) := hb1
  clear hb1
  go_wp2_with fail
  generalize w1.alloc (.cells C0 4) = wo at *
  go_loopg [7] q (fun gk v7 wr => ∃ j A', v7 = .int .i64 ((j : Nat) : Int) ∧ j + gk = q ∧ Aside (wr.heap[O]? = some (.cells A' 4 (0, 0))) ∧ Aside (A'.size = q) ∧ Aside (∀ i, i < q → A'[i]? = some (.bool (if i < j then bs.getD i false else false))) ∧ Aside (Below w1.heap.size w1 wr))
  case atStart => exact ⟨0, C0, rfl, by omega, HO0.out.1, HC0.out.1, fun i hi => by rw [if_neg (by omega)]; exact HC0.out.2 i hi, HO0.out.2⟩
  case round =>
    clear HO0 HC0
    obtain ⟨j, A', rfl, hj, HA, HSz, HAt, HB⟩ := hrel
    have hOl : O < wr.heap.size := (Array.getElem?_eq_some_iff.1 HA.out).1
    by_cases hlt : j < q ∧ j < m
    · have p1 : decide ((j : Int) < (q : Int)) = true := decide_eq_true (by omega)
      have p2 : decide ((j : Int) < (m : Int)) = true := decide_eq_true (by omega)
      have p3 : (j : Int) < (q : Int) := by omega
      have p4 : (j : Int) < (m : Int) := by omega
      obtain ⟨bw, ow, rfl, hbw, hcw⟩ := HBs.out (by rw [HML.out]; omega)
      have hBr : Below w.heap.size w wr := ag_next HB1.out HB.out
      have cw : wr.cell? ⟨bw, ow + j, none⟩ = some (.bool (bs.getD j false)) := (World.cell?_of_block (a := ⟨bw, ow + j, none⟩) (hBr.block bw hbw)).trans (hcw j (by rw [HML.out]; exact hlt.2))
      obtain ⟨xc, k2⟩ : ∃ xc, wr.cell? ⟨O, j, none⟩ = some xc := ⟨_, (ag_cell HA.out j).trans (HAt.out j hlt.1)⟩
      have g2 : wr.frozen? ⟨O, j, none⟩ = false := ag_fz HA.out j
      have HAt2 : Hid (∀ i, i < q → (A'.setIfInBounds j (.bool (bs.getD j false)))[i]? = some (.bool (if i < j + 1 then bs.getD i false else false))) := fun i hi => by
        by_cases e : i = j
        · subst e
          rw [Array.getElem?_setIfInBounds_self_of_lt (by rw [HSz.out]; exact hi), if_pos (by omega)]
        · rw [Array.getElem?_setIfInBounds_ne (fun e2 => e e2.symm), HAt.out i hi]
          by_cases e2 : i < j
          · rw [if_pos e2, if_pos (by omega)]
          · rw [if_neg e2, if_neg (by omega)]
      clear hcw HAt hBr
      generalize bs.getD j false = x at *
      go_wp2_with fail
      go_roundg (q - (j + 1))
      case measure => omega
      case rel => exact ⟨j + 1, _, by simp, by omega, heap_setCell_same _ O j _ _ _ HA.out, by show _ = _; rw [Array.size_setIfInBounds]; exact HSz.out, HAt2.out, by rw [← hO]; exact bel_set HB.out j _⟩
    · have HZ : Hid (PP (.returned (.slice (some ⟨O, 0, none⟩) q q)) wr) := HPP.out O wr (ag_next HB1.out HB.out) (fun _ => ⟨O, 0, rfl, hOl, fun i hi => by
        have hi2 : i < q := by rw [rowB_len] at hi; exact hi
        rw [Nat.zero_add, ag_cell HA.out i, HAt.out i hi2, rowB_at, if_pos hi2]
        by_cases e : i < j
        · rw [if_pos e]
        · have : bs.getD i false = false := by rw [List.getD_eq_getElem?_getD, List.getElem?_eq_none (by rw [HML.out]; omega)]; rfl
          rw [if_neg e, this]⟩)
      have hcase : (decide (j < q) = false ∧ decide ((j : Int) < (q : Int)) = false) ∨ (decide (j < q) = true ∧ decide ((j : Int) < (q : Int)) = true ∧ decide (j < m) = false ∧ decide ((j : Int) < (m : Int)) = false) := by
        by_cases hq : j < q
        · exact Or.inr ⟨decide_eq_true hq, decide_eq_true (by omega), decide_eq_false (by omega), decide_eq_false (by omega)⟩
        · exact Or.inl ⟨decide_eq_false hq, decide_eq_false (by omega)⟩
      clear hlt hj HA HAt HB HPP
      rcases hcase with ⟨p1, p3⟩ | ⟨p1, p3, p2, p4⟩
      all_goals go_wp2_with fail
      all_goals first | exact HZ.out | (go_ret; exact HZ.out)
end Go.Proofs.Ytekdmdnnpcjaoaa
