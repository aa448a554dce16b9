import Derived.Test.YtekdmdnnpcjaoaaAgNc
import Derived.Test.YtekdmdnnpcjaoaaAgO
namespace Go.Proofs.Ytekdmdnnpcjaoaa
open Go.ChangeShapes Go.WideShapes Go.ChangeAt Go.RowKit Go.Lib Go.Ag Go.WideMaps Go.Maps Go.ChangeMaps Go.Cn

theorem MDS.below {w w' : World} {ad : Option Addr} {sc : List (Int × Int × Int × Int)} (h : MDS w ad sc) (hb : Below w.heap.size w w') : MDS w' ad sc := fun h0 => by
  obtain ⟨b, off, e, hlt, hc⟩ := h h0
  refine ⟨b, off, e, Nat.lt_of_lt_of_le hlt hb.size, fun j hj => ?_⟩
  have k := hb.block b hlt
  obtain ⟨c0, c1, c2, c3⟩ := hc j hj
  exact ⟨(World.cell?_of_block (a := ⟨b, off + j * 4, none⟩) k).trans c0, (World.cell?_of_block (a := ⟨b, off + j * 4 + 1, none⟩) k).trans c1, (World.cell?_of_block (a := ⟨b, off + j * 4 + 2, none⟩) k).trans c2, (World.cell?_of_block (a := ⟨b, off + j * 4 + 3, none⟩) k).trans c3⟩
/-- a new graph of a list of makings -/
def bdM (sc : List (Int × Int × Int × Int)) : Prop := ∀ s ∈ sc, (-9223372036854775808 ≤ s.2.1 ∧ s.2.1 ≤ 9223372036854775807) ∧ (-9223372036854775808 ≤ s.2.2.1 ∧ s.2.2.1 ≤ 9223372036854775807) ∧ (-9223372036854775808 ≤ s.2.2.2 ∧ s.2.2.2 ≤ 9223372036854775807)
theorem made_new (w w2 : World) (B : Nat) (hB : w.heap.size = B) (hg : GM w2 B B [] 0 (.slice none 0 0) (.slice none 0 0) none (.map [])) (hb : Below B w w2) (hlt : B < w2.heap.size) (ad : Option Addr) (sc : List (Int × Int × Int × Int)) (cp : Nat) (hsc : MDS w ad sc) (hbd : bdM sc) (hn : sc.length ≤ 1048576) :
    Calls Try.prog 6 #[.pointer (some ⟨B, 0, none⟩), .slice ad sc.length cp] w2 fun e w' => ∃ ns L aL cL nb vb vg M D, e = .returned (.tuple #[.slice aL L.length cL, .bool true]) ∧ madeN [] [0] sc = some (ns, L) ∧ MI ns L sc.length ∧ GM w' B B ns nb vb vg M D ∧ Below B w w' ∧ B ≤ w'.heap.size ∧ U32s w' aL L := by
  have hsc2 : MDS w2 ad sc := hsc.below (by rw [hB]; exact hb)
  refine (made_any w2 hg (by omega) ad sc cp hsc2 hbd (fun h0 b off e => ?_) hn).mono ?_
  · intro e2
    obtain ⟨b', off', e3, hlt', _⟩ := hsc h0
    rw [e3] at e
    cases e
    rcases e2 with e2 | e2 | e2 | e2
    · omega
    · cases e2
    · cases e2
    · cases e2
  · rintro e w3 ⟨ns, L, vL, rfl, h1, h2, h3⟩
    obtain ⟨aL, cL, rfl, _, _⟩ := row_form h3.row
    obtain ⟨nb, vb, vg, M, D, h4, h5⟩ := h3.gp
    exact ⟨ns, L, aL, cL, nb, vb, vg, M, D, rfl, h1, h2, h4, gk_bel hb hlt h5, h3.hB, u32s_of h3.row⟩
/-- the values on their way -/
structure FILL (w6 : World) (I1 I2 : Nat) (ws : List Nat) (t q j : Nat) (w : World) : Prop where
  a : ∃ A, w.heap[I1]? = some (.cells A 43 (0, 0)) ∧ A.size = q ∧ ∀ i, i < q → A[i]? = some (.int .u64 ((if i < j then ws.getD i 0 else 0 : Nat) : Int))
  c : ∃ C, w.heap[I2]? = some (.cells C 4 (0, 0)) ∧ C.size = q ∧ ∀ i, i < q → C[i]? = some (.bool (if i < j then (ws.getD i 0).testBit t else false))
  bel : Below w6.heap.size w6 w
  i1 : w6.heap.size ≤ I1
  i2 : w6.heap.size ≤ I2
  ne : I1 ≠ I2
theorem FILL.step {w6 : World} {I1 I2 : Nat} {ws : List Nat} {t q j : Nat} {w : World} (h : FILL w6 I1 I2 ws t q j w) (hj : j < q) :
    FILL w6 I1 I2 ws t q (j + 1) ((w.setCell ⟨I1, j, none⟩ (.int .u64 ((ws.getD j 0 : Nat) : Int))).setCell ⟨I2, j, none⟩ (.bool ((ws.getD j 0).testBit t))) := by
  obtain ⟨A, hA, hAs, hAt⟩ := h.a
  obtain ⟨C, hC, hCs, hCt⟩ := h.c
  have hn := h.ne
  have h1 := h.i1
  have h2 := h.i2
  refine ⟨⟨A.setIfInBounds j (.int .u64 ((ws.getD j 0 : Nat) : Int)), ?_, by simpa using hAs, fun i hi => ?_⟩, ⟨C.setIfInBounds j (.bool ((ws.getD j 0).testBit t)), ?_, by simpa using hCs, fun i hi => ?_⟩, ?_, h1, h2, hn⟩
  · rw [heap_setCell_other _ _ _ _ hn]
    exact heap_setCell_same _ I1 j _ _ _ hA
  · by_cases e : i = j
    · subst e
      rw [Array.getElem?_setIfInBounds_self_of_lt (by omega), if_pos (by omega)]
    · rw [Array.getElem?_setIfInBounds_ne (fun e2 => e e2.symm), hAt i hi]
      by_cases e2 : i < j
      · rw [if_pos e2, if_pos (by omega)]
      · rw [if_neg e2, if_neg (by omega)]
  · refine heap_setCell_same _ I2 j _ _ _ ?_
    rw [heap_setCell_other _ _ _ _ (fun e => hn e.symm)]
    exact hC
  · by_cases e : i = j
    · subst e
      rw [Array.getElem?_setIfInBounds_self_of_lt (by omega), if_pos (by omega)]
    · rw [Array.getElem?_setIfInBounds_ne (fun e2 => e e2.symm), hCt i hi]
      by_cases e2 : i < j
      · rw [if_pos e2, if_pos (by omega)]
      · rw [if_neg e2, if_neg (by omega)]
  · refine ⟨h.bel.os, h.bel.tape, h.bel.output, by simpa using h.bel.size, fun x hx => ?_⟩
    rw [heap_setCell_other _ _ _ _ (fun e => by have e' : x = I2 := e; omega), heap_setCell_other _ _ _ _ (fun e => by have e' : x = I1 := e; omega)]
    exact h.bel.block x hx
def inL (ws : List Nat) (q : Nat) : List Nat := (List.range q).map fun i => ws.getD i 0
def rowL (ws : List Nat) (t q : Nat) : List Bool := (List.range q).map fun i => (ws.getD i 0).testBit t
theorem inL_at (ws : List Nat) (q j : Nat) : (inL ws q).getD j 0 = if j < q then ws.getD j 0 else 0 := by
  unfold inL
  rw [List.getD_eq_getElem?_getD, List.getElem?_map]
  by_cases h : j < q
  · rw [List.getElem?_range h, if_pos h]; rfl
  · rw [List.getElem?_eq_none (by simp; omega), if_neg h]; rfl
theorem rowL_at (ws : List Nat) (t q j : Nat) : (rowL ws t q).getD j false = if j < q then (ws.getD j 0).testBit t else false := by
  unfold rowL
  rw [List.getD_eq_getElem?_getD, List.getElem?_map]
  by_cases h : j < q
  · rw [List.getElem?_range h, if_pos h]; rfl
  · rw [List.getElem?_eq_none (by simp; omega), if_neg h]; rfl
theorem FILL.done {w6 : World} {I1 I2 : Nat} {ws : List Nat} {t q j : Nat} {w : World} (h : FILL w6 I1 I2 ws t q j w) (hj : ¬ (j < q ∧ j < ws.length)) : Wds w (some ⟨I1, 0, none⟩) (inL ws q) ∧ Bls w (some ⟨I2, 0, none⟩) (rowL ws t q) := by
  obtain ⟨A, hA, hAs, hAt⟩ := h.a
  obtain ⟨C, hC, hCs, hCt⟩ := h.c
  have hz : ∀ i, i < q → ¬ i < j → ws.getD i 0 = 0 := fun i hi hn => by
    rw [List.getD_eq_getElem?_getD, List.getElem?_eq_none (by omega)]
    rfl
  refine ⟨fun _ => ⟨I1, 0, rfl, (Array.getElem?_eq_some_iff.1 hA).1, fun i hi => ?_⟩, fun _ => ⟨I2, 0, rfl, (Array.getElem?_eq_some_iff.1 hC).1, fun i hi => ?_⟩⟩
  · have hi2 : i < q := by simpa [inL] using hi
    rw [Nat.zero_add, ag_cell hA i, hAt i hi2, inL_at, if_pos hi2]
    by_cases e : i < j
    · rw [if_pos e]
    · rw [if_neg e, hz i hi2 e]
  · have hi2 : i < q := by simpa [rowL] using hi
    rw [Nat.zero_add, ag_cell hC i, hCt i hi2, rowL_at, if_pos hi2]
    by_cases e : i < j
    · rw [if_pos e]
    · rw [if_neg e, hz i hi2 e]
      simp
theorem and63 (k : Int) : ∃ t : Nat, t < 64 ∧ bits .and .i64 k 63 = (t : Int) := by
  have h1 : ((BitVec.ofInt 64 k &&& BitVec.ofInt 64 63).toNat : Nat) < 64 := by
    rw [BitVec.toNat_and]
    have h2 : (BitVec.ofInt 64 63).toNat = 63 := rfl
    rw [h2]
    exact Nat.lt_succ_of_le Nat.and_le_right
  refine ⟨(BitVec.ofInt 64 k &&& BitVec.ofInt 64 63).toNat, h1, ?_⟩
  show IntKind.i64.wrap ((BitVec.ofInt 64 k &&& BitVec.ofInt 64 63).toNat : Int) = _
  generalize (BitVec.ofInt 64 k &&& BitVec.ofInt 64 63).toNat = t at *
  rw [IntKind.wrap_i64]
  omega
theorem shr_bit (x t : Nat) (hx : x < 18446744073709551616) : (bits .and .u64 ((x : Int) / 2 ^ t) 1 == 1) = x.testBit t := by
  have e1 : (x : Int) / 2 ^ t = ((x / 2 ^ t : Nat) : Int) := by simp
  have hl : x / 2 ^ t < 18446744073709551616 := Nat.lt_of_le_of_lt (Nat.div_le_self _ _) hx
  rw [e1, and1_u64 _ hl, Nat.testBit_eq_decide_div_mod_eq]
  rcases Nat.mod_two_eq_zero_or_one (x / 2 ^ t) with e | e <;> rw [e] <;> rfl
end Go.Proofs.Ytekdmdnnpcjaoaa
