import Derived.Test.YtabbkdmjohnbgaaAgNc
import Derived.Test.YtabbkdmjohnbgaaAgO
namespace Go.Proofs.Ytabbkdmjohnbgaa
open Go.ChangeShapes Go.WideShapes Go.ChangeAt Go.RowKit Go.Lib Go.Ag Go.WideMaps Go.Maps Go.ChangeMaps Go.Cn

theorem MDS.below {w w' : World} {ad : Option Addr} {sc : List (Int × Int × Int × Int)} (h : MDS w ad sc) (hb : Below w.heap.size w w') : MDS w' ad sc := fun h0 => by
  obtain ⟨b, off, e, hlt, hc⟩ := h h0
  refine ⟨b, off, e, Nat.lt_of_lt_of_le hlt hb.size, fun j hj => ?_⟩
  have k := hb.block b hlt
  obtain ⟨c0, c1, c2, c3⟩ := hc j hj
  exact ⟨(World.cell?_of_block (a := ⟨b, off + j * 4, none⟩) k).trans c0, (World.cell?_of_block (a := ⟨b, off + j * 4 + 1, none⟩) k).trans c1, (World.cell?_of_block (a := ⟨b, off + j * 4 + 2, none⟩) k).trans c2, (World.cell?_of_block (a := ⟨b, off + j * 4 + 3, none⟩) k).trans c3⟩
/-- a new graph of a list of makings -/
def bdM (sc : List (Int × Int × Int × Int)) : Prop := ∀ s ∈ sc, (-9223372036854775808 ≤ s.2.1 ∧ s.2.1 ≤ 9223372036854775807) ∧ (-9223372036854775808 ≤ s.2.2.1 ∧ s.2.2.1 ≤ 9223372036854775807) ∧ (-9223372036854775808 ≤ s.2.2.2 ∧ s.2.2.2 ≤ 9223372036854775807)
theorem made_new (w w2 : World) (B : Nat) (hB : w.heap.size = B) (hg : GM w2 B B [] 0 (.slice none 0 0) (.slice none 0 0) none (.map [])) (hb : Below B w w2) (hlt : B < w2.heap.size) (ad : Option Addr) (sc : List (Int × Int × Int × Int)) (cp : Nat) (hsc : MDS w ad sc) (hbd : bdM sc) (hn : sc.length ≤ 1048576) :
    Calls Try.prog 7 #[.pointer (some ⟨B, 0, none⟩), .slice ad sc.length cp] w2 fun e w' => ∃ ns L aL cL nb vb vg M D, e = .returned (.tuple #[.slice aL L.length cL, .bool true]) ∧ madeN [] [0] sc = some (ns, L) ∧ MI ns L sc.length ∧ GM w' B B ns nb vb vg M D ∧ Below B w w' ∧ B ≤ w'.heap.size ∧ U32s w' aL L := by
  have hsc2 : MDS w2 ad sc := hsc.below (by rw [hB]; exact hb)
  refine (made_any w2 hg (by omega) ad sc cp hsc2 hbd (fun h0 b off e => ?_) hn).mono ?_
  · intro e2
    obtain ⟨b', off', e3, hlt', _⟩ := hsc h0
    rw [e3] at e
    cases e
    rcases e2 with e2 | e2 | e2 | e2
    · omega
    · cases e2
    · cases e2
    · cases e2
  · rintro e w3 ⟨ns, L, vL, rfl, h1, h2, h3⟩
    obtain ⟨aL, cL, rfl, _, _⟩ := row_form h3.row
    obtain ⟨nb, vb, vg, M, D, h4, h5⟩ := h3.gp
    exact ⟨ns, L, aL, cL, nb, vb, vg, M, D, rfl, h1, h2, h4, gk_bel hb hlt h5, h3.hB, u32s_of h3.row⟩
/-- the values on their way -/
structure FILL (w6 : World) (I1 I2 : Nat) (ws : List Nat) (t q j : Nat) (w : World) : Prop where
  a : ∃ A, w.heap[I1]? = some (.cells A 46 (0, 0)) ∧ A.size = q ∧ ∀ i, i < q → A[i]? = some (.int .u64 ((if i < j then ws.getD i 0 else 0 : Nat) : Int))
  c : ∃ C, w.heap[I2]? = some (.cells C 4 (0, 0)) ∧ C.size = q ∧ ∀ i, i < q → C[i]? = some (.bool (if i < j then (ws.getD i 0).testBit t else false))
  bel : Below w6.heap.size w6 w
  i1 : w6.heap.size ≤ I1
  i2 : w6.heap.size ≤ I2
  ne : I1 ≠ I2
theorem FILL.step {w6 : World} {I1 I2 : Nat} {ws : List Nat} {t q j : Nat} {w : World} (h : FILL w6 I1 I2 ws t q j w) (hj : j < q) :
    FILL w6 I1 I2 ws t q (j + 1) ((w.setCell ⟨I1, j, none⟩ (.int .u64 ((ws.getD j 0 : Nat) : Int))).setCell ⟨I2, j, none⟩ (.bool ((ws.getD j 0).testBit t))) := by
  obtain ⟨A, hA, hAs, hAt⟩ := h.a
  obtain ⟨C, hC, hCs, hCt⟩ := h.c
  have hn := h.ne
  have h1 := h.i1
  have h2 := h.i2
  refine ⟨⟨A.setIfInBounds j (.int .u64 ((ws.getD j 0 : Nat) : Int)), ?_, by simpa using hAs, fun i hi => ?_⟩, ⟨C.setIfInBounds j (.bool ((ws.getD j 0).testBit t)), ?_, by simpa using hCs, fun i hi => ?_⟩, ?_, h1, h2, hn⟩
  · rw [heap_setCell_other _ _ _ _ hn]
    exact heap_setCell_same _ I1 j _ _ _ hA
  · by_cases e : i = j
    · subst e
      rw [Array.getElem?_setIfInBounds_self_of_lt (by omega), if_pos (by omega)]
    · rw [Array.getElem?_setIfInBounds_ne (fun e2 => e e2.symm), hAt i hi]
      by_cases e2 : i < j
      · rw [if_pos e2, if_pos (by omega)]
      · rw [if_neg e2, if_neg (by omega)]
  · refine heap_setCell_same _ I2 j _ _ _ ?_
    rw [heap_setCell_other _ _ _ _ (fun e => hn e.symm)]
    exact hC
  · by_cases e : i = j
    · subst e
      rw [Array.getElem?_setIfInBounds_self_of_lt (by omega), if_pos (by omega)]
    · rw [Array.getElem?_setIfInBounds_ne (fun e2 => e e2.symm), hCt i hi]
      by_cases e2 : i < j
      · rw [if_pos e2, if_pos (by omega)]
      · rw [if_neg e2, if_neg (by omega)]
  · refine ⟨h.bel.os, h.bel.tape, h.bel.output, by simpa using h.bel.size, fun x hx => ?_⟩
    rw [heap_setCell_other _ _ _ _ (fun e => by have e' : x = I2 := e; omega), heap_setCell_other _ _ _ _ (fun e => by have e' : x = I1 := e; omega)]
    exact h.bel.block x hx
def inL (ws : List Nat) (q : Nat) : List Nat := (List.range q).map fun i => ws.getD i 0
def rowL (ws : List Nat) (t q : Nat) : List Bool := (List.range q).map fun i => (ws.getD i 0).testBit t
theorem inL_at (ws : List Nat) (q j : Nat) : (inL ws q).getD j 0 = if j < q then ws.getD j 0 else 0 := by
  unfold inL
  rw [List.getD_eq_getElem?_getD, List.getElem?_map]
  by_cases h : j < q
  · rw [List.getElem?_range h, if_pos h]; rfl
  · rw [List.getElem?_eq_none (by simp; omega), if_neg h]; rfl
theorem rowL_at (ws : List Nat) (t q j : Nat) : (rowL ws t q).getD j false = if j < q then (ws.getD j 0).testBit t else false := by
  unfold rowL
  rw [List.getD_eq_getElem?_getD, List.getElem?_map]
  by_cases h : j < q
  · rw [List.getElem?_range h, if_pos h]; rfl
  · rw [List.getElem?_eq_none (by simp; omega), if_neg h]; rfl
theorem FILL.done {w6 : World} {I1 I2 : Nat} {ws : List Nat} {t q j : Nat} {w : World} (h : FILL w6 I1 I2 ws t q j w) (hj : ¬ (j < q ∧ j < ws.length)) : Wds w (some ⟨I1, 0, none⟩) (inL ws q) ∧ Bls w (some ⟨I2, 0, none⟩) (rowL ws t q) := by
  obtain ⟨A, hA, hAs, hAt⟩ := h.a
  obtain ⟨C, hC, hCs, hCt⟩ := h.c
  have hz : ∀ i, i < q → ¬ i < j → ws.getD i 0 = 0 := fun i hi hn => by
    rw [List.getD_eq_getElem?_getD, List.getElem?_eq_none (by omega)]
    rfl
  refine ⟨fun _ => ⟨I1, 0, rfl, (Array.getElem?_eq_some_iff.1 hA).1, fun i hi => ?_⟩, fun _ => ⟨I2, 0, rfl, (Array.getElem?_eq_some_iff.1 hC).1, fun i hi => ?_⟩⟩
  · have hi2 : i < q := by simpa [inL] using hi
    rw [Nat.zero_add, ag_cell hA i, hAt i hi2, inL_at, if_pos hi2]
    by_cases e : i < j
    · rw [if_pos e]
    · rw [if_neg e, hz i hi2 e]
  · have hi2 : i < q := by simpa [rowL] using hi
    rw [Nat.zero_add, ag_cell hC i, hCt i hi2, rowL_at, if_pos hi2]
    by_cases e : i < j
    · rw [if_pos e]
    · rw [if_neg e, hz i hi2 e]
      simp
theorem and63 (k : Int) : ∃ t : Nat, t < 64 ∧ bits .and .i64 k 63 = (t : Int) := by
  have h1 : ((BitVec.ofInt 64 k &&& BitVec.ofInt 64 63).toNat : Nat) < 64 := by
    rw [BitVec.toNat_and]
    have h2 : (BitVec.ofInt 64 63).toNat = 63 := rfl
    rw [h2]
    exact Nat.lt_succ_of_le Nat.and_le_right
  refine ⟨(BitVec.ofInt 64 k &&& BitVec.ofInt 64 63).toNat, h1, ?_⟩
  show IntKind.i64.wrap ((BitVec.ofInt 64 k &&& BitVec.ofInt 64 63).toNat : Int) = _
  generalize (BitVec.ofInt 64 k &&& BitVec.ofInt 64 63).toNat = t at *
  rw [IntKind.wrap_i64]
  omega
theorem shr_bit (x t : Nat) (hx : x < 18446744073709551616) : (bits .and .u64 ((x : Int) / 2 ^ t) 1 == 1) = x.testBit t := by
  have e1 : (x : Int) / 2 ^ t = ((x / 2 ^ t : Nat) : Int) := by simp
  have hl : x / 2 ^ t < 18446744073709551616 := Nat.lt_of_le_of_lt (Nat.div_le_self _ _) hx
  rw [e1, and1_u64 _ hl, Nat.testBit_eq_decide_div_mod_eq]
  rcases Nat.mod_two_eq_zero_or_one (x / 2 ^ t) with e | e <;> rw [e] <;> rfl
set_option maxHeartbeats 8000000 in
set_option maxRecDepth 100000 in
theorem sims_walk (w : World) (ad : Option Addr) (sc : List (Int × Int × Int × Int)) (cp : Nat) (hsc : MDS w ad sc) (hbd : bdM sc) (hn : sc.length ≤ 1048576) (aw : Option Addr) (ws : List Nat) (cw : Nat) (hws : Wds w aw ws) (h64 : ∀ x ∈ ws, x < 18446744073709551616) (hwn : ws.length ≤ 1000000000000) (k : Int) :
    Calls Try.prog 4 #[.slice ad sc.length cp, .slice aw ws.length cw, .int .i64 k] w fun e w' => e = .returned (.bool true) ∧ Below w.heap.size w w' := by
  obtain ⟨B, hB⟩ : ∃ B, w.heap.size = B := ⟨_, rfl⟩
  rw [hB]
  have HNew : Hid (Calls Try.prog 5 #[] w fun e w' => e = .returned (.pointer (some ⟨B, 0, none⟩)) ∧ w' = w.alloc (.cells #[.int .i64 0, .slice none 0 0, .slice none 0 0, .map none] 54)) := by rw [← hB]; exact new_any w
  have HLv : Hid (∀ W, Calls Try.prog 6 #[] W fun e w' => e = .returned (.bool true) ∧ Below W.heap.size W w') := fun W => live_any W
  have HMd : Hid (∀ w2, GM w2 B B [] 0 (.slice none 0 0) (.slice none 0 0) none (.map []) → Below B w w2 → B < w2.heap.size → Calls Try.prog 7 #[.pointer (some ⟨B, 0, none⟩), .slice ad sc.length cp] w2 fun e w' => ∃ ns L aL cL nb vb vg M D, e = .returned (.tuple #[.slice aL L.length cL, .bool true]) ∧ madeN [] [0] sc = some (ns, L) ∧ MI ns L sc.length ∧ GM w' B B ns nb vb vg M D ∧ Below B w w' ∧ B ≤ w'.heap.size ∧ U32s w' aL L) := fun w2 h1 h2 h3 => made_new w w2 B hB h1 h2 h3 ad sc cp hsc hbd hn
  have HWs : Hid (Wds w aw ws) := hws
  have H64 : Hid (∀ i, ws.getD i 0 < 18446744073709551616) := fun i => by
    rw [List.getD_eq_getElem?_getD]
    cases h : ws[i]? with
    | none => decide
    | some x => exact h64 x (List.mem_of_getElem? h)
  clear hsc hbd hws h64
  generalize hnn : sc.length = n at *
  clear hnn
  generalize hmm : ws.length = m at *
  have HML : Hid (ws.length = m) := hmm
  clear hmm
  go_enter Try.func4, Try.ntmps4
  go_wp2_with fail
  refine HNew.out.mono ?_
  rintro e w1 ⟨rfl, hw1⟩
  have HG1 : Hid (GM w1 B B [] 0 (.slice none 0 0) (.slice none 0 0) none (.map []) ∧ Below B w w1 ∧ B < w1.heap.size) := by
    refine ⟨?_, ?_, by rw [hw1]; simp; omega⟩
    · rw [hw1]
      exact GM.new (by rw [← hB]; exact heap_alloc_new _ _) (Nat.le_refl _)
    · rw [hw1, ← hB]
      exact ag_bel1 _ _
  clear hw1 HNew
  go_wp2_with fail
  refine (HLv.out w1).mono ?_
  rintro e w2 ⟨rfl, hb2⟩
  have HG2 : Hid (GM w2 B B [] 0 (.slice none 0 0) (.slice none 0 0) none (.map []) ∧ Below B w w2 ∧ B < w2.heap.size) := ⟨HG1.out.1.over hb2, HG1.out.2.1.trans (hb2.mono (Nat.le_of_lt HG1.out.2.2)), Nat.lt_of_lt_of_le HG1.out.2.2 hb2.size⟩
  clear HG1 hb2 HLv
  go_wp2_with fail
  refine (HMd.out w2 HG2.out.1 HG2.out.2.1 HG2.out.2.2).mono ?_
  rintro e w3 ⟨ns, L, aL, cL, nb, vb, vg, M, D, rfl, -, hmi, hg3, hb3, hB3, hu3⟩
  have hin : inN ns ≤ n := hmi.ins
  have hL1 : L.length = n + 1 := hmi.len
  have HL3 : Hid ((∀ l ∈ L, l / 2 ≤ ns.length) ∧ (∀ l ∈ L, l < 4294967296)) := ⟨hmi.lit, fun l hl => by have h1 := hmi.lit l hl; have h2 := hg3.len; omega⟩
  have HG3 : Hid (GM w3 B B ns nb vb vg M D ∧ Below B w w3 ∧ B ≤ w3.heap.size ∧ U32s w3 aL L) := ⟨hg3, hb3, hB3, hu3⟩
  have HIn : Hid (∀ W, Below w3.heap.size w3 W → Calls Try.prog 15 #[.pointer (some ⟨B, 0, none⟩)] W fun e w' => e = .returned (.int .i64 (inN ns : Int)) ∧ Below w3.heap.size w3 w') := fun W hW => (Inputs_any W (HG3.out.1.over hW)).mono (by
    rintro e w' ⟨rfl, d, rfl⟩
    exact ⟨rfl, ag_next hW (drw_bel _ _)⟩)
  clear hmi hg3 hb3 hB3 hu3 HMd HG2
  obtain ⟨q, hq⟩ : ∃ q, inN ns = q := ⟨_, rfl⟩
  rw [hq] at HIn hin
  have HQ : Hid (inN ns = q) := hq
  clear hq
  rw [hL1]
  have HLL : Hid (L.length = n + 1) := hL1
  clear hL1
  have r1 : decide ((q : Int) < 0) = false := decide_eq_false (by omega)
  have r2 : decide ((n : Int) < (q : Int)) = false := decide_eq_false (by omega)
  go_wp2_with fail
  refine (HIn.out w3 (Below.refl _ _)).mono ?_
  rintro e w4 ⟨rfl, hb4⟩
  go_wp2_with fail
  refine (HIn.out w4 hb4).mono ?_
  rintro e w5 ⟨rfl, hb5⟩
  obtain ⟨i1, hi1, hz1, hs1, hb1⟩ := info_parts (P := Try.prog) (e := 46) (z := .int .u64 0) (size := 1) (bytes := 8) (by kernel_rfl)
  have eM : ∀ W : World, (Instr.makeSlice 44 (.int .i64 (q : Int)) (.int .i64 (q : Int))).run Try.prog W = .ok (.slice (some ⟨W.heap.size, 0, none⟩) q q) (W.alloc (.cells (madeCells (Value.int .u64 0).cells (q * 1)) 46)) := fun W => by
    have := run_make (P := Try.prog) (w := W) 44 46 i1 (.int .u64 0) Try.underlying44 hi1 hz1 .i64 .i64 (q : Int) (q : Int) (by omega) (by omega) (by rw [hb1]; omega) (by omega)
    rw [this, hs1, show ((q : Int)).toNat = q by omega]
  have HA0 : Hid ((madeCells (Value.int .u64 0).cells (q * 1)).size = q ∧ ∀ i, i < q → (madeCells (Value.int .u64 0).cells (q * 1))[i]? = some (.int .u64 0)) := ⟨by rw [size_madeCells]; omega, fun i hi => made_at _ _ hi⟩
  generalize madeCells (Value.int .u64 0).cells (q * 1) = A0 at *
  obtain ⟨i2, hi2, hz2, hs2, hb2⟩ := info_parts (P := Try.prog) (e := 4) (z := .bool false) (size := 1) (bytes := 1) (by kernel_rfl)
  have eB : ∀ W : World, (Instr.makeSlice 23 (.int .i64 (q : Int)) (.int .i64 (q : Int))).run Try.prog W = .ok (.slice (some ⟨W.heap.size, 0, none⟩) q q) (W.alloc (.cells (madeCells (Value.bool false).cells (q * 1)) 4)) := fun W => by
    have := run_make (P := Try.prog) (w := W) 23 4 i2 (.bool false) Try.underlying23 hi2 hz2 .i64 .i64 (q : Int) (q : Int) (by omega) (by omega) (by rw [hb2]; omega) (by omega)
    rw [this, hs2, show ((q : Int)).toNat = q by omega]
  have HC0 : Hid ((madeCells (Value.bool false).cells (q * 1)).size = q ∧ ∀ i, i < q → (madeCells (Value.bool false).cells (q * 1))[i]? = some (.bool false)) := ⟨by rw [size_madeCells]; omega, fun i hi => made_at _ _ hi⟩
  generalize madeCells (Value.bool false).cells (q * 1) = C0 at *
  clear hi1 hz1 hs1 hb1 hi2 hz2 hs2 hb2 hb4
  obtain ⟨t, ht, hbt⟩ := and63 k
  go_wp2_with fail
  refine (HIn.out w5 hb5).mono ?_
  rintro e w6 ⟨rfl, hb6⟩
  obtain ⟨I1, hI1⟩ : ∃ I1, w6.heap.size = I1 := ⟨_, rfl⟩
  have HF0 : Hid (FILL w6 I1 (I1 + 1) ws t q 0 ((w6.alloc (.cells A0 46)).alloc (.cells C0 4))) := by
    have hs1 : (w6.alloc (.cells A0 46)).heap.size = I1 + 1 := by simp; omega
    refine ⟨⟨A0, ?_, HA0.out.1, fun i hi => by rw [if_neg (by omega)]; exact HA0.out.2 i hi⟩, ⟨C0, ?_, HC0.out.1, fun i hi => by rw [if_neg (by omega)]; exact HC0.out.2 i hi⟩, ag_next (ag_bel1 _ _) (ag_bel1 _ _), by omega, by omega, by omega⟩
    · rw [Below.heap_alloc _ _ _ (by omega), ← hI1]
      exact heap_alloc_new _ _
    · have h5 := heap_alloc_new (w6.alloc (.cells A0 46)) (.cells C0 4)
      rw [hs1] at h5
      exact h5
  have HB6 : Hid (Below w3.heap.size w3 w6) := hb6
  clear hb6 hb5 HA0 HC0
  go_wp2_with fail
  generalize (w6.alloc (.cells A0 46)).alloc (.cells C0 4) = wf at *
  go_loopg [13] q (fun gk v13 wr => ∃ j, v13 = .int .i64 ((j : Nat) : Int) ∧ j + gk = q ∧ Aside (FILL w6 I1 (I1 + 1) ws t q j wr))
  case atStart => exact ⟨0, rfl, by omega, HF0.out⟩
  case round =>
    clear HF0
    obtain ⟨j, rfl, hj, HF⟩ := hrel
    by_cases hlt : j < q ∧ j < m
    · have p1 : decide ((j : Int) < (q : Int)) = true := decide_eq_true (by omega)
      have p2 : decide ((j : Int) < (m : Int)) = true := decide_eq_true (by omega)
      have p3 : (j : Int) < (q : Int) := by omega
      have p4 : (j : Int) < (m : Int) := by omega
      obtain ⟨bw, ow, rfl, hbw, hcw⟩ := HWs.out (by rw [HML.out]; omega)
      have hBr : Below B w wr := HG3.out.2.1.trans ((ag_next HB6.out HF.out.bel).mono HG3.out.2.2.1)
      have cw : wr.cell? ⟨bw, ow + j, none⟩ = some (.int .u64 ((ws.getD j 0 : Nat) : Int)) := (World.cell?_of_block (a := ⟨bw, ow + j, none⟩) (hBr.block bw (by omega))).trans (hcw j (by rw [HML.out]; exact hlt.2))
      obtain ⟨A, hA, hAs, hAt⟩ := HF.out.a
      obtain ⟨C, hC, hCs, hCt⟩ := HF.out.c
      obtain ⟨xa, k1⟩ : ∃ xa, wr.cell? ⟨I1, j, none⟩ = some xa := ⟨_, (ag_cell hA j).trans (hAt j hlt.1)⟩
      have g1 : wr.frozen? ⟨I1, j, none⟩ = false := ag_fz hA j
      obtain ⟨xc, k2⟩ : ∃ xc, wr.cell? ⟨I1 + 1, j, none⟩ = some xc := ⟨_, (ag_cell hC j).trans (hCt j hlt.1)⟩
      have g2 : wr.frozen? ⟨I1 + 1, j, none⟩ = false := ag_fz hC j
      have hbwI : ¬ bw = I1 := by have h1 := HG3.out.2.2.1; have h2 := HB6.out.size; omega
      have HF2 : Hid (FILL w6 I1 (I1 + 1) ws t q (j + 1) ((wr.setCell ⟨I1, j, none⟩ (.int .u64 ((ws.getD j 0 : Nat) : Int))).setCell ⟨I1 + 1, j, none⟩ (.bool ((ws.getD j 0).testBit t)))) := HF.out.step hlt.1
      have hx := H64.out j
      clear hcw HF hA hC hAs hCs hAt hCt
      generalize ws.getD j 0 = x at *
      have hsh := shr_bit x t hx
      go_wp2_with fail
      go_roundg (q - (j + 1))
      case measure => omega
      case rel => exact ⟨j + 1, by simp, by omega, HF2.out⟩
    · have HD : Hid (Wds wr (some ⟨I1, 0, none⟩) (inL ws q) ∧ Bls wr (some ⟨I1 + 1, 0, none⟩) (rowL ws t q)) := HF.out.done (by rw [HML.out]; exact hlt)
      have HBr : Hid (Below w3.heap.size w3 wr) := ag_next HB6.out HF.out.bel
      have HSim : Hid (Calls Try.prog 16 #[.pointer (some ⟨B, 0, none⟩), .slice (some ⟨I1, 0, none⟩) q q, .slice aL (n + 1) cL] wr fun e w' => ∃ v, e = .returned (.tuple #[v, .int .i64 0]) ∧ Below wr.heap.size wr w' ∧ w'.ownsRow wr.heap.size 46 1 v (n + 1) (wrdV (simW ns (inL ws q) L))) := by
        have h7 := Sim_ok wr (HG3.out.1.over HBr.out) (some ⟨I1, 0, none⟩) (inL ws q) q HD.out.1 (fun i => by rw [inL_at]; split; exact H64.out i; decide) (by rw [HQ.out]; simp [inL]) aL L cL (HG3.out.2.2.2.below HBr.out) HL3.out.2 HL3.out.1 (by rw [HLL.out]; omega)
        have hlq : (inL ws q).length = q := by simp [inL]
        rw [hlq, HLL.out] at h7
        exact h7
      have HEv : Hid (∀ W, Below wr.heap.size wr W → Calls Try.prog 9 #[.pointer (some ⟨B, 0, none⟩), .slice (some ⟨I1 + 1, 0, none⟩) q q, .slice aL (n + 1) cL] W fun e w' => ∃ v, e = .returned (.tuple #[v, .int .i64 0]) ∧ Below W.heap.size W w' ∧ w'.ownsRow W.heap.size 4 1 v (n + 1) (blV (evalB ns (rowL ws t q) L))) := fun W hW => by
        have h7 := Eval_ok W ((HG3.out.1.over HBr.out).over hW) (some ⟨I1 + 1, 0, none⟩) (rowL ws t q) q (HD.out.2.below hW) (by rw [HQ.out]; simp [rowL]) aL L cL ((HG3.out.2.2.2.below HBr.out).below hW) HL3.out.2 HL3.out.1 (by rw [HLL.out]; omega)
        have hlq : (rowL ws t q).length = q := by simp [rowL]
        rw [hlq, HLL.out] at h7
        exact h7
      have HSE : Hid (∀ j, ((simW ns (inL ws q) L).getD j 0).testBit t = (evalB ns (rowL ws t q) L).getD j false) := fun j => sim_eval ns (inL ws q) (rowL ws t q) L t ht (fun i => by rw [inL_at, rowL_at]; split; rfl; simp) j
      have HSl : Hid ((simW ns (inL ws q) L).length = n + 1 ∧ (evalB ns (rowL ws t q) L).length = n + 1 ∧ ∀ j, (simW ns (inL ws q) L).getD j 0 < 18446744073709551616) := ⟨by simp [simW, HLL.out], by simp [evalB, HLL.out], fun j => by
        unfold simW
        rw [List.getD_eq_getElem?_getD, List.getElem?_map]
        cases L[j]? with
        | none => exact (by decide : (0 : Nat) < 18446744073709551616)
        | some l => exact wordN_lt (valW_lt (fun i => by rw [inL_at]; split; exact H64.out i; decide) _) l⟩
      have HBe : Hid (Below B w wr) := HG3.out.2.1.trans (HBr.out.mono HG3.out.2.2.1)
      have HBs : Hid (B ≤ wr.heap.size) := by have h1 := HG3.out.2.2.1; have h2 := HBr.out.size; show _ ≤ _; omega
      generalize simW ns (inL ws q) L = SW at *
      generalize evalB ns (rowL ws t q) L = EB at *
      clear HD HF HG3 HL3 HB6 HWs H64 HIn HBr HQ HML HLL
      obtain ⟨w8, hw8⟩ : ∃ w8, w8 = wr := ⟨_, rfl⟩
      subst hw8
      have HNo : Hid (∀ W, Calls Try.prog 10 #[.int .i64 0] W fun e w' => e = .returned (.int .i64 0) ∧ w' = W) := fun W => no_any 0 W
      have hcase : (decide (j < q) = false ∧ decide ((j : Int) < (q : Int)) = false) ∨ (decide (j < q) = true ∧ decide ((j : Int) < (q : Int)) = true ∧ decide (j < m) = false ∧ decide ((j : Int) < (m : Int)) = false) := by
        by_cases hq : j < q
        · exact Or.inr ⟨decide_eq_true hq, decide_eq_true (by omega), decide_eq_false (by omega), decide_eq_false (by omega)⟩
        · exact Or.inl ⟨decide_eq_false hq, decide_eq_false (by omega)⟩
      clear hlt hj
      rcases hcase with ⟨p1, p3⟩ | ⟨p1, p3, p2, p4⟩
      all_goals go_wp2_with fail
      all_goals
        (refine HSim.out.mono ?_
         rintro e w9 ⟨vS, rfl, hb9, hr9⟩
         obtain ⟨aS, cS, rfl, _, haS⟩ := row_form hr9
         obtain ⟨gS, rfl⟩ := haS (by omega)
         go_wp2_with fail
         refine (HEv.out w9 hb9).mono ?_
         rintro e w10 ⟨vE, rfl, hb10, hr10⟩
         obtain ⟨aE, cE, rfl, _, haE⟩ := row_form hr10
         obtain ⟨gE, rfl⟩ := haE (by omega)
         have HR : Hid (w10.ownsRow w8.heap.size 46 1 (.slice (some ⟨gS, 0, none⟩) (n + 1) cS) (n + 1) (wrdV SW) ∧ w10.ownsRow w9.heap.size 4 1 (.slice (some ⟨gE, 0, none⟩) (n + 1) cE) (n + 1) (blV EB) ∧ Below B w w10) := ⟨ag_same hr9 (fun k hk => hb10.block k (hr9.lt k hk).2), hr10, HBe.out.trans ((ag_next hb9 hb10).mono HBs.out)⟩
         clear hr9 hr10 hb9 hb10 HSim HEv
         go_wp2_with (go_at_call 10; refine (HNo.out _).mono ?_; rintro e w' ⟨rfl, hw⟩; obtain rfl := hw.symm))
      all_goals
        (go_loopg [18] (n + 1) (fun gk v18 wr => ∃ i d : Nat, v18 = .int .i64 (i : Int) ∧ i + gk = n + 1 ∧ wr = w10.drewN d)
         case atStart => exact ⟨0, 0, rfl, by omega, rfl⟩
         case round =>
           obtain ⟨i, d, rfl, hi, rfl⟩ := hrel
           by_cases hlt : i < n + 1
           · have s1 : (i : Int) < (n : Int) + 1 := by omega
             have y1 : (w10.drewN d).cell? ⟨gS, i, none⟩ = some (.int .u64 ((SW.getD i 0 : Nat) : Int)) := by
               refine (HR.out.1.cellAt i (by omega)).trans ?_
               unfold wrdV
               rw [List.getElem?_map, List.getD_eq_getElem?_getD, List.getElem?_eq_getElem (by rw [HSl.out.1]; exact hlt)]
               rfl
             have y2 : (w10.drewN d).cell? ⟨gE, i, none⟩ = some (.bool (EB.getD i false)) := by
               refine (HR.out.2.1.cellAt i (by omega)).trans ?_
               unfold blV
               rw [List.getElem?_map, List.getD_eq_getElem?_getD, List.getElem?_eq_getElem (by rw [HSl.out.2.1]; exact hlt)]
               rfl
             have hsh := shr_bit (SW.getD i 0) t (HSl.out.2.2 i)
             rw [HSE.out i] at hsh
             have HDN : Aside (∀ z, ∃ y, (w10.drewN d).drewN z = w10.drewN y) := fun z => ⟨d + z, by rw [World.drewN_drewN]⟩
             generalize SW.getD i 0 = xs at *
             generalize EB.getD i false = xe at *
             generalize w10.drewN d = WQ at *
             go_wp2_with fail
             go_quiet (fail)
             go_wp2_with fail
             go_roundg (n + 1 - (i + 1))
             case measure => omega
             case rel =>
               obtain ⟨z, hz⟩ := HDN.out _
               exact ⟨i + 1, z, by simp, by omega, hz⟩
           · have s1 : ¬ (i : Int) < (n : Int) + 1 := by omega
             have HZ : Hid (Below B w (w10.drewN d)) := ⟨HR.out.2.2.os, HR.out.2.2.tape, HR.out.2.2.output, HR.out.2.2.size, HR.out.2.2.block⟩
             go_wp2_with fail
             first | exact ⟨rfl, HZ.out⟩ | (go_ret; exact ⟨rfl, HZ.out⟩))
end Go.Proofs.Ytabbkdmjohnbgaa
