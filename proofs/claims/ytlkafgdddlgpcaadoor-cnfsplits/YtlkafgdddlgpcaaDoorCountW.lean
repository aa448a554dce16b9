import Derived.Test.YtlkafgdddlgpcaaDoorRefute
import Derived.Test.YtlkafgdddlgpcaaDoorMathU
import Derived.Test.YtlkafgdddlgpcaaDoorTidyA
import Derived.Test.YtlkafgdddlgpcaaDoorSameW
namespace Go.Proofs.YtlkafgdddlgpcaaDoor
open Go.ChangeShapes Go.WideShapes Go.ChangeAt Go.RowKit Go.Cn

set_option maxHeartbeats 4000000 in
set_option maxRecDepth 100000 in
theorem count_any (vars : Int) (ad : Option Addr) (cs : List (List Int)) (c : Nat) (w : World) (h : ClsS w ad cs) (hl : cs.length ≤ 1000000000000000000) (hcl : ∀ j, j < cs.length → (cs.getD j []).length ≤ 1000000000000000000) (hlv : LV w) (hlt : LT w) :
    Calls Tryd.prog 25 #[.agg #[.int .i64 vars, .slice ad cs.length c]] w fun e w' => e = .returned (.tuple #[.int .u64 (cnR vars cs : Nat), .int .i64 (cnE vars cs)]) ∧ Below w.heap.size w w' := by
  have HB0 : Hid (∀ o, Below w.heap.size w (w.alloc o)) := fun o => (Below.refl _ _).alloc (Nat.le_refl _) o
  have HTd : Hid (∀ W, Below w.heap.size w W → Calls Tryd.prog 14 #[.agg #[.int .i64 vars, .slice ad cs.length c]] W (TdPost vars cs W)) := fun W hW => tidy_any vars ad cs c W (h.below hW) hl hcl (hlv.below hW)
  have HT : Hid (LT w) := hlt
  clear h hl hcl hlv hlt
  by_cases h0 : (ck vars cs).2 = 0
  rotate_left
  · have HP : Hid (tdC vars cs = [] ∧ tdV vars cs = 0) := ⟨by unfold tdC; rw [if_neg h0], by unfold tdV; rw [if_neg h0]⟩
    have HC : Hid (cnR vars cs = 0 ∧ cnE vars cs = (ck vars cs).2) := ⟨by unfold cnR; rw [if_neg h0], by unfold cnE; rw [if_neg h0]⟩
    unfold TdPost at HTd
    rw [HP.out.1, HP.out.2] at HTd
    rw [HC.out.1, HC.out.2]
    generalize (ck vars cs).2 = r2 at *
    have e1 : (r2 != 0) = true := by simpa using h0
    generalize cs.length = n at *
    go_enter Tryd.func25, Tryd.ntmps25
    go_wp2_with fail
    have HBa : Hid (Below w.heap.size w (w.alloc (.cells #[.int .i64 vars, .slice ad n c] 24))) := HB0.out _
    generalize w.alloc (.cells #[.int .i64 vars, .slice ad n c] 24) = w1 at *
    refine (HTd.out w1 HBa.out).mono ?_
    rintro e w2 ⟨v2, L2, rfl, hO2, hb2⟩
    obtain ⟨ad2, cap2, rfl⟩ := own_shapeC hO2.row
    have HB2 : Hid (Below w.heap.size w w2) := below_next HBa.out hb2
    clear hb2 hO2
    go_wp2
    go_ret2
    exact ⟨rfl, below_next HB2.out ((Below.refl _ _).alloc (Nat.le_refl _) _)⟩
  · by_cases h20 : 20 < vars
    · have HP : Hid (tdC vars cs = td cs ∧ tdV vars cs = vars) := ⟨by unfold tdC; rw [if_pos h0], by unfold tdV; rw [if_pos h0]⟩
      have HC : Hid (cnR vars cs = 0 ∧ cnE vars cs = 21) := ⟨by unfold cnR; rw [if_pos h0, if_pos h20], by unfold cnE; rw [if_pos h0, if_pos h20]⟩
      unfold TdPost at HTd
      rw [HP.out.1, HP.out.2, h0] at HTd
      rw [HC.out.1, HC.out.2]
      generalize cs.length = n at *
      generalize td cs = T at *
      go_enter Tryd.func25, Tryd.ntmps25
      go_wp2_with fail
      have y0 : (w.alloc (.cells #[.int .i64 vars, .slice ad n c] 24)).heap[w.heap.size]? = some (.cells #[.int .i64 vars, .slice ad n c] 24 (0, 0)) := heap_alloc_at _ _
      have HSa : Hid ((w.alloc (.cells #[.int .i64 vars, .slice ad n c] 24)).heap.size = w.heap.size + 1) := sz1 _ _
      have HBa : Hid (Below w.heap.size w (w.alloc (.cells #[.int .i64 vars, .slice ad n c] 24))) := HB0.out _
      generalize w.alloc (.cells #[.int .i64 vars, .slice ad n c] 24) = w1 at *
      refine (HTd.out w1 HBa.out).mono ?_
      rintro e w2 ⟨v2, L2, rfl, hO2, hb2⟩
      obtain ⟨ad2, cap2, rfl⟩ := own_shapeC hO2.row
      have HB2 : Hid (Below w.heap.size w w2) := below_next HBa.out hb2
      have hs2 : w.heap.size < w2.heap.size := by have := hb2.size; have := HSa.out; omega
      have y1 : w2.heap[w.heap.size]? = some (.cells #[.int .i64 vars, .slice ad n c] 24 (0, 0)) := (hb2.block _ (by have := HSa.out; omega)).trans y0
      have z0 : ∀ o, (w2.alloc o).cell? ⟨w.heap.size, 0, none⟩ = some (.int .i64 vars) := fun o => blk_cell ((Below.heap_alloc _ _ _ hs2).trans y1) 0
      clear hb2 hO2 y0 y1
      generalize T.length = q at *
      go_wp2
      go_ret2
      exact ⟨rfl, below_next HB2.out ((Below.refl _ _).alloc (Nat.le_refl _) _)⟩
    · have hz := ck_zero h0
      obtain ⟨nv, rfl⟩ : ∃ nv : Nat, vars = nv := ⟨vars.toNat, by omega⟩
      have hnv : nv ≤ 20 := by omega
      have HP : Hid (tdC (nv : Int) cs = td cs ∧ tdV (nv : Int) cs = nv) := ⟨by unfold tdC; rw [if_pos h0], by unfold tdV; rw [if_pos h0]⟩
      have HC : Hid (cnE (nv : Int) cs = 0) := by show _ = _; unfold cnE; rw [if_pos h0, if_neg h20]
      have HSum : Hid (∀ ws, WSt (nv - 6) (td cs) ws → wsum (2 ^ min nv 6) ws = cnR (nv : Int) cs) := fun ws hs => cnR_good h0 hnv hs
      have HTy : Hid (∀ S ∈ td cs, two S = false ∧ S.length ≤ 65536 ∧ ∀ x ∈ S, litB x = true ∧ vr x ≤ ((nv - 6 : Nat) : Int) + 6) := fun S hS => by
        have h1 := (tdy_td cs).2 S hS
        have h2 := td_am hz.2.2.2.1 S hS
        refine ⟨h1.2, h2.1, fun x hx => ?_⟩
        have := h2.2 x hx
        unfold amB at this
        simp at this
        exact ⟨this.1, by omega⟩
      have htl : (td cs).length ≤ 1048576 := Nat.le_trans (td_len cs) hz.2.2.1
      unfold TdPost at HTd
      rw [HP.out.1, HP.out.2, h0] at HTd
      rw [HC.out]
      clear hz h0 HP HC h20
      generalize cnR (nv : Int) cs = RR at *
      generalize td cs = T at *
      generalize cs.length = n at *
      obtain ⟨hh, hhe⟩ : ∃ hh, nv - 6 = hh := ⟨_, rfl⟩
      rw [hhe] at HSum HTy
      have hmx : max ((nv : Int) - 6) 0 = (hh : Int) := by omega
      have hh14 : hh ≤ 14 := by omega
      obtain ⟨P, hP⟩ : ∃ P : Nat, 2 ^ hh = P := ⟨_, rfl⟩
      have HPe : Hid (2 ^ hh = P) := hP
      have hpw : P ≤ 16384 := by have := Nat.pow_le_pow_right (n := 2) (by omega) hh14; rw [hP] at this; simpa using this
      have hw2 : wrap64 ((2 : Int) ^ hh) = (P : Int) := by
        have e : ((2 : Int) ^ hh) = ((2 ^ hh : Nat) : Int) := by simp
        rw [e, hP]
        unfold wrap64; omega
      have HW0 : Hid (WSt hh [] (List.replicate P 0)) := by have := WSt.nil hh; rw [hP] at this; exact this
      clear hP
      go_enter Tryd.func25, Tryd.ntmps25
      go_wp2_with fail
      have y0 : (w.alloc (.cells #[.int .i64 nv, .slice ad n c] 24)).heap[w.heap.size]? = some (.cells #[.int .i64 nv, .slice ad n c] 24 (0, 0)) := heap_alloc_at _ _
      have HSa : Hid ((w.alloc (.cells #[.int .i64 nv, .slice ad n c] 24)).heap.size = w.heap.size + 1) := sz1 _ _
      have HBa : Hid (Below w.heap.size w (w.alloc (.cells #[.int .i64 nv, .slice ad n c] 24))) := HB0.out _
      generalize w.alloc (.cells #[.int .i64 nv, .slice ad n c] 24) = w1 at *
      refine (HTd.out w1 HBa.out).mono ?_
      rintro e w2 ⟨v2, L2, rfl, hO2, hb2⟩
      obtain ⟨ad2, cap2, rfl⟩ := own_shapeC hO2.row
      have HO2 : Hid (Cls w2 ad2 T) := hO2.cls
      have HB2 : Hid (Below w.heap.size w w2) := below_next HBa.out hb2
      have hs2 : w.heap.size < w2.heap.size := by have := hb2.size; have := HSa.out; omega
      have y1 : w2.heap[w.heap.size]? = some (.cells #[.int .i64 nv, .slice ad n c] 24 (0, 0)) := (hb2.block _ (by have := HSa.out; omega)).trans y0
      have z0 : ∀ o, (w2.alloc o).cell? ⟨w.heap.size, 0, none⟩ = some (.int .i64 nv) := fun o => blk_cell ((Below.heap_alloc _ _ _ hs2).trans y1) 0
      have HY1 : Hid (w2.heap[w.heap.size]? = some (.cells #[.int .i64 nv, .slice ad n c] 24 (0, 0))) := y1
      clear hb2 hO2 y0 y1 HSa HBa HTd HB0
      generalize hq : T.length = q at *
      obtain ⟨i0, hi, hz0, hz1, hz2⟩ := info_parts (P := Tryd.prog) (e := 35) (z := .int .u64 0) (size := 1) (bytes := 8) (by kernel_rfl)
      obtain ⟨A, hA, hrun⟩ : ∃ A : Array Value, A.toList = List.replicate P (.int .u64 0) ∧ ∀ W : World, (Instr.makeSlice 86 (.int .i64 (P : Int)) (.int .i64 (P : Int))).run Tryd.prog W = .ok (.slice (some ⟨W.heap.size, 0, none⟩) P P) (W.alloc (.cells A 35)) := ⟨madeCells #[.int .u64 0] P, toList_madeCells_one _ _, fun W => by
        have := run_make (P := Tryd.prog) (w := W) 86 35 i0 (.int .u64 0) Tryd.underlying86 hi hz0 .i64 .i64 (P : Int) (P : Int) (by omega) (by omega) (by rw [hz2]; omega) (by omega)
        rw [this, hz1, Int.toNat_natCast, Nat.mul_one]
        rfl⟩
      clear hi hz0 hz1 hz2
      have hs3 : (w2.alloc (.cells #[.int .i64 nv, .slice ad2 q cap2] 24)).heap.size = w2.heap.size + 1 := sz1 _ _
      have hG3 : (w2.alloc (.cells #[.int .i64 nv, .slice ad2 q cap2] 24)).heap[w2.heap.size]? = some (.cells #[.int .i64 nv, .slice ad2 q cap2] 24 (0, 0)) := heap_alloc_at _ _
      have hB3 : Below w2.heap.size w2 (w2.alloc (.cells #[.int .i64 nv, .slice ad2 q cap2] 24)) := (Below.refl _ _).alloc (Nat.le_refl _) _
      have HZ : Hid (∀ W : World, (W.alloc (.cells A 35)).heap[W.heap.size]? = some (.cells A 35 (0, 0)) ∧ Below W.heap.size W (W.alloc (.cells A 35))) := fun W => ⟨heap_alloc_at _ _, (Below.refl _ _).alloc (Nat.le_refl _) _⟩
      have H3 : Hid (Below w2.heap.size w2 (w2.alloc (.cells #[.int .i64 nv, .slice ad2 q cap2] 24)) ∧ (w2.alloc (.cells #[.int .i64 nv, .slice ad2 q cap2] 24)).heap.size = w2.heap.size + 1 ∧ (w2.alloc (.cells #[.int .i64 nv, .slice ad2 q cap2] 24)).heap[w2.heap.size]? = some (.cells #[.int .i64 nv, .slice ad2 q cap2] 24 (0, 0))) := ⟨hB3, hs3, hG3⟩
      clear hs3 hG3 hB3
      have HRf : Hid (∀ (W : World) (R : Nat) (ws : List Nat) (aj : Option Addr) (S : List Int) (cj : Nat), W.ownsRow R 35 1 (.slice (some ⟨R, 0, none⟩) P P) P (wv ws) → ws.length = P → (∀ i, ws.getD i 0 < 18446744073709551616) → Ints W aj S → LT W → S ∈ T → Calls Tryd.prog 49 #[.slice (some ⟨R, 0, none⟩) P P, .slice aj S.length cj] W fun e w' => e = .returned (.tuple #[]) ∧ ∃ ws' : List Nat, w'.ownsRow R 35 1 (.slice (some ⟨R, 0, none⟩) P P) P (wv ws') ∧ ws'.length = P ∧ (∀ i, ws'.getD i 0 < 18446744073709551616) ∧ (∀ i, i < P → ∀ b, b < 64 → (ws'.getD i 0).testBit b = ((ws.getD i 0).testBit b || fal S (64 * i + b))) ∧ Below R W w') := fun W R ws aj S cj a1 a2 a3 a4 a5 a6 => by
        have ht := HTy.out S a6
        have := refute_any R R hh ws aj S cj W (by rw [HPe.out]; exact a1) (by rw [HPe.out]; exact a2) a3 a4 a5 (fun l hl => (ht.2.2 l hl).1) (fun l hl => (ht.2.2 l hl).2) hh14 ht.1 ht.2.1
        rw [HPe.out] at this
        exact this
      obtain ⟨mm, hmm⟩ : ∃ mm, min nv 6 = mm := ⟨_, rfl⟩
      have hmn : min (nv : Int) 6 = (mm : Int) := by omega
      have hm6 : mm ≤ 6 := by omega
      obtain ⟨I, hI⟩ : ∃ I : Nat, 2 ^ mm = I := ⟨_, rfl⟩
      have hI64 : I ≤ 64 := by have := Nat.pow_le_pow_right (n := 2) (by omega) hm6; rw [hI] at this; simpa using this
      have hI1 : 1 ≤ I := by rw [← hI]; exact Nat.one_le_two_pow
      have hw3 : IntKind.u64.wrap ((2 : Int) ^ mm) = (I : Int) := by
        have e : ((2 : Int) ^ mm) = ((2 ^ mm : Nat) : Int) := by simp
        rw [e, hI, IntKind.wrap_u64]; omega
      have HWp : Hid (∀ x : Nat, x < 18446744073709551616 → ∃ y : Nat, IntKind.u64.wrap (bits .xor .u64 IntKind.u64.max (x : Int) * 2 ^ (64 - I)) = (y : Int) ∧ y < 18446744073709551616 ∧ pc 64 y = cnt (fun b => !x.testBit b) I) := fun x hx => by
        have := word_part nv x hx
        rw [hmm, hI] at this
        exact this
      rw [hmm, hI] at HSum
      clear hmm hI HTy
      go_wp2_with fail
      generalize w2.alloc (.cells #[.int .i64 nv, .slice ad2 q cap2] 24) = w3 at *
      obtain ⟨R, hR⟩ : ∃ R, w2.heap.size + 1 = R := ⟨_, rfl⟩
      have hB3 := H3.out.1
      have hs3 := H3.out.2.1
      have HR3 : Hid (w3.heap.size = R) := hs3.trans hR
      have hb34 := (HZ.out w3).2
      have HC3 : Hid (Cls w3 ad2 T) := HO2.out.below hB3
      have HT3 : Hid (LT w3) := HT.out.below (below_next HB2.out hB3)
      have HF3 : Hid (w3.heap[w.heap.size]? = some (.cells #[.int .i64 nv, .slice ad n c] 24 (0, 0))) := (hB3.block _ hs2).trans HY1.out
      have HB3 : Hid (Below w.heap.size w w3) := below_next HB2.out hB3
      have hO4 : (w3.alloc (.cells A 35)).ownsRow R 35 1 (.slice (some ⟨R, 0, none⟩) P P) P (wv (List.replicate P 0)) := by
        have hz4 := (HZ.out w3).1
        rw [HR3.out] at hz4
        refine ⟨by unfold wv; simp, Or.inr ⟨R, P, A, rfl, Nat.le_refl _, hz4, Nat.le_refl _, by unfold maxLen; omega, ?_, ?_⟩⟩
        · rw [← Array.length_toList, hA]; simp
        · rw [hA, Nat.mul_one, List.take_of_length_le (by simp)]
          unfold wv
          rw [List.map_replicate]
          rfl
      rw [HR3.out] at hb34
      rw [hR]
      have hlt3 : w.heap.size < R := by omega
      clear H3 HZ hB3 hs3 hR hrun hA hw2 hmx z0 hs2 HY1 HB2 HO2 HT
      generalize w3.alloc (.cells A 35) = w4 at *
      have HO4 : Hid (w4.ownsRow R 35 1 (.slice (some ⟨R, 0, none⟩) P P) P (wv (List.replicate P 0))) := hO4
      have HB34 : Hid (Below R w3 w4) := hb34
      have HqT : Aside (T.length = q) := hq
      clear hO4 hb34 hq
      go_loopg [33] q (fun gk s33 wr => ∃ (k : Nat) (ws : List Nat), s33 = .int .i64 k ∧ k + gk = q ∧ Aside (WSt hh (T.take k) ws) ∧ Aside (wr.ownsRow R 35 1 (.slice (some ⟨R, 0, none⟩) P P) P (wv ws)) ∧ Aside (Below R w3 wr))
      case atStart => exact ⟨0, List.replicate P 0, rfl, by omega, HW0, HO4, HB34⟩
      case round =>
        obtain ⟨k, ws, rfl, hk, HWs, HOw, HBw⟩ := hrel
        by_cases hlt : k < q
        · have hcw : Cls wr ad2 T := HC3.out.below (by have := HBw.out; rw [← HR3.out] at this; exact this)
          obtain ⟨b, off, rfl, hb, hc⟩ := hcw (by rw [HqT.out]; omega)
          obtain ⟨aj, cj, ckk, hij⟩ := hc k (by rw [HqT.out]; exact hlt)
          have hmem : T.getD k [] ∈ T := by rw [List.getD_eq_getElem?_getD, List.getElem?_eq_getElem (by rw [HqT.out]; exact hlt)]; exact List.getElem_mem _
          have hlw : LT wr := HT3.out.below (by have := HBw.out; rw [← HR3.out] at this; exact this)
          have HTk : Hid (T.take (k + 1) = T.take k ++ [T.getD k []]) := by
            show _ = _
            rw [List.take_add_one, List.getD_eq_getElem?_getD, List.getElem?_eq_getElem (by rw [HqT.out]; exact hlt)]; rfl
          have HCa : Hid (Calls Tryd.prog 49 #[.slice (some ⟨R, 0, none⟩) P P, .slice aj (T.getD k []).length cj] wr fun e w' => e = .returned (.tuple #[]) ∧ ∃ ws' : List Nat, w'.ownsRow R 35 1 (.slice (some ⟨R, 0, none⟩) P P) P (wv ws') ∧ ws'.length = P ∧ (∀ i, ws'.getD i 0 < 18446744073709551616) ∧ (∀ i, i < P → ∀ b, b < 64 → (ws'.getD i 0).testBit b = ((ws.getD i 0).testBit b || fal (T.getD k []) (64 * i + b))) ∧ Below R wr w') := HRf.out wr R ws aj (T.getD k []) cj HOw.out (by rw [HWs.out.len, HPe.out]) HWs.out.lt hij hlw hmem
          clear hc hij hmem hlw hcw
          generalize T.getD k [] = S at *
          have q1 : (k : Int) < (q : Int) := by omega
          go_wp2_with fail
          refine HCa.out.mono ?_
          rintro e w5 ⟨rfl, ws', hO5, hl5, hlt5, hbit5, hb5⟩
          have HWn : Aside (WSt hh (T.take (k + 1)) ws') := by
            show WSt _ _ _
            rw [HTk.out]
            exact HWs.out.snoc (by rw [HPe.out]; exact hl5) hlt5 (by rw [HPe.out]; exact hbit5)
          have HOn : Aside (w5.ownsRow R 35 1 (.slice (some ⟨R, 0, none⟩) P P) P (wv ws')) := hO5
          have HBn : Aside (Below R w3 w5) := HBw.out.trans hb5
          clear hO5 hl5 hlt5 hbit5 hb5 HWs HOw HBw HCa HTk
          go_wp2
          go_roundg (gk - 1)
          case measure => omega
          case rel => exact ⟨k + 1, ws', by simp, by omega, HWn, HOn, HBn⟩
        · obtain rfl : k = q := by omega
          have fF : wr.cell? ⟨w.heap.size, 0, none⟩ = some (.int .i64 nv) := blk_cell ((HBw.out.block _ hlt3).trans HF3.out) 0
          have HWs2 : Aside (WSt hh T ws) := by
            show WSt _ _ _
            have := HWs.out
            rw [List.take_of_length_le (by rw [HqT.out]; exact Nat.le_refl _)] at this
            exact this
          have HSu : Aside (wsum I ws = RR) := HSum.out ws HWs2.out
          have hlw : ws.length = P := by rw [HWs2.out.len, HPe.out]
          have HLt : Aside (∀ i, ws.getD i 0 < 18446744073709551616) := HWs2.out.lt
          have HBf : Aside (Below w.heap.size w wr) := HB3.out.trans (HBw.out.mono (by omega))
          obtain ⟨W0, hW0⟩ : ∃ W, W = wr := ⟨_, rfl⟩
          subst hW0
          clear HWs HWs2 HBw HSum HRf HF3 HC3 HT3 HB3 HW0
          go_wp2
          go_loopg [10, 47] P (fun gk s10 s47 wr => ∃ (j : Nat), s10 = .int .u64 ((wsum I (ws.take j) : Nat) : Int) ∧ s47 = .int .i64 j ∧ j + gk = P ∧ wr = W0)
          case atStart => exact ⟨0, rfl, rfl, by omega, rfl⟩
          case round =>
            obtain ⟨j, rfl, rfl, hj, rfl⟩ := hrel
            by_cases hjl : j < P
            · have cx : wr.cell? ⟨R, j, none⟩ = some (.int .u64 (ws.getD j 0 : Nat)) := by
                rw [HOw.out.cellAt _ (by omega)]
                unfold wv
                rw [List.getElem?_map, List.getElem?_eq_getElem (by rw [hlw]; exact hjl), List.getD_eq_getElem?_getD, List.getElem?_eq_getElem (by rw [hlw]; exact hjl)]
                rfl
              obtain ⟨y, hy1, hy2, hy3⟩ := HWp.out (ws.getD j 0) (HLt.out j)
              have HTj : Aside (wsum I (ws.take (j + 1)) = wsum I (ws.take j) + cnt (fun b => !(ws.getD j 0).testBit b) I) := by
                show _ = _
                rw [← wsum_snoc, List.take_add_one, List.getD_eq_getElem?_getD, List.getElem?_eq_getElem (by rw [hlw]; exact hjl)]; rfl
              have hcI : cnt (fun b => !(ws.getD j 0).testBit b) I ≤ I := cnt_le _ _
              have hsj : wsum I (ws.take j) ≤ 1048576 := by
                have h1 := wsum_le I (ws.take j)
                have h2 : (ws.take j).length ≤ 16384 := by rw [List.length_take]; omega
                have h3 : I * (ws.take j).length ≤ 64 * 16384 := Nat.mul_le_mul hI64 h2
                omega
              have HOn : Hid (Calls Tryd.prog 50 #[.int .u64 (y : Int)] wr fun e w' => e = .returned (.int .i64 ((cnt (fun b => !(ws.getD j 0).testBit b) I : Nat) : Int)) ∧ w' = wr) := by
                have := ones_any y hy2 wr
                rw [hy3] at this
                exact this
              generalize cnt (fun b => !(ws.getD j 0).testBit b) I = cc at *
              generalize ws.getD j 0 = x at *
              generalize wsum I (ws.take j) = sj at *
              have q1 : (j : Int) < (P : Int) := by omega
              clear hy3
              go_wp2_with fail
              refine HOn.out.mono ?_
              rintro e w' ⟨rfl, hw⟩
              obtain rfl := hw.symm
              have hcc : cc ≤ 64 := by omega
              have HE : Aside (((sj : Int) + (cc : Int)) = ((wsum I (ws.take (j + 1)) : Nat) : Int)) := by show _ = _; rw [HTj.out]; omega
              go_wp2
              go_roundg (gk - 1)
              case measure => omega
              case rel => exact ⟨j + 1, by rw [HE.out], by simp, by omega, rfl⟩
            · obtain rfl : j = P := by omega
              have HE : Aside (wsum I (ws.take j) = RR) := by show _ = _; rw [List.take_of_length_le (by omega)]; exact HSu.out
              generalize wsum I (ws.take j) = sj at *
              go_wp2
              go_ret2
              exact ⟨by rw [← HE.out]; rfl, HBf.out⟩
end Go.Proofs.YtlkafgdddlgpcaaDoor
