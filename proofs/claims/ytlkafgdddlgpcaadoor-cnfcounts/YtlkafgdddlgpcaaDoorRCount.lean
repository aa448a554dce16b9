import Derived.Test.YtlkafgdddlgpcaaDoorCountW
import Derived.Test.YtlkafgdddlgpcaaDoorRUnder
namespace Go.Proofs.YtlkafgdddlgpcaaDoor
open Go.ChangeShapes Go.WideShapes Go.ChangeAt Go.RowKit Go.Cn

theorem and1I (a : Nat) (h : a < 9223372036854775808) : bits BinOp.and IntKind.i64 (a : Int) 1 = ((a % 2 : Nat) : Int) := by
  show IntKind.i64.wrap ((BitVec.ofInt 64 (a : Int) &&& BitVec.ofInt 64 ((1 : Nat) : Int)).toNat : Int) = _
  rw [BitVec.toNat_and, nat_ofInt a (by omega), nat_ofInt 1 (by omega), Nat.and_one_is_mod, IntKind.wrap_i64]
  omega
theorem bit_test (x v : Nat) (hx : x < 2097152) : (bits BinOp.and IntKind.i64 ((x : Int) / 2 ^ v) 1 == 1) = x.testBit v := by
  have e : ((x : Int) / 2 ^ v) = ((x / 2 ^ v : Nat) : Int) := by simp
  have hle : x / 2 ^ v ≤ x := Nat.div_le_self _ _
  rw [e, and1I _ (by omega), Nat.testBit_eq_decide_div_mod_eq]
  generalize x / 2 ^ v % 2 = y
  by_cases h : y = 1
  · subst h; rfl
  · have h2 : ¬ ((y : Int) = 1) := by omega
    simp [h, h2]
/-- the first k places are those of a number -/
theorem bin_eq {V x : Nat} {ms : List Int} (hl : ms.length = V) (h : ∀ j, j < V → ms.getD j 0 = if x.testBit j then 1 else -1) : ms = bin V x := by
  apply List.ext_getElem
  · rw [hl, bin_len]
  · intro j h1 h2
    have a := h j (by omega)
    have b := bin_get V x j (by omega)
    rw [List.getD_eq_getElem?_getD, List.getElem?_eq_getElem h1] at a
    rw [List.getD_eq_getElem?_getD, List.getElem?_eq_getElem h2] at b
    simp at a b
    rw [a, b]
theorem set_bin {ms : List Int} {k x : Nat} {y : Int} (hy : y = if x.testBit k then 1 else -1) (hk : k < ms.length) (h : ∀ j, j < k → ms.getD j 0 = if x.testBit j then 1 else -1) : ∀ j, j < k + 1 → (ms.set k y).getD j 0 = if x.testBit j then 1 else -1 := by
  intro j hj
  rw [List.getD_eq_getElem?_getD, List.getElem?_set]
  by_cases e : k = j
  · subst e
    rw [if_pos rfl, if_pos hk]
    exact hy
  · rw [if_neg e, ← List.getD_eq_getElem?_getD]
    exact h j (by omega)
set_option maxHeartbeats 4000000 in
set_option maxRecDepth 100000 in
theorem rcount_any (vars : Int) (ad : Option Addr) (cs : List (List Int)) (c : Nat) (w : World) (h : Cls w ad cs) (hl : cs.length ≤ 1000000000000000000) (hcl : ∀ j, j < cs.length → (cs.getD j []).length ≤ 1000000000000000000) :
    Calls Tryd.prog 26 #[.agg #[.int .i64 vars, .slice ad cs.length c]] w fun e w' => e = .returned (.tuple #[.int .u64 (cnR vars cs : Nat), .int .i64 (cnE vars cs)]) ∧ Below w.heap.size w w' := by
  have HB0 : Hid (∀ o, Below w.heap.size w (w.alloc o)) := fun o => (Below.refl _ _).alloc (Nat.le_refl _) o
  have HC : Hid (∀ W, Below w.heap.size w W → Calls Tryd.prog 33 #[.agg #[.int .i64 vars, .slice ad cs.length c]] W fun e w' => e = .returned (.tuple #[.int .i64 (ck vars cs).1, .int .i64 (ck vars cs).2]) ∧ Below W.heap.size W w') := fun W hW => rcheck_any vars ad cs c W (h.below hW) hl hcl
  have HU : Hid (∀ W bd ms d, Below w.heap.size w W → I8 W bd ms → ms.length ≤ 1000000000000000000 → Calls Tryd.prog 51 #[.agg #[.int .i64 vars, .slice ad cs.length c], .slice bd ms.length d] W fun e w' => e = .returned (.tuple #[.int .i8 (un vars cs ms).1, .int .i64 (un vars cs ms).2.1, .int .i64 (un vars cs ms).2.2]) ∧ Below W.heap.size W w') := fun W bd ms d hW hm hml => runder_any vars ad bd cs ms c d W (h.below hW) hm hl hcl hml
  clear h hl hcl
  by_cases h0 : (ck vars cs).2 = 0
  rotate_left
  · have HCn : Hid (cnR vars cs = 0 ∧ cnE vars cs = (ck vars cs).2) := ⟨by unfold cnR; rw [if_neg h0], by unfold cnE; rw [if_neg h0]⟩
    rw [HCn.out.1, HCn.out.2]
    generalize (ck vars cs).1 = r1 at *
    generalize (ck vars cs).2 = r2 at *
    have e1 : (r2 != 0) = true := by simpa using h0
    clear HU
    generalize cs.length = n at *
    go_enter Tryd.func26, Tryd.ntmps26
    go_wp2_with fail
    have HBa : Hid (Below w.heap.size w (w.alloc (.cells #[.int .i64 vars, .slice ad n c] 24))) := HB0.out _
    generalize w.alloc (.cells #[.int .i64 vars, .slice ad n c] 24) = w1 at *
    refine (HC.out w1 HBa.out).mono ?_
    rintro e w2 ⟨rfl, hb2⟩
    have HB2 : Hid (Below w.heap.size w w2) := below_next HBa.out hb2
    clear hb2
    go_wp2
    go_ret2
    exact ⟨rfl, HB2.out⟩
  · by_cases h20 : 20 < vars
    · have HCn : Hid (cnR vars cs = 0 ∧ cnE vars cs = 21) := ⟨by unfold cnR; rw [if_pos h0, if_pos h20], by unfold cnE; rw [if_pos h0, if_pos h20]⟩
      rw [HCn.out.1, HCn.out.2]
      rw [h0] at HC
      generalize (ck vars cs).1 = r1 at *
      clear HU
      generalize cs.length = n at *
      go_enter Tryd.func26, Tryd.ntmps26
      go_wp2_with fail
      have y0 : (w.alloc (.cells #[.int .i64 vars, .slice ad n c] 24)).heap[w.heap.size]? = some (.cells #[.int .i64 vars, .slice ad n c] 24 (0, 0)) := heap_alloc_at _ _
      have HSa : Hid ((w.alloc (.cells #[.int .i64 vars, .slice ad n c] 24)).heap.size = w.heap.size + 1) := sz1 _ _
      have HBa : Hid (Below w.heap.size w (w.alloc (.cells #[.int .i64 vars, .slice ad n c] 24))) := HB0.out _
      generalize w.alloc (.cells #[.int .i64 vars, .slice ad n c] 24) = w1 at *
      refine (HC.out w1 HBa.out).mono ?_
      rintro e w2 ⟨rfl, hb2⟩
      have HB2 : Hid (Below w.heap.size w w2) := below_next HBa.out hb2
      have z0 : w2.cell? ⟨w.heap.size, 0, none⟩ = some (.int .i64 vars) := blk_cell ((hb2.block _ (by have := HSa.out; omega)).trans y0) 0
      clear hb2 y0
      go_wp2
      go_ret2
      exact ⟨rfl, HB2.out⟩
    · have hz := ck_zero h0
      obtain ⟨nv, rfl⟩ : ∃ nv : Nat, vars = nv := ⟨vars.toNat, by omega⟩
      have hnv : nv ≤ 20 := by omega
      have HCn : Hid (cnE (nv : Int) cs = 0) := by show _ = _; unfold cnE; rw [if_pos h0, if_neg h20]
      have HCm : Hid (cnR (nv : Int) cs = cnt (fun x => fVal (bin nv x) cs == 1) (2 ^ nv)) := by show _ = _; unfold cnR; rw [if_pos h0, if_neg h20]; rfl
      have HUn : Hid (∀ W bd x d, Below w.heap.size w W → I8 W bd (bin nv x) → Calls Tryd.prog 51 #[.agg #[.int .i64 nv, .slice ad cs.length c], .slice bd nv d] W fun e w' => ∃ p, e = .returned (.tuple #[.int .i8 (fVal (bin nv x) cs), .int .i64 p, .int .i64 0]) ∧ Below W.heap.size W w') := fun W bd x d hW hm => by
        have := HU.out W bd (bin nv x) d hW hm (by rw [bin_len]; omega)
        rw [(un_val h0).1, (un_val h0).2, bin_len] at this
        exact this.mono fun e w' h => ⟨_, h.1, h.2⟩
      have HFv : Hid (∀ x, fVal (bin nv x) cs = 1 ∨ fVal (bin nv x) cs = -1) := fun x => full_fVal (bin_full nv x) (fun c hc l hl => (hz.2.2.2.1 c hc).2 l hl)
      rw [h0] at HC
      rw [HCn.out, HCm.out]
      clear hz h0 HCn HCm h20 HU
      generalize hfv : (fun x => fVal (bin nv x) cs) = fv
      have HE : Hid (∀ x, fVal (bin nv x) cs = fv x) := fun x => by rw [← hfv]
      clear hfv
      simp only [HE.out] at HUn HFv ⊢
      generalize (ck (nv : Int) cs).1 = r1 at *
      generalize cs.length = n at *
      obtain ⟨P, hP⟩ : ∃ P : Nat, 2 ^ nv = P := ⟨_, rfl⟩
      have hpw : P ≤ 1048576 := by have := Nat.pow_le_pow_right (n := 2) (by omega) hnv; rw [hP] at this; simpa using this
      have hw2 : wrap64 ((2 : Int) ^ nv) = (P : Int) := by
        have e : ((2 : Int) ^ nv) = ((2 ^ nv : Nat) : Int) := by simp
        rw [e, hP]
        unfold wrap64; omega
      rw [hP]
      clear hP HE
      obtain ⟨i0, hi, hz0, hz1, hz2⟩ := info_parts (P := Tryd.prog) (e := 41) (z := .int .i8 0) (size := 1) (bytes := 1) (by kernel_rfl)
      go_enter Tryd.func26, Tryd.ntmps26
      go_wp2_with fail
      have y0 : (w.alloc (.cells #[.int .i64 nv, .slice ad n c] 24)).heap[w.heap.size]? = some (.cells #[.int .i64 nv, .slice ad n c] 24 (0, 0)) := heap_alloc_at _ _
      have HSa : Hid ((w.alloc (.cells #[.int .i64 nv, .slice ad n c] 24)).heap.size = w.heap.size + 1) := sz1 _ _
      have HBa : Hid (Below w.heap.size w (w.alloc (.cells #[.int .i64 nv, .slice ad n c] 24))) := HB0.out _
      generalize w.alloc (.cells #[.int .i64 nv, .slice ad n c] 24) = w1 at *
      refine (HC.out w1 HBa.out).mono ?_
      rintro e w2 ⟨rfl, hb2⟩
      have HB2 : Hid (Below w.heap.size w w2) := below_next HBa.out hb2
      have hs2 : w.heap.size < w2.heap.size := by have := hb2.size; have := HSa.out; omega
      have HF2 : Hid (w2.heap[w.heap.size]? = some (.cells #[.int .i64 nv, .slice ad n c] 24 (0, 0))) := (hb2.block _ (by have := HSa.out; omega)).trans y0
      have z0 : w2.cell? ⟨w.heap.size, 0, none⟩ = some (.int .i64 nv) := blk_cell HF2.out 0
      clear hb2 y0 HSa HBa HC HB0
      go_wp2_with (at_make; refine wpList_make_full _ rfl _ _ 39 rfl w2.heap.size 41 i0 (.int .i8 0) 1 Tryd.underlying39 hi hz0 hz1 .i64 .i64 _ _ nv rfl rfl rfl rfl (by rw [hz2]; omega) (by unfold maxLen; omega) (Nat.le_refl _) ?_; intro w3 hown3 hgrow3; have HB3 : Aside (Below w2.heap.size w2 w3) := (Below.refl _ _).grown hgrow3 (Nat.le_refl _) (fun k hk => by cases hk); have HO3 : Aside (w3.ownsRow w2.heap.size 41 1 (.slice (some ⟨w2.heap.size, 0, none⟩) nv nv) nv ((List.replicate nv (0 : Int)).map (Value.int .i8))) := (by rw [List.map_replicate]; have e : (madeCells (Value.int .i8 0).cells (nv * 1)).toList = List.replicate nv (Value.int .i8 0) := (by rw [Nat.mul_one]; exact toList_madeCells_one _ _); rw [← e]; exact hown3); clear hown3 hgrow3)
      have hGw : w.heap.size < w2.heap.size := hs2
      obtain ⟨G, hG⟩ : ∃ G, w2.heap.size = G := ⟨_, rfl⟩
      rw [hG] at HB3 HO3 hGw
      have HGe : Hid (w2.heap.size = G) := hG
      rw [hG]
      have HFc : Hid (∀ W, Below G w2 W → W.cell? ⟨w.heap.size, 0, none⟩ = some (.int .i64 nv) ∧ W.cell? ⟨w.heap.size, 1, none⟩ = some (.slice ad n c)) := fun W hW => ⟨blk_cell ((hW.block _ hGw).trans HF2.out) 0, blk_cell ((hW.block _ hGw).trans HF2.out) 1⟩
      have HBw : Hid (∀ W, Below G w2 W → Below w.heap.size w W) := fun W hW => HB2.out.trans (hW.mono (by omega))
      clear hG z0 hi hz0 hz1 hz2 HF2 HB2 hs2
      go_loopg [7, 8] P (fun gk s7 s8 wr => ∃ (x : Nat) (ms : List Int), s7 = .int .u64 ((cnt (fun x => fv x == 1) x : Nat) : Int) ∧ s8 = .int .i64 (x : Int) ∧ x + gk = P ∧ ms.length = nv ∧ Aside (wr.ownsRow G 41 1 (.slice (some ⟨G, 0, none⟩) nv nv) nv (ms.map (Value.int .i8))) ∧ Aside (Below G w2 wr))
      case atStart => exact ⟨0, List.replicate nv 0, rfl, rfl, by omega, by simp, HO3, HB3⟩
      case round =>
        obtain ⟨x, ms, rfl, rfl, hx, hml, HOw, HBr⟩ := hrel
        obtain ⟨f0, f1⟩ := HFc.out wr HBr.out
        have hcx : cnt (fun x => fv x == 1) x ≤ x := cnt_le _ _
        have HCs : Aside (cnt (fun x => fv x == 1) (x + 1) = cnt (fun x => fv x == 1) x + (fv x == 1).toNat) := rfl
        by_cases hlt : x < P
        · have q1 : (x : Int) < (P : Int) := by omega
          obtain ⟨cx, hcxe⟩ : ∃ cx, cnt (fun x => fv x == 1) x = cx := ⟨_, rfl⟩
          rw [hcxe] at hcx HCs ⊢
          clear hcxe
          obtain ⟨W5, hW5⟩ : ∃ W, W = wr := ⟨_, rfl⟩
          have HO5 : Aside (W5.ownsRow G 41 1 (.slice (some ⟨G, 0, none⟩) nv nv) nv (ms.map (Value.int .i8))) := by rw [hW5]; exact HOw
          have HB5 : Aside (Below G w2 W5) := by rw [hW5]; exact HBr
          subst hW5
          clear HOw HBr
          go_wp2
          go_loopg [9] nv (fun gk s9 ws => ∃ (k : Nat) (ms' : List Int), s9 = .int .i64 (k : Int) ∧ k + gk = nv ∧ ms'.length = nv ∧ Aside (∀ j, j < k → ms'.getD j 0 = if x.testBit j then 1 else -1) ∧ Aside (ws.ownsRow G 41 1 (.slice (some ⟨G, 0, none⟩) nv nv) nv (ms'.map (Value.int .i8))) ∧ Aside (Below G w2 ws))
          case atStart => exact ⟨0, ms, rfl, by omega, hml, fun j hj => absurd hj (Nat.not_lt_zero _), HO5, HB5⟩
          case round =>
            obtain ⟨k, ms', rfl, hk, hl', HM, HO, HB⟩ := hrel
            obtain ⟨g0, g1⟩ := HFc.out wr HB.out
            by_cases hkn : k < nv
            · have ck := HO.out.cellAt k (by omega)
              have fz := HO.out.frozenAt k
              rw [List.getElem?_map, List.getElem?_eq_getElem (by omega)] at ck
              generalize ms'[k] = y0 at ck
              have q2 : (k : Int) < (nv : Int) := by omega
              have HA1 : Aside ((wr.setCell ⟨G, k, none⟩ (.int .i8 (-1))).ownsRow G 41 1 (.slice (some ⟨G, 0, none⟩) nv nv) nv ((ms'.set k (-1)).map (Value.int .i8)) ∧ Below G w2 (wr.setCell ⟨G, k, none⟩ (.int .i8 (-1)))) := ⟨by rw [List.map_set]; exact (HO.out.stored k _).1, HB.out.setCell (Nat.le_refl _) _⟩
              have HA : Aside (((wr.setCell ⟨G, k, none⟩ (.int .i8 (-1))).setCell ⟨G, k, none⟩ (.int .i8 1)).ownsRow G 41 1 (.slice (some ⟨G, 0, none⟩) nv nv) nv (((ms'.set k (-1)).set k 1).map (Value.int .i8)) ∧ Below G w2 ((wr.setCell ⟨G, k, none⟩ (.int .i8 (-1))).setCell ⟨G, k, none⟩ (.int .i8 1))) := ⟨by rw [List.map_set]; exact (HA1.out.1.stored k _).1, HA1.out.2.setCell (Nat.le_refl _) _⟩
              have f2 : (wr.setCell ⟨G, k, none⟩ (.int .i8 (-1))).frozen? ⟨G, k, none⟩ = false := HA1.out.1.frozenAt k
              have hbt := bit_test x k (by omega)
              by_cases ht : x.testBit k = true
              · have HM2 : Aside (∀ j, j < k + 1 → ((ms'.set k (-1)).set k 1).getD j 0 = if x.testBit j then 1 else -1) := by
                  intro j hj
                  rw [List.set_set]
                  exact set_bin (by rw [if_pos ht]) (by omega) HM.out j hj
                rw [ht] at hbt
                go_wp2
                go_roundg (nv - k - 1)
                case measure => omega
                case rel => exact ⟨k + 1, _, by simp, by omega, by simp; exact hl', HM2, HA.out.1, HA.out.2⟩
              · have HM1 : Aside (∀ j, j < k + 1 → (ms'.set k (-1)).getD j 0 = if x.testBit j then 1 else -1) := set_bin (by rw [if_neg ht]) (by omega) HM.out
                have ht2 : x.testBit k = false := by simpa using ht
                rw [ht2] at hbt
                go_wp2
                go_roundg (nv - k - 1)
                case measure => omega
                case rel => exact ⟨k + 1, _, by simp, by omega, by simp; exact hl', HM1, HA1.out.1, HA1.out.2⟩
            · obtain rfl : k = nv := by omega
              have HI : Hid (I8 wr (some ⟨G, 0, none⟩) (bin k x)) := by
                have e := bin_eq hl' HM.out
                rw [← e]
                exact own_i8 HO.out hl'
              have HCa : Hid (Calls Tryd.prog 51 #[.agg #[.int .i64 (k : Int), .slice ad n c], .slice (some ⟨G, 0, none⟩) k k] wr fun e w' => ∃ p, e = .returned (.tuple #[.int .i8 (fv x), .int .i64 p, .int .i64 0]) ∧ Below wr.heap.size wr w') := HUn.out wr (some ⟨G, 0, none⟩) x k (HBw.out wr HB.out) HI.out
              go_wp2_with fail
              refine HCa.out.mono ?_
              rintro e w6 ⟨p6, rfl, hb6⟩
              have HO6 : Aside (w6.ownsRow G 41 1 (.slice (some ⟨G, 0, none⟩) k k) k (ms'.map (Value.int .i8))) := own_below HO.out hb6
              have HB6 : Aside (Below G w2 w6) := HB.out.trans (hb6.mono (by have := (HO.out.lt G rfl).2; omega))
              have hfx := HFv.out x
              clear hb6 HCa HI HO HB HM
              rcases hfx with hfx | hfx
              · have HC1 : Aside (cnt (fun x => fv x == 1) (x + 1) = cx + 1) := by show _ = _; rw [HCs.out, hfx]; rfl
                rw [hfx]
                go_wp2
                go_roundg (P - x - 1)
                case measure => omega
                case rel => exact ⟨x + 1, ms', by rw [HC1.out]; simp, by simp, by omega, hl', HO6, HB6⟩
              · have HC1 : Aside (cnt (fun x => fv x == 1) (x + 1) = cx) := by show _ = _; rw [HCs.out, hfx]; rfl
                rw [hfx]
                go_wp2
                go_roundg (P - x - 1)
                case measure => omega
                case rel => exact ⟨x + 1, ms', by rw [HC1.out], by simp, by omega, hl', HO6, HB6⟩
        · obtain rfl : x = P := by omega
          go_wp2
          go_ret2
          exact ⟨rfl, HBw.out _ HBr.out⟩
end Go.Proofs.YtlkafgdddlgpcaaDoor
