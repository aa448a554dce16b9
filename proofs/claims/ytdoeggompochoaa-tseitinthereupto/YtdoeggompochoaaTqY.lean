import Derived.Test.YtdoeggompochoaaTsP
import Derived.Test.YtdoeggompochoaaTsS
import Derived.Test.YtdoeggompochoaaTsZ
import Derived.Test.YtdoeggompochoaaTqX
namespace Go.Proofs.Ytdoeggompochoaa
open Go.ChangeShapes Go.WideShapes Go.ChangeAt Go.RowKit Go.Lib Go.Ag Go.WideMaps Go.Maps Go.ChangeMaps Go.Cn

/-- a literal's value in the document's words -/
theorem rofl_any (w : World) (I l c : Nat) (b : Bool) (hl : l < 4294967296) (hc : l / 2 < c) (h : w.cell? ⟨I, l / 2, none⟩ = some (.bool b)) :
    Calls Try.prog 53 #[.slice (some ⟨I, 0, none⟩) c c, .int .u32 (l : Int)] w fun e w' => e = .returned (.bool (b != (l % 2 == 1))) ∧ w' = w := by
  have q2 : (l : Int) / 2 = ((l / 2 : Nat) : Int) := by omega
  have q3 : (l : Int) % 2 = ((l % 2 : Nat) : Int) := by omega
  have q4 : ((l / 2 : Nat) : Int) < (c : Int) := by omega
  have HR : Hid ((((l % 2 : Nat) : Int) == 1) = (l % 2 == 1)) := by
    rcases Nat.mod_two_eq_zero_or_one l with e | e <;> rw [e] <;> exact hid rfl
  generalize l / 2 = q at *
  generalize l % 2 = r at *
  go_enter Try.func53, Try.ntmps53
  go_wp2_with fail
  go_ret
  refine ⟨?_, rfl⟩
  simp [HR.out]
  cases b <;> cases (r == 1) <;> rfl
set_option maxHeartbeats 4000000 in
theorem rbad_ok (w : World) {B R : Nat} {ns : Nds} {vL : Value} (h : RG w B R ns vL) (hlen : ns.length ≤ 1073741823) (aR : Option Addr) (ls : List Nat) (cR : Nat) (hR : U32s w aR ls) (hbd : ∀ l ∈ ls, l / 2 ≤ ns.length) (hn : ls.length ≤ 1000000000000) :
    Calls Try.prog 48 #[.pointer (some ⟨R, 0, none⟩), .slice aR ls.length cR] w fun e w' => e = .returned (.bool false) ∧ w' = w := by
  have HM : Hid (∀ l ∈ ls, Calls Try.prog 63 #[.pointer (some ⟨R, 0, none⟩), .int .u32 (l : Int)] w fun e w' => e = .returned (.bool true) ∧ w' = w) := fun l hl => may_r w h l (hbd l hl) hlen
  have HU : Hid (U32s w aR ls) := hR
  clear h hR hbd
  obtain ⟨n, hnn⟩ : ∃ n, ls.length = n := ⟨_, rfl⟩
  have HL : Hid (ls.length = n) := hnn
  rw [hnn] at hn
  rw [hnn]
  clear hnn
  go_enter Try.func48, Try.ntmps48
  go_wp2_with fail
  go_loopg [5] n (fun gk s5 wr => ∃ k : Nat, s5 = .int .i64 k ∧ k + gk = n ∧ wr = w)
  case atStart => exact ⟨0, rfl, by omega, rfl⟩
  case round =>
    obtain ⟨k, rfl, hk, rfl⟩ := hrel
    by_cases hlt : k < n
    · obtain ⟨b, off, rfl, hb, hc⟩ := HU.out (by rw [HL.out]; omega)
      have ck := hc k (by rw [HL.out]; exact hlt)
      have HM2 := HM.out (ls.getD k 0) (by rw [List.getD_eq_getElem?_getD, List.getElem?_eq_getElem (by rw [HL.out]; exact hlt)]; exact List.getElem_mem _)
      clear hc
      generalize ls.getD k 0 = l at *
      have HM3 : Hid (Calls Try.prog 63 #[.pointer (some ⟨R, 0, none⟩), .int .u32 (l : Int)] wr fun e w' => e = .returned (.bool true) ∧ w' = wr) := HM2
      clear HM2
      have q1 : (k : Int) < (n : Int) := by omega
      go_wp2_with fail
      refine HM3.out.mono ?_
      rintro e w' ⟨rfl, hw⟩
      obtain rfl := hw.symm
      go_wp2_with fail
      go_roundg (gk - 1)
      case measure => omega
      case rel => exact ⟨k + 1, by simp, by omega, rfl⟩
    · obtain rfl : k = n := by omega
      have q1 : ¬ (k : Int) < (k : Int) := by omega
      go_wp2_with fail
      first | exact ⟨rfl, rfl⟩ | (go_ret; exact ⟨rfl, rfl⟩)
theorem FR.skip {w0 w : World} {I : Nat} {t : TypeId} {c k : Nat} {f : Nat → Value} {z : Value} (h : FR w0 w I t c k f z) (hz : f k = z) : FR w0 w I t c (k + 1) f z := by
  obtain ⟨A, hA, hs, hc⟩ := h.a
  refine ⟨⟨A, hA, hs, fun i hi => ?_⟩, h.bel, h.lo⟩
  rw [hc i hi]
  by_cases e : i < k
  · rw [if_pos e, if_pos (by omega)]
  · by_cases e2 : i = k
    · rw [if_neg e, if_pos (by omega), e2, hz]
    · rw [if_neg e, if_neg (by omega)]
theorem FR.got {w0 w : World} {I : Nat} {t : TypeId} {c k : Nat} {f : Nat → Value} {z : Value} (h : FR w0 w I t c k f z) {i : Nat} (hi : i < k) (hc : i < c) : w.cell? ⟨I, i, none⟩ = some (f i) := by
  obtain ⟨A, hA, hs, hcc⟩ := h.a
  rw [ag_cell hA, hcc i hc, if_pos hi]
/-- the document's nodes, read -/
theorem RG.at_ {w : World} {B R : Nat} {ns : Nds} {gL cL : Nat} (h : RG w B R ns (.slice (some ⟨gL, 0, none⟩) (ns.length + 1) cL)) {k : Nat} (hk : k ≤ ns.length) : w.cell? ⟨gL, k * 3, none⟩ = some (.int .i64 ((nodK ns k).1 : Int)) ∧ w.cell? ⟨gL, k * 3 + 1, none⟩ = some (.int .u32 ((nodK ns k).2.1 : Int)) ∧ w.cell? ⟨gL, k * 3 + 2, none⟩ = some (.int .u32 ((nodK ns k).2.2 : Int)) := by
  have h1 := h.row.cellAt (k * 3 + 0) (by omega)
  have h2 := h.row.cellAt (k * 3 + 1) (by omega)
  have h3 := h.row.cellAt (k * 3 + 2) (by omega)
  rw [refC_at ns (ns.length + 1) k _ (by omega) (by omega)] at h1 h2 h3
  exact ⟨h1, h2, h3⟩
theorem inN_app (a b : Nds) : inN a ≤ inN (a ++ b) := by
  refine snoc_ind (P := fun b => inN a ≤ inN (a ++ b)) (by rw [List.append_nil]; exact Nat.le_refl _) (fun t x h => ?_) b
  rw [← List.append_assoc]
  cases x with
  | none => rw [inN_in]; omega
  | some g => rw [inN_gate]; exact h
theorem inN_at {ns : Nds} {i : Nat} (h : ns[i]? = some none) : inN (ns.take i) < inN ns := by
  have hlt : i < ns.length := (List.getElem?_eq_some_iff.1 h).1
  have e1 : ns = (ns.take i ++ [none]) ++ ns.drop (i + 1) := by
    have h2 : ns[i] = none := (List.getElem?_eq_some_iff.1 h).2
    rw [← h2, List.append_assoc]
    simp
  have h3 := inN_app (ns.take i ++ [none]) (ns.drop (i + 1))
  rw [← e1, inN_in] at h3
  omega
set_option maxHeartbeats 8000000 in
set_option maxRecDepth 100000 in
/-- all nodes' values in the document's words -/
theorem rvals_ok (w : World) {B R : Nat} {ns : Nds} {vL : Value} (h : RG w B R ns vL) (hgs : GS ns) (hlen : ns.length ≤ 1073741823) (aI : Option Addr) (bs : List Bool) (cI : Nat) (hI : Bls w aI bs) (hbl : bs.length = inN ns) :
    Calls Try.prog 52 #[.pointer (some ⟨R, 0, none⟩), .slice aI bs.length cI] w fun e w' => e = .returned (.slice (some ⟨w.heap.size, 0, none⟩) (ns.length + 1) (ns.length + 1)) ∧ FR w w' w.heap.size 4 (ns.length + 1) (ns.length + 1) (fun i => .bool ((evs (fun i => bs.getD i false) ns).getD i false)) (.bool false) := by
  obtain ⟨aL, cL, rfl, hcL, haL⟩ := row_form h.row
  obtain ⟨gL, rfl⟩ := haL (by omega)
  have hR : R < w.heap.size := h.lt R (Or.inl rfl)
  have hG : gL < w.heap.size := h.lt gL (Or.inr rfl)
  have c0 : w.cell? ⟨R, 0, none⟩ = some (.slice (some ⟨gL, 0, none⟩) (ns.length + 1) cL) := ag_cell h.blk 0
  have HC : Hid (∀ k, k ≤ ns.length → w.cell? ⟨gL, k * 3, none⟩ = some (.int .i64 ((nodK ns k).1 : Int)) ∧ w.cell? ⟨gL, k * 3 + 1, none⟩ = some (.int .u32 ((nodK ns k).2.1 : Int)) ∧ w.cell? ⟨gL, k * 3 + 2, none⟩ = some (.int .u32 ((nodK ns k).2.2 : Int))) := fun k hk => h.at_ hk
  have HGS : Hid (GS ns) := hgs
  have HI : Hid (Bls w aI bs) := hI
  have HN : Hid (bs.length = inN ns) := hbl
  obtain ⟨V, hV⟩ : ∃ V, evs (fun i => bs.getD i false) ns = V := ⟨_, rfl⟩
  have HV : Hid (evs (fun i => bs.getD i false) ns = V) := hV
  rw [hV]
  clear h hgs hI hbl hV
  obtain ⟨c, hc⟩ : ∃ c, ns.length + 1 = c := ⟨_, rfl⟩
  rw [hc] at c0
  rw [hc]
  obtain ⟨m, hm⟩ : ∃ m, bs.length = m := ⟨_, rfl⟩
  have HM : Hid (bs.length = m) := hm
  rw [hm]
  clear hm
  obtain ⟨i2, hi2, hz2, hs2, hb2⟩ := info_parts (P := Try.prog) (e := 4) (z := .bool false) (size := 1) (bytes := 1) (by kernel_rfl)
  have eB : ∀ W : World, (Instr.makeSlice 49 (.int .i64 (c : Int)) (.int .i64 (c : Int))).run Try.prog W = .ok (.slice (some ⟨W.heap.size, 0, none⟩) c c) (W.alloc (.cells (madeCells (Value.bool false).cells (c * 1)) 4)) := fun W => by
    have := run_make (P := Try.prog) (w := W) 49 4 i2 (.bool false) Try.underlying49 hi2 hz2 .i64 .i64 (c : Int) (c : Int) (by omega) (by omega) (by rw [hb2]; omega) (by omega)
    rw [this, hs2, show ((c : Int)).toNat = c by omega]
  have HF0 : Hid (FR w (w.alloc (.cells (madeCells #[Value.bool false] c) 4)) w.heap.size 4 c 0 (fun i => .bool (V.getD i false)) (.bool false)) := by
    have h5 := FR.start w (.bool false) c 4 (fun i => .bool (V.getD i false)) rfl
    rw [Nat.mul_one] at h5
    exact h5
  clear hi2 hz2 hs2 hb2
  go_enter Try.func52, Try.ntmps52
  go_wp2_with fail
  go_loopg [6] c (fun gk s6 wr => ∃ k : Nat, s6 = .int .i64 k ∧ k + gk = c ∧ Aside (FR w wr w.heap.size 4 c k (fun i => .bool (V.getD i false)) (.bool false)))
  case atStart => exact ⟨0, rfl, by omega, HF0.out⟩
  case round =>
    clear HF0 eB
    obtain ⟨k, rfl, hk, HQ⟩ := hrel
    have c0w : wr.cell? ⟨R, 0, none⟩ = some (.slice (some ⟨gL, 0, none⟩) c cL) := (HQ.out.bel.cell (p := ⟨R, 0, none⟩) hR).trans c0
    clear c0
    by_cases hlt : k < c
    · obtain ⟨k0, k1, k2⟩ := HC.out k (by omega)
      replace k0 := (HQ.out.bel.cell (p := ⟨gL, k * 3, none⟩) hG).trans k0
      replace k1 := (HQ.out.bel.cell (p := ⟨gL, k * 3 + 1, none⟩) hG).trans k1
      replace k2 := (HQ.out.bel.cell (p := ⟨gL, k * 3 + 2, none⟩) hG).trans k2
      have q1 : (k : Int) < (c : Int) := by omega
      by_cases hk0 : k = 0
      · subst hk0
        have e0 : nodK ns 0 = (0, (0, 0)) := rfl
        rw [e0] at k0 k1 k2
        have HF1 : Hid (FR w wr w.heap.size 4 c (0 + 1) (fun i => .bool (V.getD i false)) (.bool false)) := HQ.out.skip (by
          show Value.bool (V.getD 0 false) = .bool false
          rw [← HV.out]
          have h7 := (litV_zero (fun i => bs.getD i false) ns).1
          unfold litV at h7
          have h8 : ((evs (fun i => bs.getD i false) ns).getD 0 false != false) = false := h7
          cases h10 : (evs (fun i => bs.getD i false) ns).getD 0 false with
          | false => rfl
          | true => rw [h10] at h8; cases h8)
        clear HQ e0
        go_wp2_with fail
        go_roundg (gk - 1)
        case measure => omega
        case rel => exact ⟨0 + 1, by simp, by omega, HF1.out⟩
      · rcases nodK_at (n := k) (by omega) (show k ≤ ns.length by omega) with ⟨h1, h2⟩ | ⟨g, h1, h2⟩
        · rw [h2] at k0 k1 k2
          have hj : inN (ns.take (k - 1)) < m := by rw [← HM.out, HN.out]; exact inN_at h1
          have hv : V.getD k false = bs.getD (inN (ns.take (k - 1))) false := by
            have h5 := evs_inp (fun i => bs.getD i false) h1
            rw [show k - 1 + 1 = k by omega, HV.out] at h5
            exact h5
          clear h1 h2
          generalize inN (ns.take (k - 1)) = j at *
          obtain ⟨b, off, rfl, hb, hcc⟩ := HI.out (by rw [HM.out]; omega)
          have cj := (HQ.out.bel.cell (p := ⟨b, off + j, none⟩) hb).trans (hcc j (by rw [HM.out]; exact hj))
          obtain ⟨t1, t2⟩ := HQ.out.cell hlt
          have HF1 : Hid (FR w (wr.setCell ⟨w.heap.size, k, none⟩ (.bool (V.getD k false))) w.heap.size 4 c (k + 1) (fun i => .bool (V.getD i false)) (.bool false)) := HQ.out.step hlt
          rw [hv] at HF1
          clear hcc HQ hv
          generalize bs.getD j false = bj at *
          have q2 : (j : Int) < (m : Int) := by omega
          go_wp2_with fail
          go_roundg (gk - 1)
          case measure => omega
          case rel => exact ⟨k + 1, by simp, by omega, HF1.out⟩
        · obtain ⟨a, a2⟩ := g
          rw [h2] at k0 k1 k2
          have hop := HGS.out.ops _ _ h1
          have hb5 := nodK_bd HGS.out hlen (n := k) (by omega)
          rw [h2] at hb5
          have hv : V.getD k false = (litV V a && litV V a2) := by
            have h5 := evs_at (fun i => bs.getD i false) HGS.out h1
            rw [show k - 1 + 1 = k by omega, HV.out] at h5
            exact h5
          have ha : a / 2 < k := by have := hop.1; simp at this; omega
          have ha2 : a2 / 2 < k := by have := hop.2.1; simp at this; omega
          have HO1 : Hid (Calls Try.prog 53 #[.slice (some ⟨w.heap.size, 0, none⟩) c c, .int .u32 (a : Int)] wr fun e w' => e = .returned (.bool (litV V a)) ∧ w' = wr) := rofl_any wr w.heap.size a c (V.getD (a / 2) false) hb5.2.1 (by omega) (HQ.out.got ha (by omega))
          have HO2 : Hid (Calls Try.prog 53 #[.slice (some ⟨w.heap.size, 0, none⟩) c c, .int .u32 (a2 : Int)] wr fun e w' => e = .returned (.bool (litV V a2)) ∧ w' = wr) := rofl_any wr w.heap.size a2 c (V.getD (a2 / 2) false) hb5.2.2 (by omega) (HQ.out.got ha2 (by omega))
          obtain ⟨t1, t2⟩ := HQ.out.cell hlt
          have HF1 : Hid (FR w (wr.setCell ⟨w.heap.size, k, none⟩ (.bool (V.getD k false))) w.heap.size 4 c (k + 1) (fun i => .bool (V.getD i false)) (.bool false)) := HQ.out.step hlt
          rw [hv] at HF1
          clear HQ hv h1 h2 hop hb5 ha ha2
          generalize litV V a = x1 at *
          generalize litV V a2 = x2 at *
          cases x1 with
          | true =>
            go_wp2_with fail
            refine HO1.out.mono ?_
            rintro e w' ⟨rfl, hw⟩
            obtain rfl := hw.symm
            go_wp2_with fail
            refine HO2.out.mono ?_
            rintro e w' ⟨rfl, hw⟩
            obtain rfl := hw.symm
            go_wp2_with fail
            go_roundg (gk - 1)
            case measure => omega
            case rel => exact ⟨k + 1, by simp, by omega, by have h5 := HF1.out; simp only [Bool.true_and] at h5; exact h5⟩
          | false =>
            go_wp2_with fail
            refine HO1.out.mono ?_
            rintro e w' ⟨rfl, hw⟩
            obtain rfl := hw.symm
            go_wp2_with fail
            go_roundg (gk - 1)
            case measure => omega
            case rel => exact ⟨k + 1, by simp, by omega, by have h5 := HF1.out; simp only [Bool.false_and] at h5; exact h5⟩
    · obtain rfl : k = c := by omega
      have q1 : ¬ (k : Int) < (k : Int) := by omega
      go_wp2_with fail
      first | exact ⟨rfl, HQ.out⟩ | (go_ret; exact ⟨rfl, HQ.out⟩)
/-- as many values as there are inputs -/
def rowB (bs : List Bool) (q : Nat) : List Bool := (List.range q).map fun i => bs.getD i false
theorem rowB_len (bs : List Bool) (q : Nat) : (rowB bs q).length = q := by unfold rowB; simp
theorem rowB_get (bs : List Bool) {q j : Nat} (h : j < q) : (rowB bs q).getD j false = bs.getD j false := by
  unfold rowB
  rw [List.getD_eq_getElem?_getD, List.getElem?_map, List.getElem?_range h]
  rfl
set_option maxHeartbeats 4000000 in
set_option maxRecDepth 100000 in
theorem fit_r (w : World) {B R : Nat} {ns : Nds} {vL : Value} (h : RG w B R ns vL) (hlen : ns.length ≤ 1073741823) (aI : Option Addr) (bs : List Bool) (cI : Nat) (hI : Bls w aI bs) (hn : bs.length ≤ 1000000000000) :
    Calls Try.prog 27 #[.pointer (some ⟨R, 0, none⟩), .slice aI bs.length cI] w fun e w' => e = .returned (.slice (some ⟨w.heap.size, 0, none⟩) (inN ns) (inN ns)) ∧ Below w.heap.size w w' ∧ Bls w' (some ⟨w.heap.size, 0, none⟩) (rowB bs (inN ns)) := by
  have c1 : w.cell? ⟨R, 1, none⟩ = some (.int .i64 (inN ns : Int)) := ag_cell h.blk 1
  have hR : R < w.heap.size := h.lt R (Or.inl rfl)
  have hin : inN ns ≤ 1073741823 := Nat.le_trans (Nat.sub_le _ _) hlen
  have HI : Hid (Bls w aI bs) := hI
  clear h hI
  generalize inN ns = q at *
  generalize hPP : (fun (e : Ending) (w' : World) => e = .returned (.slice (some ⟨w.heap.size, 0, none⟩) q q) ∧ Below w.heap.size w w' ∧ Bls w' (some ⟨w.heap.size, 0, none⟩) (rowB bs q)) = PP
  obtain ⟨m, hm⟩ : ∃ m, bs.length = m := ⟨_, rfl⟩
  have HM : Hid (bs.length = m) := hm
  have HP : Hid (∀ w' k, FR w w' w.heap.size 4 q k (fun i => .bool (bs.getD i false)) (.bool false) → (k = q ∨ m ≤ k) → PP (.returned (.slice (some ⟨w.heap.size, 0, none⟩) q q)) w') := fun w' k hF hk => by
    rw [← hPP]
    refine ⟨rfl, hF.bel, fun h0 => ?_⟩
    rw [rowB_len] at h0
    obtain ⟨A, hA, hs, hc⟩ := hF.a
    refine ⟨w.heap.size, 0, rfl, (Array.getElem?_eq_some_iff.1 hA).1, fun j hj => ?_⟩
    rw [rowB_len] at hj
    rw [rowB_get bs hj, Nat.zero_add, ag_cell hA, hc j hj]
    by_cases e : j < k
    · rw [if_pos e]
    · rw [if_neg e]
      have e2 : bs.getD j false = false := by rw [List.getD_eq_getElem?_getD, List.getElem?_eq_none (by omega)]; rfl
      rw [e2]
  clear hPP
  rw [hm] at hn
  rw [hm]
  clear hm
  obtain ⟨i2, hi2, hz2, hs2, hb2⟩ := info_parts (P := Try.prog) (e := 4) (z := .bool false) (size := 1) (bytes := 1) (by kernel_rfl)
  have eB : ∀ W : World, (Instr.makeSlice 49 (.int .i64 (q : Int)) (.int .i64 (q : Int))).run Try.prog W = .ok (.slice (some ⟨W.heap.size, 0, none⟩) q q) (W.alloc (.cells (madeCells (Value.bool false).cells (q * 1)) 4)) := fun W => by
    have := run_make (P := Try.prog) (w := W) 49 4 i2 (.bool false) Try.underlying49 hi2 hz2 .i64 .i64 (q : Int) (q : Int) (by omega) (by omega) (by rw [hb2]; omega) (by omega)
    rw [this, hs2, show ((q : Int)).toNat = q by omega]
  have HF0 : Hid (FR w (w.alloc (.cells (madeCells #[Value.bool false] q) 4)) w.heap.size 4 q 0 (fun i => .bool (bs.getD i false)) (.bool false)) := by
    have h5 := FR.start w (.bool false) q 4 (fun i => .bool (bs.getD i false)) rfl
    rw [Nat.mul_one] at h5
    exact h5
  clear hi2 hz2 hs2 hb2
  go_enter Try.func27, Try.ntmps27
  go_wp2_with fail
  go_loopg [6] q (fun gk s6 wr => ∃ k : Nat, s6 = .int .i64 k ∧ k + gk = q ∧ Aside (FR w wr w.heap.size 4 q k (fun i => .bool (bs.getD i false)) (.bool false)))
  case atStart => exact ⟨0, rfl, by omega, HF0.out⟩
  case round =>
    clear HF0 eB c1
    obtain ⟨k, rfl, hk, HQ⟩ := hrel
    by_cases hlt : k < q
    · have q1 : (k : Int) < (q : Int) := by omega
      by_cases hlm : k < m
      · have q2 : (k : Int) < (m : Int) := by omega
        obtain ⟨b, off, rfl, hb, hcc⟩ := HI.out (by rw [HM.out]; omega)
        have cj := (HQ.out.bel.cell (p := ⟨b, off + k, none⟩) hb).trans (hcc k (by rw [HM.out]; exact hlm))
        obtain ⟨t1, t2⟩ := HQ.out.cell hlt
        have HF1 : Hid (FR w (wr.setCell ⟨w.heap.size, k, none⟩ (.bool (bs.getD k false))) w.heap.size 4 q (k + 1) (fun i => .bool (bs.getD i false)) (.bool false)) := HQ.out.step hlt
        clear hcc HQ
        generalize hbk : bs.getD k false = bj at *
        clear hbk
        go_wp2_with fail
        go_roundg (gk - 1)
        case measure => omega
        case rel => exact ⟨k + 1, by simp, by omega, HF1.out⟩
      · have q2 : ¬ (k : Int) < (m : Int) := by omega
        have HZ : Hid (PP (.returned (.slice (some ⟨w.heap.size, 0, none⟩) q q)) wr) := HP.out wr k HQ.out (Or.inr (by omega))
        clear HQ HP
        go_wp2_with fail
        first | exact HZ.out | (go_ret; exact HZ.out)
    · have q1 : ¬ (k : Int) < (q : Int) := by omega
      have HZ : Hid (PP (.returned (.slice (some ⟨w.heap.size, 0, none⟩) q q)) wr) := HP.out wr k HQ.out (Or.inl (by omega))
      clear HQ HP
      go_wp2_with fail
      first | exact HZ.out | (go_ret; exact HZ.out)
/-- a row of truths on its way -/
structure BR (w wr : World) (out : List Bool) (vO : Value) : Prop where
  row : wr.ownsRow w.heap.size 4 1 vO out.length (blV out)
  bel : Below w.heap.size w wr
theorem BR.push {w wr w4 : World} {out : List Bool} {vO : Value} {x : Bool} {g4 cap4 n : Nat} {ob : Obj} (hn : out.length = n) (h : BR w wr out vO) (hown : w4.ownsRow w.heap.size 4 1 (.slice (some ⟨g4, 0, none⟩) (n + 1) cap4) (n + 1) (blV out ++ [.bool x])) (hg : (wr.alloc ob).grownBy w4 vO.ownBlock) : BR w w4 (out ++ [x]) (.slice (some ⟨g4, 0, none⟩) (n + 1) cap4) := by
  subst hn
  have hz := hg.size
  refine ⟨by unfold blV; rw [List.map_append, List.length_append]; exact hown, ⟨hg.os.trans h.bel.os, hg.tape.trans h.bel.tape, hg.output.trans h.bel.output, by have := h.bel.size; simp at hz; omega, fun j hj => ?_⟩⟩
  have hj2 : j < wr.heap.size := Nat.lt_of_lt_of_le hj h.bel.size
  rw [hg.block j (by simp; omega) (fun e => by have := (h.row.lt j e.symm).1; omega), Below.heap_alloc _ _ j hj2]
  exact h.bel.block j hj
set_option maxHeartbeats 8000000 in
set_option maxRecDepth 100000 in
/-- the document's Eval -/
theorem reval_ok (w : World) {B R : Nat} {ns : Nds} {vL : Value} (h : RG w B R ns vL) (hgs : GS ns) (hlen : ns.length ≤ 1073741823) (aI : Option Addr) (bs : List Bool) (cI : Nat) (hI : Bls w aI bs) (hbl : bs.length = inN ns) (aR : Option Addr) (ls : List Nat) (cR : Nat) (hR : U32s w aR ls) (h32 : ∀ l ∈ ls, l < 4294967296) (hbd : ∀ l ∈ ls, l / 2 ≤ ns.length) (hn : ls.length ≤ 1048576) :
    Calls Try.prog 28 #[.pointer (some ⟨R, 0, none⟩), .slice aI bs.length cI, .slice aR ls.length cR] w fun e w' => ∃ v, e = .returned (.tuple #[v, .int .i64 0]) ∧ Below w.heap.size w w' ∧ w'.ownsRow w.heap.size 4 1 v ls.length (blV (ls.map (litV (evs (fun i => bs.getD i false) ns)))) := by
  have HB : Hid (Calls Try.prog 48 #[.pointer (some ⟨R, 0, none⟩), .slice aR ls.length cR] w fun e w' => e = .returned (.bool false) ∧ w' = w) := rbad_ok w h hlen aR ls cR hR hbd (by omega)
  have HVa : Hid (Calls Try.prog 52 #[.pointer (some ⟨R, 0, none⟩), .slice aI bs.length cI] w fun e w' => e = .returned (.slice (some ⟨w.heap.size, 0, none⟩) (ns.length + 1) (ns.length + 1)) ∧ FR w w' w.heap.size 4 (ns.length + 1) (ns.length + 1) (fun i => .bool ((evs (fun i => bs.getD i false) ns).getD i false)) (.bool false)) := rvals_ok w h hgs hlen aI bs cI hI hbl
  have c1 : w.cell? ⟨R, 1, none⟩ = some (.int .i64 (inN ns : Int)) := ag_cell h.blk 1
  have HU : Hid (U32s w aR ls) := hR
  have HLs : Hid (∀ l ∈ ls, l < 4294967296 ∧ l / 2 ≤ ns.length) := fun l hl => ⟨h32 l hl, hbd l hl⟩
  generalize evs (fun i => bs.getD i false) ns = V at *
  rw [← hbl] at c1
  clear h hgs hI hR h32 hbd hbl
  obtain ⟨c, hc⟩ : ∃ c, ns.length + 1 = c := ⟨_, rfl⟩
  rw [hc] at HVa
  generalize bs.length = m at *
  obtain ⟨n, hnn⟩ : ∃ n, ls.length = n := ⟨_, rfl⟩
  have HL : Hid (ls.length = n) := hnn
  rw [hnn] at hn HB
  rw [hnn]
  clear hnn
  generalize hPP : (fun (e : Ending) (w' : World) => ∃ v, e = .returned (.tuple #[v, .int .i64 0]) ∧ Below w.heap.size w w' ∧ w'.ownsRow w.heap.size 4 1 v n (blV (ls.map (litV V)))) = PP
  have HP : Hid (∀ v w', Below w.heap.size w w' → w'.ownsRow w.heap.size 4 1 v n (blV (ls.map (litV V))) → PP (.returned (.tuple #[v, .int .i64 0])) w') := fun v w' h1 h2 => by rw [← hPP]; exact ⟨v, rfl, h1, h2⟩
  clear hPP
  have q0 : ((m : Int) == (m : Int)) = true := by simp
  obtain ⟨i0, hi, hz0, hz1, hz2⟩ := info_parts (P := Try.prog) (e := 4) (z := .bool false) (size := 1) (bytes := 1) (by kernel_rfl)
  go_enter Try.func28, Try.ntmps28
  go_wp2_with fail
  refine HB.out.mono ?_
  rintro e w' ⟨rfl, hw⟩
  obtain rfl := hw.symm
  go_wp2_with fail
  refine HVa.out.mono ?_
  rintro e w1 ⟨rfl, hF⟩
  have HF : Hid (FR w w1 w.heap.size 4 c c (fun i => .bool (V.getD i false)) (.bool false)) := hF
  have HS1 : Hid (w.heap.size < w1.heap.size) := by
    obtain ⟨A, hA, _⟩ := hF.a
    exact (Array.getElem?_eq_some_iff.1 hA).1
  clear HB HVa hF c1
  go_wp2_with fail
  go_loopg [9, 10] n (fun gk s9 s10 wr => ∃ (k : Nat), s10 = .int .i64 k ∧ k + gk = n ∧ Aside (BR w1 wr ((ls.take k).map (litV V)) s9))
  case atStart => exact ⟨0, rfl, by omega, ⟨World.ownsRow_nil _ _ _ _, Below.refl _ _⟩⟩
  case round =>
    obtain ⟨k, rfl, hk, HQ⟩ := hrel
    by_cases hlt : k < n
    · obtain ⟨b, off, rfl, hb, hcc⟩ := HU.out (by rw [HL.out]; omega)
      have hb1 : b < w1.heap.size := Nat.lt_trans hb HS1.out
      have hck := (HQ.out.bel.cell (p := ⟨b, off + k, none⟩) hb1).trans ((HF.out.bel.cell (p := ⟨b, off + k, none⟩) hb).trans (hcc k (by rw [HL.out]; exact hlt)))
      have hll := HLs.out (ls.getD k 0) (by rw [List.getD_eq_getElem?_getD, List.getElem?_eq_getElem (by rw [HL.out]; exact hlt)]; exact List.getElem_mem _)
      have HT2 : Hid ((ls.take (k + 1)).map (litV V) = (ls.take k).map (litV V) ++ [litV V (ls.getD k 0)]) := by
        show _ = _
        rw [List.take_succ_eq_append_getElem (by rw [HL.out]; exact hlt), List.map_append, List.getD_eq_getElem?_getD, List.getElem?_eq_getElem (by rw [HL.out]; exact hlt)]
        rfl
      clear hcc
      generalize ls.getD k 0 = l at *
      have hlen2 : ((ls.take k).map (litV V)).length = k := by rw [List.length_map, List.length_take, HL.out]; omega
      have HO : Hid (Calls Try.prog 53 #[.slice (some ⟨w.heap.size, 0, none⟩) c c, .int .u32 (l : Int)] wr fun e w' => e = .returned (.bool (litV V l)) ∧ w' = wr) := rofl_any wr w.heap.size l c (V.getD (l / 2) false) hll.1 (by omega) ((HQ.out.bel.cell (p := ⟨w.heap.size, l / 2, none⟩) HS1.out).trans (HF.out.got (i := l / 2) (by omega) (by omega)))
      obtain ⟨aO, cO, rfl, hcO, haO⟩ := row_form HQ.out.row
      rw [hlen2]
      have hr4 : Hid (wr.ownsRow w1.heap.size 4 1 (.slice aO k cO) k (blV ((ls.take k).map (litV V)))) := by have := HQ.out.row; rw [hlen2] at this; exact this
      have hw4 : w1.heap.size ≤ wr.heap.size := HQ.out.bel.size
      rw [hlen2] at HQ
      generalize (ls.take k).map (litV V) = out at *
      generalize litV V l = x at *
      have q1 : (k : Int) < (n : Int) := by omega
      clear hll
      go_wp2_with fail
      refine HO.out.mono ?_
      rintro e wn ⟨rfl, hwn⟩; subst wn
      go_wp2_with (at_builtin; refine wpList_append_lies _ rfl _ _ 49 rfl w1.heap.size 4 i0 (.bool false) 1 1 Try.underlying49 hi hz0 hz1 hz2 rfl (by decide) _ _ _ rfl (hr4.out.alloc _) ⟨wr.heap.size, 0, none⟩ 1 1 [.bool x] rfl rfl (one_new _ _ _) (by intro u hu; simp at hu; subst hu; rfl) (by omega) (by unfold maxLen; omega) (by omega) (by simp; omega) (wr.heap.size + 1) (by simp) ?_; intro g6 cap6 w6 hown6 hgrow6 hat6 hlt6; have HS6 : Hid (BR w1 w6 (out ++ [x]) (.slice (some ⟨g6, 0, none⟩) (k + 1) cap6)) := BR.push hlen2 HQ.out hown6 hgrow6; clear hown6 hgrow6 hat6 hlt6; refine Hid.out ?_)
      refine Lib.hid ?_
      go_wp2_with fail
      go_roundg (n - (k + 1))
      case measure => omega
      case rel => exact ⟨k + 1, by simp, by omega, by rw [HT2.out]; exact HS6.out⟩
    · obtain rfl : k = n := by omega
      have q1 : ¬ (k : Int) < (k : Int) := by omega
      have HZ : Hid (PP (.returned (.tuple #[u9, .int .i64 0])) wr) := by
        have h5 := HQ.out.row
        rw [List.take_of_length_le (by rw [HL.out]; exact Nat.le_refl _), List.length_map, HL.out] at h5
        exact HP.out _ _ (ag_next HF.out.bel HQ.out.bel) (row_low h5 (by have := HS1.out; omega))
      clear HQ HP
      go_wp2_with fail
      first | exact HZ.out | (go_ret2; exact HZ.out)
theorem enc_cq {w w' : World} {cn : List Nat} {cls : List (List Int)} {aL : Option Addr} {cL v : Nat} {vC : Value} (h : ENC w w' cn cls (.slice aL cls.length cL) vC) (hl : ∀ c ∈ cls, c.length ≤ 3 ∧ ∀ l ∈ c, gL v l) (hv : v ≤ 1048576) (hf : cls.length ≤ 1048576) : CQs w' aL cls v :=
  ⟨fun h0 => by
    obtain ⟨g, a0, c0, e, hc0, _⟩ := h.at_ h0
    refine ⟨g, e, block_lt_of_cell (a := ⟨g, 0, none⟩) hc0, fun j hj => ?_⟩
    obtain ⟨g2, aj, cj, e2, hcj, hi⟩ := h.at_ hj
    rw [e] at e2
    cases e2
    exact ⟨aj, cj, hcj, hi⟩, hl, hv, hf⟩
theorem all_take {bl : List Bool} {k : Nat} (h : k < bl.length) : (bl.take (k + 1)).all id = ((bl.take k).all id && bl.getD k false) := by
  rw [List.take_succ_eq_append_getElem h, List.all_append, List.getD_eq_getElem?_getD, List.getElem?_eq_getElem h]
  simp
set_option maxHeartbeats 16000000 in
set_option maxRecDepth 100000 in
theorem there_walk (w : World) (ad : Option Addr) (sc : List S3) (cp : Nat) (hsc : MD3 w ad sc) (hbd : bd3 sc) (aW : Option Addr) (ws : List Int) (cW : Nat) (hW : Is w aW ws) (hbW : ∀ x ∈ ws, -9223372036854775808 ≤ x ∧ x ≤ 9223372036854775807) (aI : Option Addr) (bs : List Bool) (cI : Nat) (hI : Bls w aI bs) (hbn : bs.length ≤ 1000000000000) (hn : 3 * sc.length + ws.length ≤ 1048576) :
    Calls Try.prog 5 #[.slice ad sc.length cp, .slice aW ws.length cW, .slice aI bs.length cI] w fun e w' => e = .returned (.bool true) ∧ Below w.heap.size w w' := by
  have HMk : Hid (Calls Try.prog 9 #[.slice ad sc.length cp] w fun e w' => ∃ Rg Rr ns L vL, e = .returned (.tuple #[.pointer (some ⟨Rg, 0, none⟩), .pointer (some ⟨Rr, 0, none⟩), vL, .bool true]) ∧ madeM [] [0] sc = some (ns, L) ∧ MJ ns L sc.length ∧ TT w w' Rg Rr ns ns L vL) := made_two w ad sc cp hsc hbd (by omega)
  have HW : Hid (Is w aW ws ∧ ∀ x ∈ ws, -9223372036854775808 ≤ x ∧ x ≤ 9223372036854775807) := ⟨hW, hbW⟩
  have HI : Hid (Bls w aI bs) := hI
  clear hsc hbd hW hbW hI
  generalize hN1 : sc.length = n1 at *
  generalize hN2 : ws.length = n2 at *
  have HN2 : Hid (ws.length = n2) := hN2
  generalize hN3 : bs.length = n3 at *
  have HN3 : Hid (bs.length = n3) := hN3
  clear hN1 hN2 hN3
  go_enter Try.func5, Try.ntmps5
  go_wp2_with fail
  refine HMk.out.mono ?_
  rintro e w1 ⟨Rg, Rr, ns, L, vL, rfl, _, hmj, ht1⟩
  obtain ⟨aL, cL, rfl, _, _⟩ := row_form ht1.row
  have HT1 : Hid (TT w w1 Rg Rr ns ns L (.slice aL L.length cL) ∧ MJ ns L n1) := ⟨ht1, hmj⟩
  clear ht1 hmj HMk
  go_wp2_with fail
  refine (live_any w1).mono ?_
  rintro e w2 ⟨rfl, hb2⟩
  have HT2 : Hid (TT w w2 Rg Rr ns ns L (.slice aL L.length cL) ∧ MJ ns L n1) := ⟨HT1.out.1.over hb2, HT1.out.2⟩
  clear hb2 HT1
  have HSm : Hid (Calls Try.prog 11 #[.slice aL L.length cL, .slice aW n2 cW, .slice none 0 0] w2 fun e w' => ∃ v, e = .returned v ∧ SR w2 w' (ws.map (pickN L)) v) := by
    have h5 := some_any w2 aL L cL (u32s_of HT2.out.1.row) (by rw [HT2.out.2.len]; omega) (by rw [HT2.out.2.len]; omega) (fun l hl => by have h1 := HT2.out.2.lit l hl; have h2 := HT2.out.2.few; omega) aW ws cW (HW.out.1.below HT2.out.1.bel) HW.out.2 (by rw [HN2.out]; omega)
    rw [HN2.out] at h5
    exact h5
  go_wp2_with fail
  refine HSm.out.mono ?_
  rintro e w3 ⟨vR, rfl, hs3⟩
  have hrl : (ws.map (pickN L)).length = n2 := by rw [List.length_map]; exact HN2.out
  obtain ⟨aR, cR, rfl, _, _⟩ := row_form hs3.row
  have hL0 : 0 < L.length := by rw [HT2.out.2.len]; omega
  have hrb : ∀ l ∈ ws.map (pickN L), l / 2 ≤ ns.length := fun l hl => by
    obtain ⟨x, _, rfl⟩ := List.mem_map.1 hl
    exact pickN_le HT2.out.2.lit hL0
  have hns : ns.length ≤ n1 := HT2.out.2.few
  have HGS : Hid (GS ns) := HT2.out.2.gs
  have HRB : Hid (∀ l ∈ ws.map (pickN L), l / 2 ≤ ns.length) := hrb
  have HT3 : Hid (TT w w3 Rg Rr ns ns L (.slice aL L.length cL) ∧ U32s w3 aR (ws.map (pickN L))) := ⟨HT2.out.1.over hs3.bel, u32s_of hs3.row⟩
  clear hs3 HT2 HSm hrb HW
  generalize ws.map (pickN L) = ls at *
  have HFi : Hid (Calls Try.prog 27 #[.pointer (some ⟨Rr, 0, none⟩), .slice aI n3 cI] w3 fun e w' => e = .returned (.slice (some ⟨w3.heap.size, 0, none⟩) (inN ns) (inN ns)) ∧ Below w3.heap.size w3 w' ∧ Bls w' (some ⟨w3.heap.size, 0, none⟩) (rowB bs (inN ns))) := by
    obtain ⟨vR2, hr⟩ := HT3.out.1.r
    have h5 := fit_r w3 hr (by omega) aI bs cI (HI.out.below HT3.out.1.bel) (by rw [HN3.out]; exact hbn)
    rw [HN3.out] at h5
    exact h5
  go_wp2_with fail
  refine HFi.out.mono ?_
  rintro e wF ⟨rfl, hbF, hblF⟩
  have HT4 : Hid (TT w wF Rg Rr ns ns L (.slice aL L.length cL) ∧ U32s wF aR ls ∧ Bls wF (some ⟨w3.heap.size, 0, none⟩) (rowB bs (inN ns))) := ⟨HT3.out.1.over hbF, HT3.out.2.below hbF, hblF⟩
  clear hbF hblF HT3 HFi HI
  generalize w3.heap.size = Ib at *
  have hrbl : (rowB bs (inN ns)).length = inN ns := rowB_len _ _
  generalize rowB bs (inN ns) = row at *
  have HCN : Hid (CN ns (coneS ns ls).2 ls) := cn_cone HGS.out HRB.out
  have HCF : Hid ((coneS ns ls).2.length ≤ 1048576) := by have := cone_few HGS.out HRB.out; show _ ≤ _; omega
  have HFE : Hid ((clsE ns ls).length ≤ 1048576) := by have h1 : (clsE ns ls).length ≤ _ := cls_few HGS.out HRB.out allM; show _ ≤ _; omega
  have HFP : Hid ((clsP ns ls).length ≤ 1048576) := by have h1 : (clsP ns ls).length ≤ _ := cls_few HGS.out HRB.out _; show _ ≤ _; omega
  have HSE : Hid ((clsE ns ls).all (tC (fillN ns row (coneS ns ls).2)) = ls.all (litV (evs (fun i => row.getD i false) ns)) ∧ (∀ c ∈ clsE ns ls, c.length ≤ 3 ∧ ∀ l ∈ c, gL (coneS ns ls).2.length l)) := ⟨there_sem HGS.out row HCN.out _, cls_lit HCN.out _⟩
  have HSP : Hid ((clsP ns ls).all (tC (fillN ns row (coneS ns ls).2)) = ls.all (litV (evs (fun i => row.getD i false) ns)) ∧ (∀ c ∈ clsP ns ls, c.length ≤ 3 ∧ ∀ l ∈ c, gL (coneS ns ls).2.length l)) := ⟨there_sem HGS.out row HCN.out _, cls_lit HCN.out _⟩
  have HGM : Hid (gM (fillN ns row (coneS ns ls).2) ∧ (fillN ns row (coneS ns ls).2).length = (coneS ns ls).2.length) := ⟨fill_gM _ _ _, fill_len _ _ _⟩
  have HE1 : Hid (Calls Try.prog 12 #[.pointer (some ⟨Rg, 0, none⟩), .slice aR n2 cR] wF fun e w' => ∃ aF cF aC cC, e = .returned (.tuple #[.agg #[.int .i64 ((coneS ns ls).2.length : Int), .slice aF (clsE ns ls).length cF], .slice aC (coneS ns ls).2.length cC, .int .i64 0]) ∧ ENC wF w' (coneS ns ls).2 (clsE ns ls) (.slice aF (clsE ns ls).length cF) (.slice aC (coneS ns ls).2.length cC) ∧ TT w w' Rg Rr ns ns L (.slice aL L.length cL)) := by
    have h5 := enc_tt HT4.out.1 HGS.out aR ls cR HT4.out.2.1 HRB.out (by omega) (by omega) HCF.out HFE.out
    rw [hrl] at h5
    exact h5
  have HE2 : Hid (∀ W, Below wF.heap.size wF W → Calls Try.prog 17 #[.pointer (some ⟨Rg, 0, none⟩), .slice aR n2 cR] W fun e w' => ∃ aF cF aC cC, e = .returned (.tuple #[.agg #[.int .i64 ((coneS ns ls).2.length : Int), .slice aF (clsP ns ls).length cF], .slice aC (coneS ns ls).2.length cC, .int .i64 0]) ∧ ENC W w' (coneS ns ls).2 (clsP ns ls) (.slice aF (clsP ns ls).length cF) (.slice aC (coneS ns ls).2.length cC) ∧ TT w w' Rg Rr ns ns L (.slice aL L.length cL)) := fun W hW => by
    have h5 := pol_tt (HT4.out.1.over hW) HGS.out aR ls cR (HT4.out.2.1.below hW) HRB.out (by omega) (by omega) HCF.out HFP.out
    rw [hrl] at h5
    exact h5
  have HFl : Hid (∀ W, Below wF.heap.size wF W → Calls Try.prog 24 #[.pointer (some ⟨Rg, 0, none⟩), .slice aR n2 cR, .slice (some ⟨Ib, 0, none⟩) (inN ns) (inN ns)] W fun e w' => ∃ aM cM, e = .returned (.tuple #[.slice aM (coneS ns ls).2.length cM, .int .i64 0]) ∧ Below W.heap.size W w' ∧ I8s w' aM (fillN ns row (coneS ns ls).2)) := fun W hW => by
    obtain ⟨nb, vb, vg, M, D, hg, _⟩ := (HT4.out.1.over hW).g
    have h5 := Fill_ok W hg HGS.out aR ls cR (HT4.out.2.1.below hW) (fun l hl => by have := HRB.out l hl; omega) HRB.out (by omega) HCF.out (some ⟨Ib, 0, none⟩) row (inN ns) (HT4.out.2.2.below hW) hrbl
    rw [hrl, hrbl] at h5
    refine h5.mono ?_
    rintro e w' ⟨v, rfl, h6, h7⟩
    obtain ⟨aM, cM, rfl, _, _⟩ := row_form h7
    exact ⟨aM, cM, rfl, h6, i8s_of h7⟩
  have HEv : Hid (∀ W, Below wF.heap.size wF W → Calls Try.prog 28 #[.pointer (some ⟨Rr, 0, none⟩), .slice (some ⟨Ib, 0, none⟩) (inN ns) (inN ns), .slice aR n2 cR] W fun e w' => ∃ aV cV, e = .returned (.tuple #[.slice aV n2 cV, .int .i64 0]) ∧ Below W.heap.size W w' ∧ Bls w' aV (ls.map (litV (evs (fun i => row.getD i false) ns)))) := fun W hW => by
    obtain ⟨vR2, hr⟩ := (HT4.out.1.over hW).r
    have h5 := reval_ok W hr HGS.out (by omega) (some ⟨Ib, 0, none⟩) row (inN ns) (HT4.out.2.2.below hW) hrbl aR ls cR (HT4.out.2.1.below hW) (fun l hl => by have := HRB.out l hl; omega) HRB.out (by omega)
    rw [hrl, hrbl] at h5
    refine h5.mono ?_
    rintro e w' ⟨v, rfl, h6, h7⟩
    obtain ⟨aV, cV, rfl, _, _⟩ := row_form h7
    exact ⟨aV, cV, rfl, h6, bls_of h7⟩
  have HB3 : Hid (Below w.heap.size w wF) := HT4.out.1.bel
  have HBL : Hid ((ls.map (litV (evs (fun i => row.getD i false) ns))).length = n2 ∧ (ls.map (litV (evs (fun i => row.getD i false) ns))).all id = ls.all (litV (evs (fun i => row.getD i false) ns))) := ⟨by rw [List.length_map]; exact hrl, by rw [List.all_map]; rfl⟩
  have hcF := HCF.out
  clear HT4 HCF HRB HCN hrbl hrl
  generalize fillN ns row (coneS ns ls).2 = ms at *
  generalize (coneS ns ls).2 = cn at *
  generalize ls.all (litV (evs (fun i => row.getD i false) ns)) = RR at *
  generalize ls.map (litV (evs (fun i => row.getD i false) ns)) = bl at *
  generalize clsE ns ls = FF at *
  generalize clsP ns ls = PPc at *
  generalize hcc : cn.length = cc at *
  generalize hnF : FF.length = nF at *
  generalize hnP : PPc.length = nP at *
  have HLF : Hid (FF.length = nF ∧ PPc.length = nP) := ⟨hnF, hnP⟩
  generalize inN ns = qi at *
  clear hnF hnP hcc
  have HNo : Hid (∀ W, Calls Try.prog 14 #[.int .i64 0] W fun e w' => e = .returned (.int .i64 0) ∧ w' = W) := fun W => no_any 0 W
  go_wp2_with fail
  refine HE1.out.mono ?_
  rintro e w4 ⟨aF, cF, aC, cC, rfl, he4, _⟩
  obtain ⟨w4', hw4'⟩ : ∃ w4', w4.alloc (.cells #[.int .i64 (cc : Int), .slice aF nF cF] 33) = w4' := ⟨_, rfl⟩
  have HT4 : Hid (Below wF.heap.size wF w4' ∧ ENC wF w4' cn FF (.slice aF nF cF) (.slice aC cc cC) ∧ w4'.heap[w4.heap.size]? = some (.cells #[.int .i64 (cc : Int), .slice aF nF cF] 33 (0, 0))) := by rw [← hw4']; exact ⟨ag_next he4.bel (ag_bel1 _ _), he4.over (ag_bel1 _ _), heap_alloc_new _ _⟩
  have HW4e : Hid (w4.alloc (.cells #[.int .i64 (cc : Int), .slice aF nF cF] 33) = w4') := hw4'
  obtain ⟨Fb, hFb⟩ : ∃ Fb, w4.heap.size = Fb := ⟨_, rfl⟩
  rw [hFb] at HT4
  clear he4 HE1 hw4'
  go_wp2_with fail
  rw [HW4e.out]
  clear HW4e
  refine (HE2.out w4' HT4.out.1).mono ?_
  rintro e w5 ⟨aP, cP, aC2, cC2, rfl, he5, _⟩
  obtain ⟨w5', hw5'⟩ : ∃ w5', w5.alloc (.cells #[.int .i64 (cc : Int), .slice aP nP cP] 33) = w5' := ⟨_, rfl⟩
  have HT5 : Hid (Below wF.heap.size wF w5' ∧ ENC wF w5' cn FF (.slice aF nF cF) (.slice aC cc cC) ∧ w5'.heap[Fb]? = some (.cells #[.int .i64 (cc : Int), .slice aF nF cF] 33 (0, 0)) ∧ ENC w4' w5' cn PPc (.slice aP nP cP) (.slice aC2 cc cC2) ∧ w5'.heap[w5.heap.size]? = some (.cells #[.int .i64 (cc : Int), .slice aP nP cP] 33 (0, 0))) := by
    rw [← hw5']
    have hb := ag_next he5.bel (ag_bel1 w5 (.cells #[.int .i64 (cc : Int), .slice aP nP cP] 33))
    exact ⟨ag_next HT4.out.1 hb, HT4.out.2.1.over hb, (hb.block _ (Array.getElem?_eq_some_iff.1 HT4.out.2.2).1).trans HT4.out.2.2, he5.over (ag_bel1 _ _), heap_alloc_new _ _⟩
  have HW5e : Hid (w5.alloc (.cells #[.int .i64 (cc : Int), .slice aP nP cP] 33) = w5') := hw5'
  obtain ⟨Pb, hPb⟩ : ∃ Pb, w5.heap.size = Pb := ⟨_, rfl⟩
  rw [hPb] at HT5
  clear he5 HE2 hw5' HT4
  go_wp2_with fail
  rw [HW5e.out]
  clear HW5e hFb hPb
  refine (HFl.out w5' HT5.out.1).mono ?_
  rintro e w6 ⟨aM, cM, rfl, hb6, hm6⟩
  have HI6 : Hid (I8s w6 aM ms ∧ Below w5'.heap.size w5' w6) := ⟨hm6, hb6⟩
  clear hb6 hm6 HFl
  go_wp2_with fail
  refine (HEv.out w6 (ag_next HT5.out.1 HI6.out.2)).mono ?_
  rintro e w7 ⟨aV, cV, rfl, hb7, hv7⟩
  have HI7 : Hid (I8s w7 aM ms ∧ Below w5'.heap.size w5' w7 ∧ Bls w7 aV bl) := ⟨HI6.out.1.below hb7, ag_next HI6.out.2 hb7, hv7⟩
  clear hb7 hv7 HI6 HEv
  have HB7 : Hid (Below w.heap.size w w7) := ag_next HB3.out (ag_next HT5.out.1 HI7.out.2.1)
  have eF : ENC wF w7 cn FF (.slice aF FF.length cF) (.slice aC cc cC) := by rw [HLF.out.1]; exact HT5.out.2.1.over HI7.out.2.1
  have eP : ENC w4' w7 cn PPc (.slice aP PPc.length cP) (.slice aC2 cc cC2) := by rw [HLF.out.2]; exact HT5.out.2.2.2.1.over HI7.out.2.1
  have HQF : Hid (CQs w7 aF FF cc) := enc_cq eF HSE.out.2 hcF (by rw [HLF.out.1]; exact HFE.out)
  have HQP : Hid (CQs w7 aP PPc cc) := enc_cq eP HSP.out.2 hcF (by rw [HLF.out.2]; exact HFP.out)
  have HFb : Hid (w7.heap[Fb]? = some (.cells #[.int .i64 (cc : Int), .slice aF nF cF] 33 (0, 0)) ∧ w7.heap[Pb]? = some (.cells #[.int .i64 (cc : Int), .slice aP nP cP] 33 (0, 0))) := ⟨(HI7.out.2.1.block _ (Array.getElem?_eq_some_iff.1 HT5.out.2.2.1).1).trans HT5.out.2.2.1, (HI7.out.2.1.block _ (Array.getElem?_eq_some_iff.1 HT5.out.2.2.2.2).1).trans HT5.out.2.2.2.2⟩
  have HAT : Hid (∀ W, Below w7.heap.size w7 W → W.cell? ⟨Fb, 0, none⟩ = some (.int .i64 (cc : Int)) ∧ W.cell? ⟨Fb, 1, none⟩ = some (.slice aF nF cF) ∧ W.cell? ⟨Pb, 0, none⟩ = some (.int .i64 (cc : Int)) ∧ W.cell? ⟨Pb, 1, none⟩ = some (.slice aP nP cP)) := fun W hW => by
    have h1 := (hW.block _ (Array.getElem?_eq_some_iff.1 HFb.out.1).1).trans HFb.out.1
    have h2 := (hW.block _ (Array.getElem?_eq_some_iff.1 HFb.out.2).1).trans HFb.out.2
    exact ⟨ag_cell h1 0, ag_cell h1 1, ag_cell h2 0, ag_cell h2 1⟩
  have HCkF : Hid (∀ W, Below w7.heap.size w7 W → Calls Try.prog 29 #[.agg #[.int .i64 (cc : Int), .slice aF nF cF]] W fun e w' => e = .returned (.tuple #[.int .i64 0, .int .i64 0]) ∧ Below W.heap.size W w') := fun W hW => by
    have h5 := rck_ok W aF FF cF cc (HQF.out.below hW)
    rw [HLF.out.1] at h5
    exact h5
  have HCkP : Hid (∀ W, Below w7.heap.size w7 W → Calls Try.prog 29 #[.agg #[.int .i64 (cc : Int), .slice aP nP cP]] W fun e w' => e = .returned (.tuple #[.int .i64 0, .int .i64 0]) ∧ Below W.heap.size W w') := fun W hW => by
    have h5 := rck_ok W aP PPc cP cc (HQP.out.below hW)
    rw [HLF.out.2] at h5
    exact h5
  have HTF : Hid (∀ W, Below w7.heap.size w7 W → Calls Try.prog 30 #[.agg #[.int .i64 (cc : Int), .slice aF nF cF], .slice aM cc cM] W fun e w' => e = .returned (.bool RR) ∧ Below W.heap.size W w') := fun W hW => by
    have h5 := true1_ok W aF aM FF ms cF cM cc (HQF.out.below hW) (HI7.out.1.below hW) HGM.out.1 HGM.out.2
    rw [HLF.out.1, HGM.out.2, HSE.out.1] at h5
    exact h5
  have HTP : Hid (∀ W, Below w7.heap.size w7 W → Calls Try.prog 30 #[.agg #[.int .i64 (cc : Int), .slice aP nP cP], .slice aM cc cM] W fun e w' => e = .returned (.bool RR) ∧ Below W.heap.size W w') := fun W hW => by
    have h5 := true1_ok W aP aM PPc ms cP cM cc (HQP.out.below hW) (HI7.out.1.below hW) HGM.out.1 HGM.out.2
    rw [HLF.out.2, HGM.out.2, HSP.out.1] at h5
    exact h5
  have HBl : Hid (Bls w7 aV bl) := HI7.out.2.2
  clear eF eP HQF HQP HFb HI7 HT5 HB3 HSE HSP HGM HFE HFP HLF
  go_wp2_with (go_at_call 14; refine (HNo.out _).mono ?_; rintro e w' ⟨rfl, hw⟩; obtain rfl := hw.symm)
  go_loopg [23, 24] n2 (fun gk s23 s24 wr => ∃ k : Nat, s23 = .bool ((bl.take k).all id) ∧ s24 = .int .i64 k ∧ k + gk = n2 ∧ wr = w7)
  case atStart => exact ⟨0, rfl, rfl, by omega, rfl⟩
  case round =>
    obtain ⟨k, rfl, rfl, hk, rfl⟩ := hrel
    by_cases hlt : k < n2
    · have q1 : (k : Int) < (n2 : Int) := by omega
      obtain ⟨b, off, rfl, hb, hcc⟩ := HBl.out (by rw [HBL.out.1]; omega)
      have cj := hcc k (by rw [HBL.out.1]; exact hlt)
      have HT2 : Hid ((bl.take (k + 1)).all id = ((bl.take k).all id && bl.getD k false)) := all_take (by rw [HBL.out.1]; exact hlt)
      clear hcc
      generalize bl.getD k false = bk at *
      cases hx : (bl.take k).all id with
      | true =>
        rw [hx] at HT2
        clear hx
        go_wp2_with fail
        go_roundg (gk - 1)
        case measure => omega
        case rel => exact ⟨k + 1, by rw [HT2.out]; rfl, by simp, by omega, rfl⟩
      | false =>
        rw [hx] at HT2
        clear hx
        go_wp2_with fail
        go_roundg (gk - 1)
        case measure => omega
        case rel => exact ⟨k + 1, by rw [HT2.out]; rfl, by simp, by omega, rfl⟩
    · obtain rfl : k = n2 := by omega
      have q1 : ¬ (k : Int) < (k : Int) := by omega
      have hx : (bl.take k).all id = RR := by rw [List.take_of_length_le (by rw [HBL.out.1]; exact Nat.le_refl _)]; exact HBL.out.2
      rw [hx]
      clear hx
      obtain ⟨a0, a1, a2, a3⟩ := HAT.out wr (Below.refl _ _)
      go_wp2_with fail
      refine (HCkF.out wr (Below.refl _ _)).mono ?_
      rintro e w8 ⟨rfl, hb8⟩
      have HB8 : Hid (Below wr.heap.size wr w8) := hb8
      clear a0 a1 a2 a3 hb8
      obtain ⟨a0, a1, a2, a3⟩ := HAT.out w8 HB8.out
      go_wp2_with fail
      refine (HCkP.out w8 HB8.out).mono ?_
      rintro e w9 ⟨rfl, hb9⟩
      have HB9 : Hid (Below wr.heap.size wr w9) := ag_next HB8.out hb9
      clear a0 a1 a2 a3 hb9 HB8
      obtain ⟨a0, a1, a2, a3⟩ := HAT.out w9 HB9.out
      cases RR with
      | true =>
        go_wp2_with fail
        refine (HTF.out w9 HB9.out).mono ?_
        rintro e w10 ⟨rfl, hb10⟩
        have HB10 : Hid (Below wr.heap.size wr w10) := ag_next HB9.out hb10
        clear a0 a1 a2 a3 hb10 HB9
        obtain ⟨a0, a1, a2, a3⟩ := HAT.out w10 HB10.out
        go_wp2_with fail
        refine (HTP.out w10 HB10.out).mono ?_
        rintro e w11 ⟨rfl, hb11⟩
        have HZ : Hid (Below w.heap.size w w11) := ag_next HB7.out (ag_next HB10.out hb11)
        clear hb11
        go_wp2_with fail
        first | exact ⟨rfl, HZ.out⟩ | (go_ret; exact ⟨rfl, HZ.out⟩)
      | false =>
        go_wp2_with fail
        refine (HTF.out w9 HB9.out).mono ?_
        rintro e w10 ⟨rfl, hb10⟩
        have HZ : Hid (Below w.heap.size w w10) := ag_next HB7.out (ag_next HB9.out hb10)
        clear a0 a1 a2 a3 hb10 HB9
        go_wp2_with fail
        first | exact ⟨rfl, HZ.out⟩ | (go_ret; exact ⟨rfl, HZ.out⟩)
end Go.Proofs.Ytdoeggompochoaa
