import Derived.Test.YtkomadlmonhlhaaTsP
import Derived.Test.YtkomadlmonhlhaaTsS
namespace Go.Proofs.Ytkomadlmonhlhaa
open Go.ChangeShapes Go.WideShapes Go.ChangeAt Go.RowKit Go.Lib Go.Ag Go.WideMaps Go.Maps Go.ChangeMaps Go.Cn

/-- a literal's value in the document's words -/
theorem rofl_any (w : World) (I l c : Nat) (b : Bool) (hl : l < 4294967296) (hc : l / 2 < c) (h : w.cell? ⟨I, l / 2, none⟩ = some (.bool b)) :
    Calls Try.prog 73 #[.slice (some ⟨I, 0, none⟩) c c, .int .u32 (l : Int)] w fun e w' => e = .returned (.bool (b != (l % 2 == 1))) ∧ w' = w := by
  have q2 : (l : Int) / 2 = ((l / 2 : Nat) : Int) := by omega
  have q3 : (l : Int) % 2 = ((l % 2 : Nat) : Int) := by omega
  have q4 : ((l / 2 : Nat) : Int) < (c : Int) := by omega
  have HR : Hid ((((l % 2 : Nat) : Int) == 1) = (l % 2 == 1)) := by
    rcases Nat.mod_two_eq_zero_or_one l with e | e <;> rw [e] <;> exact hid rfl
  generalize l / 2 = q at *
  generalize l % 2 = r at *
  go_enter Try.func73, Try.ntmps73
  go_wp2_with fail
  go_ret
  refine ⟨?_, rfl⟩
  simp [HR.out]
  cases b <;> cases (r == 1) <;> rfl
set_option maxHeartbeats 4000000 in
theorem rbad_ok (w : World) {B R : Nat} {ns : Nds} {vL : Value} (h : RG w B R ns vL) (hlen : ns.length ≤ 1073741823) (aR : Option Addr) (ls : List Nat) (cR : Nat) (hR : U32s w aR ls) (hbd : ∀ l ∈ ls, l / 2 ≤ ns.length) (hn : ls.length ≤ 1000000000000) :
    Calls Try.prog 41 #[.pointer (some ⟨R, 0, none⟩), .slice aR ls.length cR] w fun e w' => e = .returned (.bool false) ∧ w' = w := by
  have HM : Hid (∀ l ∈ ls, Calls Try.prog 52 #[.pointer (some ⟨R, 0, none⟩), .int .u32 (l : Int)] w fun e w' => e = .returned (.bool true) ∧ w' = w) := fun l hl => may_r w h l (hbd l hl) hlen
  have HU : Hid (U32s w aR ls) := hR
  clear h hR hbd
  obtain ⟨n, hnn⟩ : ∃ n, ls.length = n := ⟨_, rfl⟩
  have HL : Hid (ls.length = n) := hnn
  rw [hnn] at hn
  rw [hnn]
  clear hnn
  go_enter Try.func41, Try.ntmps41
  go_wp2_with fail
  go_loopg [5] n (fun gk s5 wr => ∃ k : Nat, s5 = .int .i64 k ∧ k + gk = n ∧ wr = w)
  case atStart => exact ⟨0, rfl, by omega, rfl⟩
  case round =>
    obtain ⟨k, rfl, hk, rfl⟩ := hrel
    by_cases hlt : k < n
    · obtain ⟨b, off, rfl, hb, hc⟩ := HU.out (by rw [HL.out]; omega)
      have ck := hc k (by rw [HL.out]; exact hlt)
      have HM2 := HM.out (ls.getD k 0) (by rw [List.getD_eq_getElem?_getD, List.getElem?_eq_getElem (by rw [HL.out]; exact hlt)]; exact List.getElem_mem _)
      clear hc
      generalize ls.getD k 0 = l at *
      have HM3 : Hid (Calls Try.prog 52 #[.pointer (some ⟨R, 0, none⟩), .int .u32 (l : Int)] wr fun e w' => e = .returned (.bool true) ∧ w' = wr) := HM2
      clear HM2
      have q1 : (k : Int) < (n : Int) := by omega
      go_wp2_with fail
      refine HM3.out.mono ?_
      rintro e w' ⟨rfl, hw⟩
      obtain rfl := hw.symm
      go_wp2_with fail
      go_roundg (gk - 1)
      case measure => omega
      case rel => exact ⟨k + 1, by simp, by omega, rfl⟩
    · obtain rfl : k = n := by omega
      have q1 : ¬ (k : Int) < (k : Int) := by omega
      go_wp2_with fail
      first | exact ⟨rfl, rfl⟩ | (go_ret; exact ⟨rfl, rfl⟩)
theorem FR.skip {w0 w : World} {I : Nat} {t : TypeId} {c k : Nat} {f : Nat → Value} {z : Value} (h : FR w0 w I t c k f z) (hz : f k = z) : FR w0 w I t c (k + 1) f z := by
  obtain ⟨A, hA, hs, hc⟩ := h.a
  refine ⟨⟨A, hA, hs, fun i hi => ?_⟩, h.bel, h.lo⟩
  rw [hc i hi]
  by_cases e : i < k
  · rw [if_pos e, if_pos (by omega)]
  · by_cases e2 : i = k
    · rw [if_neg e, if_pos (by omega), e2, hz]
    · rw [if_neg e, if_neg (by omega)]
theorem FR.got {w0 w : World} {I : Nat} {t : TypeId} {c k : Nat} {f : Nat → Value} {z : Value} (h : FR w0 w I t c k f z) {i : Nat} (hi : i < k) (hc : i < c) : w.cell? ⟨I, i, none⟩ = some (f i) := by
  obtain ⟨A, hA, hs, hcc⟩ := h.a
  rw [ag_cell hA, hcc i hc, if_pos hi]
/-- the document's nodes, read -/
theorem RG.at_ {w : World} {B R : Nat} {ns : Nds} {gL cL : Nat} (h : RG w B R ns (.slice (some ⟨gL, 0, none⟩) (ns.length + 1) cL)) {k : Nat} (hk : k ≤ ns.length) : w.cell? ⟨gL, k * 3, none⟩ = some (.int .i64 ((nodK ns k).1 : Int)) ∧ w.cell? ⟨gL, k * 3 + 1, none⟩ = some (.int .u32 ((nodK ns k).2.1 : Int)) ∧ w.cell? ⟨gL, k * 3 + 2, none⟩ = some (.int .u32 ((nodK ns k).2.2 : Int)) := by
  have h1 := h.row.cellAt (k * 3 + 0) (by omega)
  have h2 := h.row.cellAt (k * 3 + 1) (by omega)
  have h3 := h.row.cellAt (k * 3 + 2) (by omega)
  rw [refC_at ns (ns.length + 1) k _ (by omega) (by omega)] at h1 h2 h3
  exact ⟨h1, h2, h3⟩
theorem inN_app (a b : Nds) : inN a ≤ inN (a ++ b) := by
  refine snoc_ind (P := fun b => inN a ≤ inN (a ++ b)) (by rw [List.append_nil]; exact Nat.le_refl _) (fun t x h => ?_) b
  rw [← List.append_assoc]
  cases x with
  | none => rw [inN_in]; omega
  | some g => rw [inN_gate]; exact h
theorem inN_at {ns : Nds} {i : Nat} (h : ns[i]? = some none) : inN (ns.take i) < inN ns := by
  have hlt : i < ns.length := (List.getElem?_eq_some_iff.1 h).1
  have e1 : ns = (ns.take i ++ [none]) ++ ns.drop (i + 1) := by
    have h2 : ns[i] = none := (List.getElem?_eq_some_iff.1 h).2
    rw [← h2, List.append_assoc]
    simp
  have h3 := inN_app (ns.take i ++ [none]) (ns.drop (i + 1))
  rw [← e1, inN_in] at h3
  omega
set_option maxHeartbeats 8000000 in
set_option maxRecDepth 100000 in
/-- all nodes' values in the document's words -/
theorem rvals_ok (w : World) {B R : Nat} {ns : Nds} {vL : Value} (h : RG w B R ns vL) (hgs : GS ns) (hlen : ns.length ≤ 1073741823) (aI : Option Addr) (bs : List Bool) (cI : Nat) (hI : Bls w aI bs) (hbl : bs.length = inN ns) :
    Calls Try.prog 45 #[.pointer (some ⟨R, 0, none⟩), .slice aI bs.length cI] w fun e w' => e = .returned (.slice (some ⟨w.heap.size, 0, none⟩) (ns.length + 1) (ns.length + 1)) ∧ FR w w' w.heap.size 4 (ns.length + 1) (ns.length + 1) (fun i => .bool ((evs (fun i => bs.getD i false) ns).getD i false)) (.bool false) := by
  obtain ⟨aL, cL, rfl, hcL, haL⟩ := row_form h.row
  obtain ⟨gL, rfl⟩ := haL (by omega)
  have hR : R < w.heap.size := h.lt R (Or.inl rfl)
  have hG : gL < w.heap.size := h.lt gL (Or.inr rfl)
  have c0 : w.cell? ⟨R, 0, none⟩ = some (.slice (some ⟨gL, 0, none⟩) (ns.length + 1) cL) := ag_cell h.blk 0
  have HC : Hid (∀ k, k ≤ ns.length → w.cell? ⟨gL, k * 3, none⟩ = some (.int .i64 ((nodK ns k).1 : Int)) ∧ w.cell? ⟨gL, k * 3 + 1, none⟩ = some (.int .u32 ((nodK ns k).2.1 : Int)) ∧ w.cell? ⟨gL, k * 3 + 2, none⟩ = some (.int .u32 ((nodK ns k).2.2 : Int))) := fun k hk => h.at_ hk
  have HGS : Hid (GS ns) := hgs
  have HI : Hid (Bls w aI bs) := hI
  have HN : Hid (bs.length = inN ns) := hbl
  obtain ⟨V, hV⟩ : ∃ V, evs (fun i => bs.getD i false) ns = V := ⟨_, rfl⟩
  have HV : Hid (evs (fun i => bs.getD i false) ns = V) := hV
  rw [hV]
  clear h hgs hI hbl hV
  obtain ⟨c, hc⟩ : ∃ c, ns.length + 1 = c := ⟨_, rfl⟩
  rw [hc] at c0
  rw [hc]
  obtain ⟨m, hm⟩ : ∃ m, bs.length = m := ⟨_, rfl⟩
  have HM : Hid (bs.length = m) := hm
  rw [hm]
  clear hm
  obtain ⟨i2, hi2, hz2, hs2, hb2⟩ := info_parts (P := Try.prog) (e := 4) (z := .bool false) (size := 1) (bytes := 1) (by kernel_rfl)
  have eB : ∀ W : World, (Instr.makeSlice 49 (.int .i64 (c : Int)) (.int .i64 (c : Int))).run Try.prog W = .ok (.slice (some ⟨W.heap.size, 0, none⟩) c c) (W.alloc (.cells (madeCells (Value.bool false).cells (c * 1)) 4)) := fun W => by
    have := run_make (P := Try.prog) (w := W) 49 4 i2 (.bool false) Try.underlying49 hi2 hz2 .i64 .i64 (c : Int) (c : Int) (by omega) (by omega) (by rw [hb2]; omega) (by omega)
    rw [this, hs2, show ((c : Int)).toNat = c by omega]
  have HF0 : Hid (FR w (w.alloc (.cells (madeCells #[Value.bool false] c) 4)) w.heap.size 4 c 0 (fun i => .bool (V.getD i false)) (.bool false)) := by
    have h5 := FR.start w (.bool false) c 4 (fun i => .bool (V.getD i false)) rfl
    rw [Nat.mul_one] at h5
    exact h5
  clear hi2 hz2 hs2 hb2
  go_enter Try.func45, Try.ntmps45
  go_wp2_with fail
  go_loopg [6] c (fun gk s6 wr => ∃ k : Nat, s6 = .int .i64 k ∧ k + gk = c ∧ Aside (FR w wr w.heap.size 4 c k (fun i => .bool (V.getD i false)) (.bool false)))
  case atStart => exact ⟨0, rfl, by omega, HF0.out⟩
  case round =>
    clear HF0 eB
    obtain ⟨k, rfl, hk, HQ⟩ := hrel
    have c0w : wr.cell? ⟨R, 0, none⟩ = some (.slice (some ⟨gL, 0, none⟩) c cL) := (HQ.out.bel.cell (p := ⟨R, 0, none⟩) hR).trans c0
    clear c0
    by_cases hlt : k < c
    · obtain ⟨k0, k1, k2⟩ := HC.out k (by omega)
      replace k0 := (HQ.out.bel.cell (p := ⟨gL, k * 3, none⟩) hG).trans k0
      replace k1 := (HQ.out.bel.cell (p := ⟨gL, k * 3 + 1, none⟩) hG).trans k1
      replace k2 := (HQ.out.bel.cell (p := ⟨gL, k * 3 + 2, none⟩) hG).trans k2
      have q1 : (k : Int) < (c : Int) := by omega
      by_cases hk0 : k = 0
      · subst hk0
        have e0 : nodK ns 0 = (0, (0, 0)) := rfl
        rw [e0] at k0 k1 k2
        have HF1 : Hid (FR w wr w.heap.size 4 c (0 + 1) (fun i => .bool (V.getD i false)) (.bool false)) := HQ.out.skip (by
          show Value.bool (V.getD 0 false) = .bool false
          rw [← HV.out]
          have h7 := (litV_zero (fun i => bs.getD i false) ns).1
          unfold litV at h7
          have h8 : ((evs (fun i => bs.getD i false) ns).getD 0 false != false) = false := h7
          cases h10 : (evs (fun i => bs.getD i false) ns).getD 0 false with
          | false => rfl
          | true => rw [h10] at h8; cases h8)
        clear HQ e0
        go_wp2_with fail
        go_roundg (gk - 1)
        case measure => omega
        case rel => exact ⟨0 + 1, by simp, by omega, HF1.out⟩
      · rcases nodK_at (n := k) (by omega) (show k ≤ ns.length by omega) with ⟨h1, h2⟩ | ⟨g, h1, h2⟩
        · rw [h2] at k0 k1 k2
          have hj : inN (ns.take (k - 1)) < m := by rw [← HM.out, HN.out]; exact inN_at h1
          have hv : V.getD k false = bs.getD (inN (ns.take (k - 1))) false := by
            have h5 := evs_inp (fun i => bs.getD i false) h1
            rw [show k - 1 + 1 = k by omega, HV.out] at h5
            exact h5
          clear h1 h2
          generalize inN (ns.take (k - 1)) = j at *
          obtain ⟨b, off, rfl, hb, hcc⟩ := HI.out (by rw [HM.out]; omega)
          have cj := (HQ.out.bel.cell (p := ⟨b, off + j, none⟩) hb).trans (hcc j (by rw [HM.out]; exact hj))
          obtain ⟨t1, t2⟩ := HQ.out.cell hlt
          have HF1 : Hid (FR w (wr.setCell ⟨w.heap.size, k, none⟩ (.bool (V.getD k false))) w.heap.size 4 c (k + 1) (fun i => .bool (V.getD i false)) (.bool false)) := HQ.out.step hlt
          rw [hv] at HF1
          clear hcc HQ hv
          generalize bs.getD j false = bj at *
          have q2 : (j : Int) < (m : Int) := by omega
          go_wp2_with fail
          go_roundg (gk - 1)
          case measure => omega
          case rel => exact ⟨k + 1, by simp, by omega, HF1.out⟩
        · obtain ⟨a, a2⟩ := g
          rw [h2] at k0 k1 k2
          have hop := HGS.out.ops _ _ h1
          have hb5 := nodK_bd HGS.out hlen (n := k) (by omega)
          rw [h2] at hb5
          have hv : V.getD k false = (litV V a && litV V a2) := by
            have h5 := evs_at (fun i => bs.getD i false) HGS.out h1
            rw [show k - 1 + 1 = k by omega, HV.out] at h5
            exact h5
          have ha : a / 2 < k := by have := hop.1; simp at this; omega
          have ha2 : a2 / 2 < k := by have := hop.2.1; simp at this; omega
          have HO1 : Hid (Calls Try.prog 73 #[.slice (some ⟨w.heap.size, 0, none⟩) c c, .int .u32 (a : Int)] wr fun e w' => e = .returned (.bool (litV V a)) ∧ w' = wr) := rofl_any wr w.heap.size a c (V.getD (a / 2) false) hb5.2.1 (by omega) (HQ.out.got ha (by omega))
          have HO2 : Hid (Calls Try.prog 73 #[.slice (some ⟨w.heap.size, 0, none⟩) c c, .int .u32 (a2 : Int)] wr fun e w' => e = .returned (.bool (litV V a2)) ∧ w' = wr) := rofl_any wr w.heap.size a2 c (V.getD (a2 / 2) false) hb5.2.2 (by omega) (HQ.out.got ha2 (by omega))
          obtain ⟨t1, t2⟩ := HQ.out.cell hlt
          have HF1 : Hid (FR w (wr.setCell ⟨w.heap.size, k, none⟩ (.bool (V.getD k false))) w.heap.size 4 c (k + 1) (fun i => .bool (V.getD i false)) (.bool false)) := HQ.out.step hlt
          rw [hv] at HF1
          clear HQ hv h1 h2 hop hb5 ha ha2
          generalize litV V a = x1 at *
          generalize litV V a2 = x2 at *
          cases x1 with
          | true =>
            go_wp2_with fail
            refine HO1.out.mono ?_
            rintro e w' ⟨rfl, hw⟩
            obtain rfl := hw.symm
            go_wp2_with fail
            refine HO2.out.mono ?_
            rintro e w' ⟨rfl, hw⟩
            obtain rfl := hw.symm
            go_wp2_with fail
            go_roundg (gk - 1)
            case measure => omega
            case rel => exact ⟨k + 1, by simp, by omega, by have h5 := HF1.out; simp only [Bool.true_and] at h5; exact h5⟩
          | false =>
            go_wp2_with fail
            refine HO1.out.mono ?_
            rintro e w' ⟨rfl, hw⟩
            obtain rfl := hw.symm
            go_wp2_with fail
            go_roundg (gk - 1)
            case measure => omega
            case rel => exact ⟨k + 1, by simp, by omega, by have h5 := HF1.out; simp only [Bool.false_and] at h5; exact h5⟩
    · obtain rfl : k = c := by omega
      have q1 : ¬ (k : Int) < (k : Int) := by omega
      go_wp2_with fail
      first | exact ⟨rfl, HQ.out⟩ | (go_ret; exact ⟨rfl, HQ.out⟩)
end Go.Proofs.Ytkomadlmonhlhaa
