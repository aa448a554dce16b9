import Derived.Test.YtbkkdoehggkecaaTsP
import Derived.Test.YtbkkdoehggkecaaTsS
import Derived.Test.YtbkkdoehggkecaaTsZ
import Derived.Test.YtbkkdoehggkecaaTqA
namespace Go.Proofs.Ytbkkdoehggkecaa
open Go.ChangeShapes Go.WideShapes Go.ChangeAt Go.RowKit Go.Lib Go.Ag Go.WideMaps Go.Maps Go.ChangeMaps Go.Cn

/-- a literal's value in the document's words -/
theorem rofl_any (w : World) (I l c : Nat) (b : Bool) (hl : l < 4294967296) (hc : l / 2 < c) (h : w.cell? ⟨I, l / 2, none⟩ = some (.bool b)) :
    Calls Try.prog 35 #[.slice (some ⟨I, 0, none⟩) c c, .int .u32 (l : Int)] w fun e w' => e = .returned (.bool (b != (l % 2 == 1))) ∧ w' = w := by
  have q2 : (l : Int) / 2 = ((l / 2 : Nat) : Int) := by omega
  have q3 : (l : Int) % 2 = ((l % 2 : Nat) : Int) := by omega
  have q4 : ((l / 2 : Nat) : Int) < (c : Int) := by omega
  have HR : Hid ((((l % 2 : Nat) : Int) == 1) = (l % 2 == 1)) := by
    rcases Nat.mod_two_eq_zero_or_one l with e | e <;> rw [e] <;> exact hid rfl
  generalize l / 2 = q at *
  generalize l % 2 = r at *
  go_enter Try.func35, Try.ntmps35
  go_wp2_with fail
  go_ret
  refine ⟨?_, rfl⟩
  simp [HR.out]
  cases b <;> cases (r == 1) <;> rfl
set_option maxHeartbeats 4000000 in
theorem rbad_ok (w : World) {B R : Nat} {ns : Nds} {vL : Value} (h : RG w B R ns vL) (hlen : ns.length ≤ 1073741823) (aR : Option Addr) (ls : List Nat) (cR : Nat) (hR : U32s w aR ls) (hbd : ∀ l ∈ ls, l / 2 ≤ ns.length) (hn : ls.length ≤ 1000000000000) :
    Calls Try.prog 33 #[.pointer (some ⟨R, 0, none⟩), .slice aR ls.length cR] w fun e w' => e = .returned (.bool false) ∧ w' = w := by
  have HM : Hid (∀ l ∈ ls, Calls Try.prog 42 #[.pointer (some ⟨R, 0, none⟩), .int .u32 (l : Int)] w fun e w' => e = .returned (.bool true) ∧ w' = w) := fun l hl => may_r w h l (hbd l hl) hlen
  have HU : Hid (U32s w aR ls) := hR
  clear h hR hbd
  obtain ⟨n, hnn⟩ : ∃ n, ls.length = n := ⟨_, rfl⟩
  have HL : Hid (ls.length = n) := hnn
  rw [hnn] at hn
  rw [hnn]
  clear hnn
  go_enter Try.func33, Try.ntmps33
  go_wp2_with fail
  go_loopg [5] n (fun gk s5 wr => ∃ k : Nat, s5 = .int .i64 k ∧ k + gk = n ∧ wr = w)
  case atStart => exact ⟨0, rfl, by omega, rfl⟩
  case round =>
    obtain ⟨k, rfl, hk, rfl⟩ := hrel
    by_cases hlt : k < n
    · obtain ⟨b, off, rfl, hb, hc⟩ := HU.out (by rw [HL.out]; omega)
      have ck := hc k (by rw [HL.out]; exact hlt)
      have HM2 := HM.out (ls.getD k 0) (by rw [List.getD_eq_getElem?_getD, List.getElem?_eq_getElem (by rw [HL.out]; exact hlt)]; exact List.getElem_mem _)
      clear hc
      generalize ls.getD k 0 = l at *
      have HM3 : Hid (Calls Try.prog 42 #[.pointer (some ⟨R, 0, none⟩), .int .u32 (l : Int)] wr fun e w' => e = .returned (.bool true) ∧ w' = wr) := HM2
      clear HM2
      have q1 : (k : Int) < (n : Int) := by omega
      go_wp2_with fail
      refine HM3.out.mono ?_
      rintro e w' ⟨rfl, hw⟩
      obtain rfl := hw.symm
      go_wp2_with fail
      go_roundg (gk - 1)
      case measure => omega
      case rel => exact ⟨k + 1, by simp, by omega, rfl⟩
    · obtain rfl : k = n := by omega
      have q1 : ¬ (k : Int) < (k : Int) := by omega
      go_wp2_with fail
      first | exact ⟨rfl, rfl⟩ | (go_ret; exact ⟨rfl, rfl⟩)
theorem FR.skip {w0 w : World} {I : Nat} {t : TypeId} {c k : Nat} {f : Nat → Value} {z : Value} (h : FR w0 w I t c k f z) (hz : f k = z) : FR w0 w I t c (k + 1) f z := by
  obtain ⟨A, hA, hs, hc⟩ := h.a
  refine ⟨⟨A, hA, hs, fun i hi => ?_⟩, h.bel, h.lo⟩
  rw [hc i hi]
  by_cases e : i < k
  · rw [if_pos e, if_pos (by omega)]
  · by_cases e2 : i = k
    · rw [if_neg e, if_pos (by omega), e2, hz]
    · rw [if_neg e, if_neg (by omega)]
theorem FR.got {w0 w : World} {I : Nat} {t : TypeId} {c k : Nat} {f : Nat → Value} {z : Value} (h : FR w0 w I t c k f z) {i : Nat} (hi : i < k) (hc : i < c) : w.cell? ⟨I, i, none⟩ = some (f i) := by
  obtain ⟨A, hA, hs, hcc⟩ := h.a
  rw [ag_cell hA, hcc i hc, if_pos hi]
/-- the document's nodes, read -/
theorem RG.at_ {w : World} {B R : Nat} {ns : Nds} {gL cL : Nat} (h : RG w B R ns (.slice (some ⟨gL, 0, none⟩) (ns.length + 1) cL)) {k : Nat} (hk : k ≤ ns.length) : w.cell? ⟨gL, k * 3, none⟩ = some (.int .i64 ((nodK ns k).1 : Int)) ∧ w.cell? ⟨gL, k * 3 + 1, none⟩ = some (.int .u32 ((nodK ns k).2.1 : Int)) ∧ w.cell? ⟨gL, k * 3 + 2, none⟩ = some (.int .u32 ((nodK ns k).2.2 : Int)) := by
  have h1 := h.row.cellAt (k * 3 + 0) (by omega)
  have h2 := h.row.cellAt (k * 3 + 1) (by omega)
  have h3 := h.row.cellAt (k * 3 + 2) (by omega)
  rw [refC_at ns (ns.length + 1) k _ (by omega) (by omega)] at h1 h2 h3
  exact ⟨h1, h2, h3⟩
theorem inN_app (a b : Nds) : inN a ≤ inN (a ++ b) := by
  refine snoc_ind (P := fun b => inN a ≤ inN (a ++ b)) (by rw [List.append_nil]; exact Nat.le_refl _) (fun t x h => ?_) b
  rw [← List.append_assoc]
  cases x with
  | none => rw [inN_in]; omega
  | some g => rw [inN_gate]; exact h
theorem inN_at {ns : Nds} {i : Nat} (h : ns[i]? = some none) : inN (ns.take i) < inN ns := by
  have hlt : i < ns.length := (List.getElem?_eq_some_iff.1 h).1
  have e1 : ns = (ns.take i ++ [none]) ++ ns.drop (i + 1) := by
    have h2 : ns[i] = none := (List.getElem?_eq_some_iff.1 h).2
    rw [← h2, List.append_assoc]
    simp
  have h3 := inN_app (ns.take i ++ [none]) (ns.drop (i + 1))
  rw [← e1, inN_in] at h3
  omega
set_option maxHeartbeats 8000000 in
set_option maxRecDepth 100000 in
/-- all nodes' values in the document's words -/
theorem rvals_ok (w : World) {B R : Nat} {ns : Nds} {vL : Value} (h : RG w B R ns vL) (hgs : GS ns) (hlen : ns.length ≤ 1073741823) (aI : Option Addr) (bs : List Bool) (cI : Nat) (hI : Bls w aI bs) (hbl : bs.length = inN ns) :
    Calls Try.prog 34 #[.pointer (some ⟨R, 0, none⟩), .slice aI bs.length cI] w fun e w' => e = .returned (.slice (some ⟨w.heap.size, 0, none⟩) (ns.length + 1) (ns.length + 1)) ∧ FR w w' w.heap.size 4 (ns.length + 1) (ns.length + 1) (fun i => .bool ((evs (fun i => bs.getD i false) ns).getD i false)) (.bool false) := by
  obtain ⟨aL, cL, rfl, hcL, haL⟩ := row_form h.row
  obtain ⟨gL, rfl⟩ := haL (by omega)
  have hR : R < w.heap.size := h.lt R (Or.inl rfl)
  have hG : gL < w.heap.size := h.lt gL (Or.inr rfl)
  have c0 : w.cell? ⟨R, 0, none⟩ = some (.slice (some ⟨gL, 0, none⟩) (ns.length + 1) cL) := ag_cell h.blk 0
  have HC : Hid (∀ k, k ≤ ns.length → w.cell? ⟨gL, k * 3, none⟩ = some (.int .i64 ((nodK ns k).1 : Int)) ∧ w.cell? ⟨gL, k * 3 + 1, none⟩ = some (.int .u32 ((nodK ns k).2.1 : Int)) ∧ w.cell? ⟨gL, k * 3 + 2, none⟩ = some (.int .u32 ((nodK ns k).2.2 : Int))) := fun k hk => h.at_ hk
  have HGS : Hid (GS ns) := hgs
  have HI : Hid (Bls w aI bs) := hI
  have HN : Hid (bs.length = inN ns) := hbl
  obtain ⟨V, hV⟩ : ∃ V, evs (fun i => bs.getD i false) ns = V := ⟨_, rfl⟩
  have HV : Hid (evs (fun i => bs.getD i false) ns = V) := hV
  rw [hV]
  clear h hgs hI hbl hV
  obtain ⟨c, hc⟩ : ∃ c, ns.length + 1 = c := ⟨_, rfl⟩
  rw [hc] at c0
  rw [hc]
  obtain ⟨m, hm⟩ : ∃ m, bs.length = m := ⟨_, rfl⟩
  have HM : Hid (bs.length = m) := hm
  rw [hm]
  clear hm
  obtain ⟨i2, hi2, hz2, hs2, hb2⟩ := info_parts (P := Try.prog) (e := 4) (z := .bool false) (size := 1) (bytes := 1) (by kernel_rfl)
  have eB : ∀ W : World, (Instr.makeSlice 42 (.int .i64 (c : Int)) (.int .i64 (c : Int))).run Try.prog W = .ok (.slice (some ⟨W.heap.size, 0, none⟩) c c) (W.alloc (.cells (madeCells (Value.bool false).cells (c * 1)) 4)) := fun W => by
    have := run_make (P := Try.prog) (w := W) 42 4 i2 (.bool false) Try.underlying42 hi2 hz2 .i64 .i64 (c : Int) (c : Int) (by omega) (by omega) (by rw [hb2]; omega) (by omega)
    rw [this, hs2, show ((c : Int)).toNat = c by omega]
  have HF0 : Hid (FR w (w.alloc (.cells (madeCells #[Value.bool false] c) 4)) w.heap.size 4 c 0 (fun i => .bool (V.getD i false)) (.bool false)) := by
    have h5 := FR.start w (.bool false) c 4 (fun i => .bool (V.getD i false)) rfl
    rw [Nat.mul_one] at h5
    exact h5
  clear hi2 hz2 hs2 hb2
  go_enter Try.func34, Try.ntmps34
  go_wp2_with fail
  go_loopg [6] c (fun gk s6 wr => ∃ k : Nat, s6 = .int .i64 k ∧ k + gk = c ∧ Aside (FR w wr w.heap.size 4 c k (fun i => .bool (V.getD i false)) (.bool false)))
  case atStart => exact ⟨0, rfl, by omega, HF0.out⟩
  case round =>
    clear HF0 eB
    obtain ⟨k, rfl, hk, HQ⟩ := hrel
    have c0w : wr.cell? ⟨R, 0, none⟩ = some (.slice (some ⟨gL, 0, none⟩) c cL) := (HQ.out.bel.cell (p := ⟨R, 0, none⟩) hR).trans c0
    clear c0
    by_cases hlt : k < c
    · obtain ⟨k0, k1, k2⟩ := HC.out k (by omega)
      replace k0 := (HQ.out.bel.cell (p := ⟨gL, k * 3, none⟩) hG).trans k0
      replace k1 := (HQ.out.bel.cell (p := ⟨gL, k * 3 + 1, none⟩) hG).trans k1
      replace k2 := (HQ.out.bel.cell (p := ⟨gL, k * 3 + 2, none⟩) hG).trans k2
      have q1 : (k : Int) < (c : Int) := by omega
      by_cases hk0 : k = 0
      · subst hk0
        have e0 : nodK ns 0 = (0, (0, 0)) := rfl
        rw [e0] at k0 k1 k2
        have HF1 : Hid (FR w wr w.heap.size 4 c (0 + 1) (fun i => .bool (V.getD i false)) (.bool false)) := HQ.out.skip (by
          show Value.bool (V.getD 0 false) = .bool false
          rw [← HV.out]
          have h7 := (litV_zero (fun i => bs.getD i false) ns).1
          unfold litV at h7
          have h8 : ((evs (fun i => bs.getD i false) ns).getD 0 false != false) = false := h7
          cases h10 : (evs (fun i => bs.getD i false) ns).getD 0 false with
          | false => rfl
          | true => rw [h10] at h8; cases h8)
        clear HQ e0
        go_wp2_with fail
        go_roundg (gk - 1)
        case measure => omega
        case rel => exact ⟨0 + 1, by simp, by omega, HF1.out⟩
      · rcases nodK_at (n := k) (by omega) (show k ≤ ns.length by omega) with ⟨h1, h2⟩ | ⟨g, h1, h2⟩
        · rw [h2] at k0 k1 k2
          have hj : inN (ns.take (k - 1)) < m := by rw [← HM.out, HN.out]; exact inN_at h1
          have hv : V.getD k false = bs.getD (inN (ns.take (k - 1))) false := by
            have h5 := evs_inp (fun i => bs.getD i false) h1
            rw [show k - 1 + 1 = k by omega, HV.out] at h5
            exact h5
          clear h1 h2
          generalize inN (ns.take (k - 1)) = j at *
          obtain ⟨b, off, rfl, hb, hcc⟩ := HI.out (by rw [HM.out]; omega)
          have cj := (HQ.out.bel.cell (p := ⟨b, off + j, none⟩) hb).trans (hcc j (by rw [HM.out]; exact hj))
          obtain ⟨t1, t2⟩ := HQ.out.cell hlt
          have HF1 : Hid (FR w (wr.setCell ⟨w.heap.size, k, none⟩ (.bool (V.getD k false))) w.heap.size 4 c (k + 1) (fun i => .bool (V.getD i false)) (.bool false)) := HQ.out.step hlt
          rw [hv] at HF1
          clear hcc HQ hv
          generalize bs.getD j false = bj at *
          have q2 : (j : Int) < (m : Int) := by omega
          go_wp2_with fail
          go_roundg (gk - 1)
          case measure => omega
          case rel => exact ⟨k + 1, by simp, by omega, HF1.out⟩
        · obtain ⟨a, a2⟩ := g
          rw [h2] at k0 k1 k2
          have hop := HGS.out.ops _ _ h1
          have hb5 := nodK_bd HGS.out hlen (n := k) (by omega)
          rw [h2] at hb5
          have hv : V.getD k false = (litV V a && litV V a2) := by
            have h5 := evs_at (fun i => bs.getD i false) HGS.out h1
            rw [show k - 1 + 1 = k by omega, HV.out] at h5
            exact h5
          have ha : a / 2 < k := by have := hop.1; simp at this; omega
          have ha2 : a2 / 2 < k := by have := hop.2.1; simp at this; omega
          have HO1 : Hid (Calls Try.prog 35 #[.slice (some ⟨w.heap.size, 0, none⟩) c c, .int .u32 (a : Int)] wr fun e w' => e = .returned (.bool (litV V a)) ∧ w' = wr) := rofl_any wr w.heap.size a c (V.getD (a / 2) false) hb5.2.1 (by omega) (HQ.out.got ha (by omega))
          have HO2 : Hid (Calls Try.prog 35 #[.slice (some ⟨w.heap.size, 0, none⟩) c c, .int .u32 (a2 : Int)] wr fun e w' => e = .returned (.bool (litV V a2)) ∧ w' = wr) := rofl_any wr w.heap.size a2 c (V.getD (a2 / 2) false) hb5.2.2 (by omega) (HQ.out.got ha2 (by omega))
          obtain ⟨t1, t2⟩ := HQ.out.cell hlt
          have HF1 : Hid (FR w (wr.setCell ⟨w.heap.size, k, none⟩ (.bool (V.getD k false))) w.heap.size 4 c (k + 1) (fun i => .bool (V.getD i false)) (.bool false)) := HQ.out.step hlt
          rw [hv] at HF1
          clear HQ hv h1 h2 hop hb5 ha ha2
          generalize litV V a = x1 at *
          generalize litV V a2 = x2 at *
          cases x1 with
          | true =>
            go_wp2_with fail
            refine HO1.out.mono ?_
            rintro e w' ⟨rfl, hw⟩
            obtain rfl := hw.symm
            go_wp2_with fail
            refine HO2.out.mono ?_
            rintro e w' ⟨rfl, hw⟩
            obtain rfl := hw.symm
            go_wp2_with fail
            go_roundg (gk - 1)
            case measure => omega
            case rel => exact ⟨k + 1, by simp, by omega, by have h5 := HF1.out; simp only [Bool.true_and] at h5; exact h5⟩
          | false =>
            go_wp2_with fail
            refine HO1.out.mono ?_
            rintro e w' ⟨rfl, hw⟩
            obtain rfl := hw.symm
            go_wp2_with fail
            go_roundg (gk - 1)
            case measure => omega
            case rel => exact ⟨k + 1, by simp, by omega, by have h5 := HF1.out; simp only [Bool.false_and] at h5; exact h5⟩
    · obtain rfl : k = c := by omega
      have q1 : ¬ (k : Int) < (k : Int) := by omega
      go_wp2_with fail
      first | exact ⟨rfl, HQ.out⟩ | (go_ret; exact ⟨rfl, HQ.out⟩)
end Go.Proofs.Ytbkkdoehggkecaa
namespace Go.Proofs.Ytbkkdoehggkecaa
open Go.ChangeShapes Go.WideShapes Go.ChangeAt Go.RowKit Go.Lib Go.Ag Go.WideMaps Go.Maps Go.ChangeMaps Go.Cn

/-- as many values as there are inputs -/
def rowB (bs : List Bool) (q : Nat) : List Bool := (List.range q).map fun i => bs.getD i false
theorem rowB_len (bs : List Bool) (q : Nat) : (rowB bs q).length = q := by unfold rowB; simp
theorem rowB_get (bs : List Bool) {q j : Nat} (h : j < q) : (rowB bs q).getD j false = bs.getD j false := by
  unfold rowB
  rw [List.getD_eq_getElem?_getD, List.getElem?_map, List.getElem?_range h]
  rfl
end Go.Proofs.Ytbkkdoehggkecaa
namespace Go.Proofs.Ytbkkdoehggkecaa
open Go.ChangeShapes Go.WideShapes Go.ChangeAt Go.RowKit Go.Lib Go.Ag Go.WideMaps Go.Maps Go.ChangeMaps Go.Cn

/-- a row of truths on its way -/
structure BR (w wr : World) (out : List Bool) (vO : Value) : Prop where
  row : wr.ownsRow w.heap.size 4 1 vO out.length (blV out)
  bel : Below w.heap.size w wr
theorem BR.push {w wr w4 : World} {out : List Bool} {vO : Value} {x : Bool} {g4 cap4 n : Nat} {ob : Obj} (hn : out.length = n) (h : BR w wr out vO) (hown : w4.ownsRow w.heap.size 4 1 (.slice (some ⟨g4, 0, none⟩) (n + 1) cap4) (n + 1) (blV out ++ [.bool x])) (hg : (wr.alloc ob).grownBy w4 vO.ownBlock) : BR w w4 (out ++ [x]) (.slice (some ⟨g4, 0, none⟩) (n + 1) cap4) := by
  subst hn
  have hz := hg.size
  refine ⟨by unfold blV; rw [List.map_append, List.length_append]; exact hown, ⟨hg.os.trans h.bel.os, hg.tape.trans h.bel.tape, hg.output.trans h.bel.output, by have := h.bel.size; simp at hz; omega, fun j hj => ?_⟩⟩
  have hj2 : j < wr.heap.size := Nat.lt_of_lt_of_le hj h.bel.size
  rw [hg.block j (by simp; omega) (fun e => by have := (h.row.lt j e.symm).1; omega), Below.heap_alloc _ _ j hj2]
  exact h.bel.block j hj
set_option maxHeartbeats 8000000 in
set_option maxRecDepth 100000 in
/-- the document's Eval -/
theorem reval_ok (w : World) {B R : Nat} {ns : Nds} {vL : Value} (h : RG w B R ns vL) (hgs : GS ns) (hlen : ns.length ≤ 1073741823) (aI : Option Addr) (bs : List Bool) (cI : Nat) (hI : Bls w aI bs) (hbl : bs.length = inN ns) (aR : Option Addr) (ls : List Nat) (cR : Nat) (hR : U32s w aR ls) (h32 : ∀ l ∈ ls, l < 4294967296) (hbd : ∀ l ∈ ls, l / 2 ≤ ns.length) (hn : ls.length ≤ 1048576) :
    Calls Try.prog 14 #[.pointer (some ⟨R, 0, none⟩), .slice aI bs.length cI, .slice aR ls.length cR] w fun e w' => ∃ v, e = .returned (.tuple #[v, .int .i64 0]) ∧ Below w.heap.size w w' ∧ w'.ownsRow w.heap.size 4 1 v ls.length (blV (ls.map (litV (evs (fun i => bs.getD i false) ns)))) := by
  have HB : Hid (Calls Try.prog 33 #[.pointer (some ⟨R, 0, none⟩), .slice aR ls.length cR] w fun e w' => e = .returned (.bool false) ∧ w' = w) := rbad_ok w h hlen aR ls cR hR hbd (by omega)
  have HVa : Hid (Calls Try.prog 34 #[.pointer (some ⟨R, 0, none⟩), .slice aI bs.length cI] w fun e w' => e = .returned (.slice (some ⟨w.heap.size, 0, none⟩) (ns.length + 1) (ns.length + 1)) ∧ FR w w' w.heap.size 4 (ns.length + 1) (ns.length + 1) (fun i => .bool ((evs (fun i => bs.getD i false) ns).getD i false)) (.bool false)) := rvals_ok w h hgs hlen aI bs cI hI hbl
  have c1 : w.cell? ⟨R, 1, none⟩ = some (.int .i64 (inN ns : Int)) := ag_cell h.blk 1
  have HU : Hid (U32s w aR ls) := hR
  have HLs : Hid (∀ l ∈ ls, l < 4294967296 ∧ l / 2 ≤ ns.length) := fun l hl => ⟨h32 l hl, hbd l hl⟩
  generalize evs (fun i => bs.getD i false) ns = V at *
  rw [← hbl] at c1
  clear h hgs hI hR h32 hbd hbl
  obtain ⟨c, hc⟩ : ∃ c, ns.length + 1 = c := ⟨_, rfl⟩
  rw [hc] at HVa
  generalize bs.length = m at *
  obtain ⟨n, hnn⟩ : ∃ n, ls.length = n := ⟨_, rfl⟩
  have HL : Hid (ls.length = n) := hnn
  rw [hnn] at hn HB
  rw [hnn]
  clear hnn
  generalize hPP : (fun (e : Ending) (w' : World) => ∃ v, e = .returned (.tuple #[v, .int .i64 0]) ∧ Below w.heap.size w w' ∧ w'.ownsRow w.heap.size 4 1 v n (blV (ls.map (litV V)))) = PP
  have HP : Hid (∀ v w', Below w.heap.size w w' → w'.ownsRow w.heap.size 4 1 v n (blV (ls.map (litV V))) → PP (.returned (.tuple #[v, .int .i64 0])) w') := fun v w' h1 h2 => by rw [← hPP]; exact ⟨v, rfl, h1, h2⟩
  clear hPP
  have q0 : ((m : Int) == (m : Int)) = true := by simp
  obtain ⟨i0, hi, hz0, hz1, hz2⟩ := info_parts (P := Try.prog) (e := 4) (z := .bool false) (size := 1) (bytes := 1) (by kernel_rfl)
  go_enter Try.func14, Try.ntmps14
  go_wp2_with fail
  refine HB.out.mono ?_
  rintro e w' ⟨rfl, hw⟩
  obtain rfl := hw.symm
  go_wp2_with fail
  refine HVa.out.mono ?_
  rintro e w1 ⟨rfl, hF⟩
  have HF : Hid (FR w w1 w.heap.size 4 c c (fun i => .bool (V.getD i false)) (.bool false)) := hF
  have HS1 : Hid (w.heap.size < w1.heap.size) := by
    obtain ⟨A, hA, _⟩ := hF.a
    exact (Array.getElem?_eq_some_iff.1 hA).1
  clear HB HVa hF c1
  go_wp2_with fail
  go_loopg [9, 10] n (fun gk s9 s10 wr => ∃ (k : Nat), s10 = .int .i64 k ∧ k + gk = n ∧ Aside (BR w1 wr ((ls.take k).map (litV V)) s9))
  case atStart => exact ⟨0, rfl, by omega, ⟨World.ownsRow_nil _ _ _ _, Below.refl _ _⟩⟩
  case round =>
    obtain ⟨k, rfl, hk, HQ⟩ := hrel
    by_cases hlt : k < n
    · obtain ⟨b, off, rfl, hb, hcc⟩ := HU.out (by rw [HL.out]; omega)
      have hb1 : b < w1.heap.size := Nat.lt_trans hb HS1.out
      have hck := (HQ.out.bel.cell (p := ⟨b, off + k, none⟩) hb1).trans ((HF.out.bel.cell (p := ⟨b, off + k, none⟩) hb).trans (hcc k (by rw [HL.out]; exact hlt)))
      have hll := HLs.out (ls.getD k 0) (by rw [List.getD_eq_getElem?_getD, List.getElem?_eq_getElem (by rw [HL.out]; exact hlt)]; exact List.getElem_mem _)
      have HT2 : Hid ((ls.take (k + 1)).map (litV V) = (ls.take k).map (litV V) ++ [litV V (ls.getD k 0)]) := by
        show _ = _
        rw [List.take_succ_eq_append_getElem (by rw [HL.out]; exact hlt), List.map_append, List.getD_eq_getElem?_getD, List.getElem?_eq_getElem (by rw [HL.out]; exact hlt)]
        rfl
      clear hcc
      generalize ls.getD k 0 = l at *
      have hlen2 : ((ls.take k).map (litV V)).length = k := by rw [List.length_map, List.length_take, HL.out]; omega
      have HO : Hid (Calls Try.prog 35 #[.slice (some ⟨w.heap.size, 0, none⟩) c c, .int .u32 (l : Int)] wr fun e w' => e = .returned (.bool (litV V l)) ∧ w' = wr) := rofl_any wr w.heap.size l c (V.getD (l / 2) false) hll.1 (by omega) ((HQ.out.bel.cell (p := ⟨w.heap.size, l / 2, none⟩) HS1.out).trans (HF.out.got (i := l / 2) (by omega) (by omega)))
      obtain ⟨aO, cO, rfl, hcO, haO⟩ := row_form HQ.out.row
      rw [hlen2]
      have hr4 : Hid (wr.ownsRow w1.heap.size 4 1 (.slice aO k cO) k (blV ((ls.take k).map (litV V)))) := by have := HQ.out.row; rw [hlen2] at this; exact this
      have hw4 : w1.heap.size ≤ wr.heap.size := HQ.out.bel.size
      rw [hlen2] at HQ
      generalize (ls.take k).map (litV V) = out at *
      generalize litV V l = x at *
      have q1 : (k : Int) < (n : Int) := by omega
      clear hll
      go_wp2_with fail
      refine HO.out.mono ?_
      rintro e wn ⟨rfl, hwn⟩; subst wn
      go_wp2_with (at_builtin; refine wpList_append_lies _ rfl _ _ 42 rfl w1.heap.size 4 i0 (.bool false) 1 1 Try.underlying42 hi hz0 hz1 hz2 rfl (by decide) _ _ _ rfl (hr4.out.alloc _) ⟨wr.heap.size, 0, none⟩ 1 1 [.bool x] rfl rfl (one_new _ _ _) (by intro u hu; simp at hu; subst hu; rfl) (by omega) (by unfold maxLen; omega) (by omega) (by simp; omega) (wr.heap.size + 1) (by simp) ?_; intro g6 cap6 w6 hown6 hgrow6 hat6 hlt6; have HS6 : Hid (BR w1 w6 (out ++ [x]) (.slice (some ⟨g6, 0, none⟩) (k + 1) cap6)) := BR.push hlen2 HQ.out hown6 hgrow6; clear hown6 hgrow6 hat6 hlt6; refine Hid.out ?_)
      refine Lib.hid ?_
      go_wp2_with fail
      go_roundg (n - (k + 1))
      case measure => omega
      case rel => exact ⟨k + 1, by simp, by omega, by rw [HT2.out]; exact HS6.out⟩
    · obtain rfl : k = n := by omega
      have q1 : ¬ (k : Int) < (k : Int) := by omega
      have HZ : Hid (PP (.returned (.tuple #[u9, .int .i64 0])) wr) := by
        have h5 := HQ.out.row
        rw [List.take_of_length_le (by rw [HL.out]; exact Nat.le_refl _), List.length_map, HL.out] at h5
        exact HP.out _ _ (ag_next HF.out.bel HQ.out.bel) (row_low h5 (by have := HS1.out; omega))
      clear HQ HP
      go_wp2_with fail
      first | exact HZ.out | (go_ret2; exact HZ.out)
end Go.Proofs.Ytbkkdoehggkecaa
namespace Go.Proofs.Ytbkkdoehggkecaa
open Go.ChangeShapes Go.WideShapes Go.ChangeAt Go.RowKit Go.Lib Go.Ag Go.WideMaps Go.Maps Go.ChangeMaps Go.Cn

theorem enc_cq {w w' : World} {cn : List Nat} {cls : List (List Int)} {aL : Option Addr} {cL v : Nat} {vC : Value} (h : ENC w w' cn cls (.slice aL cls.length cL) vC) (hl : ∀ c ∈ cls, c.length ≤ 3 ∧ ∀ l ∈ c, gL v l) (hv : v ≤ 1048576) (hf : cls.length ≤ 1048576) : CQs w' aL cls v :=
  ⟨fun h0 => by
    obtain ⟨g, a0, c0, e, hc0, _⟩ := h.at_ h0
    refine ⟨g, e, block_lt_of_cell (a := ⟨g, 0, none⟩) hc0, fun j hj => ?_⟩
    obtain ⟨g2, aj, cj, e2, hcj, hi⟩ := h.at_ hj
    rw [e] at e2
    cases e2
    exact ⟨aj, cj, hcj, hi⟩, hl, hv, hf⟩
theorem all_take {bl : List Bool} {k : Nat} (h : k < bl.length) : (bl.take (k + 1)).all id = ((bl.take k).all id && bl.getD k false) := by
  rw [List.take_succ_eq_append_getElem h, List.all_append, List.getD_eq_getElem?_getD, List.getElem?_eq_getElem h]
  simp
end Go.Proofs.Ytbkkdoehggkecaa
