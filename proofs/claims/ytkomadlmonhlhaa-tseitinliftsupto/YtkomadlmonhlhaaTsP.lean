import Derived.Test.YtkomadlmonhlhaaTsM
import Derived.Test.YtkomadlmonhlhaaTsR
namespace Go.Proofs.Ytkomadlmonhlhaa
open Go.ChangeShapes Go.WideShapes Go.ChangeAt Go.RowKit Go.Lib Go.Ag Go.WideMaps Go.Maps Go.ChangeMaps Go.Cn

def i8V (l : List Int) : List Value := l.map fun x => Value.int .i8 x
/-- what Fill tells: of each node of the cone 1 or -1 -/
def fillN (ns : Nds) (bs : List Bool) (cn : List Nat) : List Int := cn.map fun n => if (evs (fun i => bs.getD i false) ns).getD n false = true then 1 else -1
/-- a row of literals, and a row of values, being filled -/
structure FR (w0 w : World) (I : Nat) (t : TypeId) (c k : Nat) (f : Nat → Value) (z : Value) : Prop where
  a : ∃ A, w.heap[I]? = some (.cells A t (0, 0)) ∧ A.size = c ∧ ∀ i, i < c → A[i]? = some (if i < k then f i else z)
  bel : Below w0.heap.size w0 w
  lo : w0.heap.size ≤ I
theorem FR.start (w : World) (z : Value) (c : Nat) (t : TypeId) (f : Nat → Value) (hz : z.cells = #[z]) : FR w (w.alloc (.cells (madeCells z.cells (c * 1)) t)) w.heap.size t c 0 f z :=
  ⟨⟨_, heap_alloc_new _ _, by rw [size_madeCells]; omega, fun i hi => by rw [if_neg (by omega)]; exact made_at z c hi hz⟩, ag_bel1 _ _, Nat.le_refl _⟩
theorem FR.step {w0 w : World} {I : Nat} {t : TypeId} {c k : Nat} {f : Nat → Value} {z : Value} (h : FR w0 w I t c k f z) (hk : k < c) : FR w0 (w.setCell ⟨I, k, none⟩ (f k)) I t c (k + 1) f z := by
  obtain ⟨A, hA, hs, hc⟩ := h.a
  refine ⟨⟨A.setIfInBounds k (f k), heap_setCell_same _ I k _ _ _ hA, by simpa using hs, fun i hi => ?_⟩, ⟨h.bel.os, h.bel.tape, h.bel.output, by have := h.bel.size; simp; omega, fun j hj => (heap_setCell_other _ _ _ _ (fun e => by have := h.lo; have e' : j = I := e; omega)).trans (h.bel.block j hj)⟩, h.lo⟩
  rw [Array.getElem?_setIfInBounds]
  by_cases e : k = i
  · subst e
    rw [if_pos rfl, if_pos (by omega), if_pos (by omega)]
  · rw [if_neg e, hc i hi]
    by_cases e2 : i < k
    · rw [if_pos e2, if_pos (by omega)]
    · rw [if_neg e2, if_neg (by omega)]
theorem FR.row {w0 w : World} {I : Nat} {t : TypeId} {c : Nat} {f : Nat → Value} {z : Value} (h : FR w0 w I t c c f z) (hc : c ≤ 1000000000) (L : List Value) (hL : L.length = c) (hf : ∀ i, i < c → L[i]? = some (f i)) : w.ownsRow w0.heap.size t 1 (.slice (some ⟨I, 0, none⟩) c c) c L := by
  obtain ⟨A, hA, hs, hcc⟩ := h.a
  refine ⟨by omega, Or.inr ⟨I, c, A, rfl, h.lo, hA, Nat.le_refl _, by unfold maxLen; omega, by omega, ?_⟩⟩
  apply List.ext_getElem?
  intro i
  by_cases hi : i < c
  · rw [List.getElem?_take, if_pos (by omega), Array.getElem?_toList, hcc i hi, if_pos hi, hf i hi]
  · rw [List.getElem?_eq_none (by simp; omega), List.getElem?_eq_none (by omega)]
theorem FR.cell {w0 w : World} {I : Nat} {t : TypeId} {c k : Nat} {f : Nat → Value} {z : Value} (h : FR w0 w I t c k f z) (hk : k < c) : w.cell? ⟨I, k, none⟩ = some z ∧ w.frozen? ⟨I, k, none⟩ = false := by
  obtain ⟨A, hA, hs, hc⟩ := h.a
  exact ⟨by rw [ag_cell hA, hc k hk, if_neg (by omega)], ag_fz hA k⟩
theorem set_twice (w : World) (b i : Nat) (u v : Value) : (w.setCell ⟨b, i, none⟩ u).setCell ⟨b, i, none⟩ v = w.setCell ⟨b, i, none⟩ v := by
  unfold World.setCell
  congr 1
  apply Array.ext_getElem?
  intro j
  simp only [Array.getElem?_modify]
  by_cases e : b = j
  · subst e
    simp only [if_pos]
    cases h : w.heap[b]? with
    | none => rfl
    | some o => cases o <;> simp
  · simp [e]
theorem ev_node {v : List Bool} (n : Nat) : litV v (2 * n) = v.getD n false := by
  unfold litV
  rw [show 2 * n / 2 = n by omega, show 2 * n % 2 = 0 by omega]
  cases v.getD n false <;> rfl
set_option maxHeartbeats 16000000 in
set_option maxRecDepth 100000 in
theorem Fill_ok (w : World) {B R : Nat} {ns : Nds} {nb : Nat} {vb vg : Value} {Mg : Option Nat} {D : DataW Unit} (h : GM w B R ns nb vb vg Mg D) (hgs : GS ns) (aR : Option Addr) (ls : List Nat) (cR : Nat) (hR : U32s w aR ls) (h32 : ∀ l ∈ ls, l < 4294967296) (hbd : ∀ l ∈ ls, l / 2 ≤ ns.length) (hrn : ls.length ≤ 1000000000000) (hc : (coneS ns ls).2.length ≤ 1048576)
    (aI : Option Addr) (bs : List Bool) (cI : Nat) (hI : Bls w aI bs) (hbl : bs.length = inN ns) :
    Calls Try.prog 21 #[.pointer (some ⟨R, 0, none⟩), .slice aR ls.length cR, .slice aI bs.length cI] w fun e w' => ∃ v, e = .returned (.tuple #[v, .int .i64 0]) ∧ Below w.heap.size w w' ∧ w'.ownsRow w.heap.size 76 1 v (coneS ns ls).2.length (i8V (fillN ns bs (coneS ns ls).2)) := by
  have hlen := h.len
  have hCN : CN ns (coneS ns ls).2 ls := cn_cone hgs hbd
  have HCo : Hid (Calls Try.prog 43 #[.pointer (some ⟨R, 0, none⟩), .slice aR ls.length cR] w fun e w' => ∃ vC, e = .returned (.tuple #[vC, .int .i64 0]) ∧ Below w.heap.size w w' ∧ w'.ownsRow w.heap.size 3 1 vC (coneS ns ls).2.length (natV (coneS ns ls).2)) := Cone_ok w h aR ls cR hR h32 hbd hrn
  generalize (coneS ns ls).2 = cn at *
  have HIn : Hid (∀ W, Below w.heap.size w W → Calls Try.prog 37 #[.pointer (some ⟨R, 0, none⟩)] W fun e w' => e = .returned (.int .i64 (inN ns : Int)) ∧ ∃ d, w' = W.drewN d) := fun W hW => Inputs_any W (h.over hW)
  have hnd : ∀ l ∈ cn.map (fun n => 2 * n), l / 2 ≤ ns.length ∧ l < 4294967296 := fun l hl => by
    obtain ⟨n, hn, rfl⟩ := List.mem_map.1 hl
    have := (hCN.bd n hn).2
    omega
  have HEv : Hid (∀ W aN cN, Below w.heap.size w W → U32s W aN (cn.map (fun n => 2 * n)) → Calls Try.prog 44 #[.pointer (some ⟨R, 0, none⟩), .slice aI bs.length cI, .slice aN cn.length cN] W fun e w' => ∃ v, e = .returned (.tuple #[v, .int .i64 0]) ∧ Below W.heap.size W w' ∧ w'.ownsRow W.heap.size 4 1 v cn.length (blV (cn.map fun n => (evs (fun i => bs.getD i false) ns).getD n false))) := fun W aN cN hW hN => by
    have h5 := Eval_ok W (h.over hW) aI bs cI (hI.below hW) hbl aN (cn.map (fun n => 2 * n)) cN hN (fun l hl => (hnd l hl).2) (fun l hl => (hnd l hl).1) (by rw [List.length_map]; omega)
    rw [eval_sem hgs bs _ (fun l hl => (hnd l hl).1), List.length_map] at h5
    have e9 : (cn.map (fun n => 2 * n)).map (litV (evs (fun i => bs.getD i false) ns)) = cn.map fun n => (evs (fun i => bs.getD i false) ns).getD n false := by
      rw [List.map_map]
      exact List.map_congr_left (fun n _ => ev_node n)
    rw [e9] at h5
    exact h5
  have hcb : ∀ j, j < cn.length → cn.getD j 0 ≤ 1073741823 := fun j hj => by
    have := (hCN.bd (cn.getD j 0) (by rw [List.getD_eq_getElem?_getD, List.getElem?_eq_getElem hj]; exact List.getElem_mem _)).2
    omega
  have HCB : Hid (∀ j, j < cn.length → cn.getD j 0 ≤ 1073741823) := hcb
  have HFill : Hid (fillN ns bs cn = cn.map fun n => if (evs (fun i => bs.getD i false) ns).getD n false = true then 1 else -1) := rfl
  obtain ⟨c, hcc⟩ : ∃ c, cn.length = c := ⟨_, rfl⟩
  have HCL : Hid (cn.length = c) := hcc
  generalize evs (fun i => bs.getD i false) ns = EV at *
  rw [hbl] at HEv
  rw [hbl]
  generalize inN ns = ni at *
  clear h hR hCN hI hcb hnd hgs hbl hbd h32 hlen
  rw [hcc] at HCo HEv hc
  rw [hcc]
  clear hcc
  obtain ⟨i0, hi0, hz0, hs0, hb0⟩ := info_parts (P := Try.prog) (e := 42) (z := .int .u32 0) (size := 1) (bytes := 4) (by kernel_rfl)
  have eU : ∀ W : World, (Instr.makeSlice 24 (.int .i64 (c : Int)) (.int .i64 (c : Int))).run Try.prog W = .ok (.slice (some ⟨W.heap.size, 0, none⟩) c c) (W.alloc (.cells (madeCells (Value.int .u32 0).cells (c * 1)) 42)) := fun W => by
    have := run_make (P := Try.prog) (w := W) 24 42 i0 (.int .u32 0) Try.underlying24 hi0 hz0 .i64 .i64 (c : Int) (c : Int) (by omega) (by omega) (by rw [hb0]; omega) (by omega)
    rw [this, hs0, show ((c : Int)).toNat = c by omega]
  obtain ⟨i1, hi1, hz1, hs1, hb1⟩ := info_parts (P := Try.prog) (e := 76) (z := .int .i8 0) (size := 1) (bytes := 1) (by kernel_rfl)
  have eI : ∀ W : World, (Instr.makeSlice 48 (.int .i64 (c : Int)) (.int .i64 (c : Int))).run Try.prog W = .ok (.slice (some ⟨W.heap.size, 0, none⟩) c c) (W.alloc (.cells (madeCells (Value.int .i8 0).cells (c * 1)) 76)) := fun W => by
    have := run_make (P := Try.prog) (w := W) 48 76 i1 (.int .i8 0) Try.underlying48 hi1 hz1 .i64 .i64 (c : Int) (c : Int) (by omega) (by omega) (by rw [hb1]; omega) (by omega)
    rw [this, hs1, show ((c : Int)).toNat = c by omega]
  have HS1 : Hid (∀ W f, FR W (W.alloc (.cells (madeCells (Value.int .u32 0).cells (c * 1)) 42)) W.heap.size 42 c 0 f (.int .u32 0)) := fun W f => FR.start W _ c _ f rfl
  have HS2 : Hid (∀ W f, FR W (W.alloc (.cells (madeCells (Value.int .i8 0).cells (c * 1)) 76)) W.heap.size 76 c 0 f (.int .i8 0)) := fun W f => FR.start W _ c _ f rfl
  generalize madeCells (Value.int .u32 0).cells (c * 1) = A0 at *
  generalize madeCells (Value.int .i8 0).cells (c * 1) = A1 at *
  clear hi0 hz0 hs0 hb0 hi1 hz1 hs1 hb1
  go_enter Try.func21, Try.ntmps21
  go_wp2_with fail
  refine HCo.out.mono ?_
  rintro e w2 ⟨vC, rfl, hb2, hr2⟩
  obtain ⟨aC, cC, rfl, _, _⟩ := row_form hr2
  have HR2 : Hid (Below w.heap.size w w2 ∧ Nts w2 aC cn) := ⟨hb2, nts_of hr2⟩
  clear hr2 hb2 HCo
  go_wp2_with fail
  refine (HIn.out w2 HR2.out.1).mono ?_
  rintro e w2' ⟨rfl, d, hd⟩
  have HR3 : Hid (Below w.heap.size w w2' ∧ Nts w2' aC cn) := by rw [hd]; exact ⟨ag_next HR2.out.1 (drw_bel _ _), HR2.out.2.below (drw_bel _ _)⟩
  clear hd HR2 HIn
  have q1 : ¬ (1048576 : Int) < (c : Int) := by omega
  have HF0 : Hid (FR w2' (w2'.alloc (.cells A0 42)) w2'.heap.size 42 c 0 (fun j => .int .u32 ((2 * cn.getD j 0 : Nat) : Int)) (.int .u32 0)) := HS1.out w2' _
  clear HS1
  go_wp2_with fail
  go_loopg [42] c (fun gk v42 wr => ∃ k : Nat, v42 = .int .i64 (k : Int) ∧ k + gk = c ∧ Aside (FR w2' wr w2'.heap.size 42 c k (fun j => .int .u32 ((2 * cn.getD j 0 : Nat) : Int)) (.int .u32 0)))
  case atStart => exact ⟨0, rfl, by omega, HF0.out⟩
  case round =>
    clear HF0
    obtain ⟨k, rfl, hk, HF⟩ := hrel
    by_cases hlt : k < c
    · have q2 : (k : Int) < (c : Int) := by omega
      obtain ⟨b, off, rfl, hb, hck⟩ := HR3.out.2 (by rw [HCL.out]; omega)
      have hc1 := (HF.out.bel.cell (p := ⟨b, off + k, none⟩) hb).trans (hck k (by rw [HCL.out]; exact hlt))
      obtain ⟨hz, hf⟩ := HF.out.cell hlt
      have HF2 : Hid (FR w2' (wr.setCell ⟨w2'.heap.size, k, none⟩ (.int .u32 ((2 * cn.getD k 0 : Nat) : Int))) w2'.heap.size 42 c (k + 1) (fun j => .int .u32 ((2 * cn.getD j 0 : Nat) : Int)) (.int .u32 0)) := HF.out.step hlt
      have hbn := HCB.out k (by rw [HCL.out]; exact hlt)
      have e5 : IntKind.u32.wrap (2 * (cn.getD k 0 : Int)) = ((2 * cn.getD k 0 : Nat) : Int) := by rw [IntKind.wrap_u32]; omega
      clear hck HF
      generalize cn.getD k 0 = n at *
      go_wp2_with fail
      go_roundg (gk - 1)
      case measure => omega
      case rel => exact ⟨k + 1, by simp, by omega, HF2.out⟩
    · obtain rfl : k = c := by omega
      have q2 : ¬ (k : Int) < (k : Int) := by omega
      have hrow := HF.out.row (by omega) (u32V (cn.map (fun n => 2 * n))) (by rw [u32V_len, List.length_map]; exact HCL.out) (fun i hi => by
        unfold u32V
        rw [List.getElem?_map, List.getElem?_map, List.getElem?_eq_getElem (by rw [HCL.out]; exact hi), List.getD_eq_getElem?_getD, List.getElem?_eq_getElem (by rw [HCL.out]; exact hi)]
        rfl)
      have HN : Hid (U32s wr (some ⟨w2'.heap.size, 0, none⟩) (cn.map (fun n => 2 * n)) ∧ Below w.heap.size w wr) := ⟨u32s_of hrow, ag_next HR3.out.1 HF.out.bel⟩
      clear hrow HF
      go_wp2_with fail
      refine (HEv.out wr _ _ HN.out.2 HN.out.1).mono ?_
      rintro e w4 ⟨v4, rfl, hb4, hr4⟩
      obtain ⟨aV, cV, rfl, _, _⟩ := row_form hr4
      have HR4 : Hid (Below w.heap.size w w4 ∧ Bls w4 aV (cn.map fun n => EV.getD n false)) := ⟨ag_next HN.out.2 hb4, bls_of hr4⟩
      have HG0 : Hid (FR w4 (w4.alloc (.cells A1 76)) w4.heap.size 76 k 0 (fun j => .int .i8 (if (cn.map fun n => EV.getD n false).getD j false = true then 1 else -1)) (.int .i8 0)) := HS2.out w4 _
      clear hb4 hr4 HEv HN HS2
      generalize hVV : (cn.map fun n => EV.getD n false) = VV at *
      have HVV : Hid ((cn.map fun n => EV.getD n false) = VV ∧ VV.length = k) := ⟨hVV, by rw [← hVV, List.length_map]; exact HCL.out⟩
      clear hVV
      go_wp2_with fail
      generalize wr = wA at *
      go_loopg [69] k (fun gk v69 wr => ∃ j : Nat, v69 = .int .i64 (j : Int) ∧ j + gk = k ∧ Aside (FR w4 wr w4.heap.size 76 k j (fun j => .int .i8 (if VV.getD j false = true then 1 else -1)) (.int .i8 0)))
      case atStart => exact ⟨0, rfl, by omega, HG0.out⟩
      case round =>
        clear HG0
        obtain ⟨j, rfl, hj, HG⟩ := hrel
        by_cases hlt : j < k
        · have q3 : (j : Int) < (k : Int) := by omega
          obtain ⟨b, off, rfl, hb, hck⟩ := HR4.out.2 (by rw [HVV.out.2]; omega)
          have hc1 := (HG.out.bel.cell (p := ⟨b, off + j, none⟩) hb).trans (hck j (by rw [HVV.out.2]; exact hlt))
          obtain ⟨hz, hf⟩ := HG.out.cell hlt
          have HG2 : Hid (FR w4 (wr.setCell ⟨w4.heap.size, j, none⟩ (.int .i8 (if VV.getD j false = true then 1 else -1))) w4.heap.size 76 k (j + 1) (fun j => .int .i8 (if VV.getD j false = true then 1 else -1)) (.int .i8 0)) := HG.out.step hlt
          have hss : ∀ u u' : Value, (wr.setCell ⟨w4.heap.size, j, none⟩ u).setCell ⟨w4.heap.size, j, none⟩ u' = wr.setCell ⟨w4.heap.size, j, none⟩ u' := fun u u' => set_twice _ _ _ u u'
          have hc2 : ∀ u, (wr.setCell ⟨w4.heap.size, j, none⟩ u).cell? ⟨w4.heap.size, j, none⟩ = some u := fun u => World.cell?_setCell_same' _ _ _ (by rw [hz]; rfl)
          clear hck HG
          cases hvj : VV.getD j false with
          | true =>
            rw [hvj] at hc1 HG2
            rw [if_pos rfl] at HG2
            go_wp2_with fail
            go_roundg (gk - 1)
            case measure => omega
            case rel => exact ⟨j + 1, by simp, by omega, HG2.out⟩
          | false =>
            rw [hvj] at hc1 HG2
            rw [if_neg (by decide)] at HG2
            go_wp2_with fail
            go_roundg (gk - 1)
            case measure => omega
            case rel => exact ⟨j + 1, by simp, by omega, HG2.out⟩
        · obtain rfl : j = k := by omega
          have q3 : ¬ (j : Int) < (j : Int) := by omega
          have HZ : Hid (Below w.heap.size w wr ∧ wr.ownsRow w.heap.size 76 1 (.slice (some ⟨w4.heap.size, 0, none⟩) j j) j (i8V (fillN ns bs cn))) := by
            refine ⟨ag_next HR4.out.1 HG.out.bel, row_low (HG.out.row (by omega) _ ?_ (fun i hi => ?_)) HR4.out.1.size⟩
            · unfold i8V
              rw [List.length_map, HFill.out, List.length_map]
              exact HCL.out
            · unfold i8V
              rw [HFill.out, ← HVV.out.1, List.getElem?_map, List.getElem?_map, List.getElem?_eq_getElem (by rw [HCL.out]; exact hi), List.getD_eq_getElem?_getD, List.getElem?_map, List.getElem?_eq_getElem (by rw [HCL.out]; exact hi)]
              rfl
          clear HG
          go_wp2_with fail
          first | exact ⟨_, rfl, HZ.out⟩ | (go_ret2; exact ⟨_, rfl, HZ.out⟩)
end Go.Proofs.Ytkomadlmonhlhaa
