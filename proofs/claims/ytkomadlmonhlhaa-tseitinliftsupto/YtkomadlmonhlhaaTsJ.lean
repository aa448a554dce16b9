import Derived.Test.YtkomadlmonhlhaaTsJa
namespace Go.Proofs.Ytkomadlmonhlhaa
open Go.ChangeShapes Go.WideShapes Go.ChangeAt Go.RowKit Go.Lib Go.Ag Go.WideMaps Go.Maps Go.ChangeMaps Go.Cn

theorem mk_map (c : Nat) (W : World) : (Instr.makeMap 80 (some (.int .i64 (c : Int)))).run Try.prog W = .ok (.map (some W.heap.size)) (W.alloc (.map #[] 0)) := by
  simp [Instr.makeMap, run_underlying Try.underlying80, asInt, asIntOf, Result.andThen]
theorem gts_gate {ns : Nds} {cn ls : List Nat} (hc : CN ns cn ls) {k n a b : Nat} (hn : cn[k]? = some n) (hk : nodK ns n = (2, (a, b))) : gts ns cn (k + 1) = gts ns cn k ++ [((k : Int) + 1, litI (cn.take (k + 1)) a, litI (cn.take (k + 1)) b)] := by
  have h4 := hc.ops k n a b hn hk
  rw [gts_succ]
  unfold gtAt
  rw [List.getD_eq_getElem?_getD, hn]
  show gts ns cn k ++ (if (nodK ns n).1 = 2 then [((k : Int) + 1, litI cn (nodK ns n).2.1, litI cn (nodK ns n).2.2)] else []) = _
  rw [hk, if_pos rfl, litI_take (take_mono h4.1 (Nat.le_succ k)), litI_take (take_mono h4.2 (Nat.le_succ k))]
theorem gts_other {ns : Nds} {cn : List Nat} {k n : Nat} (hn : cn[k]? = some n) (hk : (nodK ns n).1 ≠ 2) : gts ns cn (k + 1) = gts ns cn k := by
  rw [gts_succ]
  unfold gtAt
  rw [List.getD_eq_getElem?_getD, hn]
  show gts ns cn k ++ (if (nodK ns n).1 = 2 then _ else []) = _
  rw [if_neg hk, List.append_nil]
/-- a circuit on its way, beside the node that is looked at -/
structure LS (w W : World) (Rb M Cb Nb : Nat) (vR : Value) (cn : List Nat) (k : Nat) (gs : List GT) (vG : Value) (a b : Nat) : Prop where
  nc : NC w W Rb M Cb vR cn k gs vG
  nb : W.heap[Nb]? = some (.cells #[.int .u32 (a : Int), .int .u32 (b : Int)] 96 (0, 0))
theorem LS.over {w W W' : World} {Rb M Cb Nb : Nat} {vR : Value} {cn : List Nat} {k : Nat} {gs : List GT} {vG : Value} {a b : Nat} (h : LS w W Rb M Cb Nb vR cn k gs vG a b) (hb : Below W.heap.size W W') : LS w W' Rb M Cb Nb vR cn k gs vG a b :=
  ⟨h.nc.over hb, (hb.block _ (Array.getElem?_eq_some_iff.1 h.nb).1).trans h.nb⟩
def CS (W : World) (M Cb Nb : Nat) (vR vG : Value) (a b : Nat) : Prop := W.heap[Cb]? = some (.cells #[vR, .map (some M), vG] 83 (0, 0)) ∧ W.heap[Nb]? = some (.cells #[.int .u32 (a : Int), .int .u32 (b : Int)] 96 (0, 0))
theorem LS.cs {w W : World} {Rb M Cb Nb : Nat} {vR : Value} {cn : List Nat} {k : Nat} {gs : List GT} {vG : Value} {a b : Nat} (h : LS w W Rb M Cb Nb vR cn k gs vG a b) : CS W M Cb Nb vR vG a b := ⟨h.nc.cb, h.nb⟩
theorem CS.alloc {W : World} {M Cb Nb : Nat} {vR vG : Value} {a b : Nat} (h : CS W M Cb Nb vR vG a b) (o : Obj) : CS (W.alloc o) M Cb Nb vR vG a b :=
  ⟨(Below.heap_alloc _ _ _ (Array.getElem?_eq_some_iff.1 h.1).1).trans h.1, (Below.heap_alloc _ _ _ (Array.getElem?_eq_some_iff.1 h.2).1).trans h.2⟩
theorem lit_ls {w W : World} {Rb M Cb Nb : Nat} {vR : Value} {cn : List Nat} {k : Nat} {gs : List GT} {vG : Value} {a b : Nat} (h : LS w W Rb M Cb Nb vR cn k gs vG a b) (hc : (cn.take k).length ≤ 1000000000000) (l : Nat) (hl : l < 4294967296) :
    Calls Try.prog 61 #[.agg #[vR, .map (some M), vG], .int .u32 (l : Int)] W fun e w' => e = .returned (.int .i64 (litI (cn.take k) l)) ∧ Hid (LS w w' Rb M Cb Nb vR cn k gs vG a b) :=
  (literal_any W h.nc.vm hc vR vG l hl).mono (by
    rintro e w' ⟨rfl, hb⟩
    exact ⟨rfl, h.over hb⟩)
set_option maxHeartbeats 4000000 in
set_option maxRecDepth 100000 in
theorem newCircuit_any (w : World) {B R : Nat} {ns : Nds} {nb : Nat} {vb vg : Value} {Mg : Option Nat} {D : DataW Unit} (h : GM w B R ns nb vb vg Mg D) (hgs : GS ns) (aC : Option Addr) (cn : List Nat) (cC : Nat) (hC : Nts w aC cn) (aR : Option Addr) (ls : List Nat) (cR : Nat) (hR : U32s w aR ls) (h32 : ∀ l ∈ ls, l < 4294967296) (hrn : ls.length ≤ 1000000000000) (hcn : CN ns cn ls) (hc32 : cn.length ≤ 1048576) :
    Calls Try.prog 54 #[.pointer (some ⟨R, 0, none⟩), .slice aC cn.length cC, .slice aR ls.length cR] w fun e w' => ∃ M aG cG, e = .returned (.agg #[.slice aR ls.length cR, .map (some M), .slice aG (gts ns cn cn.length).length cG]) ∧ CM w' aR ls M cn aG (gts ns cn cn.length) ∧ Below w.heap.size w w' := by
  generalize hPP : (fun (e : Ending) (w' : World) => ∃ M aG cG, e = .returned (.agg #[.slice aR ls.length cR, .map (some M), .slice aG (gts ns cn cn.length).length cG]) ∧ CM w' aR ls M cn aG (gts ns cn cn.length) ∧ Below w.heap.size w w') = PP
  have HGM : Hid (GM w B R ns nb vb vg Mg D) := h
  have hlen := h.len
  have HC : Aside (Nts w aC cn) := hC
  have HCN : Hid (CN ns cn ls) := hcn
  have HGS : Hid (GS ns) := hgs
  obtain ⟨c, hc⟩ : ∃ c, cn.length = c := ⟨_, rfl⟩
  have HL : Hid (cn.length = c) := hc
  have hmm := mk_map c
  obtain ⟨w3, hw3⟩ : ∃ w3, ((w.alloc (.cells #[.slice none 0 0, .map none, .slice none 0 0] 83)).alloc (.map #[] 0)).alloc (.cells #[.slice aR ls.length cR, .map (some (w.heap.size + 1)), .slice none 0 0] 83) = w3 := ⟨_, rfl⟩
  have HQ0 : Hid (NC w w3 w.heap.size (w.heap.size + 1) (w.heap.size + 1 + 1) (.slice aR ls.length cR) cn 0 [] (.slice none 0 0)) := by
    have s1 : (w.alloc (.cells #[.slice none 0 0, .map none, .slice none 0 0] 83)).heap.size = w.heap.size + 1 := by simp
    have s2 : ((w.alloc (.cells #[.slice none 0 0, .map none, .slice none 0 0] 83)).alloc (.map #[] 0)).heap.size = w.heap.size + 1 + 1 := by simp
    have b1 := ag_bel1 w (.cells #[.slice none 0 0, .map none, .slice none 0 0] 83)
    have b2 := ag_bel1 (w.alloc (.cells #[.slice none 0 0, .map none, .slice none 0 0] 83)) (.map #[] 0)
    have b3 := ag_bel1 ((w.alloc (.cells #[.slice none 0 0, .map none, .slice none 0 0] 83)).alloc (.map #[] 0)) (.cells #[.slice aR ls.length cR, .map (some (w.heap.size + 1)), .slice none 0 0] 83)
    have n1 := heap_alloc_new w (.cells #[.slice none 0 0, .map none, .slice none 0 0] 83)
    have n2 := VM.made (w.alloc (.cells #[.slice none 0 0, .map none, .slice none 0 0] 83))
    have n3 := heap_alloc_new ((w.alloc (.cells #[.slice none 0 0, .map none, .slice none 0 0] 83)).alloc (.map #[] 0)) (.cells #[.slice aR ls.length cR, .map (some (w.heap.size + 1)), .slice none 0 0] 83)
    rw [s1] at n2
    rw [s2] at n3
    rw [hw3] at n3 b3
    exact ⟨(b3.block _ (by omega)).trans ((b2.block _ (by omega)).trans n1), n3, (n2.keep (b3.block _ (by omega))).congr (fun x h => h.elim) (fun x => by rw [List.take_zero]; exact ⟨fun h => h.elim, fun h => (List.not_mem_nil h).elim⟩), World.ownsRow_nil _ _ _ _, ag_next (ag_next b1 b2) b3, by omega, by omega, by omega⟩
  have HP : Hid (∀ W aG cG, NC w W w.heap.size (w.heap.size + 1) (w.heap.size + 1 + 1) (.slice aR ls.length cR) cn c (gts ns cn c) (.slice aG (gts ns cn c).length cG) → ∀ W', Below W.heap.size W W' ∨ OB W w.heap.size W' → PP (.returned (.agg #[.slice aR ls.length cR, .map (some (w.heap.size + 1)), .slice aG (gts ns cn c).length cG])) W') := fun W aG cG hq W' hW => by
    rw [← hPP]
    have hb : Below w.heap.size w W' := by
      rcases hW with hW | hW
      · exact hq.bel.trans (hW.mono hq.bel.size)
      · exact OB.below hq.bel hq.bel.size hW (Nat.le_refl _)
    have hk : ∀ j, j < W.heap.size → j ≠ w.heap.size → W'.heap[j]? = W.heap[j]? := fun j hj hn => by
      rcases hW with hW | hW
      · exact hW.block j hj
      · exact hW.kp j hj hn
    have hrow : W'.ownsRow w.heap.size 130 3 (.slice aG (gts ns cn c).length cG) (gts ns cn c).length (gtC (gts ns cn c)) := ag_same hq.row (fun j hj => hk j (hq.row.lt j hj).2 (fun e => by
      have h5 := ag_ne hq.row hq.rb (by decide)
      rw [e] at hj
      exact h5 hj))
    have hvm := hq.vm.keep (hk _ hq.vm.lt (by omega))
    rw [← hc] at hvm hrow ⊢
    rw [List.take_length] at hvm
    exact ⟨_, aG, cG, rfl, ⟨hR.below hb, h32, hrn, hvm, hc32, gts_of hrow, gts_len ns cn _, fun x hx => gts_ok hcn _ (Nat.le_refl _) hx⟩, hb⟩
  have HW3e : Hid (((w.alloc (.cells #[.slice none 0 0, .map none, .slice none 0 0] 83)).alloc (.map #[] 0)).alloc (.cells #[.slice aR ls.length cR, .map (some (w.heap.size + 1)), .slice none 0 0] 83) = w3) := hw3
  rw [hc] at hc32
  rw [hc]
  clear h hC hcn hgs hPP hc hw3
  go_enter Try.func54, Try.ntmps54
  go_wp2_with fail
  rw [HW3e.out]
  clear HW3e
  generalize ls.length = n2 at *
  go_loopg [20] c (fun gk v20 wr => ∃ k vG, v20 = .int .i64 ((k : Nat) : Int) ∧ k + gk = c ∧ Aside (NC w wr w.heap.size (w.heap.size + 1) (w.heap.size + 1 + 1) (.slice aR n2 cR) cn k (gts ns cn k) vG))
  case atStart => exact ⟨0, _, rfl, by omega, HQ0.out⟩
  case round =>
    clear HQ0
    obtain ⟨k, vG, rfl, hk, HQ⟩ := hrel
    by_cases hlt : k < c
    · have q1 : (k : Int) < (c : Int) := by omega
      obtain ⟨b, off, rfl, hb, hcc⟩ := HC.out (by rw [HL.out]; omega)
      have hck := (HQ.out.bel.cell (p := ⟨b, off + k, none⟩) hb).trans (hcc k (by rw [HL.out]; exact hlt))
      have HNK : Hid (cn[k]? = some (cn.getD k 0)) := by rw [List.getD_eq_getElem?_getD, List.getElem?_eq_getElem (by rw [HL.out]; exact hlt)]; exact hid rfl
      have hbd : 0 < cn.getD k 0 ∧ cn.getD k 0 ≤ ns.length := HCN.out.bd _ (by rw [List.getD_eq_getElem?_getD, List.getElem?_eq_getElem (by rw [HL.out]; exact hlt)]; exact List.getElem_mem _)
      clear hcc
      generalize cn.getD k 0 = n at *
      have c1 : wr.cell? ⟨w.heap.size + 1 + 1, 1, none⟩ = some (.map (some (w.heap.size + 1))) := ag_cell HQ.out.cb 1
      have hni : ¬ n ∈ cn.take k := fun hm => by
        obtain ⟨j, hj, e2⟩ := List.getElem_of_mem hm
        rw [List.length_take] at hj
        rw [List.getElem_take] at e2
        obtain ⟨hk2, e⟩ := List.getElem?_eq_some_iff.1 HNK.out
        exact (List.pairwise_iff_getElem.1 HCN.out.nd) j k (by omega) hk2 (by omega) (e2.trans e.symm)
      obtain ⟨wp, hrun, hvm, hgr⟩ := HQ.out.vm.put (by omega) n (k + 1) (by omega) (by omega) hni
      have e1 : ((k + 1 : Nat) : Int) = (k : Int) + 1 := by omega
      rw [e1] at hrun
      have HQ2 : Hid (NC w wp w.heap.size (w.heap.size + 1) (w.heap.size + 1 + 1) (.slice aR n2 cR) cn (k + 1) (gts ns cn k) vG) := HQ.out.vput HCN.out.nd HNK.out hvm hgr
      clear hvm hgr HQ
      have HNode : Hid (∀ W, Below w.heap.size w W → Calls Try.prog 39 #[.pointer (some ⟨R, 0, none⟩), .int .i64 (n : Int)] W fun e w' => e = .returned (.tuple #[.int .i64 ((nodK ns n).1 : Int), .agg #[.int .u32 ((nodK ns n).2.1 : Int), .int .u32 ((nodK ns n).2.2 : Int)], .int .i64 0]) ∧ Below W.heap.size W w') := fun W hW => Node_any W (HGM.out.over hW) n hbd.2
      go_wp2_with fail
      refine (HNode.out wp HQ2.out.bel).mono ?_
      rintro e wn ⟨rfl, hbn⟩
      have HQ3 : Hid (NC w wn w.heap.size (w.heap.size + 1) (w.heap.size + 1 + 1) (.slice aR n2 cR) cn (k + 1) (gts ns cn k) vG) := HQ2.out.over hbn
      clear HQ2 hbn hrun c1
      by_cases hk2 : (nodK ns n).1 = 2
      · have hkk := nodK_two hk2
        have HG2 : Hid (gts ns cn (k + 1) = gts ns cn k ++ [((k : Int) + 1, litI (cn.take (k + 1)) (nodK ns n).2.1, litI (cn.take (k + 1)) (nodK ns n).2.2)]) := gts_gate HCN.out HNK.out hkk
        have hbb := nodK_bd HGS.out hlen (n := n) hbd.2
        have htk : (cn.take (k + 1)).length ≤ 1000000000000 := by rw [List.length_take, HL.out]; omega
        have hgl : (gts ns cn k).length ≤ k := gts_len ns cn k
        clear hkk HNode
        generalize (nodK ns n).2.1 = a at *
        generalize (nodK ns n).2.2 = b2 at *
        rw [hk2]
        generalize gts ns cn k = gs at *
        obtain ⟨aG, cG, rfl, _, _⟩ := row_form HQ3.out.row
        have HLS0 : Hid (LS w (wn.alloc (.cells #[.int .u32 (a : Int), .int .u32 (b2 : Int)] 96)).drew w.heap.size (w.heap.size + 1) (w.heap.size + 1 + 1) wn.heap.size (.slice aR n2 cR) cn (k + 1) gs (.slice aG gs.length cG) a b2) := ⟨(HQ3.out.over (ag_bel1 _ _)).over (drw_bel _ 1), heap_alloc_new _ _⟩
        have HLit : Hid (∀ W (l : Nat), Hid (LS w W w.heap.size (w.heap.size + 1) (w.heap.size + 1 + 1) wn.heap.size (.slice aR n2 cR) cn (k + 1) gs (.slice aG gs.length cG) a b2) → l < 4294967296 → Calls Try.prog 61 #[.agg #[.slice aR n2 cR, .map (some (w.heap.size + 1)), .slice aG gs.length cG], .int .u32 (l : Int)] W fun e w' => e = .returned (.int .i64 (litI (cn.take (k + 1)) l)) ∧ Hid (LS w w' w.heap.size (w.heap.size + 1) (w.heap.size + 1 + 1) wn.heap.size (.slice aR n2 cR) cn (k + 1) gs (.slice aG gs.length cG) a b2)) := fun W l hW hl => lit_ls hW.out htk l hl
        obtain ⟨i0, hi, hz0, hz1, hz2⟩ := info_parts (P := Try.prog) (e := 130) (z := .agg #[.int .i64 0, .int .i64 0, .int .i64 0]) (size := 3) (bytes := 24) (by kernel_rfl)
        have HPUT : Hid (∀ W7 w8 g8 cap8, Hid (LS w W7 w.heap.size (w.heap.size + 1) (w.heap.size + 1 + 1) wn.heap.size (.slice aR n2 cR) cn (k + 1) gs (.slice aG gs.length cG) a b2) → w8.ownsRow w.heap.size 130 3 (.slice (some ⟨g8, 0, none⟩) (gs.length + 1) cap8) (gs.length + 1) (gtC gs ++ gtV ((k : Int) + 1, litI (cn.take (k + 1)) a, litI (cn.take (k + 1)) b2)) → (W7.alloc (.cells #[.int .i64 ((k : Int) + 1), .int .i64 (litI (cn.take (k + 1)) a), .int .i64 (litI (cn.take (k + 1)) b2)] 130)).grownBy w8 (Value.slice aG gs.length cG).ownBlock → Hid (NC w (w8.setCell ⟨w.heap.size + 1 + 1, 2, none⟩ (.slice (some ⟨g8, 0, none⟩) (gs.length + 1) cap8)) w.heap.size (w.heap.size + 1) (w.heap.size + 1 + 1) (.slice aR n2 cR) cn (k + 1) (gs ++ [((k : Int) + 1, litI (cn.take (k + 1)) a, litI (cn.take (k + 1)) b2)]) (.slice (some ⟨g8, 0, none⟩) (gs.length + 1) cap8)) ∧ Hid (CS w8 (w.heap.size + 1) (w.heap.size + 1 + 1) wn.heap.size (.slice aR n2 cR) (.slice aG gs.length cG) a b2)) := fun W7 w8 g8 cap8 h1 h2 h3 => by
          obtain ⟨h4, h5⟩ := h1.out.nc.gput h2 h3
          have h6 : w8.heap[wn.heap.size]? = some (.cells #[.int .u32 (a : Int), .int .u32 (b2 : Int)] 96 (0, 0)) := by
            have hlt := (Array.getElem?_eq_some_iff.1 h1.out.nb).1
            rw [h3.block _ (by simp; omega) (fun e => ag_ne h1.out.nc.row h1.out.nb (by decide) e.symm)]
            exact (Below.heap_alloc _ _ _ hlt).trans h1.out.nb
          exact ⟨h5, h4, h6⟩
        have hwk : IntKind.i64.wrap ((k : Int) + 1) = (k : Int) + 1 := by rw [IntKind.wrap_i64]; omega
        generalize hglN : gs.length = gl at *
        clear HGM HC HCN HGS HL HNK HQ3 HP hlen hmm hR h32 hrn hbd hni e1 hk2
        go_wp2_with fail
        have HS0 : Hid (CS (wn.alloc (.cells #[.int .u32 (a : Int), .int .u32 (b2 : Int)] 96)).drew (w.heap.size + 1) (w.heap.size + 1 + 1) wn.heap.size (.slice aR n2 cR) (.slice aG gl cG) a b2) := HLS0.out.cs
        refine AnyE.region (fun W => Hid (CS W (w.heap.size + 1) (w.heap.size + 1 + 1) wn.heap.size (.slice aR n2 cR) (.slice aG gl cG) a b2)) 16 (by kernel_rfl) ?_
        refine AnyE.take (i := 0) (oi := { dst := some 39, op := Op.fieldAddr 83 (Operand.tmp 7) 2, type := 0, pos := "circuit.go:25", after := #[], guard := none }) (v := .pointer (some ⟨w.heap.size + 1 + 1, 2, none⟩)) rfl (by kernel_rfl) (by kernel_rfl) (by kernel_rfl) (by kernel_rfl) (fun _ _ _ h => h) (Or.inl ⟨by rfl, ?_⟩) HS0 ?_
        · intro W hW
          go_simp
        try simp only [Act.put, List.setIfInBounds_toArray, List.set_cons_zero, List.set_cons_succ]
        refine AnyE.take (i := 1) (oi := { dst := some 40, op := Op.load 81 (Operand.tmp 39), type := 81, pos := "circuit.go:25", after := #[{ on := 0, ground := Ground.data }], guard := none }) (v := .slice aG gl cG) rfl (by kernel_rfl) (by kernel_rfl) (by kernel_rfl) (by kernel_rfl) (fun _ _ _ h => h) (Or.inl ⟨by rfl, ?_⟩) HS0 ?_
        · intro W hW
          have s2 := ag_cell hW.out.1 2
          go_simp
        try simp only [Act.put, List.setIfInBounds_toArray, List.set_cons_zero, List.set_cons_succ]
        refine AnyE.take (i := 2) (oi := { dst := some 41, op := Op.move (Operand.tmp 8), type := 3, pos := "circuit.go:25", after := #[], guard := none }) (v := .int .i64 (k : Int)) rfl (by kernel_rfl) (by kernel_rfl) (by kernel_rfl) (by kernel_rfl) (fun _ _ _ h => h) (Or.inl ⟨by rfl, ?_⟩) HS0 ?_
        · intro W hW
          go_simp
        try simp only [Act.put, List.setIfInBounds_toArray, List.set_cons_zero, List.set_cons_succ]
        refine AnyE.take (i := 3) (oi := { dst := some 42, op := Op.binOp BinOp.add 3 (Operand.tmp 41) (Operand.const (Value.int IntKind.i64 1)) 3, type := 3, pos := "circuit.go:25", after := #[{ on := 2, ground := Ground.data }], guard := none }) (v := .int .i64 ((k : Int) + 1)) rfl (by kernel_rfl) (by kernel_rfl) (by kernel_rfl) (by kernel_rfl) (fun _ _ _ h => h) (Or.inl ⟨by rfl, ?_⟩) HS0 ?_
        · intro W hW
          go_simp
        try simp only [Act.put, List.setIfInBounds_toArray, List.set_cons_zero, List.set_cons_succ]
        refine AnyE.take (i := 4) (oi := { dst := some 43, op := Op.load 83 (Operand.tmp 7), type := 83, pos := "circuit.go:25", after := #[], guard := none }) (v := .agg #[.slice aR n2 cR, .map (some (w.heap.size + 1)), .slice aG gl cG]) rfl (by kernel_rfl) (by kernel_rfl) (by kernel_rfl) (by kernel_rfl) (fun _ _ _ h => h) (Or.inl ⟨by rfl, ?_⟩) HS0 ?_
        · intro W hW
          have s0 := ag_cell hW.out.1 0
          have s1 := ag_cell hW.out.1 1
          have s2 := ag_cell hW.out.1 2
          go_simp
        try simp only [Act.put, List.setIfInBounds_toArray, List.set_cons_zero, List.set_cons_succ]
        refine AnyE.take (i := 5) (oi := { dst := some 44, op := Op.fieldAddr 96 (Operand.tmp 11) 0, type := 0, pos := "circuit.go:25", after := #[], guard := none }) (v := .pointer (some ⟨wn.heap.size, 0, none⟩)) rfl (by kernel_rfl) (by kernel_rfl) (by kernel_rfl) (by kernel_rfl) (fun _ _ _ h => h) (Or.inl ⟨by rfl, ?_⟩) HS0 ?_
        · intro W hW
          go_simp
        try simp only [Act.put, List.setIfInBounds_toArray, List.set_cons_zero, List.set_cons_succ]
        refine AnyE.take (i := 6) (oi := { dst := some 45, op := Op.load 42 (Operand.tmp 44), type := 42, pos := "circuit.go:25", after := #[{ on := 5, ground := Ground.data }], guard := none }) (v := .int .u32 (a : Int)) rfl (by kernel_rfl) (by kernel_rfl) (by kernel_rfl) (by kernel_rfl) (fun _ _ _ h => h) (Or.inl ⟨by rfl, ?_⟩) HS0 ?_
        · intro W hW
          have s0 := ag_cell hW.out.2 0
          go_simp
        try simp only [Act.put, List.setIfInBounds_toArray, List.set_cons_zero, List.set_cons_succ]
        refine AnyE.take (i := 8) (oi := { dst := some 47, op := Op.load 83 (Operand.tmp 7), type := 83, pos := "circuit.go:25", after := #[], guard := none }) (v := .agg #[.slice aR n2 cR, .map (some (w.heap.size + 1)), .slice aG gl cG]) rfl (by kernel_rfl) (by kernel_rfl) (by kernel_rfl) (by kernel_rfl) (fun _ _ _ h => h) (Or.inl ⟨by rfl, ?_⟩) HS0 ?_
        · intro W hW
          have s0 := ag_cell hW.out.1 0
          have s1 := ag_cell hW.out.1 1
          have s2 := ag_cell hW.out.1 2
          go_simp
        try simp only [Act.put, List.setIfInBounds_toArray, List.set_cons_zero, List.set_cons_succ]
        refine AnyE.take (i := 9) (oi := { dst := some 48, op := Op.fieldAddr 96 (Operand.tmp 11) 1, type := 0, pos := "circuit.go:25", after := #[], guard := none }) (v := .pointer (some ⟨wn.heap.size, 1, none⟩)) rfl (by kernel_rfl) (by kernel_rfl) (by kernel_rfl) (by kernel_rfl) (fun _ _ _ h => h) (Or.inl ⟨by rfl, ?_⟩) HS0 ?_
        · intro W hW
          go_simp
        try simp only [Act.put, List.setIfInBounds_toArray, List.set_cons_zero, List.set_cons_succ]
        refine AnyE.take (i := 10) (oi := { dst := some 49, op := Op.load 42 (Operand.tmp 48), type := 42, pos := "circuit.go:25", after := #[{ on := 9, ground := Ground.data }], guard := none }) (v := .int .u32 (b2 : Int)) rfl (by kernel_rfl) (by kernel_rfl) (by kernel_rfl) (by kernel_rfl) (fun _ _ _ h => h) (Or.inl ⟨by rfl, ?_⟩) HS0 ?_
        · intro W hW
          have s1 := ag_cell hW.out.2 1
          go_simp
        try simp only [Act.put, List.setIfInBounds_toArray, List.set_cons_zero, List.set_cons_succ]
        refine AnyE.one (i := 7) (o := { dst := some 46, op := Op.call { callee := Callee.value (Operand.func 61), args := #[Operand.tmp 43, Operand.tmp 45], argTypes := #[83, 42] }, type := 3, pos := "circuit.go:25", after := #[{ on := 4, ground := Ground.data }, { on := 6, ground := Ground.data }], guard := none }) (by kernel_rfl) rfl (fun K hK => ?_)
        refine step_call2 rfl 61 _ _ _ rfl (.agg #[.slice aR n2 cR, .map (some (w.heap.size + 1)), .slice aG gl cG]) (.int .u32 (a : Int)) (by rfl) (by rfl) cfLit (HLit.out _ a HLS0 hbb.2.1) ?_
        rintro e w6 ⟨rfl, hb6⟩
        refine ⟨_, rfl, hK.out _ _ (fun _ => hb6.out.cs) ?_⟩
        clear hK K
        try simp only [Act.put, List.setIfInBounds_toArray, List.set_cons_zero, List.set_cons_succ]
        refine AnyE.one (i := 11) (o := { dst := some 50, op := Op.call { callee := Callee.value (Operand.func 61), args := #[Operand.tmp 47, Operand.tmp 49], argTypes := #[83, 42] }, type := 3, pos := "circuit.go:25", after := #[{ on := 8, ground := Ground.data }, { on := 10, ground := Ground.data }, { on := 7, ground := Ground.chain }], guard := none }) (by kernel_rfl) rfl (fun K hK => ?_)
        refine step_call2 rfl 61 _ _ _ rfl (.agg #[.slice aR n2 cR, .map (some (w.heap.size + 1)), .slice aG gl cG]) (.int .u32 (b2 : Int)) (by rfl) (by rfl) cfLit (HLit.out _ b2 hb6 hbb.2.2) ?_
        rintro e w7 ⟨rfl, hb7⟩
        refine ⟨_, rfl, hK.out _ _ (fun _ => hb7.out.cs) ?_⟩
        clear hK K
        try simp only [Act.put, List.setIfInBounds_toArray, List.set_cons_zero, List.set_cons_succ]
        refine AnyE.take (i := 12) (oi := { dst := some 51, op := Op.build 130 #[(0, Operand.tmp 42), (1, Operand.tmp 46), (2, Operand.tmp 50)], type := 130, pos := "circuit.go:25", after := #[{ on := 3, ground := Ground.data }, { on := 7, ground := Ground.data }, { on := 11, ground := Ground.data }], guard := none }) (v := .agg #[.int .i64 ((k : Int) + 1), .int .i64 (litI (cn.take (k + 1)) a), .int .i64 (litI (cn.take (k + 1)) b2)]) rfl (by kernel_rfl) (by kernel_rfl) (by kernel_rfl) (by kernel_rfl) (fun _ _ _ h => h) (Or.inl ⟨by rfl, ?_⟩) hb7.out.cs ?_
        · intro W hW
          go_simp
        try simp only [Act.put, List.setIfInBounds_toArray, List.set_cons_zero, List.set_cons_succ]
        refine AnyE.one (i := 13) (o := { dst := some 52, op := Op.buildSlice 81 1 #[(0, Operand.tmp 51)], type := 81, pos := "circuit.go:25", after := #[{ on := 12, ground := Ground.data }], guard := none }) (by kernel_rfl) rfl (fun K hK => ?_)
        go_simp
        refine hK.out _ _ (fun _ => hb7.out.cs.alloc _) ?_
        clear hK K
        try simp only [Act.put, List.setIfInBounds_toArray, List.set_cons_zero, List.set_cons_succ]
        refine AnyE.one (i := 14) (o := { dst := some 53, op := Op.call { callee := Callee.builtin Builtin.append, args := #[Operand.tmp 40, Operand.tmp 52], argTypes := #[81, 81] }, type := 81, pos := "circuit.go:25", after := #[{ on := 1, ground := Ground.data }, { on := 13, ground := Ground.data }, { on := 11, ground := Ground.chain }], guard := none }) (by kernel_rfl) rfl (fun K hK => ?_)
        refine step_append_lies _ (by rfl) _ _ _ (by rfl) w.heap.size 130 i0 _ 3 24 Try.underlying81 hi hz0 hz1 hz2 rfl (by omega) (.slice aG gl cG) gl (gtC gs) (by rfl) ((show w7.ownsRow w.heap.size 130 3 (.slice aG gl cG) gl (gtC gs) from hglN ▸ hb7.out.nc.row).alloc _) ⟨w7.heap.size, 0, none⟩ 1 1 [.int .i64 ((k : Int) + 1), .int .i64 (litI (cn.take (k + 1)) a), .int .i64 (litI (cn.take (k + 1)) b2)] (by rfl) (by rfl) (World.news_of_block (cs := #[.int .i64 ((k : Int) + 1), .int .i64 (litI (cn.take (k + 1)) a), .int .i64 (litI (cn.take (k + 1)) b2)]) (t := 130) (fr := (0, 0)) (heap_alloc_new w7 _)) (by intro u hu; simp at hu; rcases hu with rfl | rfl | rfl <;> rfl) (by omega) (by unfold maxLen; omega) (by omega) (by have := hb7.out.nc.bel.size; simp; omega) (w7.heap.size + 1) (by simp) ?_
        intro g8 cap8 w8 hown8 hgrow8 _ _
        obtain ⟨HK8, HS8⟩ := HPUT.out w7 w8 g8 cap8 hb7 hown8 hgrow8
        clear hown8 hgrow8
        refine hK.out _ _ (fun _ => HS8) ?_
        clear hK K
        try simp only [Act.put, List.setIfInBounds_toArray, List.set_cons_zero, List.set_cons_succ]
        refine AnyE.take (i := 15) (oi := { dst := some 54, op := Op.fieldAddr 83 (Operand.tmp 7) 2, type := 0, pos := "circuit.go:25", after := #[{ on := 0, ground := Ground.phase }, { on := 1, ground := Ground.phase }, { on := 2, ground := Ground.phase }, { on := 3, ground := Ground.phase }, { on := 4, ground := Ground.phase }, { on := 5, ground := Ground.phase }, { on := 6, ground := Ground.phase }, { on := 7, ground := Ground.phase }, { on := 8, ground := Ground.phase }, { on := 9, ground := Ground.phase }, { on := 10, ground := Ground.phase }, { on := 11, ground := Ground.phase }, { on := 12, ground := Ground.phase }, { on := 13, ground := Ground.phase }, { on := 14, ground := Ground.phase }], guard := none }) (v := .pointer (some ⟨w.heap.size + 1 + 1, 2, none⟩)) rfl (by kernel_rfl) (by kernel_rfl) (by kernel_rfl) (by kernel_rfl) (fun _ _ _ h => h) (Or.inl ⟨by rfl, ?_⟩) HS8 ?_
        · intro W hW
          go_simp
        try simp only [Act.put, List.setIfInBounds_toArray, List.set_cons_zero, List.set_cons_succ]
        refine AnyE.one (i := 16) (o := { dst := none, op := Op.store 81 (Operand.tmp 54) (Operand.tmp 53), type := 0, pos := "circuit.go:25", after := #[{ on := 15, ground := Ground.data }, { on := 14, ground := Ground.data }, { on := 14, ground := Ground.chain }, { on := 0, ground := Ground.phase }, { on := 1, ground := Ground.phase }, { on := 2, ground := Ground.phase }, { on := 3, ground := Ground.phase }, { on := 4, ground := Ground.phase }, { on := 5, ground := Ground.phase }, { on := 6, ground := Ground.phase }, { on := 7, ground := Ground.phase }, { on := 8, ground := Ground.phase }, { on := 9, ground := Ground.phase }, { on := 10, ground := Ground.phase }, { on := 11, ground := Ground.phase }, { on := 12, ground := Ground.phase }, { on := 13, ground := Ground.phase }, { on := 14, ground := Ground.phase }], guard := none }) (by kernel_rfl) rfl (fun K hK => ?_)
        have k8 := ag_cell HS8.out.1 2
        have k9 := ag_fz HS8.out.1 2
        go_simp
        refine hK.out _ _ (fun h => absurd rfl h) (AnyE.done (by kernel_rfl) ?_ _)
        clear hK K k8 k9 HS8
        try simp only [Act.put, List.setIfInBounds_toArray, List.set_cons_zero, List.set_cons_succ]
        generalize w8.setCell ⟨w.heap.size + 1 + 1, 2, none⟩ (.slice (some ⟨g8, 0, none⟩) (gl + 1) cap8) = w9 at *
        go_wp2_with fail
        go_roundg (gk - 1)
        case measure => omega
        case rel => exact ⟨k + 1, _, by simp, by omega, by rw [HG2.out]; exact HK8.out⟩
      · have HG2 : Hid (gts ns cn (k + 1) = gts ns cn k) := gts_other HNK.out hk2
        have q5 : (((nodK ns n).1 : Int) == 2) = false := by simp; omega
        have HQ4 : Hid (NC w (wn.alloc (.cells #[.int .u32 ((nodK ns n).2.1 : Int), .int .u32 ((nodK ns n).2.2 : Int)] 96)) w.heap.size (w.heap.size + 1) (w.heap.size + 1 + 1) (.slice aR n2 cR) cn (k + 1) (gts ns cn k) vG) := HQ3.out.over (ag_bel1 _ _)
        clear HNode HQ3
        generalize (nodK ns n).1 = kd at *
        generalize (nodK ns n).2.1 = a at *
        generalize (nodK ns n).2.2 = b2 at *
        go_wp2_with fail
        go_roundg (gk - 1)
        case measure => omega
        case rel => exact ⟨k + 1, _, by simp, by omega, by rw [HG2.out]; exact HQ4.out⟩
    · obtain rfl : k = c := by omega
      have q1 : ¬ (k : Int) < (k : Int) := by omega
      obtain ⟨aG, cG, rfl, _, _⟩ := row_form HQ.out.row
      have c0 := ag_cell HQ.out.cb 0
      have c1 := ag_cell HQ.out.cb 1
      have c2 := ag_cell HQ.out.cb 2
      have r0 := ag_cell HQ.out.rb 0
      have r1 := ag_cell HQ.out.rb 1
      have r2 := ag_cell HQ.out.rb 2
      have f0 := ag_fz HQ.out.rb 0
      have f1 := ag_fz HQ.out.rb 1
      have f2 := ag_fz HQ.out.rb 2
      have HZ : Hid (∀ e W', e = Ending.returned (.agg #[.slice aR n2 cR, .map (some (w.heap.size + 1)), .slice aG (gts ns cn k).length cG]) → OB wr w.heap.size W' → PP e W') := fun e W' he hW => by rw [he]; exact HP.out wr aG cG HQ.out W' (Or.inr hW)
      have HBK : Hid (wr.heap[w.heap.size]? = some (.cells #[.slice none 0 0, .map none, .slice none 0 0] 83 (0, 0))) := HQ.out.rb
      clear HQ HP
      generalize (gts ns cn k).length = gl at *
      go_wp2_with fail
      have e3 : (((wr.setCell ⟨w.heap.size, 0, none⟩ (.slice aR n2 cR)).setCell ⟨w.heap.size, 1, none⟩ (.map (some (w.heap.size + 1)))).setCell ⟨w.heap.size, 2, none⟩ (.slice aG gl cG)).heap[w.heap.size]? = some (.cells #[.slice aR n2 cR, .map (some (w.heap.size + 1)), .slice aG gl cG] 83 (0, 0)) := by
        have t1 : (wr.setCell ⟨w.heap.size, 0, none⟩ (.slice aR n2 cR)).heap[w.heap.size]? = some (.cells #[.slice aR n2 cR, .map none, .slice none 0 0] 83 (0, 0)) := by rw [heap_setCell_same _ w.heap.size 0 _ _ _ HBK.out]; rfl
        have t2 : ((wr.setCell ⟨w.heap.size, 0, none⟩ (.slice aR n2 cR)).setCell ⟨w.heap.size, 1, none⟩ (.map (some (w.heap.size + 1)))).heap[w.heap.size]? = some (.cells #[.slice aR n2 cR, .map (some (w.heap.size + 1)), .slice none 0 0] 83 (0, 0)) := by rw [heap_setCell_same _ w.heap.size 1 _ _ _ t1]; rfl
        rw [heap_setCell_same _ w.heap.size 2 _ _ _ t2]
        rfl
      refine bodyPost_ret (v := .agg #[.slice aR n2 cR, .map (some (w.heap.size + 1)), .slice aG gl cG]) (res_one (p := 6) rfl _ _ w.heap.size 83 _ (0, 0) _ rfl e3 Try.underlying83 rfl (by kernel_rfl)) rfl ?_
      exact HZ.out _ _ rfl ((OB.set _ _ _ _).trans ((OB.set _ _ _ _).trans (OB.set _ _ _ _)))
end Go.Proofs.Ytkomadlmonhlhaa
