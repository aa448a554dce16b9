import Derived.Test.YtkomadlmonhlhaaTfF
import Derived.Test.YtkomadlmonhlhaaTgB
namespace Go.Proofs.Ytkomadlmonhlhaa
open Go.ChangeShapes Go.WideShapes Go.ChangeAt Go.RowKit Go.Lib Go.Ag Go.WideMaps Go.Maps Go.ChangeMaps Go.Cn

/-- the clauses of a node of the cone of which some literals are wanted -/
def gtWat (ns : Nds) (cn : List Nat) (D : Nat → Bool) (i : Nat) : List (List Int) := match nodK ns (cn.getD i 0) with
  | (2, (a, b)) => (if D (2 * cn.getD i 0) = true then [[-((i : Int) + 1), litI cn a], [-((i : Int) + 1), litI cn b]] else []) ++ (if D (2 * cn.getD i 0 + 1) = true then [[(i : Int) + 1, -litI cn a, -litI cn b]] else [])
  | _ => []
def gtW (ns : Nds) (cn : List Nat) (D : Nat → Bool) (k : Nat) : List (List Int) := (List.range k).flatMap (gtWat ns cn D)
theorem gtW_succ (ns : Nds) (cn : List Nat) (D : Nat → Bool) (k : Nat) : gtW ns cn D (k + 1) = gtW ns cn D k ++ gtWat ns cn D k := by
  unfold gtW
  rw [List.range_succ, List.flatMap_append]
  simp
theorem gtW_skip (ns : Nds) (cn : List Nat) (D : Nat → Bool) {k n kd a b : Nat} (hn : cn.getD k 0 = n) (hk : nodK ns n = (kd, (a, b))) (h2 : kd ≠ 2) : gtW ns cn D (k + 1) = gtW ns cn D k := by
  rw [gtW_succ]
  have e : gtWat ns cn D k = [] := by
    unfold gtWat
    rw [hn, hk]
    split
    · rename_i e; cases e; exact absurd rfl h2
    · rfl
  rw [e, List.append_nil]
theorem gtW_gate (ns : Nds) (cn : List Nat) (D : Nat → Bool) {k n a b : Nat} (hn : cn.getD k 0 = n) (hk : nodK ns n = (2, (a, b))) : gtW ns cn D (k + 1) = gtW ns cn D k ++ (if D (2 * n) = true then [[-((k : Int) + 1), litI cn a], [-((k : Int) + 1), litI cn b]] else []) ++ (if D (2 * n + 1) = true then [[(k : Int) + 1, -litI cn a, -litI cn b]] else []) := by
  rw [gtW_succ, List.append_assoc]
  congr 1
  unfold gtWat
  rw [hn, hk]
  rfl
theorem gtW_len (ns : Nds) (cn : List Nat) (D : Nat → Bool) : ∀ k, (gtW ns cn D k).length ≤ 3 * k := by
  intro k
  induction k with
  | zero => simp [gtW]
  | succ k ih =>
    rcases hk : nodK ns (cn.getD k 0) with ⟨kd, a, b⟩
    by_cases h2 : kd = 2
    · subst h2
      rw [gtW_gate ns cn D rfl hk]
      simp only [List.length_append]
      split <;> split <;> simp <;> omega
    · rw [gtW_skip ns cn D rfl hk h2]
      omega
/-- what the document's row of marks holds -/
def wv (D : Nat → Bool) (i : Nat) : Int := (if D (2 * i) = true then 1 else 0) + (if D (2 * i + 1) = true then 2 else 0)
theorem wv_bits (D : Nat → Bool) (i : Nat) : bits .and .i64 (wv D i) 1 = (if D (2 * i) = true then 1 else 0) ∧ bits .and .i64 (wv D i) 2 = (if D (2 * i + 1) = true then 2 else 0) := by
  unfold wv
  cases D (2 * i) <;> cases D (2 * i + 1) <;> decide
def WD (w : World) (Qb c : Nat) (D : Nat → Bool) : Prop := Qb < w.heap.size ∧ ∀ i, i < c → w.cell? ⟨Qb, i, none⟩ = some (.int .i64 (wv D i))
set_option maxHeartbeats 32000000 in
set_option maxRecDepth 100000 in
/-- the document's laid -/
theorem rlaidW_ok (D : Nat → Bool) (w : World) {B0 R : Nat} {ns : Nds} {vL : Value} (h : RG w B0 R ns vL) (hw : WFN ns) (hln : ns.length ≤ 1048576) (h32 : ∀ n a b, nodK ns n = (2, (a, b)) → a < 4294967296 ∧ b < 4294967296) (aC : Option Addr) (cn : List Nat) (cC : Nat) (hC : Nts w aC cn) (hd : cn.Nodup) (hbd : ∀ n ∈ cn, n ≤ ns.length) (hcl : cn.length ≤ 1048576)
    (aR : Option Addr) (ls : List Nat) (cR : Nat) (hR : U32s w aR ls) (hl32 : ∀ l ∈ ls, l < 4294967296) (hlb : ∀ l ∈ ls, l / 2 ≤ ns.length) (hrn : ls.length ≤ 10000000) (Qb : Nat) (hQ : WD w Qb (ns.length + 1) D) (hfew : (gtW ns cn D cn.length ++ ls.flatMap (clR cn)).length ≤ 1048576) :
    Calls Try.prog 33 #[.pointer (some ⟨R, 0, none⟩), .slice aC cn.length cC, .slice aR ls.length cR, .slice (some ⟨Qb, 0, none⟩) (ns.length + 1) (ns.length + 1)] w fun e w' => ∃ aL cL, e = .returned (.tuple #[.agg #[.int .i64 (cn.length : Int), .slice aL (gtW ns cn D cn.length ++ ls.flatMap (clR cn)).length cL], .slice aC cn.length cC, .int .i64 0]) ∧ QL w' w.heap.size (gtW ns cn D cn.length ++ ls.flatMap (clR cn)) (.slice aL (gtW ns cn D cn.length ++ ls.flatMap (clR cn)).length cL) ∧ Below w.heap.size w w' := by
  obtain ⟨i0, hi, hz0, hz1, hz2⟩ := info_parts (P := Try.prog) (e := 63) (z := .slice none 0 0) (size := 1) (bytes := 24) (by kernel_rfl)
  obtain ⟨c, hcc⟩ : ∃ c, ns.length + 1 = c := ⟨_, rfl⟩
  obtain ⟨m, hm⟩ : ∃ m, cn.length = m := ⟨_, rfl⟩
  obtain ⟨w1, hw1⟩ : ∃ w1, w.alloc (.cells #[.int .i64 0, .slice none 0 0] 33) = w1 := ⟨_, rfl⟩
  have HB1 : Hid (Below w.heap.size w w1 ∧ w1.heap[w.heap.size]? = some (.cells #[.int .i64 0, .slice none 0 0] 33 (0, 0)) ∧ w1.heap.size = w.heap.size + 1) := by rw [← hw1]; exact ⟨ag_bel1 _ _, heap_alloc_new _ _, by simp⟩
  have HVs : Hid (Calls Try.prog 58 #[.pointer (some ⟨R, 0, none⟩), .slice aC m cC] w1 fun e w' => e = .returned (.slice (some ⟨w1.heap.size, 0, none⟩) c c) ∧ VR w' w1.heap.size c cn ∧ Below w1.heap.size w1 w') := by
    rw [← hcc, ← hm]
    exact rvars_ok w1 (h.over HB1.out.1) hln aC cn cC (fun h0 => by
      obtain ⟨b, off, e, hb, hcc⟩ := hC h0
      exact ⟨b, off, e, Nat.lt_of_lt_of_le hb HB1.out.1.size, fun j hj => (HB1.out.1.cell (p := ⟨b, off + j, none⟩) hb).trans (hcc j hj)⟩) hd hbd hcl
  have HG : Hid (∀ X, Below w.heap.size w X → ∀ n, n < c → ∃ gL capL, vL = .slice (some ⟨gL, 0, none⟩) c capL ∧ X.cell? ⟨R, 0, none⟩ = some vL ∧ X.cell? ⟨gL, n * 3, none⟩ = some (.int .i64 ((nodK ns n).1 : Int)) ∧ X.cell? ⟨gL, n * 3 + 1, none⟩ = some (.int .u32 ((nodK ns n).2.1 : Int)) ∧ X.cell? ⟨gL, n * 3 + 2, none⟩ = some (.int .u32 ((nodK ns n).2.2 : Int))) := fun X hX n hn => by
    obtain ⟨g, cap, e1, e2, e3⟩ := h.node hX
    rw [hcc] at e1
    exact ⟨g, cap, e1, e2, e3 n (by omega)⟩
  have HRt : Hid (∀ (X : World) (cls : List (List Int)) (aL : Option Addr) (n1 cL Vb : Nat), cls.length = n1 → QL X w.heap.size cls (.slice aL n1 cL) → Below w.heap.size w X → VR X Vb c cn → w.heap.size ≤ Vb → n1 + ls.length ≤ 100000000 → Calls Try.prog 60 #[.agg #[.int .i64 (m : Int), .slice aL n1 cL], .slice (some ⟨Vb, 0, none⟩) c c, .slice aR ls.length cR] X fun e w' => ∃ aL cL, e = .returned (.agg #[.int .i64 (m : Int), .slice aL (cls ++ ls.flatMap (clR cn)).length cL]) ∧ QL w' w.heap.size (cls ++ ls.flatMap (clR cn)) (.slice aL (cls ++ ls.flatMap (clR cn)).length cL) ∧ Below w.heap.size w w' ∧ Below w.heap.size X w' ∧ (∀ (j : Nat) (cs : Array Value), X.heap[j]? = some (Obj.cells cs 33 (0, 0)) → w'.heap[j]? = X.heap[j]?)) := fun X cls aL n1 cL Vb h1 h2 h3 h4 h5 h6 => rooted_ok w X w.heap.size (m : Int) cls aL n1 cL h1 h2 h3 h3.size h4 h5 hcl aR ls cR hR (fun h0 b off e => by obtain ⟨b', off', e', hb', _⟩ := hR h0; rw [e] at e'; cases e'; exact hb') hl32 (fun l hl => by have := hlb l hl; omega) h6
  have HLi : Hid (∀ (X : World) (Vb l : Nat), VR X Vb c cn → l < 4294967296 → l / 2 < c → Calls Try.prog 59 #[.slice (some ⟨Vb, 0, none⟩) c c, .int .u32 (l : Int)] X fun e w' => e = .returned (.int .i64 (litI cn l)) ∧ w' = X) := fun X Vb l h1 h2 h3 => rlit_any X h1 hcl l h2 h3
  have HCn : Hid (Nts w aC cn ∧ ∀ n ∈ cn, n < c) := ⟨hC, fun n hn => by have := hbd n hn; omega⟩
  have HNd : Hid (∀ n a b, nodK ns n = (2, (a, b)) → a < 4294967296 ∧ b < 4294967296 ∧ a / 2 < n ∧ b / 2 < n) := fun n a b e => ⟨(h32 n a b e).1, (h32 n a b e).2, hw n a b e⟩
  have HQ : Hid (WD w Qb c D) := by rw [← hcc]; exact hQ
  have HLb : Hid (∀ l, -(m : Int) ≤ litI cn l ∧ litI cn l ≤ (m : Int)) := fun l => by rw [← hm]; exact litI_bd cn l
  have HM : Hid (cn.length = m) := hm
  have HFw : Hid ((gtW ns cn D m ++ ls.flatMap (clR cn)).length ≤ 1048576) := by rw [← hm]; exact hfew
  have HGl : Hid (∀ k, (gtW ns cn D k).length ≤ 3 * k) := gtW_len ns cn D
  have hm1 : m ≤ 1048576 := by omega
  clear h hC hd hbd hR hl32 hlb hQ hfew
  have HW1e : Hid (w.alloc (.cells #[.int .i64 0, .slice none 0 0] 33) = w1) := hw1
  rw [hcc, hm]
  clear hw1 hm hcc
  have q0 : ¬ (1048576 : Int) < (m : Int) := by omega
  go_enter Try.func33, Try.ntmps33
  go_wp2_with fail
  rw [HW1e.out]
  clear HW1e
  refine HVs.out.mono ?_
  rintro e w2 ⟨rfl, hv2, hb2⟩
  obtain ⟨Vb, hVb⟩ : ∃ Vb, w1.heap.size = Vb := ⟨_, rfl⟩
  rw [hVb] at hv2
  rw [hVb]
  obtain ⟨w3, hw3⟩ : ∃ w3, w2.alloc (.cells #[.int .i64 (m : Int), .slice none 0 0] 33) = w3 := ⟨_, rfl⟩
  obtain ⟨Fb, hFb⟩ : ∃ Fb, w2.heap.size = Fb := ⟨_, rfl⟩
  have HR0 : Hid (RST w w w3 w.heap.size Fb w.heap.size Vb c cn (m : Int) (gtW ns cn D 0) (.slice none 0 0) ∧ w.heap.size ≤ Vb) := by
    have b3 := ag_bel1 w2 (.cells #[.int .i64 (m : Int), .slice none 0 0] 33)
    have e3 := heap_alloc_new w2 (.cells #[.int .i64 (m : Int), .slice none 0 0] 33)
    rw [hw3] at b3 e3
    rw [hFb] at e3
    have bb := ag_next HB1.out.1 (ag_next hb2 b3)
    have s1 := HB1.out.2.2
    have s2 := hb2.size
    refine ⟨⟨⟨e3, QL.nil _ _, bb, bb.size, by omega⟩, ?_, by omega, hv2.over b3, bb, by omega, fun j cs hj => bb.block j (Array.getElem?_eq_some_iff.1 hj).1⟩, by omega⟩
    exact ((ag_next hb2 b3).block _ (by omega)).trans HB1.out.2.1
  have HW3e : Hid (w2.alloc (.cells #[.int .i64 (m : Int), .slice none 0 0] 33) = w3) := hw3
  clear hw3 hv2 hb2 HVs hVb
  go_wp2_with fail
  try rw [hFb]
  try rw [HW3e.out]
  clear HW3e hFb
  have hlsn := hrn
  obtain ⟨nl, hnl⟩ : ∃ nl, ls.length = nl := ⟨_, rfl⟩
  have HNl : Hid (ls.length = nl) := hnl
  rw [hnl] at HRt hlsn
  rw [hnl]
  clear hnl hrn
  go_loopg [13] m (fun gk v13 wr => ∃ k : Nat, v13 = .int .i64 (k : Int) ∧ k + gk = m ∧ Aside (∃ aL cL, RST w w wr w.heap.size Fb w.heap.size Vb c cn (m : Int) (gtW ns cn D k) (.slice aL (gtW ns cn D k).length cL)))
  case atStart => exact ⟨0, rfl, by omega, ⟨none, 0, HR0.out.1⟩⟩
  case round =>
    have HVlo : Hid (w.heap.size ≤ Vb) := HR0.out.2
    clear HR0
    obtain ⟨k, rfl, hk, HR⟩ := hrel
    obtain ⟨aL, cL, hF⟩ := HR.out
    have hgl := HGl.out k
    obtain ⟨n1, hn1⟩ : ∃ n1, (gtW ns cn D k).length = n1 := ⟨_, rfl⟩
    rw [hn1] at hF hgl
    have HF : Hid (RST w w wr w.heap.size Fb w.heap.size Vb c cn (m : Int) (gtW ns cn D k) (.slice aL n1 cL)) := hF
    have HN1 : Hid ((gtW ns cn D k).length = n1) := hn1
    clear HR hF hn1
    by_cases hlt : k < m
    rotate_left
    · obtain rfl : k = m := by omega
      have q1 : ¬ (k : Int) < (k : Int) := by omega
      have c0 := ag_cell HF.out.f.box 0
      have c1 := ag_cell HF.out.f.box 1
      have HRt2 : Hid (Calls Try.prog 60 #[.agg #[.int .i64 (k : Int), .slice aL n1 cL], .slice (some ⟨Vb, 0, none⟩) c c, .slice aR nl cR] wr fun e w' => ∃ aL cL, e = .returned (.agg #[.int .i64 (k : Int), .slice aL (gtW ns cn D k ++ ls.flatMap (clR cn)).length cL]) ∧ QL w' w.heap.size (gtW ns cn D k ++ ls.flatMap (clR cn)) (.slice aL (gtW ns cn D k ++ ls.flatMap (clR cn)).length cL) ∧ Below w.heap.size w w' ∧ Below w.heap.size wr w' ∧ (∀ (j : Nat) (cs : Array Value), wr.heap[j]? = some (Obj.cells cs 33 (0, 0)) → w'.heap[j]? = wr.heap[j]?)) := HRt.out wr (gtW ns cn D k) aL n1 cL Vb HN1.out (by have h9 := HF.out.f.ql; exact h9) HF.out.b HF.out.v HVlo.out (by omega)
      clear HRt HLi HCn HNd HG
      generalize hCC : gtW ns cn D k ++ ls.flatMap (clR cn) = CC at *
      go_wp2_with fail
      refine HRt2.out.mono ?_
      rintro e w5 ⟨aL5, cL5, rfl, hq5, hb5, hbw5, hk5⟩
      have f5 := (hk5 Fb _ HF.out.f.box).trans HF.out.f.box
      have x5 := (hk5 w.heap.size _ HF.out.x).trans HF.out.x
      have hne := HF.out.ne
      obtain ⟨n5, hn5⟩ : ∃ n5, CC.length = n5 := ⟨_, rfl⟩
      rw [hn5] at hq5
      rw [hn5]
      have hn5b : n5 ≤ 1048576 := by rw [← hn5]; exact HFw.out
      obtain ⟨w6, hw6⟩ : ∃ w6, (w5.setCell ⟨Fb, 0, none⟩ (.int .i64 (k : Int))).setCell ⟨Fb, 1, none⟩ (.slice aL5 n5 cL5) = w6 := ⟨_, rfl⟩
      have f6 : w6.heap[Fb]? = some (.cells #[.int .i64 (k : Int), .slice aL5 n5 cL5] 33 (0, 0)) := by
        rw [← hw6, heap_setCell_same _ _ 1 _ _ _ (heap_setCell_same _ _ 0 _ _ _ f5)]
        rfl
      have k6 : ∀ j, j ≠ Fb → w6.heap[j]? = w5.heap[j]? := fun j hj => by rw [← hw6, heap_setCell_other _ _ _ _ hj, heap_setCell_other _ _ _ _ hj]
      have x6 := (k6 w.heap.size hne).trans x5
      obtain ⟨w7, hw7⟩ : ∃ w7, (w6.setCell ⟨w.heap.size, 0, none⟩ (.int .i64 (k : Int))).setCell ⟨w.heap.size, 1, none⟩ (.slice aL5 n5 cL5) = w7 := ⟨_, rfl⟩
      have x7 : w7.heap[w.heap.size]? = some (.cells #[.int .i64 (k : Int), .slice aL5 n5 cL5] 33 (0, 0)) := by
        rw [← hw7, heap_setCell_same _ _ 1 _ _ _ (heap_setCell_same _ _ 0 _ _ _ x6)]
        rfl
      have k7 : ∀ j, j ≠ Fb → j ≠ w.heap.size → w7.heap[j]? = w5.heap[j]? := fun j hj hj2 => by rw [← hw7, heap_setCell_other _ _ _ _ hj2, heap_setCell_other _ _ _ _ hj2]; exact k6 j hj
      have s7 : w7.heap.size = w5.heap.size ∧ w7.os = w5.os ∧ w7.tape = w5.tape ∧ w7.output = w5.output := by rw [← hw7, ← hw6]; exact ⟨by simp, rfl, rfl, rfl⟩
      have HZ : Hid (QL w7 w.heap.size CC (.slice aL5 n5 cL5) ∧ Below w.heap.size w w7) := by
        have hlo := HF.out.f.lo
        have hq5' := hq5
        obtain ⟨ads, hr, _⟩ := hq5'
        refine ⟨hq5.keep (fun j _ hj => k7 j (fun e => ag_ne hr f5 (by decide) (by rw [hj, e])) (fun e => ag_ne hr x5 (by decide) (by rw [hj, e]))) (fun j _ _ hj => k7 j (fun e => by rw [e, f5] at hj; cases hj) (fun e => by rw [e, x5] at hj; cases hj)), ⟨s7.2.1.trans hb5.os, s7.2.2.1.trans hb5.tape, s7.2.2.2.trans hb5.output, by rw [s7.1]; exact hb5.size, fun j hj => (k7 j (by omega) (by omega)).trans (hb5.block j hj)⟩⟩
      have HW6 : Hid ((w5.setCell ⟨Fb, 0, none⟩ (.int .i64 (k : Int))).setCell ⟨Fb, 1, none⟩ (.slice aL5 n5 cL5) = w6) := hw6
      have HW7 : Hid ((w6.setCell ⟨w.heap.size, 0, none⟩ (.int .i64 (k : Int))).setCell ⟨w.heap.size, 1, none⟩ (.slice aL5 n5 cL5) = w7) := hw7
      have HX7 : Hid (w7.heap[w.heap.size]? = some (.cells #[.int .i64 (k : Int), .slice aL5 n5 cL5] 33 (0, 0))) := x7
      have HL5 : Hid (CC.length = n5) := hn5
      have HCC : Hid (gtW ns cn D k ++ ls.flatMap (clR cn) = CC) := hCC
      have d0 := ag_cell f5 0
      have d1 := ag_cell f5 1
      have e0 := ag_fz f5 0
      have e1 := ag_fz f5 1
      have g0 := ag_cell f6 0
      have g1 := ag_cell f6 1
      have l0 := ag_cell x6 0
      have l1 := ag_cell x6 1
      have o0 := ag_fz x6 0
      have o1 := ag_fz x6 1
      have q5 : ¬ (1048576 : Int) < (n5 : Int) := by omega
      clear hq5 hb5 hbw5 hk5 f5 x5 f6 k6 x6 x7 k7 s7 hw6 hw7 HF HRt2 c0 c1 hn5 hCC HFw
      go_upto_region 18 with fail
      rw [HW6.out]
      clear HW6 d0 d1 e0 e1
      go_wp2_with fail
      rw [HW7.out]
      refine bodyPost_ret (v := .tuple #[.agg #[.int .i64 (k : Int), .slice aL5 n5 cL5], .slice aC k cC, .int .i64 0]) (res_c2 (p := 8) (u := 9) (v := 10) rfl _ _ w.heap.size 33 _ (0, 0) _ _ _ rfl HX7.out rfl rfl Try.underlying33 rfl (by kernel_rfl)) rfl ?_
      rw [HCC.out, HL5.out]
      exact ⟨aL5, cL5, rfl, HZ.out⟩
    · have hkl : k < cn.length := by rw [HM.out]; exact hlt
      obtain ⟨bC, offC, rfl, hbC, hcC⟩ := HCn.out.1 (by omega)
      obtain ⟨n, hn⟩ : ∃ n, cn.getD k 0 = n := ⟨_, rfl⟩
      have hmem : n ∈ cn := by rw [← hn, List.getD_eq_getElem?_getD, List.getElem?_eq_getElem hkl]; exact List.getElem_mem _
      have hnc := HCn.out.2 n hmem
      obtain ⟨wd, hwd⟩ : ∃ wd, wr.drew = wd := ⟨_, rfl⟩
      have hbd : Below wr.heap.size wr wd := by rw [← hwd]; exact ⟨rfl, rfl, rfl, Nat.le_refl _, fun _ _ => rfl⟩
      have HFd : Hid (RST w w wd w.heap.size Fb w.heap.size Vb c cn (m : Int) (gtW ns cn D k) (.slice aL n1 cL)) := HF.out.over hbd
      rcases hkk : nodK ns n with ⟨kd, a, b⟩
      obtain ⟨gL, capL, hvL, g1, g2, g3, g4⟩ := HG.out wd HFd.out.b n hnc
      subst hvL
      rw [hkk] at g2 g3 g4
      have HS0 : Hid (wd.cell? ⟨R, 0, none⟩ = some (.slice (some ⟨gL, 0, none⟩) c capL) ∧ wd.cell? ⟨bC, offC + k, none⟩ = some (.int .i64 (n : Int)) ∧ wd.cell? ⟨gL, n * 3, none⟩ = some (.int .i64 (kd : Int)) ∧ wd.cell? ⟨gL, n * 3 + 1, none⟩ = some (.int .u32 (a : Int)) ∧ wd.cell? ⟨gL, n * 3 + 2, none⟩ = some (.int .u32 (b : Int))) := ⟨g1, by rw [← hn]; exact (HFd.out.b.cell (p := ⟨bC, offC + k, none⟩) hbC).trans (hcC k hkl), g2, g3, g4⟩
      have HS1 : Hid ((wd.alloc (.cells #[.int .i64 0, .int .u32 0, .int .u32 0] 101)).cell? ⟨R, 0, none⟩ = some (.slice (some ⟨gL, 0, none⟩) c capL) ∧ (wd.alloc (.cells #[.int .i64 0, .int .u32 0, .int .u32 0] 101)).cell? ⟨bC, offC + k, none⟩ = some (.int .i64 (n : Int)) ∧ (wd.alloc (.cells #[.int .i64 0, .int .u32 0, .int .u32 0] 101)).cell? ⟨gL, n * 3, none⟩ = some (.int .i64 (kd : Int)) ∧ (wd.alloc (.cells #[.int .i64 0, .int .u32 0, .int .u32 0] 101)).cell? ⟨gL, n * 3 + 1, none⟩ = some (.int .u32 (a : Int)) ∧ (wd.alloc (.cells #[.int .i64 0, .int .u32 0, .int .u32 0] 101)).cell? ⟨gL, n * 3 + 2, none⟩ = some (.int .u32 (b : Int))) := by
        have hb9 := HFd.out.b.trans ((ag_bel1 wd (.cells #[.int .i64 0, .int .u32 0, .int .u32 0] 101)).mono HFd.out.f.hB)
        obtain ⟨gL', capL', hvL', e1, e2, e3, e4⟩ := HG.out _ hb9 n hnc
        cases hvL'
        rw [hkk] at e2 e3 e4
        exact ⟨e1, by rw [← hn]; exact (hb9.cell (p := ⟨bC, offC + k, none⟩) hbC).trans (hcC k hkl), e2, e3, e4⟩
      have hwd9 : Hid (wr.drew = wd) := hwd
      have q1 : (k : Int) < (m : Int) := by omega
      have q2 : (n : Int) < (c : Int) := by omega
      have q3 : IntKind.i64.wrap ((k : Int) + 1) = (k : Int) + 1 := wrap_in (by omega) (by omega)
      have HKK : Hid (nodK ns n = (kd, (a, b)) ∧ cn.getD k 0 = n) := ⟨hkk, hn⟩
      have HRD : Hid (∀ X, Below w.heap.size w X → X.cell? ⟨bC, offC + k, none⟩ = some (.int .i64 (n : Int)) ∧ X.cell? ⟨Qb, n, none⟩ = some (.int .i64 (wv D n))) := fun X hX => ⟨by rw [← hn]; exact (hX.cell (p := ⟨bC, offC + k, none⟩) hbC).trans (hcC k hkl), (hX.cell (p := ⟨Qb, n, none⟩) HQ.out.1).trans (HQ.out.2 n hnc)⟩
      obtain ⟨we, hwe⟩ : ∃ we, wd.alloc (.cells #[.int .i64 (kd : Int), .int .u32 (a : Int), .int .u32 (b : Int)] 101) = we := ⟨_, rfl⟩
      obtain ⟨Nb, hNb⟩ : ∃ Nb, wd.heap.size = Nb := ⟨_, rfl⟩
      have HE : Hid (RST w w we w.heap.size Fb w.heap.size Vb c cn (m : Int) (gtW ns cn D k) (.slice aL n1 cL) ∧ we.heap[Nb]? = some (.cells #[.int .i64 (kd : Int), .int .u32 (a : Int), .int .u32 (b : Int)] 101 (0, 0))) := by
        rw [← hwe, ← hNb]
        exact ⟨HFd.out.over (ag_bel1 _ _), heap_alloc_new _ _⟩
      have HWe : Hid (wd.alloc (.cells #[.int .i64 (kd : Int), .int .u32 (a : Int), .int .u32 (b : Int)] 101) = we) := hwe
      have HNbe : Hid (wd.heap.size = Nb) := hNb
      clear hkk hn g1 g2 g3 g4 hcC hmem hbd hwd HF hwe hNb HFd
      go_wp2_with fail
      refine AnyE.region (fun Wc => Hid (Wc.cell? ⟨R, 0, none⟩ = some (.slice (some ⟨gL, 0, none⟩) c capL) ∧ Wc.cell? ⟨bC, offC + k, none⟩ = some (.int .i64 (n : Int)) ∧ Wc.cell? ⟨gL, n * 3, none⟩ = some (.int .i64 (kd : Int)) ∧ Wc.cell? ⟨gL, n * 3 + 1, none⟩ = some (.int .u32 (a : Int)) ∧ Wc.cell? ⟨gL, n * 3 + 2, none⟩ = some (.int .u32 (b : Int)))) 11 (by kernel_rfl) ?_
      rw [hwd9.out]
      refine AnyE.take (i := 0) (oi := { dst := some 34, op := Op.move (Operand.tmp 0), type := 26, pos := "ref.go:61", after := #[], guard := none }) (v := .pointer (some ⟨R, 0, none⟩)) rfl (by kernel_rfl) (by kernel_rfl) (by kernel_rfl) (by kernel_rfl) (fun _ _ _ h => h) (Or.inl ⟨by rfl, ?_⟩) HS0 ?_
      · intro W hW
        obtain ⟨s1, s2, s3, s4, s5⟩ := hW.out
        go_simp
      try simp only [Act.put, List.setIfInBounds_toArray, List.set_cons_zero, List.set_cons_succ]
      refine AnyE.take (i := 1) (oi := { dst := some 35, op := Op.nilCheck (Operand.tmp 34), type := 0, pos := "ref.go:61", after := #[{ on := 0, ground := Ground.data }], guard := none }) (v := .pointer (some ⟨R, 0, none⟩)) rfl (by kernel_rfl) (by kernel_rfl) (by kernel_rfl) (by kernel_rfl) (fun _ _ _ h => h) (Or.inl ⟨by rfl, ?_⟩) HS0 ?_
      · intro W hW
        obtain ⟨s1, s2, s3, s4, s5⟩ := hW.out
        go_simp
      try simp only [Act.put, List.setIfInBounds_toArray, List.set_cons_zero, List.set_cons_succ]
      refine AnyE.take (i := 2) (oi := { dst := some 36, op := Op.fieldAddr 46 (Operand.tmp 35) 0, type := 0, pos := "ref.go:61", after := #[{ on := 1, ground := Ground.data }], guard := none }) (v := .pointer (some ⟨R, 0, none⟩)) rfl (by kernel_rfl) (by kernel_rfl) (by kernel_rfl) (by kernel_rfl) (fun _ _ _ h => h) (Or.inl ⟨by rfl, ?_⟩) HS0 ?_
      · intro W hW
        obtain ⟨s1, s2, s3, s4, s5⟩ := hW.out
        go_simp
      try simp only [Act.put, List.setIfInBounds_toArray, List.set_cons_zero, List.set_cons_succ]
      refine AnyE.take (i := 3) (oi := { dst := some 37, op := Op.load 44 (Operand.tmp 36), type := 44, pos := "ref.go:61", after := #[{ on := 2, ground := Ground.data }], guard := none }) (v := .slice (some ⟨gL, 0, none⟩) c capL) rfl (by kernel_rfl) (by kernel_rfl) (by kernel_rfl) (by kernel_rfl) (fun _ _ _ h => h) (Or.inl ⟨by rfl, ?_⟩) HS0 ?_
      · intro W hW
        obtain ⟨s1, s2, s3, s4, s5⟩ := hW.out
        go_simp
      try simp only [Act.put, List.setIfInBounds_toArray, List.set_cons_zero, List.set_cons_succ]
      refine AnyE.take (i := 4) (oi := { dst := some 38, op := Op.move (Operand.tmp 1), type := 23, pos := "ref.go:61", after := #[], guard := none }) (v := .slice (some ⟨bC, offC, none⟩) m cC) rfl (by kernel_rfl) (by kernel_rfl) (by kernel_rfl) (by kernel_rfl) (fun _ _ _ h => h) (Or.inl ⟨by rfl, ?_⟩) HS0 ?_
      · intro W hW
        obtain ⟨s1, s2, s3, s4, s5⟩ := hW.out
        go_simp
      try simp only [Act.put, List.setIfInBounds_toArray, List.set_cons_zero, List.set_cons_succ]
      refine AnyE.take (i := 5) (oi := { dst := some 39, op := Op.move (Operand.tmp 13), type := 3, pos := "ref.go:61", after := #[], guard := none }) (v := .int .i64 (k : Int)) rfl (by kernel_rfl) (by kernel_rfl) (by kernel_rfl) (by kernel_rfl) (fun _ _ _ h => h) (Or.inl ⟨by rfl, ?_⟩) HS0 ?_
      · intro W hW
        obtain ⟨s1, s2, s3, s4, s5⟩ := hW.out
        go_simp
      try simp only [Act.put, List.setIfInBounds_toArray, List.set_cons_zero, List.set_cons_succ]
      refine AnyE.take (i := 6) (oi := { dst := some 40, op := Op.indexAddr 23 (Operand.tmp 38) (Operand.tmp 39), type := 0, pos := "ref.go:61", after := #[{ on := 4, ground := Ground.data }, { on := 5, ground := Ground.data }], guard := none }) (v := .pointer (some ⟨bC, offC + k, none⟩)) rfl (by kernel_rfl) (by kernel_rfl) (by kernel_rfl) (by kernel_rfl) (fun _ _ _ h => h) (Or.inl ⟨by rfl, ?_⟩) HS0 ?_
      · intro W hW
        obtain ⟨s1, s2, s3, s4, s5⟩ := hW.out
        go_simp
      try simp only [Act.put, List.setIfInBounds_toArray, List.set_cons_zero, List.set_cons_succ]
      refine AnyE.take (i := 7) (oi := { dst := some 41, op := Op.load 3 (Operand.tmp 40), type := 3, pos := "ref.go:61", after := #[{ on := 6, ground := Ground.data }], guard := none }) (v := .int .i64 (n : Int)) rfl (by kernel_rfl) (by kernel_rfl) (by kernel_rfl) (by kernel_rfl) (fun _ _ _ h => h) (Or.inl ⟨by rfl, ?_⟩) HS0 ?_
      · intro W hW
        obtain ⟨s1, s2, s3, s4, s5⟩ := hW.out
        go_simp
      try simp only [Act.put, List.setIfInBounds_toArray, List.set_cons_zero, List.set_cons_succ]
      refine AnyE.take (i := 8) (oi := { dst := some 42, op := Op.indexAddr 44 (Operand.tmp 37) (Operand.tmp 41), type := 0, pos := "ref.go:61", after := #[{ on := 3, ground := Ground.data }, { on := 7, ground := Ground.data }], guard := none }) (v := .pointer (some ⟨gL, n * 3, none⟩)) rfl (by kernel_rfl) (by kernel_rfl) (by kernel_rfl) (by kernel_rfl) (fun _ _ _ h => h) (Or.inl ⟨by rfl, ?_⟩) HS0 ?_
      · intro W hW
        obtain ⟨s1, s2, s3, s4, s5⟩ := hW.out
        go_simp
      try simp only [Act.put, List.setIfInBounds_toArray, List.set_cons_zero, List.set_cons_succ]
      refine AnyE.take (i := 9) (oi := { dst := some 43, op := Op.load 101 (Operand.tmp 42), type := 101, pos := "ref.go:61", after := #[{ on := 8, ground := Ground.data }], guard := none }) (v := .agg #[.int .i64 (kd : Int), .int .u32 (a : Int), .int .u32 (b : Int)]) rfl (by kernel_rfl) (by kernel_rfl) (by kernel_rfl) (by kernel_rfl) (fun _ _ _ h => h) (Or.inl ⟨by rfl, ?_⟩) HS0 ?_
      · intro W hW
        obtain ⟨s1, s2, s3, s4, s5⟩ := hW.out
        go_simp
      try simp only [Act.put, List.setIfInBounds_toArray, List.set_cons_zero, List.set_cons_succ]
      refine AnyE.one (i := 10) (o := { dst := some 14, op := Op.alloc 101, type := 0, pos := "ref.go:61", after := #[], guard := none }) (by kernel_rfl) rfl (fun K hK => ?_)
      go_simp
      refine hK.out _ _ (fun _ => HS1) ?_
      clear hK K
      try simp only [Act.put, List.setIfInBounds_toArray, List.set_cons_zero, List.set_cons_succ]
      refine AnyE.one (i := 11) (o := { dst := none, op := Op.store 101 (Operand.tmp 14) (Operand.tmp 43), type := 0, pos := "ref.go:61", after := #[{ on := 10, ground := Ground.data }, { on := 9, ground := Ground.data }, { on := 0, ground := Ground.phase }, { on := 1, ground := Ground.phase }, { on := 2, ground := Ground.phase }, { on := 3, ground := Ground.phase }, { on := 4, ground := Ground.phase }, { on := 5, ground := Ground.phase }, { on := 6, ground := Ground.phase }, { on := 7, ground := Ground.phase }, { on := 8, ground := Ground.phase }, { on := 9, ground := Ground.phase }, { on := 10, ground := Ground.phase }], guard := none }) (by kernel_rfl) rfl (fun K hK => ?_)
      go_simp
      refine hK.out _ _ (fun h => absurd rfl h) (AnyE.done (by kernel_rfl) ?_ _)
      clear hK K
      try simp only [Act.put, List.setIfInBounds_toArray, List.set_cons_zero, List.set_cons_succ]
      rw [HWe.out, HNbe.out]
      clear HWe HNbe HS0 HS1 hwd9
      have b0 := ag_cell HE.out.2 0
      by_cases hk2 : kd = 2
      rotate_left
      · have t2 : ((kd : Int) != 2) = true := by simp; omega
        have HZ : Hid (∃ aL cL, RST w w we w.heap.size Fb w.heap.size Vb c cn (m : Int) (gtW ns cn D (k + 1)) (.slice aL (gtW ns cn D (k + 1)).length cL)) := by
          rw [gtW_skip ns cn D HKK.out.2 HKK.out.1 hk2, HN1.out]
          exact ⟨aL, cL, HE.out.1⟩
        clear HE HRD HKK
        go_wp2_with fail
        go_roundg (gk - 1)
        case measure => omega
        case rel => exact ⟨k + 1, by simp, by omega, HZ.out⟩
      · subst hk2
        have b1 := ag_cell HE.out.2 1
        have b2 := ag_cell HE.out.2 2
        obtain ⟨ha32, hb32, ha2, hb2⟩ := HNd.out n a b HKK.out.1
        have HLa : Hid (Calls Try.prog 59 #[.slice (some ⟨Vb, 0, none⟩) c c, .int .u32 (a : Int)] we fun e w' => e = .returned (.int .i64 (litI cn a)) ∧ w' = we) := HLi.out we Vb a HE.out.1.v ha32 (by omega)
        have HLb2 : Hid (Calls Try.prog 59 #[.slice (some ⟨Vb, 0, none⟩) c c, .int .u32 (b : Int)] we fun e w' => e = .returned (.int .i64 (litI cn b)) ∧ w' = we) := HLi.out we Vb b HE.out.1.v hb32 (by omega)
        have HGk : Hid (gtW ns cn D (k + 1) = gtW ns cn D k ++ (if D (2 * n) = true then [[-((k : Int) + 1), litI cn a], [-((k : Int) + 1), litI cn b]] else []) ++ (if D (2 * n + 1) = true then [[(k : Int) + 1, -litI cn a, -litI cn b]] else [])) := gtW_gate ns cn D HKK.out.2 HKK.out.1
        have hla := HLb.out a
        have hlb := HLb.out b
        generalize litI cn a = la at *
        generalize litI cn b = lb at *
        obtain ⟨nk, q4, hnk⟩ : ∃ nk, IntKind.i64.wrap (-((k : Int) + 1)) = nk ∧ -((k : Int) + 1) = nk := ⟨_, neg_in hm1 (by omega) (by omega), rfl⟩
        obtain ⟨na, q5, hna⟩ : ∃ na, IntKind.i64.wrap (-la) = na ∧ -la = na := ⟨_, neg_in hm1 hla.1 hla.2, rfl⟩
        obtain ⟨nb, q6, hnb⟩ : ∃ nb, IntKind.i64.wrap (-lb) = nb ∧ -lb = nb := ⟨_, neg_in hm1 hlb.1 hlb.2, rfl⟩
        rw [hnk, hna, hnb] at HGk
        clear hnk hna hnb
        obtain ⟨ads1, hrow1, hqs1⟩ := HE.out.1.f.ql
        rw [HN1.out] at hrow1 hqs1
        have HQ1 : Hid (we.ownsRow w.heap.size 63 1 (.slice aL n1 cL) n1 ads1 ∧ ∀ i, i < n1 → ∃ vA, ads1[i]? = some vA ∧ QA we w.heap.size ((gtW ns cn D k).getD i []) vA) := ⟨hrow1, hqs1⟩
        have HSz : Hid (w.heap.size ≤ we.heap.size) := HE.out.1.f.hB
        have HX : Hid (Below we.heap.size we (((we.alloc (.cells #[.int .i64 nk, .int .i64 la] 3)).alloc (.cells #[.int .i64 nk, .int .i64 lb] 3)).alloc (.cells #[.slice (some ⟨we.heap.size, 0, none⟩) 2 2, .slice (some ⟨we.heap.size + 1, 0, none⟩) 2 2] 63))) := ag_next (ag_bel1 _ _) (ag_next (ag_bel1 _ _) (ag_bel1 _ _))
        have HPut1 : Hid (∀ (w7 : World) (g7 cap7 : Nat), w7.ownsRow w.heap.size 63 1 (.slice (some ⟨g7, 0, none⟩) (n1 + 2) cap7) (n1 + 2) (ads1 ++ [.slice (some ⟨we.heap.size, 0, none⟩) 2 2, .slice (some ⟨we.heap.size + 1, 0, none⟩) 2 2]) → (((we.alloc (.cells #[.int .i64 nk, .int .i64 la] 3)).alloc (.cells #[.int .i64 nk, .int .i64 lb] 3)).alloc (.cells #[.slice (some ⟨we.heap.size, 0, none⟩) 2 2, .slice (some ⟨we.heap.size + 1, 0, none⟩) 2 2] 63)).grownBy w7 (Value.slice aL n1 cL).ownBlock → (w7.cell? ⟨Fb, 1, none⟩ = some (.slice aL n1 cL) ∧ w7.frozen? ⟨Fb, 1, none⟩ = false) ∧ RST w w (w7.setCell ⟨Fb, 1, none⟩ (.slice (some ⟨g7, 0, none⟩) (n1 + 2) cap7)) w.heap.size Fb w.heap.size Vb c cn (m : Int) (gtW ns cn D k ++ [[nk, la], [nk, lb]]) (.slice (some ⟨g7, 0, none⟩) (n1 + 2) cap7)) := fun w7 g7 cap7 ho hgr => by
          have s1 : (we.alloc (.cells #[.int .i64 nk, .int .i64 la] 3)).heap.size = we.heap.size + 1 := by simp
          have hnew : ∀ i, i < ([[nk, la], [nk, lb]] : List (List Int)).length → ∃ vA, ([.slice (some ⟨we.heap.size, 0, none⟩) 2 2, .slice (some ⟨we.heap.size + 1, 0, none⟩) 2 2] : List Value)[i]? = some vA ∧ QA (((we.alloc (.cells #[.int .i64 nk, .int .i64 la] 3)).alloc (.cells #[.int .i64 nk, .int .i64 lb] 3)).alloc (.cells #[.slice (some ⟨we.heap.size, 0, none⟩) 2 2, .slice (some ⟨we.heap.size + 1, 0, none⟩) 2 2] 63)) w.heap.size (([[nk, la], [nk, lb]] : List (List Int)).getD i []) vA := fun i hi => by
            have : i = 0 ∨ i = 1 := by simp at hi; omega
            rcases this with rfl | rfl
            · exact ⟨_, rfl, (QA.new we w.heap.size [nk, la] HSz.out).over (ag_next (ag_bel1 _ _) (ag_bel1 _ _))⟩
            · have h9 := (QA.new (we.alloc (.cells #[.int .i64 nk, .int .i64 la] 3)) w.heap.size [nk, lb] (by have := HSz.out; omega)).over (ag_bel1 _ (.cells #[.slice (some ⟨we.heap.size, 0, none⟩) 2 2, .slice (some ⟨we.heap.size + 1, 0, none⟩) 2 2] 63))
              rw [s1] at h9
              exact ⟨_, rfl, h9⟩
          exact HE.out.1.put (new := [[nk, la], [nk, lb]]) HN1.out rfl HQ1.out.1 HQ1.out.2 HX.out hnew ho hgr
        have HO1 : Hid ((((we.alloc (.cells #[.int .i64 nk, .int .i64 la] 3)).alloc (.cells #[.int .i64 nk, .int .i64 lb] 3)).alloc (.cells #[.slice (some ⟨we.heap.size, 0, none⟩) 2 2, .slice (some ⟨we.heap.size + 1, 0, none⟩) 2 2] 63)).ownsRow w.heap.size 63 1 (.slice aL n1 cL) n1 ads1) := ag_same hrow1 (fun j hj => HX.out.block j (hrow1.lt j hj).2)
        have HNw1 : Hid (∀ j u, ([.slice (some ⟨we.heap.size, 0, none⟩) 2 2, .slice (some ⟨we.heap.size + 1, 0, none⟩) 2 2] : List Value)[j]? = some u → (((we.alloc (.cells #[.int .i64 nk, .int .i64 la] 3)).alloc (.cells #[.int .i64 nk, .int .i64 lb] 3)).alloc (.cells #[.slice (some ⟨we.heap.size, 0, none⟩) 2 2, .slice (some ⟨we.heap.size + 1, 0, none⟩) 2 2] 63)).cell? ((⟨we.heap.size + 1 + 1, 0, none⟩ : Addr).add j) = some u) := by
          have e9 : ((we.alloc (.cells #[.int .i64 nk, .int .i64 la] 3)).alloc (.cells #[.int .i64 nk, .int .i64 lb] 3)).heap.size = we.heap.size + 1 + 1 := by simp
          have h9 := arr_new ((we.alloc (.cells #[.int .i64 nk, .int .i64 la] 3)).alloc (.cells #[.int .i64 nk, .int .i64 lb] 3)) #[.slice (some ⟨we.heap.size, 0, none⟩) 2 2, .slice (some ⟨we.heap.size + 1, 0, none⟩) 2 2] 63
          rw [e9] at h9
          exact h9
        obtain ⟨zz1, zz2⟩ := wv_bits D n
        obtain ⟨r1, r2⟩ := HRD.out we HE.out.1.b
        obtain ⟨x3, hx3⟩ : ∃ x3, wv D n = x3 := ⟨_, rfl⟩
        rw [hx3] at HRD r2 zz1 zz2
        have HZz : Hid (bits .and .i64 x3 2 = (if D (2 * n + 1) = true then 2 else 0)) := zz2
        have HZ1 : Hid (bits .and .i64 x3 1 = (if D (2 * n) = true then 1 else 0)) := zz1
        clear hx3 zz1 zz2
        have c1 := ag_cell HE.out.1.f.box 1
        clear hrow1 hqs1
        go_wp2_with fail
        refine HLa.out.mono ?_
        rintro e w' ⟨rfl, hw'⟩
        obtain rfl := hw'.symm
        go_wp2_with fail
        refine HLb2.out.mono ?_
        rintro e w' ⟨rfl, hw'⟩
        obtain rfl := hw'.symm
        clear HLa HLb2
        cases hp : D (2 * n) with
        | true =>
          have z1 : bits .and .i64 x3 1 = 1 := by have h9 := HZ1.out; rw [hp, if_pos rfl] at h9; exact h9
          rw [hp, if_pos rfl] at HGk
          go_upto_region 14 with fail
          clear b1 b2 r1 r2 z1
          go_upto_region 15 with (at_builtin; refine wpList_append_lies _ rfl _ _ 31 rfl w.heap.size 63 i0 (.slice none 0 0) 1 24 Try.underlying31 hi hz0 hz1 hz2 rfl (by omega) (.slice aL n1 cL) n1 ads1 rfl HO1.out ⟨we.heap.size + 1 + 1, 0, none⟩ 2 2 [.slice (some ⟨we.heap.size, 0, none⟩) 2 2, .slice (some ⟨we.heap.size + 1, 0, none⟩) 2 2] rfl rfl HNw1.out (by intro u hu; simp at hu; rcases hu with rfl | rfl <;> rfl) (by omega) (by unfold maxLen; omega) (by omega) (by have := HSz.out; simp; omega) (we.heap.size + 1 + 1 + 1) (by simp) ?_; intro g8 c8 w8 hown8 hgrow8 hat8 hlt8; obtain ⟨⟨y1, y2⟩, y3⟩ := HPut1.out w8 g8 c8 hown8 hgrow8; have HY3 : Hid _ := y3; clear y3 hown8 hgrow8 hat8 hlt8)
          clear y1 y2 HPut1 HO1 HNw1 HX HE HQ1 HSz c1 b0
          generalize w8.setCell ⟨Fb, 1, none⟩ (.slice (some ⟨g8, 0, none⟩) (n1 + 2) c8) = wf at *
          have HF2 : Hid (RST w w wf w.heap.size Fb w.heap.size Vb c cn (m : Int) (gtW ns cn D k ++ [[nk, la], [nk, lb]]) (.slice (some ⟨g8, 0, none⟩) (n1 + 2) c8)) := HY3.out
          clear HY3
          have HL2 : Hid ((gtW ns cn D k ++ [[nk, la], [nk, lb]]).length = n1 + 2) := by show _ = _; rw [List.length_append, HN1.out]; rfl
          have HG2 : Hid (gtW ns cn D (k + 1) = (gtW ns cn D k ++ [[nk, la], [nk, lb]]) ++ (if D (2 * n + 1) = true then [[(k : Int) + 1, na, nb]] else [])) := HGk.out
          cases hq : D (2 * n + 1) with
          | true =>
            have z2 : bits .and .i64 x3 2 = 2 := by have h9 := HZz.out; rw [hq, if_pos rfl] at h9; exact h9
            rw [hq, if_pos rfl] at HG2
            obtain ⟨ads2, hrow2, hqs2⟩ := HF2.out.f.ql
            rw [HL2.out] at hrow2 hqs2
            have HQ2 : Hid (wf.ownsRow w.heap.size 63 1 (.slice (some ⟨g8, 0, none⟩) (n1 + 2) c8) (n1 + 2) ads2 ∧ ∀ i, i < (n1 + 2) → ∃ vA, ads2[i]? = some vA ∧ QA wf w.heap.size ((gtW ns cn D k ++ [[nk, la], [nk, lb]]).getD i []) vA) := ⟨hrow2, hqs2⟩
            have HSz2 : Hid (w.heap.size ≤ wf.heap.size) := HF2.out.f.hB
            have HX2 : Hid (Below wf.heap.size wf ((wf.alloc (.cells #[.int .i64 ((k : Int) + 1), .int .i64 na, .int .i64 nb] 3)).alloc (.cells #[.slice (some ⟨wf.heap.size, 0, none⟩) 3 3] 63))) := ag_next (ag_bel1 _ _) (ag_bel1 _ _)
            have HPut2 : Hid (∀ (w7 : World) (g7 cap7 : Nat), w7.ownsRow w.heap.size 63 1 (.slice (some ⟨g7, 0, none⟩) ((n1 + 2) + 1) cap7) ((n1 + 2) + 1) (ads2 ++ [.slice (some ⟨wf.heap.size, 0, none⟩) 3 3]) → ((wf.alloc (.cells #[.int .i64 ((k : Int) + 1), .int .i64 na, .int .i64 nb] 3)).alloc (.cells #[.slice (some ⟨wf.heap.size, 0, none⟩) 3 3] 63)).grownBy w7 (Value.slice (some ⟨g8, 0, none⟩) (n1 + 2) c8).ownBlock → (w7.cell? ⟨Fb, 1, none⟩ = some (.slice (some ⟨g8, 0, none⟩) (n1 + 2) c8) ∧ w7.frozen? ⟨Fb, 1, none⟩ = false) ∧ ∃ aL cL, RST w w (w7.setCell ⟨Fb, 1, none⟩ (.slice (some ⟨g7, 0, none⟩) ((n1 + 2) + 1) cap7)) w.heap.size Fb w.heap.size Vb c cn (m : Int) (gtW ns cn D (k + 1)) (.slice aL (gtW ns cn D (k + 1)).length cL)) := fun w7 g7 cap7 ho hgr => by
              have hnew : ∀ i, i < ([[(k : Int) + 1, na, nb]] : List (List Int)).length → ∃ vA, ([.slice (some ⟨wf.heap.size, 0, none⟩) 3 3] : List Value)[i]? = some vA ∧ QA ((wf.alloc (.cells #[.int .i64 ((k : Int) + 1), .int .i64 na, .int .i64 nb] 3)).alloc (.cells #[.slice (some ⟨wf.heap.size, 0, none⟩) 3 3] 63)) w.heap.size (([[(k : Int) + 1, na, nb]] : List (List Int)).getD i []) vA := fun i hi => by
                obtain rfl : i = 0 := by simpa using hi
                exact ⟨_, rfl, (QA.new wf w.heap.size [(k : Int) + 1, na, nb] HSz2.out).over (ag_bel1 _ _)⟩
              have h9 := HF2.out.put (new := [[(k : Int) + 1, na, nb]]) HL2.out rfl HQ2.out.1 HQ2.out.2 HX2.out hnew ho hgr
              have e9 : (gtW ns cn D (k + 1)).length = (n1 + 2) + 1 := by rw [HG2.out, List.length_append, HL2.out]; rfl
              refine ⟨h9.1, some ⟨g7, 0, none⟩, cap7, ?_⟩
              rw [e9, HG2.out]
              exact h9.2
            have HO2 : Hid (((wf.alloc (.cells #[.int .i64 ((k : Int) + 1), .int .i64 na, .int .i64 nb] 3)).alloc (.cells #[.slice (some ⟨wf.heap.size, 0, none⟩) 3 3] 63)).ownsRow w.heap.size 63 1 (.slice (some ⟨g8, 0, none⟩) (n1 + 2) c8) (n1 + 2) ads2) := ag_same hrow2 (fun j hj => HX2.out.block j (hrow2.lt j hj).2)
            have HNw2 : Hid (∀ j u, ([.slice (some ⟨wf.heap.size, 0, none⟩) 3 3] : List Value)[j]? = some u → ((wf.alloc (.cells #[.int .i64 ((k : Int) + 1), .int .i64 na, .int .i64 nb] 3)).alloc (.cells #[.slice (some ⟨wf.heap.size, 0, none⟩) 3 3] 63)).cell? ((⟨wf.heap.size + 1, 0, none⟩ : Addr).add j) = some u) := by
              have e9 : (wf.alloc (.cells #[.int .i64 ((k : Int) + 1), .int .i64 na, .int .i64 nb] 3)).heap.size = wf.heap.size + 1 := by simp
              have h9 := one_new (wf.alloc (.cells #[.int .i64 ((k : Int) + 1), .int .i64 na, .int .i64 nb] 3)) (.slice (some ⟨wf.heap.size, 0, none⟩) 3 3) 63
              rw [e9] at h9
              exact h9
            obtain ⟨r1, r2⟩ := HRD.out wf HF2.out.b
            have c1 := ag_cell HF2.out.f.box 1
            clear hrow2 hqs2 HF2 HQ2
            go_upto_region 16 with fail
            clear r1 r2 z2 HRD
            go_wp2_with (at_builtin; refine wpList_append_lies _ rfl _ _ 31 rfl w.heap.size 63 i0 (.slice none 0 0) 1 24 Try.underlying31 hi hz0 hz1 hz2 rfl (by omega) (.slice (some ⟨g8, 0, none⟩) (n1 + 2) c8) (n1 + 2) ads2 rfl HO2.out ⟨wf.heap.size + 1, 0, none⟩ 1 1 [.slice (some ⟨wf.heap.size, 0, none⟩) 3 3] rfl rfl HNw2.out (by intro u hu; simp at hu; subst hu; rfl) (by omega) (by unfold maxLen; omega) (by omega) (by have := HSz2.out; simp; omega) (wf.heap.size + 1 + 1) (by simp) ?_; intro g9 c9 w9 hown9 hgrow9 hat9 hlt9; obtain ⟨⟨y1, y2⟩, y3⟩ := HPut2.out w9 g9 c9 hown9 hgrow9; have HY3 : Hid _ := y3; clear y3 hown9 hgrow9 hat9 hlt9)
            go_roundg (gk - 1)
            case measure => omega
            case rel => exact ⟨k + 1, by simp, by omega, HY3.out⟩
          | false =>
            have z2 : bits .and .i64 x3 2 = 0 := by have h9 := HZz.out; rw [hq, if_neg (by decide)] at h9; exact h9
            rw [hq, if_neg (by decide), List.append_nil] at HG2
            obtain ⟨r1, r2⟩ := HRD.out wf HF2.out.b
            have HY3 : Hid (∃ aL cL, RST w w wf w.heap.size Fb w.heap.size Vb c cn (m : Int) (gtW ns cn D (k + 1)) (.slice aL (gtW ns cn D (k + 1)).length cL)) := by rw [HG2.out, HL2.out]; exact ⟨_, _, HF2.out⟩
            clear HF2 HRD
            go_wp2_with fail
            go_roundg (gk - 1)
            case measure => omega
            case rel => exact ⟨k + 1, by simp, by omega, HY3.out⟩
        | false =>
          have z1 : bits .and .i64 x3 1 = 0 := by have h9 := HZ1.out; rw [hp, if_neg (by decide)] at h9; exact h9
          rw [hp, if_neg (by decide), List.append_nil] at HGk
          go_upto_region 15 with fail
          clear b1 b2 r1 r2 z1 HPut1 HO1 HNw1 HX c1 b0
          generalize we = wf at *
          have HF2 : Hid (RST w w wf w.heap.size Fb w.heap.size Vb c cn (m : Int) (gtW ns cn D k) (.slice aL n1 cL)) := HE.out.1
          have HL2 : Hid ((gtW ns cn D k).length = n1) := HN1.out
          clear HE HQ1 HSz
          have HG2 : Hid (gtW ns cn D (k + 1) = gtW ns cn D k ++ (if D (2 * n + 1) = true then [[(k : Int) + 1, na, nb]] else [])) := HGk.out
          cases hq : D (2 * n + 1) with
          | true =>
            have z2 : bits .and .i64 x3 2 = 2 := by have h9 := HZz.out; rw [hq, if_pos rfl] at h9; exact h9
            rw [hq, if_pos rfl] at HG2
            obtain ⟨ads2, hrow2, hqs2⟩ := HF2.out.f.ql
            rw [HL2.out] at hrow2 hqs2
            have HQ2 : Hid (wf.ownsRow w.heap.size 63 1 (.slice aL n1 cL) n1 ads2 ∧ ∀ i, i < n1 → ∃ vA, ads2[i]? = some vA ∧ QA wf w.heap.size ((gtW ns cn D k).getD i []) vA) := ⟨hrow2, hqs2⟩
            have HSz2 : Hid (w.heap.size ≤ wf.heap.size) := HF2.out.f.hB
            have HX2 : Hid (Below wf.heap.size wf ((wf.alloc (.cells #[.int .i64 ((k : Int) + 1), .int .i64 na, .int .i64 nb] 3)).alloc (.cells #[.slice (some ⟨wf.heap.size, 0, none⟩) 3 3] 63))) := ag_next (ag_bel1 _ _) (ag_bel1 _ _)
            have HPut2 : Hid (∀ (w7 : World) (g7 cap7 : Nat), w7.ownsRow w.heap.size 63 1 (.slice (some ⟨g7, 0, none⟩) (n1 + 1) cap7) (n1 + 1) (ads2 ++ [.slice (some ⟨wf.heap.size, 0, none⟩) 3 3]) → ((wf.alloc (.cells #[.int .i64 ((k : Int) + 1), .int .i64 na, .int .i64 nb] 3)).alloc (.cells #[.slice (some ⟨wf.heap.size, 0, none⟩) 3 3] 63)).grownBy w7 (Value.slice aL n1 cL).ownBlock → (w7.cell? ⟨Fb, 1, none⟩ = some (.slice aL n1 cL) ∧ w7.frozen? ⟨Fb, 1, none⟩ = false) ∧ ∃ aL cL, RST w w (w7.setCell ⟨Fb, 1, none⟩ (.slice (some ⟨g7, 0, none⟩) (n1 + 1) cap7)) w.heap.size Fb w.heap.size Vb c cn (m : Int) (gtW ns cn D (k + 1)) (.slice aL (gtW ns cn D (k + 1)).length cL)) := fun w7 g7 cap7 ho hgr => by
              have hnew : ∀ i, i < ([[(k : Int) + 1, na, nb]] : List (List Int)).length → ∃ vA, ([.slice (some ⟨wf.heap.size, 0, none⟩) 3 3] : List Value)[i]? = some vA ∧ QA ((wf.alloc (.cells #[.int .i64 ((k : Int) + 1), .int .i64 na, .int .i64 nb] 3)).alloc (.cells #[.slice (some ⟨wf.heap.size, 0, none⟩) 3 3] 63)) w.heap.size (([[(k : Int) + 1, na, nb]] : List (List Int)).getD i []) vA := fun i hi => by
                obtain rfl : i = 0 := by simpa using hi
                exact ⟨_, rfl, (QA.new wf w.heap.size [(k : Int) + 1, na, nb] HSz2.out).over (ag_bel1 _ _)⟩
              have h9 := HF2.out.put (new := [[(k : Int) + 1, na, nb]]) HL2.out rfl HQ2.out.1 HQ2.out.2 HX2.out hnew ho hgr
              have e9 : (gtW ns cn D (k + 1)).length = n1 + 1 := by rw [HG2.out, List.length_append, HL2.out]; rfl
              refine ⟨h9.1, some ⟨g7, 0, none⟩, cap7, ?_⟩
              rw [e9, HG2.out]
              exact h9.2
            have HO2 : Hid (((wf.alloc (.cells #[.int .i64 ((k : Int) + 1), .int .i64 na, .int .i64 nb] 3)).alloc (.cells #[.slice (some ⟨wf.heap.size, 0, none⟩) 3 3] 63)).ownsRow w.heap.size 63 1 (.slice aL n1 cL) n1 ads2) := ag_same hrow2 (fun j hj => HX2.out.block j (hrow2.lt j hj).2)
            have HNw2 : Hid (∀ j u, ([.slice (some ⟨wf.heap.size, 0, none⟩) 3 3] : List Value)[j]? = some u → ((wf.alloc (.cells #[.int .i64 ((k : Int) + 1), .int .i64 na, .int .i64 nb] 3)).alloc (.cells #[.slice (some ⟨wf.heap.size, 0, none⟩) 3 3] 63)).cell? ((⟨wf.heap.size + 1, 0, none⟩ : Addr).add j) = some u) := by
              have e9 : (wf.alloc (.cells #[.int .i64 ((k : Int) + 1), .int .i64 na, .int .i64 nb] 3)).heap.size = wf.heap.size + 1 := by simp
              have h9 := one_new (wf.alloc (.cells #[.int .i64 ((k : Int) + 1), .int .i64 na, .int .i64 nb] 3)) (.slice (some ⟨wf.heap.size, 0, none⟩) 3 3) 63
              rw [e9] at h9
              exact h9
            obtain ⟨r1, r2⟩ := HRD.out wf HF2.out.b
            have c1 := ag_cell HF2.out.f.box 1
            clear hrow2 hqs2 HF2 HQ2
            go_upto_region 16 with fail
            clear r1 r2 z2 HRD
            go_wp2_with (at_builtin; refine wpList_append_lies _ rfl _ _ 31 rfl w.heap.size 63 i0 (.slice none 0 0) 1 24 Try.underlying31 hi hz0 hz1 hz2 rfl (by omega) (.slice aL n1 cL) n1 ads2 rfl HO2.out ⟨wf.heap.size + 1, 0, none⟩ 1 1 [.slice (some ⟨wf.heap.size, 0, none⟩) 3 3] rfl rfl HNw2.out (by intro u hu; simp at hu; subst hu; rfl) (by omega) (by unfold maxLen; omega) (by omega) (by have := HSz2.out; simp; omega) (wf.heap.size + 1 + 1) (by simp) ?_; intro g9 c9 w9 hown9 hgrow9 hat9 hlt9; obtain ⟨⟨y1, y2⟩, y3⟩ := HPut2.out w9 g9 c9 hown9 hgrow9; have HY3 : Hid _ := y3; clear y3 hown9 hgrow9 hat9 hlt9)
            go_roundg (gk - 1)
            case measure => omega
            case rel => exact ⟨k + 1, by simp, by omega, HY3.out⟩
          | false =>
            have z2 : bits .and .i64 x3 2 = 0 := by have h9 := HZz.out; rw [hq, if_neg (by decide)] at h9; exact h9
            rw [hq, if_neg (by decide), List.append_nil] at HG2
            obtain ⟨r1, r2⟩ := HRD.out wf HF2.out.b
            have HY3 : Hid (∃ aL cL, RST w w wf w.heap.size Fb w.heap.size Vb c cn (m : Int) (gtW ns cn D (k + 1)) (.slice aL (gtW ns cn D (k + 1)).length cL)) := by rw [HG2.out, HL2.out]; exact ⟨_, _, HF2.out⟩
            clear HF2 HRD
            go_wp2_with fail
            go_roundg (gk - 1)
            case measure => omega
            case rel => exact ⟨k + 1, by simp, by omega, HY3.out⟩
end Go.Proofs.Ytkomadlmonhlhaa
