import Derived.Test.YtkomadlmonhlhaaTfF
import Derived.Test.YtkomadlmonhlhaaTsZ
import Derived.Deep.Cut
namespace Go.Proofs.Ytkomadlmonhlhaa
open Go.ChangeShapes Go.WideShapes Go.ChangeAt Go.RowKit Go.Lib Go.Ag Go.WideMaps Go.Maps Go.ChangeMaps Go.Cn

theorem gs_32 {ns : Nds} (h : GS ns) (hln : ns.length ≤ 1048576) : ∀ n a b, nodK ns n = (2, (a, b)) → a < 4294967296 ∧ b < 4294967296 := fun n a b e => by
  have h1 := gs_wf h n a b e
  have h2 := (nodK_gate e).2.1
  constructor <;> omega
theorem QL.low {w : World} {B B' : Nat} {cls : List (List Int)} {vL : Value} (h : QL w B cls vL) (hb : B' ≤ B) : QL w B' cls vL := by
  obtain ⟨ads, h1, h2⟩ := h
  refine ⟨ads, row_low h1 hb, fun i hi => ?_⟩
  obtain ⟨vA, e, ad, cp, e2, h3⟩ := h2 i hi
  refine ⟨vA, e, ad, cp, e2, fun hc => ?_⟩
  obtain ⟨b, e3, hB, hbb⟩ := h3 hc
  exact ⟨b, e3, Nat.le_trans hb hB, hbb⟩
/-- what the document's Encode tells -/
structure REN (w w' : World) (ns : Nds) (ls : List Nat) (aL : Option Addr) (cL : Nat) (aC : Option Addr) (cC : Nat) : Prop where
  ql : QL w' w.heap.size (clsE ns ls) (.slice aL (clsE ns ls).length cL)
  cone : w'.ownsRow w.heap.size 3 1 (.slice aC (coneS ns ls).2.length cC) (coneS ns ls).2.length (natV (coneS ns ls).2)
  bel : Below w.heap.size w w'
set_option maxHeartbeats 16000000 in
set_option maxRecDepth 100000 in
/-- the document's Encode -/
theorem rEncode_ok (w : World) {B R : Nat} {ns : Nds} {vL : Value} (h : RG w B R ns vL) (hgs : GS ns) (hln : ns.length ≤ 1048576) (aR : Option Addr) (ls : List Nat) (cR : Nat) (hR : U32s w aR ls) (hbd : ∀ l ∈ ls, l / 2 ≤ ns.length) (hrn : ls.length ≤ 10000000) (hc : (coneS ns ls).2.length ≤ 1048576) (hcl : (clsE ns ls).length ≤ 1048576) :
    Calls Try.prog 10 #[.pointer (some ⟨R, 0, none⟩), .slice aR ls.length cR] w fun e w' => ∃ aL cL aC cC, e = .returned (.tuple #[.agg #[.int .i64 ((coneS ns ls).2.length : Int), .slice aL (clsE ns ls).length cL], .slice aC (coneS ns ls).2.length cC, .int .i64 0]) ∧ REN w w' ns ls aL cL aC cC := by
  have hl32 : ∀ l ∈ ls, l < 4294967296 := fun l hl => by have := hbd l hl; omega
  have h32 := gs_32 hgs hln
  have hCN := cn_cone hgs hbd
  obtain ⟨i2, hi2, hz2, hs2, hb2⟩ := info_parts (P := Try.prog) (e := 3) (z := .int .i64 0) (size := 1) (bytes := 8) (by kernel_rfl)
  obtain ⟨c, hcc⟩ : ∃ c, ns.length + 1 = c := ⟨_, rfl⟩
  have eB : ∀ W : World, (Instr.makeSlice 23 (.int .i64 (c : Int)) (.int .i64 (c : Int))).run Try.prog W = .ok (.slice (some ⟨W.heap.size, 0, none⟩) c c) (W.alloc (.cells (madeCells (Value.int .i64 0).cells (c * 1)) 3)) := fun W => by
    have := run_make (P := Try.prog) (w := W) 23 3 i2 (.int .i64 0) Try.underlying23 hi2 hz2 .i64 .i64 (c : Int) (c : Int) (by omega) (by omega) (by rw [hb2]; omega) (by omega)
    rw [hs2] at this
    simpa using this
  obtain ⟨w1, hw1⟩ : ∃ w1, w.alloc (.cells #[.int .i64 0, .slice none 0 0] 33) = w1 := ⟨_, rfl⟩
  have HB1 : Hid (Below w.heap.size w w1 ∧ w1.heap[w.heap.size]? = some (.cells #[.int .i64 0, .slice none 0 0] 33 (0, 0))) := by rw [← hw1]; exact ⟨ag_bel1 _ _, heap_alloc_new _ _⟩
  have HCo : Hid (Calls Try.prog 20 #[.pointer (some ⟨R, 0, none⟩), .slice aR ls.length cR] w1 fun e w' => ∃ ad cp, e = .returned (.tuple #[.slice ad (coneS ns ls).2.length cp, .int .i64 0]) ∧ Below w1.heap.size w1 w' ∧ w'.ownsRow w1.heap.size 3 1 (.slice ad (coneS ns ls).2.length cp) (coneS ns ls).2.length (natV (coneS ns ls).2)) := rcone_ok w1 (h.over HB1.out.1) hgs hln h32 aR ls cR (hR.below HB1.out.1) hl32 hbd (by omega)
  have HLd : Hid (∀ (X : World) (aC : Option Addr) (cC Qb : Nat), Below w.heap.size w X → Nts X aC (coneS ns ls).2 → W3 X Qb c → Calls Try.prog 33 #[.pointer (some ⟨R, 0, none⟩), .slice aC (coneS ns ls).2.length cC, .slice aR ls.length cR, .slice (some ⟨Qb, 0, none⟩) c c] X fun e w' => ∃ aL cL, e = .returned (.tuple #[.agg #[.int .i64 ((coneS ns ls).2.length : Int), .slice aL (clsE ns ls).length cL], .slice aC (coneS ns ls).2.length cC, .int .i64 0]) ∧ QL w' X.heap.size (clsE ns ls) (.slice aL (clsE ns ls).length cL) ∧ Below X.heap.size X w') := fun X aC cC Qb hX hN hQ => by
    rw [← hcc] at hQ
    rw [← hcc]
    exact rlaid_ok X (h.over hX) (gs_wf hgs) hln h32 aC (coneS ns ls).2 cC hN hCN.nd (fun n hn => (hCN.bd n hn).2) hc aR ls cR (hR.below hX) hl32 hbd hrn Qb hQ hcl
  have HG : Hid (∀ X, Below w.heap.size w X → ∃ gL capL, X.cell? ⟨R, 0, none⟩ = some (.slice (some ⟨gL, 0, none⟩) c capL)) := fun X hX => by
    obtain ⟨g, cap, e1, e2, _⟩ := h.node hX
    rw [hcc] at e1
    exact ⟨g, cap, by rw [e2, e1]⟩
  have HW1e : Hid (w.alloc (.cells #[.int .i64 0, .slice none 0 0] 33) = w1) := hw1
  have HRe : Hid (∀ (w' : World) (aL : Option Addr) (cL : Nat) (aC : Option Addr) (cC : Nat), QL w' w.heap.size (clsE ns ls) (.slice aL (clsE ns ls).length cL) → w'.ownsRow w.heap.size 3 1 (.slice aC (coneS ns ls).2.length cC) (coneS ns ls).2.length (natV (coneS ns ls).2) → Below w.heap.size w w' → REN w w' ns ls aL cL aC cC) := fun w' aL cL aC cC h1 h2 h3 => ⟨h1, h2, h3⟩
  clear h hgs hR hbd hCN hl32 h32 hw1
  generalize hPP : (fun (e : Ending) (w' : World) => ∃ aL cL aC cC, e = .returned (.tuple #[.agg #[.int .i64 ((coneS ns ls).2.length : Int), .slice aL (clsE ns ls).length cL], .slice aC (coneS ns ls).2.length cC, .int .i64 0]) ∧ REN w w' ns ls aL cL aC cC) = PP
  have HP : Hid (∀ (w' : World) (aL : Option Addr) (cL : Nat) (aC : Option Addr) (cC : Nat), QL w' w.heap.size (clsE ns ls) (.slice aL (clsE ns ls).length cL) → w'.ownsRow w.heap.size 3 1 (.slice aC (coneS ns ls).2.length cC) (coneS ns ls).2.length (natV (coneS ns ls).2) → Below w.heap.size w w' → PP (.returned (.tuple #[.agg #[.int .i64 ((coneS ns ls).2.length : Int), .slice aL (clsE ns ls).length cL], .slice aC (coneS ns ls).2.length cC, .int .i64 0])) w') := fun w' aL cL aC cC h1 h2 h3 => by rw [← hPP]; exact ⟨aL, cL, aC, cC, rfl, HRe.out w' aL cL aC cC h1 h2 h3⟩
  clear hPP HRe
  generalize clsE ns ls = FF at *
  generalize (coneS ns ls).2 = cn at *
  generalize hm : cn.length = m at *
  generalize hnF : FF.length = nF at *
  generalize hnl : ls.length = nl at *
  clear hm hnF hnl
  go_enter Try.func10, Try.ntmps10
  go_wp2_with fail
  rw [HW1e.out]
  clear HW1e
  refine HCo.out.mono ?_
  rintro e w2 ⟨aC, cC, rfl, hb2, hr2⟩
  have HC2 : Hid (w2.ownsRow w1.heap.size 3 1 (.slice aC m cC) m (natV cn) ∧ Below w1.heap.size w1 w2) := ⟨hr2, hb2⟩
  obtain ⟨gL, capL, x0⟩ := HG.out w2 (ag_next HB1.out.1 hb2)
  obtain ⟨w3, hw3⟩ : ∃ w3, w2.alloc (.cells (madeCells #[Value.int .i64 0] c) 3) = w3 := ⟨_, rfl⟩
  have HF0 : Hid (FR w2 w3 w2.heap.size 3 c 0 (fun _ => .int .i64 3) (.int .i64 0)) := by
    have h5 := FR.start w2 (.int .i64 0) c 3 (fun _ => .int .i64 3) rfl
    rw [Nat.mul_one] at h5
    rw [← hw3]
    exact h5
  have HW3e : Hid (w2.alloc (.cells (madeCells #[Value.int .i64 0] c) 3) = w3) := hw3
  clear hr2 hb2 HCo hw3
  go_wp2_with fail
  try rw [HW3e.out]
  clear HW3e eB x0
  go_loopg [10] c (fun gk v10 wr => ∃ k : Nat, v10 = .int .i64 (k : Int) ∧ k + gk = c ∧ Aside (FR w2 wr w2.heap.size 3 c k (fun _ => .int .i64 3) (.int .i64 0)))
  case atStart => exact ⟨0, rfl, by omega, HF0.out⟩
  case round =>
    clear HF0
    obtain ⟨k, rfl, hk, HR⟩ := hrel
    by_cases hlt : k < c
    · have q1 : (k : Int) < (c : Int) := by omega
      obtain ⟨A, hA, hs, hcc2⟩ := HR.out.a
      have c1 := (ag_cell hA k).trans (hcc2 k hlt)
      rw [if_neg (by omega)] at c1
      have z1 := ag_fz hA k
      have HN : Hid (FR w2 (wr.setCell ⟨w2.heap.size, k, none⟩ (.int .i64 3)) w2.heap.size 3 c (k + 1) (fun _ => .int .i64 3) (.int .i64 0)) := HR.out.step hlt
      clear HR hA hs hcc2
      go_wp2_with fail
      go_roundg (gk - 1)
      case measure => omega
      case rel => exact ⟨k + 1, by simp, by omega, HN.out⟩
    · obtain rfl : k = c := by omega
      have q1 : ¬ (k : Int) < (k : Int) := by omega
      have HW3 : Hid (W3 wr w2.heap.size k) := by
        obtain ⟨A, hA, hs, hcc2⟩ := HR.out.a
        refine ⟨(Array.getElem?_eq_some_iff.1 hA).1, fun i hi => ?_⟩
        have h9 := (ag_cell hA i).trans (hcc2 i hi)
        rw [if_pos hi] at h9
        exact h9
      have HB3 : Hid (Below w2.heap.size w2 wr) := HR.out.bel
      have HC3 : Hid (wr.ownsRow w1.heap.size 3 1 (.slice aC m cC) m (natV cn)) := ag_same HC2.out.1 (fun j hj => HB3.out.block j (HC2.out.1.lt j hj).2)
      have HBw : Hid (Below w.heap.size w wr ∧ Below w1.heap.size w1 wr) := ⟨ag_next HB1.out.1 (ag_next HC2.out.2 HB3.out), ag_next HC2.out.2 HB3.out⟩
      have HLd2 : Hid (Calls Try.prog 33 #[.pointer (some ⟨R, 0, none⟩), .slice aC m cC, .slice aR nl cR, .slice (some ⟨w2.heap.size, 0, none⟩) k k] wr fun e w' => ∃ aL cL, e = .returned (.tuple #[.agg #[.int .i64 (m : Int), .slice aL nF cL], .slice aC m cC, .int .i64 0]) ∧ QL w' wr.heap.size FF (.slice aL nF cL) ∧ Below wr.heap.size wr w') := HLd.out wr aC cC w2.heap.size HBw.out.1 (nts_of HC3.out) HW3.out
      clear HR HLd HG HB3 HC2
      go_wp2_with fail
      refine HLd2.out.mono ?_
      rintro e w5 ⟨aL, cL, rfl, hq5, hb5⟩
      have x5 : w5.heap[w.heap.size]? = some (.cells #[.int .i64 0, .slice none 0 0] 33 (0, 0)) := ((ag_next HBw.out.2 hb5).block _ (Array.getElem?_eq_some_iff.1 HB1.out.2).1).trans HB1.out.2
      obtain ⟨w7, hw7⟩ : ∃ w7, (w5.setCell ⟨w.heap.size, 0, none⟩ (.int .i64 (m : Int))).setCell ⟨w.heap.size, 1, none⟩ (.slice aL nF cL) = w7 := ⟨_, rfl⟩
      have x7 : w7.heap[w.heap.size]? = some (.cells #[.int .i64 (m : Int), .slice aL nF cL] 33 (0, 0)) := by
        rw [← hw7, heap_setCell_same _ _ 1 _ _ _ (heap_setCell_same _ _ 0 _ _ _ x5)]
        rfl
      have k7 : ∀ j, j ≠ w.heap.size → w7.heap[j]? = w5.heap[j]? := fun j hj => by rw [← hw7, heap_setCell_other _ _ _ _ hj, heap_setCell_other _ _ _ _ hj]
      have s7 : w7.heap.size = w5.heap.size ∧ w7.os = w5.os ∧ w7.tape = w5.tape ∧ w7.output = w5.output := by rw [← hw7]; exact ⟨by simp, rfl, rfl, rfl⟩
      have HZ : Hid (PP (.returned (.tuple #[.agg #[.int .i64 (m : Int), .slice aL nF cL], .slice aC m cC, .int .i64 0])) w7) := by
        have hbB := ag_next HBw.out.1 hb5
        have hq6 := hq5.low HBw.out.1.size
        have hq6' := hq6
        obtain ⟨ads, hr, _⟩ := hq6'
        have hc6 : w5.ownsRow w1.heap.size 3 1 (.slice aC m cC) m (natV cn) := ag_same HC3.out (fun j hj => hb5.block j (HC3.out.lt j hj).2)
        refine HP.out w7 aL cL aC cC (hq6.keep (fun j _ hj => k7 j (fun e => ag_ne hr x5 (by decide) (by rw [hj, e]))) (fun j _ _ hj => k7 j (fun e => by rw [e, x5] at hj; cases hj))) (row_low (ag_same hc6 (fun j hj => k7 j (fun e => ag_ne hc6 x5 (by decide) (by rw [hj, e])))) HB1.out.1.size) ⟨s7.2.1.trans hbB.os, s7.2.2.1.trans hbB.tape, s7.2.2.2.trans hbB.output, by rw [s7.1]; exact hbB.size, fun j hj => (k7 j (by omega)).trans (hbB.block j hj)⟩
      have HW7 : Hid ((w5.setCell ⟨w.heap.size, 0, none⟩ (.int .i64 (m : Int))).setCell ⟨w.heap.size, 1, none⟩ (.slice aL nF cL) = w7) := hw7
      have HX7 : Hid (w7.heap[w.heap.size]? = some (.cells #[.int .i64 (m : Int), .slice aL nF cL] 33 (0, 0))) := x7
      have l0 := ag_cell x5 0
      have l1 := ag_cell x5 1
      have o0 := ag_fz x5 0
      have o1 := ag_fz x5 1
      clear hq5 hb5 x5 x7 k7 s7 hw7 HLd2 HP
      go_wp2_with fail
      rw [HW7.out]
      refine bodyPost_ret (v := .tuple #[.agg #[.int .i64 (m : Int), .slice aL nF cL], .slice aC m cC, .int .i64 0]) (res_c2 (p := 4) (u := 5) (v := 6) rfl _ _ w.heap.size 33 _ (0, 0) _ _ _ rfl HX7.out rfl rfl Try.underlying33 rfl (by kernel_rfl)) rfl ?_
      exact HZ.out
end Go.Proofs.Ytkomadlmonhlhaa
namespace Go.Proofs.Ytkomadlmonhlhaa
open Go.ChangeShapes Go.WideShapes Go.ChangeAt Go.RowKit Go.Lib Go.Ag Go.WideMaps Go.Maps Go.ChangeMaps Go.Cn

theorem ENC.ql {w w' : World} {cn : List Nat} {cls : List (List Int)} {vL vC : Value} (h : ENC w w' cn cls vL vC) : QL w' w.heap.size cls vL := by
  obtain ⟨ads, bk, hr, hc⟩ := h.cl
  refine ⟨ads, hr, fun i hi => ?_⟩
  by_cases he : cls.getD i [] = []
  · refine ⟨_, hc.nil i hi he, none, 0, ?_, fun hne => absurd he hne⟩
    rw [he]
    rfl
  · obtain ⟨k1, k2, k3⟩ := hc.row i hi he
    exact ⟨_, k1, _, _, rfl, fun _ => ⟨bk i, rfl, k2, k3⟩⟩
theorem QL.at_ {w : World} {B : Nat} {cls : List (List Int)} {aL : Option Addr} {n cL : Nat} (h : QL w B cls (.slice aL n cL)) (hn : cls.length = n) {i : Nat} (hi : i < n) : ∃ g ad c, aL = some ⟨g, 0, none⟩ ∧ w.cell? ⟨g, i, none⟩ = some (.slice ad (cls.getD i []).length c) ∧ Is w ad (cls.getD i []) := by
  subst hn
  obtain ⟨ads, hr, hq⟩ := h
  obtain ⟨a2, c2, e, _, h3⟩ := row_form hr
  cases e
  obtain ⟨g, rfl⟩ := h3 (by omega)
  have hcell := hr.cellAt i (by have := hr.1; omega)
  obtain ⟨vA, e1, ad, cp, e2, h4⟩ := hq i hi
  subst e2
  refine ⟨g, ad, cp, rfl, hcell.trans e1, fun h0 => ?_⟩
  obtain ⟨b, e3, _, k3⟩ := h4 (fun e => by rw [e] at h0; simp at h0)
  refine ⟨b, 0, e3, (Array.getElem?_eq_some_iff.1 k3).1, fun j hj => ?_⟩
  rw [Nat.zero_add, ag_cell k3]
  unfold intV
  generalize cls.getD i [] = c at *
  rw [List.getElem?_toArray, List.getElem?_map, List.getElem?_eq_getElem hj, List.getD_eq_getElem?_getD, List.getElem?_eq_getElem hj]
  rfl
set_option maxHeartbeats 16000000 in
set_option maxRecDepth 100000 in
/-- formulas that are the same are alike -/
theorem alike_eq (w : World) (vars : Int) (cls : List (List Int)) (B1 B2 : Nat) (a1 a2 : Option Addr) (c1 c2 n : Nat) (hn : cls.length = n) (h1 : QL w B1 cls (.slice a1 n c1)) (h2 : QL w B2 cls (.slice a2 n c2)) (h3 : ∀ c ∈ cls, c.length ≤ 3) (hnb : n ≤ 1048576) :
    Calls Try.prog 12 #[.agg #[.int .i64 vars, .slice a1 n c1], .agg #[.int .i64 vars, .slice a2 n c2]] w fun e w' => e = .returned (.bool true) ∧ Below w.heap.size w w' := by
  obtain ⟨w1, hw1⟩ : ∃ w1, (w.alloc (.cells #[.int .i64 vars, .slice a1 n c1] 33)).alloc (.cells #[.int .i64 vars, .slice a2 n c2] 33) = w1 := ⟨_, rfl⟩
  have HB1 : Hid (Below w.heap.size w w1 ∧ w1.heap[w.heap.size]? = some (.cells #[.int .i64 vars, .slice a1 n c1] 33 (0, 0)) ∧ w1.heap[w.heap.size + 1]? = some (.cells #[.int .i64 vars, .slice a2 n c2] 33 (0, 0))) := by
    have b1 := ag_bel1 w (.cells #[.int .i64 vars, .slice a1 n c1] 33)
    have e1 := heap_alloc_new w (.cells #[.int .i64 vars, .slice a1 n c1] 33)
    have s1 : (w.alloc (.cells #[.int .i64 vars, .slice a1 n c1] 33)).heap.size = w.heap.size + 1 := by simp
    generalize w.alloc (.cells #[.int .i64 vars, .slice a1 n c1] 33) = x1 at *
    have b2 := ag_bel1 x1 (.cells #[.int .i64 vars, .slice a2 n c2] 33)
    have e2 := heap_alloc_new x1 (.cells #[.int .i64 vars, .slice a2 n c2] 33)
    rw [hw1] at b2 e2
    rw [s1] at e2
    exact ⟨ag_next b1 b2, (b2.block _ (by omega)).trans e1, e2⟩
  have HAT : Hid (∀ W, Below w1.heap.size w1 W → (W.cell? ⟨w.heap.size, 0, none⟩ = some (.int .i64 vars) ∧ W.cell? ⟨w.heap.size, 1, none⟩ = some (.slice a1 n c1) ∧ W.cell? ⟨w.heap.size + 1, 0, none⟩ = some (.int .i64 vars) ∧ W.cell? ⟨w.heap.size + 1, 1, none⟩ = some (.slice a2 n c2)) ∧ ∀ i, i < n → (∃ g ad c, a1 = some ⟨g, 0, none⟩ ∧ W.cell? ⟨g, i, none⟩ = some (.slice ad (cls.getD i []).length c) ∧ Is W ad (cls.getD i [])) ∧ (∃ g ad c, a2 = some ⟨g, 0, none⟩ ∧ W.cell? ⟨g, i, none⟩ = some (.slice ad (cls.getD i []).length c) ∧ Is W ad (cls.getD i []))) := fun W hW => by
    have x1 := (hW.block _ (Array.getElem?_eq_some_iff.1 HB1.out.2.1).1).trans HB1.out.2.1
    have x2 := (hW.block _ (Array.getElem?_eq_some_iff.1 HB1.out.2.2).1).trans HB1.out.2.2
    exact ⟨⟨ag_cell x1 0, ag_cell x1 1, ag_cell x2 0, ag_cell x2 1⟩, fun i hi => ⟨(h1.over (ag_next HB1.out.1 hW)).at_ hn hi, (h2.over (ag_next HB1.out.1 hW)).at_ hn hi⟩⟩
  have HL3 : Hid (∀ i, (cls.getD i []).length ≤ 1000000000000) := getD_len3 h3
  have HW1e : Hid ((w.alloc (.cells #[.int .i64 vars, .slice a1 n c1] 33)).alloc (.cells #[.int .i64 vars, .slice a2 n c2] 33) = w1) := hw1
  clear h1 h2 h3 hw1 hn
  obtain ⟨⟨y0, y1, y2, y3⟩, _⟩ := HAT.out w1 (Below.refl _ _)
  go_enter Try.func12, Try.ntmps12
  go_upto_region 1 with fail
  rw [HW1e.out]
  clear HW1e
  go_wp2_with fail
  clear y0 y1 y2 y3
  go_loopg [5] n (fun gk v5 wr => ∃ k : Nat, v5 = .int .i64 (k : Int) ∧ k + gk = n ∧ Aside (Below w1.heap.size w1 wr))
  case atStart => exact ⟨0, rfl, by omega, Below.refl _ _⟩
  case round =>
    obtain ⟨k, rfl, hk, HBw⟩ := hrel
    obtain ⟨⟨y0, y1, y2, y3⟩, hat⟩ := HAT.out wr HBw.out
    by_cases hlt : k < n
    · have q1 : (k : Int) < (n : Int) := by omega
      obtain ⟨⟨g1, ad1, c1', rfl, x1, x2⟩, ⟨g2, ad2, c2', rfl, z1, z2⟩⟩ := hat k hlt
      have hl3 := HL3.out k
      have HSm : Hid (∀ q, Calls Try.prog 34 #[.slice ad1 (cls.getD k []).length c1', .slice ad2 (cls.getD k []).length c2'] (wr.drewN q) fun e w' => e = .returned (.bool true) ∧ ∃ d, w' = (wr.drewN q).drewN d) := fun q => by
        have h9 := Same_any (wr.drewN q) ad1 ad2 c1' c2' _ _ (x2.below (drw_bel _ _)) (z2.below (drw_bel _ _)) hl3
        rw [decide_eq_true rfl] at h9
        exact h9
      clear x2 z2 hat hl3
      generalize (cls.getD k []).length = l1 at *
      go_wp2_with fail
      go_quiet ((go_at_call 34; exact Calls.quiet_of (HSm.out _)))
      have HBS : Hid (Below w1.heap.size w1 (wr.drewN nq)) := ag_next HBw.out (drw_bel _ _)
      clear HBw HSm y0 y1 y2 y3 x1 z1
      generalize wr.drewN nq = wS at *
      go_wp2_with fail
      go_roundg (gk - 1)
      case measure => omega
      case rel => exact ⟨k + 1, by simp, by omega, HBS.out⟩
    · obtain rfl : k = n := by omega
      have q1 : ¬ (k : Int) < (k : Int) := by omega
      have HZ : Hid (Below w.heap.size w wr) := ag_next HB1.out.1 HBw.out
      clear hat HBw
      go_wp2_with fail
      go_ret
      exact ⟨rfl, HZ.out⟩
end Go.Proofs.Ytkomadlmonhlhaa
namespace Go.Proofs.Ytkomadlmonhlhaa
open Go.ChangeShapes Go.WideShapes Go.ChangeAt Go.RowKit Go.Lib Go.Ag Go.WideMaps Go.Maps Go.ChangeMaps Go.Cn

/-- a block that may be written over -/
def Fre (a s4 e1 s6 e2 j : Nat) : Prop := a ≤ j ∧ ¬ (s4 ≤ j ∧ j < e1) ∧ ¬ (s6 ≤ j ∧ j < e2)
/-- what stands: all ahead of w3, and two ranges of blocks -/
structure FZ (w3 x1 x2 : World) (s4 s6 : Nat) (W : World) : Prop where
  b : Below w3.heap.size w3 W
  r1 : ∀ (j : Nat), s4 ≤ j → j < x1.heap.size → W.heap[j]? = x1.heap[j]?
  r2 : ∀ (j : Nat), s6 ≤ j → j < x2.heap.size → W.heap[j]? = x2.heap[j]?
  z : x2.heap.size ≤ W.heap.size
  o : x1.heap.size ≤ x2.heap.size
theorem FZ.keep {w3 x1 x2 : World} {s4 s6 : Nat} {W W' : World} (h : FZ w3 x1 x2 s4 s6 W) (hos : W'.os = W.os ∧ W'.tape = W.tape ∧ W'.output = W.output ∧ W.heap.size ≤ W'.heap.size) (hk : ∀ (j : Nat), j < W.heap.size → ¬ Fre w3.heap.size s4 x1.heap.size s6 x2.heap.size j → W'.heap[j]? = W.heap[j]?) : FZ w3 x1 x2 s4 s6 W' := by
  have hz := h.z
  have ho := h.o
  have hbs := h.b.size
  refine ⟨⟨hos.1.trans h.b.os, hos.2.1.trans h.b.tape, hos.2.2.1.trans h.b.output, by omega, fun j hj => (hk j (by omega) (fun e => by have := e.1; omega)).trans (h.b.block j hj)⟩, fun j h1 h2 => (hk j (by omega) (fun e => e.2.1 ⟨h1, h2⟩)).trans (h.r1 j h1 h2), fun j h1 h2 => (hk j (by omega) (fun e => e.2.2 ⟨h1, h2⟩)).trans (h.r2 j h1 h2), by omega, ho⟩
theorem FZ.set {w3 x1 x2 : World} {s4 s6 : Nat} {W : World} (h : FZ w3 x1 x2 s4 s6 W) {b : Nat} (hb : Fre w3.heap.size s4 x1.heap.size s6 x2.heap.size b) (j : Nat) (v : Value) : FZ w3 x1 x2 s4 s6 (W.setCell ⟨b, j, none⟩ v) :=
  h.keep ⟨rfl, rfl, rfl, by simp⟩ (fun i _ hi => heap_setCell_other _ _ _ _ (fun e => hi (by have e' : i = b := e; rw [e']; exact hb)))
theorem FZ.over {w3 x1 x2 : World} {s4 s6 : Nat} {W W' : World} (h : FZ w3 x1 x2 s4 s6 W) (hb : Below W.heap.size W W') : FZ w3 x1 x2 s4 s6 W' := h.keep ⟨hb.os, hb.tape, hb.output, hb.size⟩ (fun j hj _ => hb.block j hj)
/-- a row of numbers that may be written over: its shape -/
def RWs (W : World) (b n : Nat) : Prop := ∃ cur : Array Value, W.heap[b]? = some (.cells cur 3 (0, 0)) ∧ cur.size = n
theorem RWs.cell {W : World} {b n : Nat} (h : RWs W b n) {j : Nat} (hj : j < n) : (∃ v, W.cell? ⟨b, j, none⟩ = some v) ∧ W.frozen? ⟨b, j, none⟩ = false := by
  obtain ⟨cur, h1, h2⟩ := h
  exact ⟨⟨cur[j], (ag_cell h1 j).trans (Array.getElem?_eq_getElem (by omega))⟩, ag_fz h1 j⟩
theorem RWs.set {W : World} {b n : Nat} (h : RWs W b n) (b' j : Nat) (v : Value) : RWs (W.setCell ⟨b', j, none⟩ v) b n := by
  obtain ⟨cur, h1, h2⟩ := h
  by_cases e : b = b'
  · subst e
    exact ⟨cur.setIfInBounds j v, heap_setCell_same _ b j _ _ _ h1, by simpa using h2⟩
  · exact ⟨cur, (heap_setCell_other _ _ _ _ e).trans h1, h2⟩
/-- clauses that are written over, the first k of them are done -/
structure WS (lo hi : Nat) (cls : List (List Int)) (bk : Nat → Nat) (ads : List Value) (g k : Nat) (W : World) : Prop where
  sh : ∀ i, k ≤ i → i < cls.length → cls.getD i [] ≠ [] → lo ≤ bk i ∧ bk i < hi ∧ RWs W (bk i) (cls.getD i []).length
  og : lo ≤ g ∧ g < hi
  out : ∃ cur : Array Value, W.heap[g]? = some (.cells cur 63 (0, 0)) ∧ ∀ i, k ≤ i → i < cls.length → cur[i]? = ads[i]?
/-- what the list holds -/
structure WA (cls : List (List Int)) (bk : Nat → Nat) (ads : List Value) : Prop where
  nil : ∀ i, i < cls.length → cls.getD i [] = [] → ads[i]? = some (.slice none 0 0)
  row : ∀ i, i < cls.length → cls.getD i [] ≠ [] → ads[i]? = some (.slice (some ⟨bk i, 0, none⟩) (cls.getD i []).length (cls.getD i []).length)
  inc : ∀ i j, i < j → j < cls.length → cls.getD i [] ≠ [] → cls.getD j [] ≠ [] → bk i < bk j
theorem WS.cell {lo hi : Nat} {cls : List (List Int)} {bk : Nat → Nat} {ads : List Value} {g k : Nat} {W : World} (h : WS lo hi cls bk ads g k W) (hk : k < cls.length) {v : Value} (hv : ads[k]? = some v) : W.cell? ⟨g, k, none⟩ = some v ∧ W.frozen? ⟨g, k, none⟩ = false := by
  obtain ⟨cur, h1, h2⟩ := h.out
  exact ⟨(ag_cell h1 k).trans ((h2 k (Nat.le_refl _) hk).trans hv), ag_fz h1 k⟩
theorem WS.next {lo hi : Nat} {cls : List (List Int)} {bk : Nat → Nat} {ads : List Value} {g k : Nat} {W : World} (h : WS lo hi cls bk ads g k W) : WS lo hi cls bk ads g (k + 1) W := by
  obtain ⟨cur, h1, h2⟩ := h.out
  exact ⟨fun i hi => h.sh i (by omega), h.og, ⟨cur, h1, fun i hi => h2 i (by omega)⟩⟩
/-- a number is written into a row of numbers -/
theorem WS.set {lo hi : Nat} {cls : List (List Int)} {bk : Nat → Nat} {ads : List Value} {g k : Nat} {W : World} (h : WS lo hi cls bk ads g k W) {b : Nat} {n : Nat} (hb : RWs W b n) (j : Nat) (x : Int) : WS lo hi cls bk ads g k (W.setCell ⟨b, j, none⟩ (.int .i64 x)) := by
  obtain ⟨cur, h1, h2⟩ := h.out
  obtain ⟨cb, hb1, _⟩ := hb
  refine ⟨fun i hi hl hn => ?_, h.og, ⟨cur, (heap_setCell_other _ _ _ _ (fun e => by have e' : g = b := e; rw [e', hb1] at h1; cases h1)).trans h1, h2⟩⟩
  obtain ⟨k1, k2, k3⟩ := h.sh i hi hl hn
  exact ⟨k1, k2, k3.set b j _⟩
/-- a clause is grown and laid back -/
theorem WS.app {lo hi : Nat} {cls : List (List Int)} {bk : Nat → Nat} {ads : List Value} {g k : Nat} {W W1 W7 : World} (h : WS lo hi cls bk ads g k W) (hA : WA cls bk ads) (hk : k < cls.length) {v v' : Value} (hv : ads[k]? = some v) (hb : Below W.heap.size W W1) (hg : W1.grownBy W7 v.ownBlock) : WS lo hi cls bk ads g (k + 1) (W7.setCell ⟨g, k, none⟩ v') ∧ (W7.cell? ⟨g, k, none⟩ = some v ∧ W7.frozen? ⟨g, k, none⟩ = false) := by
  obtain ⟨cur, h1, h2⟩ := h.out
  have hv2 : ∀ j, v.ownBlock = some j → ∃ cs, W.heap[j]? = some (Obj.cells cs 3 (0, 0)) ∧ j = bk k ∧ cls.getD k [] ≠ [] := fun j hj => by
    by_cases he : cls.getD k [] = []
    · rw [hA.nil k hk he] at hv
      cases hv
      cases hj
    · rw [hA.row k hk he] at hv
      cases hv
      have e2 : bk k = j := by simpa [Value.ownBlock] using hj
      subst e2
      obtain ⟨_, _, cs, k3, _⟩ := h.sh k (Nat.le_refl _) hk he
      exact ⟨cs, k3, rfl, he⟩
  have hk7 : ∀ j, j < W.heap.size → v.ownBlock ≠ some j → W7.heap[j]? = W.heap[j]? := fun j hj hne => (hg.block j (Nat.lt_of_lt_of_le hj hb.size) (fun e => hne e.symm)).trans (hb.block j hj)
  have hg7 : W7.heap[g]? = some (.cells cur 63 (0, 0)) := (hk7 g (Array.getElem?_eq_some_iff.1 h1).1 (fun e => by obtain ⟨cs, e1, _⟩ := hv2 g e; rw [h1] at e1; cases e1)).trans h1
  refine ⟨⟨fun i hi hl hn => ?_, h.og, ⟨cur.setIfInBounds k v', heap_setCell_same _ g k _ _ _ hg7, fun i hi hl => ?_⟩⟩, (ag_cell hg7 k).trans ((h2 k (Nat.le_refl _) hk).trans hv), ag_fz hg7 k⟩
  · obtain ⟨k1, k2, cs, k3, k4⟩ := h.sh i (by omega) hl hn
    have hlt := (Array.getElem?_eq_some_iff.1 k3).1
    refine ⟨k1, k2, cs, ?_, k4⟩
    rw [heap_setCell_other _ _ _ _ (show bk i ≠ g from fun e => by rw [e, h1] at k3; cases k3)]
    exact (hk7 _ hlt (fun e => by obtain ⟨_, _, e2, e3⟩ := hv2 _ e; have := hA.inc k i (by omega) hl e3 hn; omega)).trans k3
  · rw [Array.getElem?_setIfInBounds_ne (by omega)]
    exact h2 i (by omega) hl
theorem ENC.ws {w w' : World} {cn : List Nat} {cls : List (List Int)} {aL : Option Addr} {cL : Nat} {vC : Value} (h : ENC w w' cn cls (.slice aL cls.length cL) vC) (h0 : 0 < cls.length) : ∃ g ads bk, aL = some ⟨g, 0, none⟩ ∧ WA cls bk ads ∧ WS w.heap.size w'.heap.size cls bk ads g 0 w' ∧ ∀ i, i < cls.length → ∃ v, ads[i]? = some v := by
  obtain ⟨ads, bk, hr, hc⟩ := h.cl
  rcases hr.2 with ⟨_, e0⟩ | ⟨g, cap, cur, hv, hg, hh, hn, hcap, hsz, htake⟩
  · omega
  · cases hv
    refine ⟨g, ads, bk, rfl, ⟨hc.nil, fun i hi hne => (hc.row i hi hne).1, hc.inc⟩, ⟨fun i _ hi hne => ?_, ⟨hg, (Array.getElem?_eq_some_iff.1 hh).1⟩, ⟨cur, hh, fun i _ hi => ?_⟩⟩, fun i hi => ?_⟩
    · obtain ⟨_, k2, k3⟩ := hc.row i hi hne
      exact ⟨k2, (Array.getElem?_eq_some_iff.1 k3).1, intV (cls.getD i []), k3, by unfold intV; simp⟩
    · rw [← htake, List.getElem?_take, if_pos (by omega), Array.getElem?_toList]
    · exact ⟨ads[i]'(by rw [hc.len]; exact hi), List.getElem?_eq_getElem _⟩
theorem WS.over {lo hi : Nat} {cls : List (List Int)} {bk : Nat → Nat} {ads : List Value} {g k : Nat} {W W' : World} (h : WS lo hi cls bk ads g k W) (hk : ∀ j, lo ≤ j → j < hi → W'.heap[j]? = W.heap[j]?) : WS lo hi cls bk ads g k W' := by
  obtain ⟨cur, h1, h2⟩ := h.out
  refine ⟨fun i hi hl hn => ?_, h.og, ⟨cur, (hk g h.og.1 h.og.2).trans h1, h2⟩⟩
  obtain ⟨k1, k2, cs, k3, k4⟩ := h.sh i hi hl hn
  exact ⟨k1, k2, cs, (hk _ k1 k2).trans k3, k4⟩
/-- a row that was told: its shape -/
theorem row_rws {w : World} {B n m : Nat} {ad : Option Addr} {cp : Nat} {L : List Value} (h : w.ownsRow B 3 1 (.slice ad n cp) n L) (hn : n = m) (h0 : 0 < m) : ∃ b k, ad = some ⟨b, 0, none⟩ ∧ B ≤ b ∧ b < w.heap.size ∧ RWs w b k ∧ m ≤ k := by
  subst hn
  rcases h.2 with ⟨_, e0⟩ | ⟨g, cap, cur, hv, hg, hh, hn, hcap, hsz, htake⟩
  · omega
  · cases hv
    exact ⟨g, cur.size, rfl, hg, (Array.getElem?_eq_some_iff.1 hh).1, ⟨cur, hh, rfl⟩, by omega⟩
end Go.Proofs.Ytkomadlmonhlhaa
