import Derived.Test.YtkomadlmonhlhaaTgE
import Derived.Test.YtkomadlmonhlhaaTfI
import Derived.Deep.Cut
namespace Go.Proofs.Ytkomadlmonhlhaa
open Go.ChangeShapes Go.WideShapes Go.ChangeAt Go.RowKit Go.Lib Go.Ag Go.WideMaps Go.Maps Go.ChangeMaps Go.Cn

/-- the document's clauses of the wanted signs -/
def clsW (ns : Nds) (ls : List Nat) : List (List Int) := gtW ns (coneS ns ls).2 (mks ns ls) (coneS ns ls).2.length ++ ls.flatMap (clR (coneS ns ls).2)
/-- the marks after the first k roots -/
def mkF (ns : Nds) (ls : List Nat) (k : Nat) : Nat → Bool := (ls.take k).foldl (fun s l => mk ns l s) (fun _ => false)
theorem mkF_succ (ns : Nds) (ls : List Nat) {k : Nat} (h : k < ls.length) : mkF ns ls (k + 1) = mk ns (ls.getD k 0) (mkF ns ls k) := by
  unfold mkF
  rw [List.take_add_one, List.getElem?_eq_getElem h, List.getD_eq_getElem?_getD, List.getElem?_eq_getElem h, List.foldl_append]
  rfl
theorem mkF_all (ns : Nds) (ls : List Nat) : mkF ns ls ls.length = mks ns ls := by unfold mkF mks; rw [List.take_length]
/-- what the document's Polar tells -/
structure RPN (w w' : World) (ns : Nds) (ls : List Nat) (aL : Option Addr) (cL : Nat) (aC : Option Addr) (cC : Nat) : Prop where
  ql : QL w' w.heap.size (clsW ns ls) (.slice aL (clsW ns ls).length cL)
  cone : w'.ownsRow w.heap.size 3 1 (.slice aC (coneS ns ls).2.length cC) (coneS ns ls).2.length (natV (coneS ns ls).2)
  bel : Below w.heap.size w w'
set_option maxHeartbeats 16000000 in
set_option maxRecDepth 100000 in
/-- the document's Polar -/
theorem rPolar_ok (w : World) {B R : Nat} {ns : Nds} {vL : Value} (h : RG w B R ns vL) (hgs : GS ns) (hln : ns.length ≤ 1048576) (aR : Option Addr) (ls : List Nat) (cR : Nat) (hR : U32s w aR ls) (hbd : ∀ l ∈ ls, l / 2 ≤ ns.length) (hrn : ls.length ≤ 10000000) (hc : (coneS ns ls).2.length ≤ 1048576) (hcl : (clsW ns ls).length ≤ 1048576) :
    Calls Try.prog 15 #[.pointer (some ⟨R, 0, none⟩), .slice aR ls.length cR] w fun e w' => ∃ aL cL aC cC, e = .returned (.tuple #[.agg #[.int .i64 ((coneS ns ls).2.length : Int), .slice aL (clsW ns ls).length cL], .slice aC (coneS ns ls).2.length cC, .int .i64 0]) ∧ RPN w w' ns ls aL cL aC cC := by
  have hl32 : ∀ l ∈ ls, l < 4294967296 := fun l hl => by have := hbd l hl; omega
  have h32 := gs_32 hgs hln
  have hCN := cn_cone hgs hbd
  obtain ⟨i2, hi2, hz2, hs2, hb2⟩ := info_parts (P := Try.prog) (e := 3) (z := .int .i64 0) (size := 1) (bytes := 8) (by kernel_rfl)
  obtain ⟨c, hcc⟩ : ∃ c, ns.length + 1 = c := ⟨_, rfl⟩
  have eB : ∀ W : World, (Instr.makeSlice 23 (.int .i64 (c : Int)) (.int .i64 (c : Int))).run Try.prog W = .ok (.slice (some ⟨W.heap.size, 0, none⟩) c c) (W.alloc (.cells (madeCells (Value.int .i64 0).cells (c * 1)) 3)) := fun W => by
    have := run_make (P := Try.prog) (w := W) 23 3 i2 (.int .i64 0) Try.underlying23 hi2 hz2 .i64 .i64 (c : Int) (c : Int) (by omega) (by omega) (by rw [hb2]; omega) (by omega)
    rw [hs2] at this
    simpa using this
  obtain ⟨w1, hw1⟩ : ∃ w1, w.alloc (.cells #[.int .i64 0, .slice none 0 0] 33) = w1 := ⟨_, rfl⟩
  have HB1 : Hid (Below w.heap.size w w1 ∧ w1.heap[w.heap.size]? = some (.cells #[.int .i64 0, .slice none 0 0] 33 (0, 0))) := by rw [← hw1]; exact ⟨ag_bel1 _ _, heap_alloc_new _ _⟩
  have HCo : Hid (Calls Try.prog 20 #[.pointer (some ⟨R, 0, none⟩), .slice aR ls.length cR] w1 fun e w' => ∃ ad cp, e = .returned (.tuple #[.slice ad (coneS ns ls).2.length cp, .int .i64 0]) ∧ Below w1.heap.size w1 w' ∧ w'.ownsRow w1.heap.size 3 1 (.slice ad (coneS ns ls).2.length cp) (coneS ns ls).2.length (natV (coneS ns ls).2)) := rcone_ok w1 (h.over HB1.out.1) hgs hln h32 aR ls cR (hR.below HB1.out.1) hl32 hbd (by omega)
  have HLd : Hid (∀ (X : World) (aC : Option Addr) (cC Qb : Nat), Below w.heap.size w X → Nts X aC (coneS ns ls).2 → WD X Qb c (mks ns ls) → Calls Try.prog 33 #[.pointer (some ⟨R, 0, none⟩), .slice aC (coneS ns ls).2.length cC, .slice aR ls.length cR, .slice (some ⟨Qb, 0, none⟩) c c] X fun e w' => ∃ aL cL, e = .returned (.tuple #[.agg #[.int .i64 ((coneS ns ls).2.length : Int), .slice aL (clsW ns ls).length cL], .slice aC (coneS ns ls).2.length cC, .int .i64 0]) ∧ QL w' X.heap.size (clsW ns ls) (.slice aL (clsW ns ls).length cL) ∧ Below X.heap.size X w') := fun X aC cC Qb hX hN hQ => by
    rw [← hcc] at hQ
    rw [← hcc]
    exact rlaidW_ok (mks ns ls) X (h.over hX) (gs_wf hgs) hln h32 aC (coneS ns ls).2 cC hN hCN.nd (fun n hn => (hCN.bd n hn).2) hc aR ls cR (hR.below hX) hl32 hbd hrn Qb hQ hcl
  have HG : Hid (∀ X, Below w.heap.size w X → ∃ gL capL, X.cell? ⟨R, 0, none⟩ = some (.slice (some ⟨gL, 0, none⟩) c capL)) := fun X hX => by
    obtain ⟨g, cap, e1, e2, _⟩ := h.node hX
    rw [hcc] at e1
    exact ⟨g, cap, by rw [e2, e1]⟩
  have HMa : Hid (∀ (w2 : World), Below w.heap.size w w2 → ∀ k, k < ls.length → ∀ W, WR w2 W w2.heap.size c (mkF ns ls k) → Calls Try.prog 36 #[.pointer (some ⟨R, 0, none⟩), .slice (some ⟨w2.heap.size, 0, none⟩) c c, .int .u32 ((ls.getD k 0 : Nat) : Int)] W (MKP w2 w2.heap.size c (mkF ns ls (k + 1)))) := fun w2 hX k hk W hW => by
    have hmem : ls.getD k 0 ∈ ls := by rw [List.getD_eq_getElem?_getD, List.getElem?_eq_getElem hk]; exact List.getElem_mem _
    rw [mkF_succ ns ls hk]
    exact rmark_any (h.over hX) (gs_wf hgs) hln h32 w2.heap.size c hcc (ls.getD k 0 / 2 + 1) _ (by omega) (hl32 _ hmem) (by have := hbd _ hmem; omega) W _ hW
  have HUs : Hid (∀ W, Below w.heap.size w W → ∀ k, k < ls.length → ∃ b off, aR = some ⟨b, off, none⟩ ∧ W.cell? ⟨b, off + k, none⟩ = some (.int .u32 ((ls.getD k 0 : Nat) : Int))) := fun W hW k hk => by
    obtain ⟨b, off, e, hb, hc⟩ := hR (by omega)
    exact ⟨b, off, e, (hW.cell (p := ⟨b, off + k, none⟩) hb).trans (hc k hk)⟩
  have HMq : Hid (mkF ns ls ls.length = mks ns ls) := mkF_all ns ls
  have HW1e : Hid (w.alloc (.cells #[.int .i64 0, .slice none 0 0] 33) = w1) := hw1
  have HRe : Hid (∀ (w' : World) (aL : Option Addr) (cL : Nat) (aC : Option Addr) (cC : Nat), QL w' w.heap.size (clsW ns ls) (.slice aL (clsW ns ls).length cL) → w'.ownsRow w.heap.size 3 1 (.slice aC (coneS ns ls).2.length cC) (coneS ns ls).2.length (natV (coneS ns ls).2) → Below w.heap.size w w' → RPN w w' ns ls aL cL aC cC) := fun w' aL cL aC cC h1 h2 h3 => ⟨h1, h2, h3⟩
  clear h hgs hR hbd hCN hl32 h32 hw1
  generalize hPP : (fun (e : Ending) (w' : World) => ∃ aL cL aC cC, e = .returned (.tuple #[.agg #[.int .i64 ((coneS ns ls).2.length : Int), .slice aL (clsW ns ls).length cL], .slice aC (coneS ns ls).2.length cC, .int .i64 0]) ∧ RPN w w' ns ls aL cL aC cC) = PP
  have HP : Hid (∀ (w' : World) (aL : Option Addr) (cL : Nat) (aC : Option Addr) (cC : Nat), QL w' w.heap.size (clsW ns ls) (.slice aL (clsW ns ls).length cL) → w'.ownsRow w.heap.size 3 1 (.slice aC (coneS ns ls).2.length cC) (coneS ns ls).2.length (natV (coneS ns ls).2) → Below w.heap.size w w' → PP (.returned (.tuple #[.agg #[.int .i64 ((coneS ns ls).2.length : Int), .slice aL (clsW ns ls).length cL], .slice aC (coneS ns ls).2.length cC, .int .i64 0])) w') := fun w' aL cL aC cC h1 h2 h3 => by rw [← hPP]; exact ⟨aL, cL, aC, cC, rfl, HRe.out w' aL cL aC cC h1 h2 h3⟩
  clear hPP HRe
  generalize clsW ns ls = FF at *
  generalize (coneS ns ls).2 = cn at *
  generalize hm : cn.length = m at *
  generalize hnF : FF.length = nF at *
  generalize hnl : ls.length = nl at *
  clear hm hnF hnl
  go_enter Try.func15, Try.ntmps15
  go_wp2_with fail
  rw [HW1e.out]
  clear HW1e
  refine HCo.out.mono ?_
  rintro e w2 ⟨aC, cC, rfl, hb2, hr2⟩
  have HC2 : Hid (w2.ownsRow w1.heap.size 3 1 (.slice aC m cC) m (natV cn) ∧ Below w1.heap.size w1 w2) := ⟨hr2, hb2⟩
  obtain ⟨gL, capL, x0⟩ := HG.out w2 (ag_next HB1.out.1 hb2)
  obtain ⟨w3, hw3⟩ : ∃ w3, w2.alloc (.cells (madeCells #[Value.int .i64 0] c) 3) = w3 := ⟨_, rfl⟩
  have HF0 : Hid (WR w2 w3 w2.heap.size c (mkF ns ls 0)) := by
    rw [← hw3]
    refine ⟨ag_bel1 _ _, Nat.le_refl _, ⟨_, heap_alloc_new _ _, by rw [size_madeCells], fun i hi => ?_⟩⟩
    have h9 := made_at (.int .i64 0) c hi rfl
    rw [Nat.mul_one] at h9
    exact h9
  have HMk : Hid (∀ k, k < nl → ∀ W, WR w2 W w2.heap.size c (mkF ns ls k) → Calls Try.prog 36 #[.pointer (some ⟨R, 0, none⟩), .slice (some ⟨w2.heap.size, 0, none⟩) c c, .int .u32 ((ls.getD k 0 : Nat) : Int)] W (MKP w2 w2.heap.size c (mkF ns ls (k + 1)))) := fun k hk W hW => HMa.out w2 (ag_next HB1.out.1 hb2) k hk W hW
  have HU2 : Hid (∀ W, Below w2.heap.size w2 W → ∀ k, k < nl → ∃ b off, aR = some ⟨b, off, none⟩ ∧ W.cell? ⟨b, off + k, none⟩ = some (.int .u32 ((ls.getD k 0 : Nat) : Int))) := fun W hW k hk => HUs.out W (ag_next (ag_next HB1.out.1 hb2) hW) k hk
  have HW3e : Hid (w2.alloc (.cells (madeCells #[Value.int .i64 0] c) 3) = w3) := hw3
  clear hr2 hb2 HCo hw3 HMa HUs
  go_wp2_with fail
  try rw [HW3e.out]
  clear HW3e eB x0
  go_loopg [10] nl (fun gk v10 wr => ∃ k : Nat, v10 = .int .i64 (k : Int) ∧ k + gk = nl ∧ Aside (WR w2 wr w2.heap.size c (mkF ns ls k)))
  case atStart => exact ⟨0, rfl, by omega, HF0.out⟩
  case round =>
    clear HF0
    obtain ⟨k, rfl, hk, HR⟩ := hrel
    by_cases hlt : k < nl
    · have q1 : (k : Int) < (nl : Int) := by omega
      obtain ⟨b, off, hbo, ck⟩ := HU2.out wr HR.out.bel k hlt
      subst hbo
      have HCl : Hid (Calls Try.prog 36 #[.pointer (some ⟨R, 0, none⟩), .slice (some ⟨w2.heap.size, 0, none⟩) c c, .int .u32 ((ls.getD k 0 : Nat) : Int)] wr (MKP w2 w2.heap.size c (mkF ns ls (k + 1)))) := HMk.out k hlt wr HR.out
      clear HR HMk
      obtain ⟨F1, hF1⟩ : ∃ F1, mkF ns ls (k + 1) = F1 := ⟨_, rfl⟩
      have HF1 : Hid (mkF ns ls (k + 1) = F1) := hF1
      rw [hF1] at HCl
      clear hF1
      generalize ls.getD k 0 = l at *
      go_wp2_with fail
      refine HCl.out.mono ?_
      rintro e w' ⟨rfl, hs⟩
      have HS2 : Aside (WR w2 w' w2.heap.size c (mkF ns ls (k + 1))) := by rw [HF1.out]; exact hs
      clear hs HCl
      go_wp2_with fail
      go_roundg (gk - 1)
      case measure => omega
      case rel => exact ⟨k + 1, by simp, by omega, HS2⟩
    · obtain rfl : k = nl := by omega
      have q1 : ¬ (k : Int) < (k : Int) := by omega
      have HW3 : Hid (WD wr w2.heap.size c (mkF ns ls k)) := HR.out.wd
      have HB3 : Hid (Below w2.heap.size w2 wr) := HR.out.bel
      have HC3 : Hid (wr.ownsRow w1.heap.size 3 1 (.slice aC m cC) m (natV cn)) := ag_same HC2.out.1 (fun j hj => HB3.out.block j (HC2.out.1.lt j hj).2)
      have HBw : Hid (Below w.heap.size w wr ∧ Below w1.heap.size w1 wr) := ⟨ag_next HB1.out.1 (ag_next HC2.out.2 HB3.out), ag_next HC2.out.2 HB3.out⟩
      have HLd2 : Hid (Calls Try.prog 33 #[.pointer (some ⟨R, 0, none⟩), .slice aC m cC, .slice aR k cR, .slice (some ⟨w2.heap.size, 0, none⟩) c c] wr fun e w' => ∃ aL cL, e = .returned (.tuple #[.agg #[.int .i64 (m : Int), .slice aL nF cL], .slice aC m cC, .int .i64 0]) ∧ QL w' wr.heap.size FF (.slice aL nF cL) ∧ Below wr.heap.size wr w') := HLd.out wr aC cC w2.heap.size HBw.out.1 (nts_of HC3.out) (by rw [← HMq.out]; exact HW3.out)
      clear HR HLd HG HB3 HC2 HMk HU2 HW3 HMq
      go_wp2_with fail
      refine HLd2.out.mono ?_
      rintro e w5 ⟨aL, cL, rfl, hq5, hb5⟩
      have x5 : w5.heap[w.heap.size]? = some (.cells #[.int .i64 0, .slice none 0 0] 33 (0, 0)) := ((ag_next HBw.out.2 hb5).block _ (Array.getElem?_eq_some_iff.1 HB1.out.2).1).trans HB1.out.2
      obtain ⟨w7, hw7⟩ : ∃ w7, (w5.setCell ⟨w.heap.size, 0, none⟩ (.int .i64 (m : Int))).setCell ⟨w.heap.size, 1, none⟩ (.slice aL nF cL) = w7 := ⟨_, rfl⟩
      have x7 : w7.heap[w.heap.size]? = some (.cells #[.int .i64 (m : Int), .slice aL nF cL] 33 (0, 0)) := by
        rw [← hw7, heap_setCell_same _ _ 1 _ _ _ (heap_setCell_same _ _ 0 _ _ _ x5)]
        rfl
      have k7 : ∀ j, j ≠ w.heap.size → w7.heap[j]? = w5.heap[j]? := fun j hj => by rw [← hw7, heap_setCell_other _ _ _ _ hj, heap_setCell_other _ _ _ _ hj]
      have s7 : w7.heap.size = w5.heap.size ∧ w7.os = w5.os ∧ w7.tape = w5.tape ∧ w7.output = w5.output := by rw [← hw7]; exact ⟨by simp, rfl, rfl, rfl⟩
      have HZ : Hid (PP (.returned (.tuple #[.agg #[.int .i64 (m : Int), .slice aL nF cL], .slice aC m cC, .int .i64 0])) w7) := by
        have hbB := ag_next HBw.out.1 hb5
        have hq6 := hq5.low HBw.out.1.size
        have hq6' := hq6
        obtain ⟨ads, hr, _⟩ := hq6'
        have hc6 : w5.ownsRow w1.heap.size 3 1 (.slice aC m cC) m (natV cn) := ag_same HC3.out (fun j hj => hb5.block j (HC3.out.lt j hj).2)
        refine HP.out w7 aL cL aC cC (hq6.keep (fun j _ hj => k7 j (fun e => ag_ne hr x5 (by decide) (by rw [hj, e]))) (fun j _ _ hj => k7 j (fun e => by rw [e, x5] at hj; cases hj))) (row_low (ag_same hc6 (fun j hj => k7 j (fun e => ag_ne hc6 x5 (by decide) (by rw [hj, e])))) HB1.out.1.size) ⟨s7.2.1.trans hbB.os, s7.2.2.1.trans hbB.tape, s7.2.2.2.trans hbB.output, by rw [s7.1]; exact hbB.size, fun j hj => (k7 j (by omega)).trans (hbB.block j hj)⟩
      have HW7 : Hid ((w5.setCell ⟨w.heap.size, 0, none⟩ (.int .i64 (m : Int))).setCell ⟨w.heap.size, 1, none⟩ (.slice aL nF cL) = w7) := hw7
      have HX7 : Hid (w7.heap[w.heap.size]? = some (.cells #[.int .i64 (m : Int), .slice aL nF cL] 33 (0, 0))) := x7
      have l0 := ag_cell x5 0
      have l1 := ag_cell x5 1
      have o0 := ag_fz x5 0
      have o1 := ag_fz x5 1
      clear hq5 hb5 x5 x7 k7 s7 hw7 HLd2 HP
      go_wp2_with fail
      rw [HW7.out]
      refine bodyPost_ret (v := .tuple #[.agg #[.int .i64 (m : Int), .slice aL nF cL], .slice aC m cC, .int .i64 0]) (res_c2 (p := 4) (u := 5) (v := 6) rfl _ _ w.heap.size 33 _ (0, 0) _ _ _ rfl HX7.out rfl rfl Try.underlying33 rfl (by kernel_rfl)) rfl ?_
      exact HZ.out
end Go.Proofs.Ytkomadlmonhlhaa
namespace Go.Proofs.Ytkomadlmonhlhaa
open Go.ChangeShapes Go.WideShapes Go.ChangeAt Go.RowKit Go.Lib Go.Ag Go.WideMaps Go.Maps Go.ChangeMaps Go.Cn

/-- the program's clauses of the gates, by marks that are the document's -/
theorem gtW_gts {ns : Nds} {cn : List Nat} {f : Nat → Nat} {D : Nat → Bool} (hf : ∀ (i n : Nat), cn[i]? = some n → hasM f ((i : Int) + 1) = D (2 * n) ∧ hasM f (-((i : Int) + 1)) = D (2 * n + 1)) : ∀ k, k ≤ cn.length → (gts ns cn k).flatMap (clG f) = gtW ns cn D k := by
  intro k
  induction k with
  | zero => exact fun _ => rfl
  | succ k ih =>
    intro hk
    rw [gts_succ, List.flatMap_append, ih (by omega), gtW_succ]
    congr 1
    obtain ⟨h1, h2⟩ := hf k (cn.getD k 0) (by rw [List.getD_eq_getElem?_getD, List.getElem?_eq_getElem (by omega)]; rfl)
    unfold gtAt gtWat
    rcases nodK ns (cn.getD k 0) with ⟨kd, a, b⟩
    by_cases h : kd = 2
    · subst h
      rw [if_pos rfl]
      show clG f _ ++ [] = _
      rw [List.append_nil]
      unfold clG
      show (if hasM f ((k : Int) + 1) = true then _ else _) ++ (if hasM f (-((k : Int) + 1)) = true then _ else _) = _
      rw [h1, h2]
      rfl
    · rw [if_neg h]
      split
      · rename_i e; cases e; exact absurd rfl h
      · rfl
/-- the program's wanted clauses are the document's -/
theorem clsP_eq {ns : Nds} (hgs : GS ns) {ls : List Nat} (hl : ∀ l ∈ ls, l / 2 ≤ ns.length) : clsP ns ls = clsW ns ls := by
  unfold clsP clsW clsN
  rw [gtW_gts (D := mks ns ls) (fun i n hn => want_mks hgs hl hn) _ (Nat.le_refl _)]
end Go.Proofs.Ytkomadlmonhlhaa
namespace Go.Proofs.Ytkomadlmonhlhaa
open Go.ChangeShapes Go.WideShapes Go.ChangeAt Go.RowKit Go.Lib Go.Ag Go.WideMaps Go.Maps Go.ChangeMaps Go.Cn

theorem may_r_no (w : World) {B R : Nat} {ns : Nds} {vL : Value} (h : RG w B R ns vL) (a : Nat) (ha : ns.length < a / 2) (h32 : a < 4294967296) :
    Calls Try.prog 52 #[.pointer (some ⟨R, 0, none⟩), .int .u32 (a : Int)] w fun e w' => e = .returned (.bool false) ∧ w' = w := by
  obtain ⟨aL, cL, rfl, hcL, haL⟩ := row_form h.row
  have c0 := ag_cell h.blk 0
  have q1 : ¬ ((a / 2 : Nat) : Int) < (ns.length : Int) + 1 := by omega
  have q2 : (a : Int) / 2 = ((a / 2 : Nat) : Int) := by omega
  clear h
  generalize ns.length = n at *
  generalize a / 2 = q at *
  go_enter Try.func52, Try.ntmps52
  go_wp2_with fail
  first | exact ⟨rfl, rfl⟩ | (go_ret; exact ⟨rfl, rfl⟩)
/-- a literal that is none is seen -/
theorem rbad_no (w : World) {B R : Nat} {ns : Nds} {vL : Value} (h : RG w B R ns vL) (hlen : ns.length ≤ 1073741823) (aR : Option Addr) (ls : List Nat) (cR : Nat) (hR : U32s w aR ls) (hl32 : ∀ l ∈ ls, l < 4294967296) (hbd : ¬ ∀ l ∈ ls, l / 2 ≤ ns.length) (hn : ls.length ≤ 1000000000000) :
    Calls Try.prog 41 #[.pointer (some ⟨R, 0, none⟩), .slice aR ls.length cR] w fun e w' => e = .returned (.bool true) ∧ w' = w := by
  have HM : Hid (∀ l ∈ ls, l / 2 ≤ ns.length → Calls Try.prog 52 #[.pointer (some ⟨R, 0, none⟩), .int .u32 (l : Int)] w fun e w' => e = .returned (.bool true) ∧ w' = w) := fun l hl h1 => may_r w h l h1 hlen
  have HX : Hid (∀ l ∈ ls, ¬ l / 2 ≤ ns.length → Calls Try.prog 52 #[.pointer (some ⟨R, 0, none⟩), .int .u32 (l : Int)] w fun e w' => e = .returned (.bool false) ∧ w' = w) := fun l hl h1 => may_r_no w h l (by omega) (hl32 l hl)
  have HU : Hid (U32s w aR ls) := hR
  have HNo : Hid (∀ k, (∀ j, j < k → ls.getD j 0 / 2 ≤ ns.length) → k < ls.length) := fun k hk => by
    rcases Nat.lt_or_ge k ls.length with h1 | h1
    · exact h1
    · exact absurd (fun l hl => by
        obtain ⟨i, hi, e⟩ := List.getElem_of_mem hl
        have h2 := hk i (by omega)
        rw [List.getD_eq_getElem?_getD, List.getElem?_eq_getElem hi] at h2
        rw [← e]
        exact h2) hbd
  clear h hR hbd hl32
  obtain ⟨n, hnn⟩ : ∃ n, ls.length = n := ⟨_, rfl⟩
  have HL : Hid (ls.length = n) := hnn
  rw [hnn] at hn HNo
  rw [hnn]
  clear hnn
  go_enter Try.func41, Try.ntmps41
  go_wp2_with fail
  go_loopg [5] n (fun gk s5 wr => ∃ k : Nat, s5 = .int .i64 k ∧ k + gk = n ∧ wr = w ∧ Aside (∀ j, j < k → ls.getD j 0 / 2 ≤ ns.length))
  case atStart => exact ⟨0, rfl, by omega, rfl, fun j hj => absurd hj (by omega)⟩
  case round =>
    obtain ⟨k, rfl, hk, rfl, HA⟩ := hrel
    have hlt : k < n := HNo.out k HA.out
    obtain ⟨b, off, rfl, hb, hc⟩ := HU.out (by rw [HL.out]; omega)
    have ck := hc k (by rw [HL.out]; exact hlt)
    have hmem : ls.getD k 0 ∈ ls := by rw [List.getD_eq_getElem?_getD, List.getElem?_eq_getElem (by rw [HL.out]; exact hlt)]; exact List.getElem_mem _
    have q1 : (k : Int) < (n : Int) := by omega
    clear hc
    by_cases hg : ls.getD k 0 / 2 ≤ ns.length
    · have HM2 := HM.out _ hmem hg
      have HA2 : Aside (∀ j, j < k + 1 → ls.getD j 0 / 2 ≤ ns.length) := fun j hj => by
        rcases Nat.lt_or_ge j k with h1 | h1
        · exact HA.out j h1
        · obtain rfl : j = k := by omega
          exact hg
      have HM3 : Hid (Calls Try.prog 52 #[.pointer (some ⟨R, 0, none⟩), .int .u32 ((ls.getD k 0 : Nat) : Int)] wr fun e w' => e = .returned (.bool true) ∧ w' = wr) := HM2
      clear HM2 hmem hg HA
      obtain ⟨l, hle⟩ : ∃ l, ls.getD k 0 = l := ⟨_, rfl⟩
      rw [hle] at ck HM3
      clear hle
      go_wp2_with fail
      refine HM3.out.mono ?_
      rintro e w' ⟨rfl, hw⟩
      obtain rfl := hw.symm
      go_wp2_with fail
      go_roundg (gk - 1)
      case measure => omega
      case rel => exact ⟨k + 1, by simp, by omega, rfl, HA2⟩
    · have HM2 := HX.out _ hmem hg
      have HM3 : Hid (Calls Try.prog 52 #[.pointer (some ⟨R, 0, none⟩), .int .u32 ((ls.getD k 0 : Nat) : Int)] wr fun e w' => e = .returned (.bool false) ∧ w' = wr) := HM2
      clear HM2 hmem hg HA
      generalize ls.getD k 0 = l at *
      go_wp2_with fail
      refine HM3.out.mono ?_
      rintro e w' ⟨rfl, hw⟩
      obtain rfl := hw.symm
      go_wp2_with fail
      first | exact ⟨rfl, rfl⟩ | (go_ret; exact ⟨rfl, rfl⟩)
/-- the document's cone of roots that are none -/
theorem rcone_no (w : World) {B R : Nat} {ns : Nds} {vL : Value} (h : RG w B R ns vL) (hln : ns.length ≤ 1048576) (aR : Option Addr) (ls : List Nat) (cR : Nat) (hR : U32s w aR ls) (hl32 : ∀ l ∈ ls, l < 4294967296) (hbd : ¬ ∀ l ∈ ls, l / 2 ≤ ns.length) (hrn : ls.length ≤ 1000000000000) :
    Calls Try.prog 20 #[.pointer (some ⟨R, 0, none⟩), .slice aR ls.length cR] w fun e w' => e = .returned (.tuple #[.slice none 0 0, .int .i64 100]) ∧ w' = w := by
  have HBad : Hid (Calls Try.prog 41 #[.pointer (some ⟨R, 0, none⟩), .slice aR ls.length cR] w fun e w' => e = .returned (.bool true) ∧ w' = w) := rbad_no w h (by omega) aR ls cR hR hl32 hbd hrn
  clear h hR hl32 hbd
  generalize ls.length = n at *
  go_enter Try.func20, Try.ntmps20
  go_wp2_with fail
  refine HBad.out.mono ?_
  rintro e w' ⟨rfl, hw'⟩
  obtain rfl := hw'.symm
  go_wp2_with fail
  go_ret2
  exact ⟨rfl, rfl⟩
end Go.Proofs.Ytkomadlmonhlhaa
namespace Go.Proofs.Ytkomadlmonhlhaa
open Go.ChangeShapes Go.WideShapes Go.ChangeAt Go.RowKit Go.Lib Go.Ag Go.WideMaps Go.Maps Go.ChangeMaps Go.Cn

set_option maxHeartbeats 4000000 in
/-- the document's Encode of roots that are none -/
theorem rEncode_no (w : World) {B R : Nat} {ns : Nds} {vL : Value} (h : RG w B R ns vL) (hln : ns.length ≤ 1048576) (aR : Option Addr) (ls : List Nat) (cR : Nat) (hR : U32s w aR ls) (hl32 : ∀ l ∈ ls, l < 4294967296) (hbd : ¬ ∀ l ∈ ls, l / 2 ≤ ns.length) (hrn : ls.length ≤ 1000000000000) :
    Calls Try.prog 10 #[.pointer (some ⟨R, 0, none⟩), .slice aR ls.length cR] w fun e w' => e = .returned (.tuple #[.agg #[.int .i64 0, .slice none 0 0], .slice none 0 0, .int .i64 100]) ∧ Below w.heap.size w w' := by
  obtain ⟨w1, hw1⟩ : ∃ w1, w.alloc (.cells #[.int .i64 0, .slice none 0 0] 33) = w1 := ⟨_, rfl⟩
  have x5 : w1.heap[w.heap.size]? = some (.cells #[.int .i64 0, .slice none 0 0] 33 (0, 0)) := by rw [← hw1]; exact heap_alloc_new _ _
  have hB1 : Below w.heap.size w w1 := by rw [← hw1]; exact ag_bel1 _ _
  have HCo : Hid (Calls Try.prog 20 #[.pointer (some ⟨R, 0, none⟩), .slice aR ls.length cR] w1 fun e w' => e = .returned (.tuple #[.slice none 0 0, .int .i64 100]) ∧ w' = w1) := rcone_no w1 (h.over hB1) hln aR ls cR (hR.below hB1) hl32 hbd hrn
  obtain ⟨w7, hw7⟩ : ∃ w7, (w1.setCell ⟨w.heap.size, 0, none⟩ (.int .i64 0)).setCell ⟨w.heap.size, 1, none⟩ (.slice none 0 0) = w7 := ⟨_, rfl⟩
  have x7 : w7.heap[w.heap.size]? = some (.cells #[.int .i64 0, .slice none 0 0] 33 (0, 0)) := by
    rw [← hw7, heap_setCell_same _ _ 1 _ _ _ (heap_setCell_same _ _ 0 _ _ _ x5)]
    rfl
  have k7 : ∀ j, j ≠ w.heap.size → w7.heap[j]? = w1.heap[j]? := fun j hj => by rw [← hw7, heap_setCell_other _ _ _ _ hj, heap_setCell_other _ _ _ _ hj]
  have s7 : w7.heap.size = w1.heap.size ∧ w7.os = w1.os ∧ w7.tape = w1.tape ∧ w7.output = w1.output := by rw [← hw7]; exact ⟨by simp, rfl, rfl, rfl⟩
  have HZ : Hid (Below w.heap.size w w7) := ⟨s7.2.1.trans hB1.os, s7.2.2.1.trans hB1.tape, s7.2.2.2.trans hB1.output, by rw [s7.1]; exact hB1.size, fun j hj => (k7 j (by omega)).trans (hB1.block j hj)⟩
  have HW7 : Hid ((w1.setCell ⟨w.heap.size, 0, none⟩ (.int .i64 0)).setCell ⟨w.heap.size, 1, none⟩ (.slice none 0 0) = w7) := hw7
  have HX7 : Hid (w7.heap[w.heap.size]? = some (.cells #[.int .i64 0, .slice none 0 0] 33 (0, 0))) := x7
  have HW1e : Hid (w.alloc (.cells #[.int .i64 0, .slice none 0 0] 33) = w1) := hw1
  have l0 := ag_cell x5 0
  have l1 := ag_cell x5 1
  have o0 := ag_fz x5 0
  have o1 := ag_fz x5 1
  clear h hR hl32 hbd x5 x7 k7 s7 hw7 hw1 hB1
  generalize ls.length = n at *
  go_enter Try.func10, Try.ntmps10
  go_wp2_with fail
  rw [HW1e.out]
  clear HW1e
  refine HCo.out.mono ?_
  rintro e w' ⟨rfl, hw'⟩
  obtain rfl := hw'.symm
  clear HCo
  go_wp2_with fail
  rw [HW7.out]
  refine bodyPost_ret (v := .tuple #[.agg #[.int .i64 0, .slice none 0 0], .slice none 0 0, .int .i64 100]) (res_c2 (p := 4) (u := 5) (v := 6) rfl _ _ w.heap.size 33 _ (0, 0) _ _ _ rfl HX7.out rfl rfl Try.underlying33 rfl (by kernel_rfl)) rfl ?_
  exact ⟨rfl, HZ.out⟩
set_option maxHeartbeats 4000000 in
/-- the document's Polar of roots that are none -/
theorem rPolar_no (w : World) {B R : Nat} {ns : Nds} {vL : Value} (h : RG w B R ns vL) (hln : ns.length ≤ 1048576) (aR : Option Addr) (ls : List Nat) (cR : Nat) (hR : U32s w aR ls) (hl32 : ∀ l ∈ ls, l < 4294967296) (hbd : ¬ ∀ l ∈ ls, l / 2 ≤ ns.length) (hrn : ls.length ≤ 1000000000000) :
    Calls Try.prog 15 #[.pointer (some ⟨R, 0, none⟩), .slice aR ls.length cR] w fun e w' => e = .returned (.tuple #[.agg #[.int .i64 0, .slice none 0 0], .slice none 0 0, .int .i64 100]) ∧ Below w.heap.size w w' := by
  obtain ⟨w1, hw1⟩ : ∃ w1, w.alloc (.cells #[.int .i64 0, .slice none 0 0] 33) = w1 := ⟨_, rfl⟩
  have x5 : w1.heap[w.heap.size]? = some (.cells #[.int .i64 0, .slice none 0 0] 33 (0, 0)) := by rw [← hw1]; exact heap_alloc_new _ _
  have hB1 : Below w.heap.size w w1 := by rw [← hw1]; exact ag_bel1 _ _
  have HCo : Hid (Calls Try.prog 20 #[.pointer (some ⟨R, 0, none⟩), .slice aR ls.length cR] w1 fun e w' => e = .returned (.tuple #[.slice none 0 0, .int .i64 100]) ∧ w' = w1) := rcone_no w1 (h.over hB1) hln aR ls cR (hR.below hB1) hl32 hbd hrn
  obtain ⟨w7, hw7⟩ : ∃ w7, (w1.setCell ⟨w.heap.size, 0, none⟩ (.int .i64 0)).setCell ⟨w.heap.size, 1, none⟩ (.slice none 0 0) = w7 := ⟨_, rfl⟩
  have x7 : w7.heap[w.heap.size]? = some (.cells #[.int .i64 0, .slice none 0 0] 33 (0, 0)) := by
    rw [← hw7, heap_setCell_same _ _ 1 _ _ _ (heap_setCell_same _ _ 0 _ _ _ x5)]
    rfl
  have k7 : ∀ j, j ≠ w.heap.size → w7.heap[j]? = w1.heap[j]? := fun j hj => by rw [← hw7, heap_setCell_other _ _ _ _ hj, heap_setCell_other _ _ _ _ hj]
  have s7 : w7.heap.size = w1.heap.size ∧ w7.os = w1.os ∧ w7.tape = w1.tape ∧ w7.output = w1.output := by rw [← hw7]; exact ⟨by simp, rfl, rfl, rfl⟩
  have HZ : Hid (Below w.heap.size w w7) := ⟨s7.2.1.trans hB1.os, s7.2.2.1.trans hB1.tape, s7.2.2.2.trans hB1.output, by rw [s7.1]; exact hB1.size, fun j hj => (k7 j (by omega)).trans (hB1.block j hj)⟩
  have HW7 : Hid ((w1.setCell ⟨w.heap.size, 0, none⟩ (.int .i64 0)).setCell ⟨w.heap.size, 1, none⟩ (.slice none 0 0) = w7) := hw7
  have HX7 : Hid (w7.heap[w.heap.size]? = some (.cells #[.int .i64 0, .slice none 0 0] 33 (0, 0))) := x7
  have HW1e : Hid (w.alloc (.cells #[.int .i64 0, .slice none 0 0] 33) = w1) := hw1
  have l0 := ag_cell x5 0
  have l1 := ag_cell x5 1
  have o0 := ag_fz x5 0
  have o1 := ag_fz x5 1
  clear h hR hl32 hbd x5 x7 k7 s7 hw7 hw1 hB1
  generalize ls.length = n at *
  go_enter Try.func15, Try.ntmps15
  go_wp2_with fail
  rw [HW1e.out]
  clear HW1e
  refine HCo.out.mono ?_
  rintro e w' ⟨rfl, hw'⟩
  obtain rfl := hw'.symm
  clear HCo
  go_wp2_with fail
  rw [HW7.out]
  refine bodyPost_ret (v := .tuple #[.agg #[.int .i64 0, .slice none 0 0], .slice none 0 0, .int .i64 100]) (res_c2 (p := 4) (u := 5) (v := 6) rfl _ _ w.heap.size 33 _ (0, 0) _ _ _ rfl HX7.out rfl rfl Try.underlying33 rfl (by kernel_rfl)) rfl ?_
  exact ⟨rfl, HZ.out⟩
end Go.Proofs.Ytkomadlmonhlhaa
