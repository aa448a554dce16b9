import Derived.Test.YtkomadlmonhlhaaTsG
namespace Go.Proofs.Ytkomadlmonhlhaa
open Go.ChangeShapes Go.WideShapes Go.ChangeAt Go.RowKit Go.Lib Go.Ag Go.WideMaps Go.Maps Go.ChangeMaps Go.Cn

theorem cls_step (f : Nat → Nat) (gs : List GT) (k : Nat) (hk : k < gs.length) : (gs.take (k + 1)).flatMap (clG f) = (gs.take k).flatMap (clG f) ++ clG f (gs.getD k (0, 0, 0)) := by
  rw [List.take_succ_eq_append_getElem hk, List.flatMap_append, List.getD_eq_getElem?_getD, List.getElem?_eq_getElem hk]
  simp
theorem rts_step (cn ls : List Nat) (k : Nat) (hk : k < ls.length) : (ls.take (k + 1)).flatMap (clR cn) = (ls.take k).flatMap (clR cn) ++ clR cn (ls.getD k 0) := by
  rw [List.take_succ_eq_append_getElem hk, List.flatMap_append, List.getD_eq_getElem?_getD, List.getElem?_eq_getElem hk]
  simp
/-- the clauses on their way, beside the circuit's box -/
structure CQ (w wr : World) (Cb Lb : Nat) (V : Array Value) (cls : List (List Int)) (vL : Value) : Prop where
  cl : CL w wr w.heap.size Lb cls vL
  cb : wr.heap[Cb]? = some (.cells V 83 (0, 0))
  ne : Cb ≠ Lb
theorem CQ.over {w wr w' : World} {Cb Lb : Nat} {V : Array Value} {cls : List (List Int)} {vL : Value} (h : CQ w wr Cb Lb V cls vL) (hb : Below wr.heap.size wr w') : CQ w w' Cb Lb V cls vL :=
  ⟨h.cl.over hb, (hb.block _ (Array.getElem?_eq_some_iff.1 h.cb).1).trans h.cb, h.ne⟩
/-- a clause is laid: what stands -/
theorem CQ.laid {w wr w' : World} {Cb Lb : Nat} {V : Array Value} {cls : List (List Int)} {vL : Value} (h : CQ w wr Cb Lb V cls vL) {c : List Int} {e : Ending} (hp : LAYP w wr w.heap.size Lb cls c e w') : (∃ v, e = .returned v) ∧ ∃ vL', CQ w w' Cb Lb V (cls ++ [c]) vL' ∧ STD Lb wr w' := by
  obtain ⟨h1, vL', h2, h3⟩ := hp
  exact ⟨h1, vL', ⟨h2, (h3 _ _ _ _ h.cb (by decide) h.ne).trans h.cb, h.ne⟩, h3⟩
set_option maxHeartbeats 16000000 in
set_option maxRecDepth 100000 in
theorem clauses_any (w : World) {aR : Option Addr} {ls : List Nat} {M : Nat} {cn : List Nat} {aG : Option Addr} {gs : List GT} (h : CM w aR ls M cn aG gs) (cR cG : Nat) {Mb : Nat} {f : Nat → Nat} (hm : MR w Mb (wdsN cn.length) f) (nn : Nat) (hnn : nn ≤ 1048576) (hcn9 : (clsN f cn ls gs).length ≤ 1048576) :
    Calls Try.prog 56 #[.agg #[.slice aR ls.length cR, .map (some M), .slice aG gs.length cG], .slice (some ⟨Mb, 0, none⟩) (wdsN cn.length) (wdsN cn.length), .int .i64 (nn : Int)] w fun e w' => ∃ vL ads bk, e = .returned vL ∧ w'.ownsRow w.heap.size 63 1 vL (clsN f cn ls gs).length ads ∧ CLA w' w.heap.size (clsN f cn ls gs) ads bk ∧ Below w.heap.size w w' ∧ w.heap.size ≤ w'.heap.size := by
  obtain ⟨i1, hi1, hz1, hs1, hb1⟩ := info_parts (P := Try.prog) (e := 63) (z := .slice none 0 0) (size := 1) (bytes := 24) (by kernel_rfl)
  have eM : ∀ W : World, (Instr.makeSlice 31 (.int .i64 0) (.int .i64 (nn : Int))).run Try.prog W = .ok (.slice (some ⟨W.heap.size, 0, none⟩) 0 nn) (W.alloc (.cells (madeCells (Value.slice none 0 0).cells (nn * 1)) 63)) := fun W => by
    have := run_make (P := Try.prog) (w := W) 31 63 i1 (.slice none 0 0) Try.underlying31 hi1 hz1 .i64 .i64 (0 : Int) (nn : Int) (by omega) (by omega) (by rw [hb1]; omega) (by omega)
    rw [this, hs1, show ((nn : Int)).toNat = nn by omega]
    rfl
  have HA0 : Hid ((madeCells (Value.slice none 0 0).cells (nn * 1)).size = nn * 1) := size_madeCells _ _
  generalize madeCells (Value.slice none 0 0).cells (nn * 1) = A0 at *
  obtain ⟨V, hV⟩ : ∃ V, V = #[Value.slice aR ls.length cR, .map (some M), .slice aG gs.length cG] := ⟨_, rfl⟩
  obtain ⟨w3, hw3⟩ : ∃ w3, ((w.alloc (.cells #[.slice aR ls.length cR, .map (some M), .slice aG gs.length cG] 83)).alloc (.cells A0 63)).alloc (.cells #[.slice (some ⟨w.heap.size + 1, 0, none⟩) 0 nn] 31) = w3 := ⟨_, rfl⟩
  have HQ0 : Hid (CQ w w3 w.heap.size (w.heap.size + 1 + 1) V [] (.slice (some ⟨w.heap.size + 1, 0, none⟩) 0 nn)) := by
    have s1 : (w.alloc (.cells #[.slice aR ls.length cR, .map (some M), .slice aG gs.length cG] 83)).heap.size = w.heap.size + 1 := by simp
    have s2 : ((w.alloc (.cells #[.slice aR ls.length cR, .map (some M), .slice aG gs.length cG] 83)).alloc (.cells A0 63)).heap.size = w.heap.size + 1 + 1 := by simp
    have b1 := ag_bel1 w (.cells #[.slice aR ls.length cR, .map (some M), .slice aG gs.length cG] 83)
    have b2 := ag_bel1 (w.alloc (.cells #[.slice aR ls.length cR, .map (some M), .slice aG gs.length cG] 83)) (.cells A0 63)
    have b3 := ag_bel1 ((w.alloc (.cells #[.slice aR ls.length cR, .map (some M), .slice aG gs.length cG] 83)).alloc (.cells A0 63)) (.cells #[.slice (some ⟨w.heap.size + 1, 0, none⟩) 0 nn] 31)
    have n1 := heap_alloc_new w (.cells #[.slice aR ls.length cR, .map (some M), .slice aG gs.length cG] 83)
    have n2 := heap_alloc_new (w.alloc (.cells #[.slice aR ls.length cR, .map (some M), .slice aG gs.length cG] 83)) (.cells A0 63)
    have n3 := heap_alloc_new ((w.alloc (.cells #[.slice aR ls.length cR, .map (some M), .slice aG gs.length cG] 83)).alloc (.cells A0 63)) (.cells #[.slice (some ⟨w.heap.size + 1, 0, none⟩) 0 nn] 31)
    rw [s1] at n2
    rw [s2] at n3
    rw [hw3] at n3 b3
    have n2' : w3.heap[w.heap.size + 1]? = some (.cells A0 63 (0, 0)) := (b3.block _ (by omega)).trans n2
    have n1' : w3.heap[w.heap.size]? = some (.cells #[.slice aR ls.length cR, .map (some M), .slice aG gs.length cG] 83 (0, 0)) := (b3.block _ (by omega)).trans ((b2.block _ (by omega)).trans n1)
    have bb : Below w.heap.size w w3 := ag_next (ag_next b1 b2) b3
    refine ⟨⟨n3, ⟨[], fun _ => 0, ⟨rfl, Or.inr ⟨w.heap.size + 1, nn, A0, rfl, by omega, n2', Nat.zero_le _, by unfold maxLen; omega, HA0.out, rfl⟩⟩, CLA.start _ _⟩, bb, bb.size, by omega⟩, by rw [hV]; exact n1', by omega⟩
  have HC : Aside (CM w aR ls M cn aG gs) := h
  have hg1 := clG_few f gs
  have hr1 := clR_few cn ls
  have hgn := h.gn
  have hcn := h.c32
  have hrn := h.rn
  have HHas : Hid (∀ W (l : Int), Below w.heap.size w W → l ≠ 0 → -(cn.length : Int) ≤ l → l ≤ cn.length → Calls Try.prog 64 #[.slice (some ⟨Mb, 0, none⟩) (wdsN cn.length) (wdsN cn.length), .int .i64 l] W fun e w' => e = .returned (.bool (hasM f l)) ∧ Below W.heap.size W w') := fun W l hW h0 h1 h2 =>
    (has_any W (hm.keep (hW.block _ hm.inb)) _ cn.length (wdsN_ok _) (by omega) l h0 h1 h2).mono (by
      rintro e w' ⟨rfl, d, rfl⟩
      exact ⟨rfl, drw_bel _ _⟩)
  have HLit : Hid (∀ W (l : Nat), Below w.heap.size w W → l < 4294967296 → Calls Try.prog 61 #[.agg #[.slice aR ls.length cR, .map (some M), .slice aG gs.length cG], .int .u32 (l : Int)] W fun e w' => e = .returned (.int .i64 (litI cn l)) ∧ Below W.heap.size W w') := fun W l hW hl => literal_any W (h.m.keep (hW.block _ h.m.lt)) (by omega) _ _ l hl
  obtain ⟨n1, hn1⟩ : ∃ n1, gs.length = n1 := ⟨_, rfl⟩
  obtain ⟨n2, hn2⟩ : ∃ n2, ls.length = n2 := ⟨_, rfl⟩
  have HN1 : Hid (gs.length = n1) := hn1
  have HN2 : Hid (ls.length = n2) := hn2
  have HCN : Hid (clsN f cn ls gs = gs.flatMap (clG f) ++ ls.flatMap (clR cn) ∧ (clsN f cn ls gs).length ≤ 1048576) := ⟨rfl, hcn9⟩
  have HV : Hid (V = #[Value.slice aR n2 cR, .map (some M), .slice aG n1 cG]) := by rw [hV, hn1, hn2]; exact hid rfl
  generalize hPP : (fun (e : Ending) (w' : World) => ∃ vL ads bk, e = .returned vL ∧ w'.ownsRow w.heap.size 63 1 vL (clsN f cn ls gs).length ads ∧ CLA w' w.heap.size (clsN f cn ls gs) ads bk ∧ Below w.heap.size w w' ∧ w.heap.size ≤ w'.heap.size) = PP
  have HP : Hid (∀ w' vL, CQ w w' w.heap.size (w.heap.size + 1 + 1) V (clsN f cn ls gs) vL → PP (.returned vL) w') := fun w' vL hq => by
    rw [← hPP]
    obtain ⟨ads, bk, h1, h2⟩ := hq.cl.row
    exact ⟨vL, ads, bk, rfl, h1, h2, hq.cl.bel, hq.cl.hB⟩
  rw [hn1] at hg1 hgn hw3 HLit
  rw [hn2] at hr1 hrn hw3 HLit
  rw [hn1, hn2]
  clear h hm hn1 hn2 hPP hcn9 hV HA0 hi1 hz1 hs1 hb1
  generalize wdsN cn.length = q at *
  go_enter Try.func56, Try.ntmps56
  have c0 : w3.cell? ⟨w.heap.size, 0, none⟩ = some (.slice aR n2 cR) := by rw [ag_cell HQ0.out.cb, HV.out]; rfl
  have c2 : w3.cell? ⟨w.heap.size, 2, none⟩ = some (.slice aG n1 cG) := by rw [ag_cell HQ0.out.cb, HV.out]; rfl
  go_wp2_with fail
  try rw [hw3]
  clear c2 eM
  go_loopg [19] n1 (fun gk v19 wr => ∃ k vL, v19 = .int .i64 ((k : Nat) : Int) ∧ k + gk = n1 ∧ Aside (CQ w wr w.heap.size (w.heap.size + 1 + 1) V ((gs.take k).flatMap (clG f)) vL))
  case atStart => exact ⟨0, _, rfl, by omega, by rw [List.take_zero]; exact HQ0.out⟩
  case round =>
    clear HQ0
    obtain ⟨k, vL, rfl, hk, HQ⟩ := hrel
    by_cases hlt : k < n1
    · have q1 : (k : Int) < (n1 : Int) := by omega
      obtain ⟨b, off, rfl, g0, g1, g2, hok⟩ := (HC.out.over HQ.out.cl.bel).gcell (k := k) (by rw [HN1.out]; exact hlt)
      have HS2 : Hid ((gs.take (k + 1)).flatMap (clG f) = (gs.take k).flatMap (clG f) ++ clG f (gs.getD k (0, 0, 0))) := cls_step f gs k (by rw [HN1.out]; exact hlt)
      have hsf : ((gs.take k).flatMap (clG f)).length ≤ 3 * k := Nat.le_trans (clG_few f _) (by rw [List.length_take]; omega)
      generalize gs.getD k (0, 0, 0) = g at *
      obtain ⟨gn, ga, gb⟩ := g
      obtain ⟨⟨o1, o2⟩, ⟨o3, o4, o5⟩, ⟨o6, o7, o8⟩⟩ := hok
      simp only [] at g0 g1 g2 o1 o2 o3 o4 o5 o6 o7 o8
      have HS3 : Hid (∀ h1 h2 : Bool, hasM f gn = h1 → hasM f (-gn) = h2 → (gs.take (k + 1)).flatMap (clG f) = (gs.take k).flatMap (clG f) ++ ((if h1 = true then [[-gn, ga], [-gn, gb]] else []) ++ (if h2 = true then [[gn, -ga, -gb]] else []))) := fun h1 h2 e1 e2 => by rw [HS2.out, ← e1, ← e2]; rfl
      clear HS2
      generalize (gs.take k).flatMap (clG f) = cls at *
      have HW2 : Hid (CQ w (wr.alloc (.cells #[.int .i64 gn, .int .i64 ga, .int .i64 gb] 130)) w.heap.size (w.heap.size + 1 + 1) V cls vL ∧ (wr.alloc (.cells #[.int .i64 gn, .int .i64 ga, .int .i64 gb] 130)).heap[wr.heap.size]? = some (.cells #[.int .i64 gn, .int .i64 ga, .int .i64 gb] 130 (0, 0)) ∧ wr.heap.size ≠ w.heap.size + 1 + 1) := ⟨HQ.out.over (ag_bel1 _ _), heap_alloc_new _ _, fun e => by have := (Array.getElem?_eq_some_iff.1 HQ.out.cl.box).1; omega⟩
      clear HQ
      go_wp2_with fail
      generalize wr.alloc (.cells #[.int .i64 gn, .int .i64 ga, .int .i64 gb] 130) = wb at *
      generalize wr.heap.size = Gb at *
      have f0 : wb.cell? ⟨Gb, 0, none⟩ = some (.int .i64 gn) := ag_cell HW2.out.2.1 0
      refine (HHas.out wb gn HW2.out.1.cl.bel (by omega) (by omega) (by omega)).mono ?_
      rintro e wc ⟨rfl, hbc⟩
      have HW3 : Hid (CQ w wc w.heap.size (w.heap.size + 1 + 1) V cls vL ∧ wc.heap[Gb]? = some (.cells #[.int .i64 gn, .int .i64 ga, .int .i64 gb] 130 (0, 0)) ∧ Gb ≠ w.heap.size + 1 + 1) := ⟨HW2.out.1.over hbc, (hbc.block _ (Array.getElem?_eq_some_iff.1 HW2.out.2.1).1).trans HW2.out.2.1, HW2.out.2.2⟩
      have f1 : wc.cell? ⟨Gb, 0, none⟩ = some (.int .i64 gn) := ag_cell HW3.out.2.1 0
      have f2 : wc.cell? ⟨Gb, 1, none⟩ = some (.int .i64 ga) := ag_cell HW3.out.2.1 1
      have f3 : wc.cell? ⟨Gb, 2, none⟩ = some (.int .i64 gb) := ag_cell HW3.out.2.1 2
      clear hbc HW2 f0 g0 g1 g2
      cases hh1 : hasM f gn with
      | true =>
        go_wp2_with fail
        refine (lay_some HW3.out.1.cl [-gn, ga] (by simp) 2 rfl (by first | omega | (simp; omega))).mono ?_
        rintro e w4 hl
        obtain ⟨⟨_, rfl⟩, v4, hq, hs⟩ := HW3.out.1.laid hl
        have HW4 : Hid (CQ w w4 w.heap.size (w.heap.size + 1 + 1) V (cls ++ [[-gn, ga]]) v4 ∧ w4.heap[Gb]? = some (.cells #[.int .i64 gn, .int .i64 ga, .int .i64 gb] 130 (0, 0)) ∧ Gb ≠ w.heap.size + 1 + 1) := ⟨hq, (hs _ _ _ _ HW3.out.2.1 (by decide) HW3.out.2.2).trans HW3.out.2.1, HW3.out.2.2⟩
        clear hl hq hs HW3 f1 f2 f3
        have f1 : w4.cell? ⟨Gb, 0, none⟩ = some (.int .i64 gn) := ag_cell HW4.out.2.1 0
        have f2 : w4.cell? ⟨Gb, 1, none⟩ = some (.int .i64 ga) := ag_cell HW4.out.2.1 1
        have f3 : w4.cell? ⟨Gb, 2, none⟩ = some (.int .i64 gb) := ag_cell HW4.out.2.1 2
        go_wp2_with fail
        refine (lay_some HW4.out.1.cl [-gn, gb] (by simp) 2 rfl (by first | omega | (simp; omega))).mono ?_
        rintro e w5 hl
        obtain ⟨⟨_, rfl⟩, v5, hq, hs⟩ := HW4.out.1.laid hl
        have HW5 : Hid (CQ w w5 w.heap.size (w.heap.size + 1 + 1) V (cls ++ [[-gn, ga]] ++ [[-gn, gb]]) v5 ∧ w5.heap[Gb]? = some (.cells #[.int .i64 gn, .int .i64 ga, .int .i64 gb] 130 (0, 0)) ∧ Gb ≠ w.heap.size + 1 + 1) := ⟨hq, (hs _ _ _ _ HW4.out.2.1 (by decide) HW4.out.2.2).trans HW4.out.2.1, HW4.out.2.2⟩
        clear hl hq hs HW4 f1 f2 f3
        have f1 : w5.cell? ⟨Gb, 0, none⟩ = some (.int .i64 gn) := ag_cell HW5.out.2.1 0
        have f2 : w5.cell? ⟨Gb, 1, none⟩ = some (.int .i64 ga) := ag_cell HW5.out.2.1 1
        have f3 : w5.cell? ⟨Gb, 2, none⟩ = some (.int .i64 gb) := ag_cell HW5.out.2.1 2
        go_wp2_with fail
        refine (HHas.out w5 (-gn) HW5.out.1.cl.bel (by omega) (by omega) (by omega)).mono ?_
        rintro e w6 ⟨rfl, hbd⟩
        have HW6 : Hid (CQ w w6 w.heap.size (w.heap.size + 1 + 1) V (cls ++ [[-gn, ga]] ++ [[-gn, gb]]) v5 ∧ w6.heap[Gb]? = some (.cells #[.int .i64 gn, .int .i64 ga, .int .i64 gb] 130 (0, 0)) ∧ Gb ≠ w.heap.size + 1 + 1) := ⟨HW5.out.1.over hbd, (hbd.block _ (Array.getElem?_eq_some_iff.1 HW5.out.2.1).1).trans HW5.out.2.1, HW5.out.2.2⟩
        clear hbd HW5 f1 f2 f3
        have f1 : w6.cell? ⟨Gb, 0, none⟩ = some (.int .i64 gn) := ag_cell HW6.out.2.1 0
        have f2 : w6.cell? ⟨Gb, 1, none⟩ = some (.int .i64 ga) := ag_cell HW6.out.2.1 1
        have f3 : w6.cell? ⟨Gb, 2, none⟩ = some (.int .i64 gb) := ag_cell HW6.out.2.1 2
        cases hh2 : hasM f (-gn) with
        | true =>
          go_wp2_with fail
          refine (lay_some HW6.out.1.cl [gn, -ga, -gb] (by simp) 3 rfl (by first | omega | (simp; omega))).mono ?_
          rintro e w7 hl
          obtain ⟨⟨_, rfl⟩, v7, hq, hs⟩ := HW6.out.1.laid hl
          have HW7 : Hid (CQ w w7 w.heap.size (w.heap.size + 1 + 1) V (cls ++ [[-gn, ga]] ++ [[-gn, gb]] ++ [[gn, -ga, -gb]]) v7 ∧ w7.heap[Gb]? = some (.cells #[.int .i64 gn, .int .i64 ga, .int .i64 gb] 130 (0, 0)) ∧ Gb ≠ w.heap.size + 1 + 1) := ⟨hq, (hs _ _ _ _ HW6.out.2.1 (by decide) HW6.out.2.2).trans HW6.out.2.1, HW6.out.2.2⟩
          clear hl hq hs HW6 f1 f2 f3
          have f1 : w7.cell? ⟨Gb, 0, none⟩ = some (.int .i64 gn) := ag_cell HW7.out.2.1 0
          have f2 : w7.cell? ⟨Gb, 1, none⟩ = some (.int .i64 ga) := ag_cell HW7.out.2.1 1
          have f3 : w7.cell? ⟨Gb, 2, none⟩ = some (.int .i64 gb) := ag_cell HW7.out.2.1 2
          have HS4 := HS3.out true true hh1 hh2
          clear f1 f2 f3
          go_wp2_with fail
          go_roundg (gk - 1)
          case measure => omega
          case rel => exact ⟨k + 1, v7, by simp, by omega, by rw [HS4]; show CQ _ _ _ _ _ _ _; simpa using HW7.out.1⟩
        | false =>
          have HS4 := HS3.out true false hh1 hh2
          clear f1 f2 f3
          go_wp2_with fail
          go_roundg (gk - 1)
          case measure => omega
          case rel => exact ⟨k + 1, v5, by simp, by omega, by rw [HS4]; show CQ _ _ _ _ _ _ _; simpa using HW6.out.1⟩
      | false =>
        go_wp2_with fail
        refine (HHas.out wc (-gn) HW3.out.1.cl.bel (by omega) (by omega) (by omega)).mono ?_
        rintro e w6 ⟨rfl, hbd⟩
        have HW6 : Hid (CQ w w6 w.heap.size (w.heap.size + 1 + 1) V (cls) vL ∧ w6.heap[Gb]? = some (.cells #[.int .i64 gn, .int .i64 ga, .int .i64 gb] 130 (0, 0)) ∧ Gb ≠ w.heap.size + 1 + 1) := ⟨HW3.out.1.over hbd, (hbd.block _ (Array.getElem?_eq_some_iff.1 HW3.out.2.1).1).trans HW3.out.2.1, HW3.out.2.2⟩
        clear hbd HW3 f1 f2 f3
        have f1 : w6.cell? ⟨Gb, 0, none⟩ = some (.int .i64 gn) := ag_cell HW6.out.2.1 0
        have f2 : w6.cell? ⟨Gb, 1, none⟩ = some (.int .i64 ga) := ag_cell HW6.out.2.1 1
        have f3 : w6.cell? ⟨Gb, 2, none⟩ = some (.int .i64 gb) := ag_cell HW6.out.2.1 2
        cases hh2 : hasM f (-gn) with
        | true =>
          go_wp2_with fail
          refine (lay_some HW6.out.1.cl [gn, -ga, -gb] (by simp) 3 rfl (by first | omega | (simp; omega))).mono ?_
          rintro e w7 hl
          obtain ⟨⟨_, rfl⟩, v7, hq, hs⟩ := HW6.out.1.laid hl
          have HW7 : Hid (CQ w w7 w.heap.size (w.heap.size + 1 + 1) V (cls ++ [[gn, -ga, -gb]]) v7 ∧ w7.heap[Gb]? = some (.cells #[.int .i64 gn, .int .i64 ga, .int .i64 gb] 130 (0, 0)) ∧ Gb ≠ w.heap.size + 1 + 1) := ⟨hq, (hs _ _ _ _ HW6.out.2.1 (by decide) HW6.out.2.2).trans HW6.out.2.1, HW6.out.2.2⟩
          clear hl hq hs HW6 f1 f2 f3
          have f1 : w7.cell? ⟨Gb, 0, none⟩ = some (.int .i64 gn) := ag_cell HW7.out.2.1 0
          have f2 : w7.cell? ⟨Gb, 1, none⟩ = some (.int .i64 ga) := ag_cell HW7.out.2.1 1
          have f3 : w7.cell? ⟨Gb, 2, none⟩ = some (.int .i64 gb) := ag_cell HW7.out.2.1 2
          have HS4 := HS3.out false true hh1 hh2
          clear f1 f2 f3
          go_wp2_with fail
          go_roundg (gk - 1)
          case measure => omega
          case rel => exact ⟨k + 1, v7, by simp, by omega, by rw [HS4]; show CQ _ _ _ _ _ _ _; simpa using HW7.out.1⟩
        | false =>
          have HS4 := HS3.out false false hh1 hh2
          clear f1 f2 f3
          go_wp2_with fail
          go_roundg (gk - 1)
          case measure => omega
          case rel => exact ⟨k + 1, vL, by simp, by omega, by rw [HS4]; show CQ _ _ _ _ _ _ _; simpa using HW6.out.1⟩
    · obtain rfl : k = n1 := by omega
      have q1 : ¬ (k : Int) < (k : Int) := by omega
      have HQ9 : Hid (CQ w wr w.heap.size (w.heap.size + 1 + 1) V (gs.flatMap (clG f)) vL) := by have := HQ.out; rw [List.take_of_length_le (by rw [HN1.out]; exact Nat.le_refl _)] at this; exact this
      clear HQ c0
      have c0 : wr.cell? ⟨w.heap.size, 0, none⟩ = some (.slice aR n2 cR) := by rw [ag_cell HQ9.out.cb, HV.out]; rfl
      have hsf : (gs.flatMap (clG f)).length ≤ 1048576 := by have h1 := HCN.out.2; rw [HCN.out.1, List.length_append] at h1; omega
      clear HHas
      generalize wr = wA at *
      go_wp2_with fail
      go_loopg [63] n2 (fun gk v63 wr => ∃ j vL, v63 = .int .i64 ((j : Nat) : Int) ∧ j + gk = n2 ∧ Aside (CQ w wr w.heap.size (w.heap.size + 1 + 1) V (gs.flatMap (clG f) ++ (ls.take j).flatMap (clR cn)) vL))
      case atStart => exact ⟨0, vL, rfl, by omega, by rw [List.take_zero]; show CQ _ _ _ _ _ _ _; simpa using HQ9.out⟩
      case round =>
        clear HQ9
        obtain ⟨j, vM, rfl, hj, HQ⟩ := hrel
        by_cases hlt : j < n2
        · have q2 : (j : Int) < (n2 : Int) := by omega
          obtain ⟨b, off, rfl, hbb, hcc⟩ := (HC.out.over HQ.out.cl.bel).r (by rw [HN2.out]; omega)
          have hc := hcc j (by rw [HN2.out]; exact hlt)
          have hl32 : ls.getD j 0 < 4294967296 := HC.out.r32 _ (by rw [List.getD_eq_getElem?_getD, List.getElem?_eq_getElem (by rw [HN2.out]; exact hlt)]; exact List.getElem_mem _)
          have HT2 : Hid ((ls.take (j + 1)).flatMap (clR cn) = (ls.take j).flatMap (clR cn) ++ clR cn (ls.getD j 0)) := rts_step cn ls j (by rw [HN2.out]; exact hlt)
          have htf : ((ls.take j).flatMap (clR cn)).length ≤ 1048576 := by
            have h1 := HCN.out.2
            rw [HCN.out.1, List.length_append] at h1
            have h2 : ((ls.take j).flatMap (clR cn)).length ≤ (ls.flatMap (clR cn)).length := by
              conv => rhs; rw [← List.take_append_drop j ls, List.flatMap_append, List.length_append]
              omega
            omega
          have HR : Hid (clR cn (ls.getD j 0) = if ls.getD j 0 = 0 then [[]] else if ls.getD j 0 = 1 then [] else [[litI cn (ls.getD j 0)]]) := rfl
          clear hcc
          generalize ls.getD j 0 = l at *
          generalize (ls.take j).flatMap (clR cn) = rcl at *
          have hnl : (gs.flatMap (clG f) ++ rcl).length ≤ 1000000000 := by rw [List.length_append]; omega
          have k0 : wr.cell? ⟨w.heap.size, 0, none⟩ = some (.slice (some ⟨b, off, none⟩) n2 cR) := by rw [ag_cell HQ.out.cb, HV.out]; rfl
          have k1 : wr.cell? ⟨w.heap.size, 1, none⟩ = some (.map (some M)) := by rw [ag_cell HQ.out.cb, HV.out]; rfl
          have k2 : wr.cell? ⟨w.heap.size, 2, none⟩ = some (.slice aG k cG) := by rw [ag_cell HQ.out.cb, HV.out]; rfl
          by_cases e : l = 0
          · rw [if_pos e] at HR
            subst e
            go_wp2_with fail
            refine (lay_none HQ.out.cl hnl).mono ?_
            rintro e w4 hl
            obtain ⟨⟨_, rfl⟩, v4, hq, hs⟩ := HQ.out.laid hl
            have HW4 : Hid (CQ w w4 w.heap.size (w.heap.size + 1 + 1) V (gs.flatMap (clG f) ++ rcl ++ [[]]) v4) := hq
            clear hl hq hs HQ
            go_wp2_with fail
            go_roundg (gk - 1)
            case measure => omega
            case rel => exact ⟨j + 1, v4, by simp, by omega, by rw [HT2.out, HR.out, ← List.append_assoc]; exact HW4.out⟩
          · have q3 : ((l : Int) == 0) = false := by simp; omega
            by_cases e1 : l = 1
            · rw [if_neg e, if_pos e1] at HR
              subst e1
              go_wp2_with fail
              go_roundg (gk - 1)
              case measure => omega
              case rel => exact ⟨j + 1, vM, by simp, by omega, by rw [HT2.out, HR.out, List.append_nil]; exact HQ⟩
            · rw [if_neg e, if_neg e1] at HR
              have q4 : ((l : Int) == 1) = false := by simp; omega
              go_wp2_with fail
              refine (HLit.out wr l HQ.out.cl.bel hl32).mono ?_
              rintro e wc ⟨rfl, hbc⟩
              have HW3 : Hid (CQ w wc w.heap.size (w.heap.size + 1 + 1) V (gs.flatMap (clG f) ++ rcl) vM) := HQ.out.over hbc
              clear hbc HQ
              go_wp2_with fail
              refine (lay_some HW3.out.cl [litI cn l] (by simp) 1 rfl hnl).mono ?_
              rintro e w4 hl
              obtain ⟨⟨_, rfl⟩, v4, hq, hs⟩ := HW3.out.laid hl
              have HW4 : Hid (CQ w w4 w.heap.size (w.heap.size + 1 + 1) V (gs.flatMap (clG f) ++ rcl ++ [[litI cn l]]) v4) := hq
              clear hl hq hs HW3
              go_wp2_with fail
              go_roundg (gk - 1)
              case measure => omega
              case rel => exact ⟨j + 1, v4, by simp, by omega, by rw [HT2.out, HR.out, ← List.append_assoc]; exact HW4.out⟩
        · obtain rfl : j = n2 := by omega
          have q2 : ¬ (j : Int) < (j : Int) := by omega
          have HZ : Hid (PP (.returned vM) wr) := HP.out wr vM (by rw [HCN.out.1]; have := HQ.out; rw [List.take_of_length_le (by rw [HN2.out]; exact Nat.le_refl _)] at this; exact this)
          have k0 := ag_cell HQ.out.cl.box 0
          clear HQ
          go_wp2_with fail
          first | exact HZ.out | (go_ret; exact HZ.out) | (go_ret2; exact HZ.out)
end Go.Proofs.Ytkomadlmonhlhaa
