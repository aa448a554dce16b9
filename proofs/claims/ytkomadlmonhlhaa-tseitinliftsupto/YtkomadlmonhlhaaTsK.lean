import Derived.Test.YtkomadlmonhlhaaTsH
import Derived.Test.YtkomadlmonhlhaaTsF
import Derived.Test.YtkomadlmonhlhaaTsW
import Derived.Test.YtkomadlmonhlhaaTsJ
namespace Go.Proofs.Ytkomadlmonhlhaa
open Go.ChangeShapes Go.WideShapes Go.ChangeAt Go.RowKit Go.Lib Go.Ag Go.WideMaps Go.Maps Go.ChangeMaps Go.Cn

theorem res_c2 {P : Program} {fn : Func} {p u v : Tmp} {ty : TypeId} (h : fn.results = #[.cell p ty, .tmp u, .tmp v]) (tmps : Array Value) (w : World) (g : Nat) (t : TypeId) (cs : Array Value) (fr : Nat × Nat) (d : TypeDesc) (x y : Value)
    (hp : tmps.getD p undef = .pointer (some ⟨g, 0, none⟩)) (hg : w.heap[g]? = some (.cells cs t fr)) (hx : tmps.getD u undef = x) (hy : tmps.getD v undef = y)
    (hu : P.underlying ty = some d) (hd : (match d with | .struct _ | .array _ _ => true | _ => false) = true) (hi : (P.info? ty).map (·.size) = some cs.size) :
    (results fn tmps).run P w = .ok (.tuple #[.agg cs, x, y]) w := by
  simp only [results, h]
  simp [Sem.run_bind, Result.andThen]
  rw [show tmps[p]?.getD undef = tmps.getD p undef by simp, show tmps[u]?.getD undef = tmps.getD u undef by simp, show tmps[v]?.getD undef = tmps.getD v undef by simp, hp, hx, hy]
  simp [asAddr, run_loadVar_row w g t ty cs fr d hg hu hd hi]
/-- what Encode and Polar tell -/
structure ENC (w w' : World) (cn : List Nat) (cls : List (List Int)) (vL vC : Value) : Prop where
  cone : w'.ownsRow w.heap.size 3 1 vC cn.length (natV cn)
  cl : ∃ ads bk, w'.ownsRow w.heap.size 63 1 vL cls.length ads ∧ CLA w' w.heap.size cls ads bk
  bel : Below w.heap.size w w'
theorem ENC.over {w w' w2 : World} {cn : List Nat} {cls : List (List Int)} {vL vC : Value} (h : ENC w w' cn cls vL vC) (hb : Below w'.heap.size w' w2) : ENC w w2 cn cls vL vC := by
  obtain ⟨ads, bk, h1, h2⟩ := h.cl
  exact ⟨ag_same h.cone (fun j hj => hb.block j (h.cone.lt j hj).2), ⟨ads, bk, ag_same h1 (fun j hj => hb.block j (h1.lt j hj).2), h2.keep (fun j cs hj => hb.block j (Array.getElem?_eq_some_iff.1 hj).1)⟩, h.bel.trans (hb.mono h.bel.size)⟩
theorem ENC.low {w w1 w' : World} {cn : List Nat} {cls : List (List Int)} {vL vC : Value} (h : ENC w1 w' cn cls vL vC) (hb : Below w.heap.size w w1) : ENC w w' cn cls vL vC := by
  obtain ⟨ads, bk, h1, h2⟩ := h.cl
  exact ⟨row_low h.cone hb.size, ⟨ads, bk, row_low h1 hb.size, ⟨h2.len, h2.nil, fun i hi hn => ⟨(h2.row i hi hn).1, Nat.le_trans hb.size (h2.row i hi hn).2.1, (h2.row i hi hn).2.2⟩, h2.inc⟩⟩, ag_next hb h.bel⟩
set_option maxHeartbeats 16000000 in
set_option maxRecDepth 100000 in
theorem encode_all (w : World) {B R : Nat} {ns : Nds} {nb : Nat} {vb vg : Value} {Mg : Option Nat} {D : DataW Unit} (h : GM w B R ns nb vb vg Mg D) (hgs : GS ns) (aR : Option Addr) (ls : List Nat) (cR : Nat) (hR : U32s w aR ls) (h32 : ∀ l ∈ ls, l < 4294967296) (hbd : ∀ l ∈ ls, l / 2 ≤ ns.length) (hrn : ls.length ≤ 1000000000000) (hc : (coneS ns ls).2.length ≤ 1048576)
    (hcl : (clsN (allM) (coneS ns ls).2 ls (gts ns (coneS ns ls).2 (coneS ns ls).2.length)).length ≤ 1048576) :
    Calls Try.prog 31 #[.pointer (some ⟨R, 0, none⟩), .slice aR ls.length cR, .func (.func 32) #[] #[]] w fun e w' => ∃ vL vC, e = .returned (.tuple #[.agg #[.int .i64 ((coneS ns ls).2.length : Int), vL], vC, .int .i64 0]) ∧ ENC w w' (coneS ns ls).2 (clsN (allM) (coneS ns ls).2 ls (gts ns (coneS ns ls).2 (coneS ns ls).2.length)) vL vC := by
  have hCN : CN ns (coneS ns ls).2 ls := cn_cone hgs hbd
  obtain ⟨w1, hw1⟩ : ∃ w1, w.alloc (.cells #[.int .i64 0, .slice none 0 0] 33) = w1 := ⟨_, rfl⟩
  have HB1 : Hid (Below w.heap.size w w1 ∧ w1.heap[w.heap.size]? = some (.cells #[.int .i64 0, .slice none 0 0] 33 (0, 0))) := by rw [← hw1]; exact ⟨ag_bel1 _ _, heap_alloc_new _ _⟩
  have HCo : Hid (Calls Try.prog 43 #[.pointer (some ⟨R, 0, none⟩), .slice aR ls.length cR] w1 fun e w' => ∃ vC, e = .returned (.tuple #[vC, .int .i64 0]) ∧ Below w1.heap.size w1 w' ∧ w'.ownsRow w1.heap.size 3 1 vC (coneS ns ls).2.length (natV (coneS ns ls).2)) := Cone_ok w1 (h.over HB1.out.1) aR ls cR (hR.below HB1.out.1) h32 hbd hrn
  generalize (coneS ns ls).2 = cn at *
  have HNC : Hid (∀ W aC cC, Below w1.heap.size w1 W → Nts W aC cn → Calls Try.prog 54 #[.pointer (some ⟨R, 0, none⟩), .slice aC cn.length cC, .slice aR ls.length cR] W fun e w' => ∃ M aG cG, e = .returned (.agg #[.slice aR ls.length cR, .map (some M), .slice aG (gts ns cn cn.length).length cG]) ∧ CM w' aR ls M cn aG (gts ns cn cn.length) ∧ Below W.heap.size W w') := fun W aC cC hW hC => newCircuit_any W (h.over (ag_next HB1.out.1 hW)) hgs aC cn cC hC aR ls cR (hR.below (ag_next HB1.out.1 hW)) h32 hrn hCN hc
  generalize gts ns cn cn.length = gs at *
  obtain ⟨c, hcc⟩ : ∃ c, cn.length = c := ⟨_, rfl⟩
  have HCL : Hid ((clsN (allM) cn ls gs).length ≤ 1048576 ∧ cn.length = c) := ⟨hcl, hcc⟩
  have hc' : c ≤ 1048576 := by omega
  have hs1 : w.heap.size < w1.heap.size := (Array.getElem?_eq_some_iff.1 HB1.out.2).1
  clear h hR hCN hcl
  rw [hcc] at HCo HNC hc
  rw [hcc]
  clear hcc
  go_enter Try.func31, Try.ntmps31
  go_wp2_with fail
  try rw [hw1]
  refine HCo.out.mono ?_
  rintro e w2 ⟨vC, rfl, hb2, hr2⟩
  obtain ⟨aC, cC, rfl, _, _⟩ := row_form hr2
  have HR2 : Hid (w2.ownsRow w1.heap.size 3 1 (.slice aC c cC) c (natV cn) ∧ Below w1.heap.size w1 w2 ∧ Nts w2 aC cn) := ⟨hr2, hb2, nts_of hr2⟩
  clear hr2 hb2 HCo
  have q1 : ¬ (1048576 : Int) < (c : Int) := by omega
  go_wp2_with fail
  refine (HNC.out w2 aC cC HR2.out.2.1 HR2.out.2.2).mono ?_
  rintro e w3 ⟨M, aG, cG, rfl, hm3, hb3⟩
  have HM3 : Hid (CM (w3.alloc (.cells #[.slice aR ls.length cR, .map (some M), .slice aG gs.length cG] 83)) aR ls M cn aG gs ∧ Below w2.heap.size w2 (w3.alloc (.cells #[.slice aR ls.length cR, .map (some M), .slice aG gs.length cG] 83)) ∧ (w3.alloc (.cells #[.slice aR ls.length cR, .map (some M), .slice aG gs.length cG] 83)).heap[w3.heap.size]? = some (.cells #[.slice aR ls.length cR, .map (some M), .slice aG gs.length cG] 83 (0, 0))) := ⟨hm3.over (ag_bel1 _ _), ag_next hb3 (ag_bel1 _ _), heap_alloc_new _ _⟩
  clear hm3 hb3 HNC
  obtain ⟨Cb, hCb⟩ : ∃ Cb, w3.heap.size = Cb := ⟨_, rfl⟩
  go_wp2_with fail
  try rw [hCb]
  rw [hCb] at HM3
  generalize w3.alloc (.cells #[.slice aR ls.length cR, .map (some M), .slice aG gs.length cG] 83) = w4 at *
  clear hCb
  have c0 : w4.cell? ⟨Cb, 0, none⟩ = some (.slice aR ls.length cR) := ag_cell HM3.out.2.2 0
  have c1 : w4.cell? ⟨Cb, 1, none⟩ = some (.map (some M)) := ag_cell HM3.out.2.2 1
  have c2 : w4.cell? ⟨Cb, 2, none⟩ = some (.slice aG gs.length cG) := ag_cell HM3.out.2.2 2
  have HCh : Hid (Calls Try.prog 32 #[.agg #[.slice aR ls.length cR, .map (some M), .slice aG gs.length cG]] w4 fun e w' => ∃ Mb, e = .returned (.slice (some ⟨Mb, 0, none⟩) (wdsN cn.length) (wdsN cn.length)) ∧ MR w' Mb (wdsN cn.length) (allM) ∧ Below w4.heap.size w4 w' ∧ w4.heap.size ≤ Mb) := everything_any w4 HM3.out.1.m (by have := HCL.out.2; omega) _ _
  go_wp2_with fail
  refine HCh.out.mono ?_
  rintro e w5 ⟨Mb, rfl, hm5, hb5, hl5⟩
  have HM5 : Hid (CM w5 aR ls M cn aG gs ∧ Below w2.heap.size w2 w5 ∧ w5.heap[Cb]? = some (.cells #[.slice aR ls.length cR, .map (some M), .slice aG gs.length cG] 83 (0, 0)) ∧ MR w5 Mb (wdsN cn.length) (allM)) := ⟨HM3.out.1.over hb5, ag_next HM3.out.2.1 hb5, (hb5.block _ (Array.getElem?_eq_some_iff.1 HM3.out.2.2).1).trans HM3.out.2.2, hm5⟩
  clear hm5 hb5 hl5 HM3 HCh c0 c1 c2
  have c0 : w5.cell? ⟨Cb, 0, none⟩ = some (.slice aR ls.length cR) := ag_cell HM5.out.2.2.1 0
  have c1 : w5.cell? ⟨Cb, 1, none⟩ = some (.map (some M)) := ag_cell HM5.out.2.2.1 1
  have c2 : w5.cell? ⟨Cb, 2, none⟩ = some (.slice aG gs.length cG) := ag_cell HM5.out.2.2.1 2
  have HCt : Hid (Calls Try.prog 55 #[.agg #[.slice aR ls.length cR, .map (some M), .slice aG gs.length cG], .slice (some ⟨Mb, 0, none⟩) (wdsN cn.length) (wdsN cn.length)] w5 fun e w' => e = .returned (.int .i64 ((clsN (allM) cn ls gs).length : Int)) ∧ Below w5.heap.size w5 w') := count_any w5 HM5.out.1 cR cG HM5.out.2.2.2
  go_wp2_with fail
  refine HCt.out.mono ?_
  rintro e w6 ⟨rfl, hb6⟩
  have HM6 : Hid (CM w6 aR ls M cn aG gs ∧ Below w2.heap.size w2 w6 ∧ w6.heap[Cb]? = some (.cells #[.slice aR ls.length cR, .map (some M), .slice aG gs.length cG] 83 (0, 0)) ∧ MR w6 Mb (wdsN cn.length) (allM)) := ⟨HM5.out.1.over hb6, ag_next HM5.out.2.1 hb6, (hb6.block _ (Array.getElem?_eq_some_iff.1 HM5.out.2.2.1).1).trans HM5.out.2.2.1, HM5.out.2.2.2.keep (hb6.block _ HM5.out.2.2.2.inb)⟩
  clear hb6 HM5 HCt c0 c1 c2
  have c0 : w6.cell? ⟨Cb, 0, none⟩ = some (.slice aR ls.length cR) := ag_cell HM6.out.2.2.1 0
  have c1 : w6.cell? ⟨Cb, 1, none⟩ = some (.map (some M)) := ag_cell HM6.out.2.2.1 1
  have c2 : w6.cell? ⟨Cb, 2, none⟩ = some (.slice aG gs.length cG) := ag_cell HM6.out.2.2.1 2
  have HCs : Hid (Calls Try.prog 56 #[.agg #[.slice aR ls.length cR, .map (some M), .slice aG gs.length cG], .slice (some ⟨Mb, 0, none⟩) (wdsN cn.length) (wdsN cn.length), .int .i64 ((clsN (allM) cn ls gs).length : Int)] w6 fun e w' => ∃ vL ads bk, e = .returned vL ∧ w'.ownsRow w6.heap.size 63 1 vL (clsN (allM) cn ls gs).length ads ∧ CLA w' w6.heap.size (clsN (allM) cn ls gs) ads bk ∧ Below w6.heap.size w6 w' ∧ w6.heap.size ≤ w'.heap.size) := clauses_any w6 HM6.out.1 cR cG HM6.out.2.2.2 _ HCL.out.1 HCL.out.1
  have hcl2 : (clsN (allM) cn ls gs).length ≤ 1048576 := HCL.out.1
  generalize hK : clsN (allM) cn ls gs = cls at *
  have q2 : ¬ (1048576 : Int) < (cls.length : Int) := by omega
  go_wp2_with fail
  refine HCs.out.mono ?_
  rintro e w7 ⟨vL, ads, bk, rfl, hr7, hc7, hb7, hs7⟩
  have hb26 := ag_next HM6.out.2.1 hb7
  have hb17 : Below w1.heap.size w1 w7 := ag_next HR2.out.2.1 hb26
  have hbox : w7.heap[w.heap.size]? = some (.cells #[.int .i64 0, .slice none 0 0] 33 (0, 0)) := (hb17.block _ hs1).trans HB1.out.2
  have hs26 : w2.heap.size ≤ w6.heap.size := HM6.out.2.1.size
  have hs12 : w1.heap.size ≤ w2.heap.size := HR2.out.2.1.size
  obtain ⟨aL, cL, rfl, _, _⟩ := row_form hr7
  have hset : ((w7.setCell ⟨w.heap.size, 0, none⟩ (.int .i64 (c : Int))).setCell ⟨w.heap.size, 1, none⟩ (.slice aL cls.length cL)).heap[w.heap.size]? = some (.cells #[.int .i64 (c : Int), .slice aL cls.length cL] 33 (0, 0)) := box_set hbox
  have HZ : Hid (ENC w ((w7.setCell ⟨w.heap.size, 0, none⟩ (.int .i64 (c : Int))).setCell ⟨w.heap.size, 1, none⟩ (.slice aL cls.length cL)) cn cls (.slice aL cls.length cL) (.slice aC c cC)) := by
    have ho : ∀ j, j ≠ w.heap.size → ((w7.setCell ⟨w.heap.size, 0, none⟩ (.int .i64 (c : Int))).setCell ⟨w.heap.size, 1, none⟩ (.slice aL cls.length cL)).heap[j]? = w7.heap[j]? := fun j hj => by rw [heap_setCell_other _ _ _ _ hj, heap_setCell_other _ _ _ _ hj]
    have hcone : w7.ownsRow w1.heap.size 3 1 (.slice aC c cC) c (natV cn) := ag_same HR2.out.1 (fun j hj => hb26.block j (HR2.out.1.lt j hj).2)
    refine ⟨?_, ⟨ads, bk, ?_, ?_⟩, ?_⟩
    · rw [HCL.out.2]
      exact row_low (ag_same hcone (fun j hj => ho j (fun e => by have := (hcone.lt j hj).1; omega))) (by omega)
    · exact row_low (ag_same hr7 (fun j hj => ho j (fun e => by have := (hr7.lt j hj).1; omega))) (by omega)
    · refine ⟨hc7.len, hc7.nil, fun i hi hn => ⟨(hc7.row i hi hn).1, by have := (hc7.row i hi hn).2.1; omega, ?_⟩, hc7.inc⟩
      rw [ho _ (by have := (hc7.row i hi hn).2.1; omega)]
      exact (hc7.row i hi hn).2.2
    · exact bel_set (bel_set (ag_next HB1.out.1 hb17) 0 _) 1 _
  have b0 := ag_cell hbox 0
  have b1 := ag_cell hbox 1
  have f0 := ag_fz hbox 0
  have f1 := ag_fz hbox 1
  clear hr7 hc7 hb7 hs7 hb26 hb17 HM6 HCs c0 c1 c2
  go_wp2_with fail
  refine bodyPost_ret (v := .tuple #[.agg #[.int .i64 (c : Int), .slice aL cls.length cL], .slice aC c cC, .int .i64 0]) (res_c2 (p := 6) (u := 7) (v := 8) rfl _ _ w.heap.size 33 _ (0, 0) _ _ _ rfl hset rfl rfl Try.underlying33 rfl (by kernel_rfl)) rfl ?_
  exact ⟨_, _, rfl, by rw [hK]; exact HZ.out⟩
set_option maxHeartbeats 16000000 in
set_option maxRecDepth 100000 in
theorem encode_pol (w : World) {B R : Nat} {ns : Nds} {nb : Nat} {vb vg : Value} {Mg : Option Nat} {D : DataW Unit} (h : GM w B R ns nb vb vg Mg D) (hgs : GS ns) (aR : Option Addr) (ls : List Nat) (cR : Nat) (hR : U32s w aR ls) (h32 : ∀ l ∈ ls, l < 4294967296) (hbd : ∀ l ∈ ls, l / 2 ≤ ns.length) (hrn : ls.length ≤ 1000000000000) (hc : (coneS ns ls).2.length ≤ 1048576)
    (hcl : (clsN (wantM (coneS ns ls).2 ls (gts ns (coneS ns ls).2 (coneS ns ls).2.length)) (coneS ns ls).2 ls (gts ns (coneS ns ls).2 (coneS ns ls).2.length)).length ≤ 1048576) :
    Calls Try.prog 31 #[.pointer (some ⟨R, 0, none⟩), .slice aR ls.length cR, .func (.func 35) #[] #[]] w fun e w' => ∃ vL vC, e = .returned (.tuple #[.agg #[.int .i64 ((coneS ns ls).2.length : Int), vL], vC, .int .i64 0]) ∧ ENC w w' (coneS ns ls).2 (clsN (wantM (coneS ns ls).2 ls (gts ns (coneS ns ls).2 (coneS ns ls).2.length)) (coneS ns ls).2 ls (gts ns (coneS ns ls).2 (coneS ns ls).2.length)) vL vC := by
  have hCN : CN ns (coneS ns ls).2 ls := cn_cone hgs hbd
  obtain ⟨w1, hw1⟩ : ∃ w1, w.alloc (.cells #[.int .i64 0, .slice none 0 0] 33) = w1 := ⟨_, rfl⟩
  have HB1 : Hid (Below w.heap.size w w1 ∧ w1.heap[w.heap.size]? = some (.cells #[.int .i64 0, .slice none 0 0] 33 (0, 0))) := by rw [← hw1]; exact ⟨ag_bel1 _ _, heap_alloc_new _ _⟩
  have HCo : Hid (Calls Try.prog 43 #[.pointer (some ⟨R, 0, none⟩), .slice aR ls.length cR] w1 fun e w' => ∃ vC, e = .returned (.tuple #[vC, .int .i64 0]) ∧ Below w1.heap.size w1 w' ∧ w'.ownsRow w1.heap.size 3 1 vC (coneS ns ls).2.length (natV (coneS ns ls).2)) := Cone_ok w1 (h.over HB1.out.1) aR ls cR (hR.below HB1.out.1) h32 hbd hrn
  generalize (coneS ns ls).2 = cn at *
  have HNC : Hid (∀ W aC cC, Below w1.heap.size w1 W → Nts W aC cn → Calls Try.prog 54 #[.pointer (some ⟨R, 0, none⟩), .slice aC cn.length cC, .slice aR ls.length cR] W fun e w' => ∃ M aG cG, e = .returned (.agg #[.slice aR ls.length cR, .map (some M), .slice aG (gts ns cn cn.length).length cG]) ∧ CM w' aR ls M cn aG (gts ns cn cn.length) ∧ Below W.heap.size W w') := fun W aC cC hW hC => newCircuit_any W (h.over (ag_next HB1.out.1 hW)) hgs aC cn cC hC aR ls cR (hR.below (ag_next HB1.out.1 hW)) h32 hrn hCN hc
  generalize gts ns cn cn.length = gs at *
  obtain ⟨c, hcc⟩ : ∃ c, cn.length = c := ⟨_, rfl⟩
  have HCL : Hid ((clsN (wantM cn ls gs) cn ls gs).length ≤ 1048576 ∧ cn.length = c) := ⟨hcl, hcc⟩
  have hc' : c ≤ 1048576 := by omega
  have hs1 : w.heap.size < w1.heap.size := (Array.getElem?_eq_some_iff.1 HB1.out.2).1
  clear h hR hCN hcl
  rw [hcc] at HCo HNC hc
  rw [hcc]
  clear hcc
  go_enter Try.func31, Try.ntmps31
  go_wp2_with fail
  try rw [hw1]
  refine HCo.out.mono ?_
  rintro e w2 ⟨vC, rfl, hb2, hr2⟩
  obtain ⟨aC, cC, rfl, _, _⟩ := row_form hr2
  have HR2 : Hid (w2.ownsRow w1.heap.size 3 1 (.slice aC c cC) c (natV cn) ∧ Below w1.heap.size w1 w2 ∧ Nts w2 aC cn) := ⟨hr2, hb2, nts_of hr2⟩
  clear hr2 hb2 HCo
  have q1 : ¬ (1048576 : Int) < (c : Int) := by omega
  go_wp2_with fail
  refine (HNC.out w2 aC cC HR2.out.2.1 HR2.out.2.2).mono ?_
  rintro e w3 ⟨M, aG, cG, rfl, hm3, hb3⟩
  have HM3 : Hid (CM (w3.alloc (.cells #[.slice aR ls.length cR, .map (some M), .slice aG gs.length cG] 83)) aR ls M cn aG gs ∧ Below w2.heap.size w2 (w3.alloc (.cells #[.slice aR ls.length cR, .map (some M), .slice aG gs.length cG] 83)) ∧ (w3.alloc (.cells #[.slice aR ls.length cR, .map (some M), .slice aG gs.length cG] 83)).heap[w3.heap.size]? = some (.cells #[.slice aR ls.length cR, .map (some M), .slice aG gs.length cG] 83 (0, 0))) := ⟨hm3.over (ag_bel1 _ _), ag_next hb3 (ag_bel1 _ _), heap_alloc_new _ _⟩
  clear hm3 hb3 HNC
  obtain ⟨Cb, hCb⟩ : ∃ Cb, w3.heap.size = Cb := ⟨_, rfl⟩
  go_wp2_with fail
  try rw [hCb]
  rw [hCb] at HM3
  generalize w3.alloc (.cells #[.slice aR ls.length cR, .map (some M), .slice aG gs.length cG] 83) = w4 at *
  clear hCb
  have c0 : w4.cell? ⟨Cb, 0, none⟩ = some (.slice aR ls.length cR) := ag_cell HM3.out.2.2 0
  have c1 : w4.cell? ⟨Cb, 1, none⟩ = some (.map (some M)) := ag_cell HM3.out.2.2 1
  have c2 : w4.cell? ⟨Cb, 2, none⟩ = some (.slice aG gs.length cG) := ag_cell HM3.out.2.2 2
  have HCh : Hid (Calls Try.prog 35 #[.agg #[.slice aR ls.length cR, .map (some M), .slice aG gs.length cG]] w4 fun e w' => ∃ Mb, e = .returned (.slice (some ⟨Mb, 0, none⟩) (wdsN cn.length) (wdsN cn.length)) ∧ MR w' Mb (wdsN cn.length) (wantM cn ls gs) ∧ Below w4.heap.size w4 w' ∧ w4.heap.size ≤ Mb) := wanted_any w4 HM3.out.1 cR cG
  go_wp2_with fail
  refine HCh.out.mono ?_
  rintro e w5 ⟨Mb, rfl, hm5, hb5, hl5⟩
  have HM5 : Hid (CM w5 aR ls M cn aG gs ∧ Below w2.heap.size w2 w5 ∧ w5.heap[Cb]? = some (.cells #[.slice aR ls.length cR, .map (some M), .slice aG gs.length cG] 83 (0, 0)) ∧ MR w5 Mb (wdsN cn.length) (wantM cn ls gs)) := ⟨HM3.out.1.over hb5, ag_next HM3.out.2.1 hb5, (hb5.block _ (Array.getElem?_eq_some_iff.1 HM3.out.2.2).1).trans HM3.out.2.2, hm5⟩
  clear hm5 hb5 hl5 HM3 HCh c0 c1 c2
  have c0 : w5.cell? ⟨Cb, 0, none⟩ = some (.slice aR ls.length cR) := ag_cell HM5.out.2.2.1 0
  have c1 : w5.cell? ⟨Cb, 1, none⟩ = some (.map (some M)) := ag_cell HM5.out.2.2.1 1
  have c2 : w5.cell? ⟨Cb, 2, none⟩ = some (.slice aG gs.length cG) := ag_cell HM5.out.2.2.1 2
  have HCt : Hid (Calls Try.prog 55 #[.agg #[.slice aR ls.length cR, .map (some M), .slice aG gs.length cG], .slice (some ⟨Mb, 0, none⟩) (wdsN cn.length) (wdsN cn.length)] w5 fun e w' => e = .returned (.int .i64 ((clsN (wantM cn ls gs) cn ls gs).length : Int)) ∧ Below w5.heap.size w5 w') := count_any w5 HM5.out.1 cR cG HM5.out.2.2.2
  go_wp2_with fail
  refine HCt.out.mono ?_
  rintro e w6 ⟨rfl, hb6⟩
  have HM6 : Hid (CM w6 aR ls M cn aG gs ∧ Below w2.heap.size w2 w6 ∧ w6.heap[Cb]? = some (.cells #[.slice aR ls.length cR, .map (some M), .slice aG gs.length cG] 83 (0, 0)) ∧ MR w6 Mb (wdsN cn.length) (wantM cn ls gs)) := ⟨HM5.out.1.over hb6, ag_next HM5.out.2.1 hb6, (hb6.block _ (Array.getElem?_eq_some_iff.1 HM5.out.2.2.1).1).trans HM5.out.2.2.1, HM5.out.2.2.2.keep (hb6.block _ HM5.out.2.2.2.inb)⟩
  clear hb6 HM5 HCt c0 c1 c2
  have c0 : w6.cell? ⟨Cb, 0, none⟩ = some (.slice aR ls.length cR) := ag_cell HM6.out.2.2.1 0
  have c1 : w6.cell? ⟨Cb, 1, none⟩ = some (.map (some M)) := ag_cell HM6.out.2.2.1 1
  have c2 : w6.cell? ⟨Cb, 2, none⟩ = some (.slice aG gs.length cG) := ag_cell HM6.out.2.2.1 2
  have HCs : Hid (Calls Try.prog 56 #[.agg #[.slice aR ls.length cR, .map (some M), .slice aG gs.length cG], .slice (some ⟨Mb, 0, none⟩) (wdsN cn.length) (wdsN cn.length), .int .i64 ((clsN (wantM cn ls gs) cn ls gs).length : Int)] w6 fun e w' => ∃ vL ads bk, e = .returned vL ∧ w'.ownsRow w6.heap.size 63 1 vL (clsN (wantM cn ls gs) cn ls gs).length ads ∧ CLA w' w6.heap.size (clsN (wantM cn ls gs) cn ls gs) ads bk ∧ Below w6.heap.size w6 w' ∧ w6.heap.size ≤ w'.heap.size) := clauses_any w6 HM6.out.1 cR cG HM6.out.2.2.2 _ HCL.out.1 HCL.out.1
  have hcl2 : (clsN (wantM cn ls gs) cn ls gs).length ≤ 1048576 := HCL.out.1
  generalize hK : clsN (wantM cn ls gs) cn ls gs = cls at *
  have q2 : ¬ (1048576 : Int) < (cls.length : Int) := by omega
  go_wp2_with fail
  refine HCs.out.mono ?_
  rintro e w7 ⟨vL, ads, bk, rfl, hr7, hc7, hb7, hs7⟩
  have hb26 := ag_next HM6.out.2.1 hb7
  have hb17 : Below w1.heap.size w1 w7 := ag_next HR2.out.2.1 hb26
  have hbox : w7.heap[w.heap.size]? = some (.cells #[.int .i64 0, .slice none 0 0] 33 (0, 0)) := (hb17.block _ hs1).trans HB1.out.2
  have hs26 : w2.heap.size ≤ w6.heap.size := HM6.out.2.1.size
  have hs12 : w1.heap.size ≤ w2.heap.size := HR2.out.2.1.size
  obtain ⟨aL, cL, rfl, _, _⟩ := row_form hr7
  have hset : ((w7.setCell ⟨w.heap.size, 0, none⟩ (.int .i64 (c : Int))).setCell ⟨w.heap.size, 1, none⟩ (.slice aL cls.length cL)).heap[w.heap.size]? = some (.cells #[.int .i64 (c : Int), .slice aL cls.length cL] 33 (0, 0)) := box_set hbox
  have HZ : Hid (ENC w ((w7.setCell ⟨w.heap.size, 0, none⟩ (.int .i64 (c : Int))).setCell ⟨w.heap.size, 1, none⟩ (.slice aL cls.length cL)) cn cls (.slice aL cls.length cL) (.slice aC c cC)) := by
    have ho : ∀ j, j ≠ w.heap.size → ((w7.setCell ⟨w.heap.size, 0, none⟩ (.int .i64 (c : Int))).setCell ⟨w.heap.size, 1, none⟩ (.slice aL cls.length cL)).heap[j]? = w7.heap[j]? := fun j hj => by rw [heap_setCell_other _ _ _ _ hj, heap_setCell_other _ _ _ _ hj]
    have hcone : w7.ownsRow w1.heap.size 3 1 (.slice aC c cC) c (natV cn) := ag_same HR2.out.1 (fun j hj => hb26.block j (HR2.out.1.lt j hj).2)
    refine ⟨?_, ⟨ads, bk, ?_, ?_⟩, ?_⟩
    · rw [HCL.out.2]
      exact row_low (ag_same hcone (fun j hj => ho j (fun e => by have := (hcone.lt j hj).1; omega))) (by omega)
    · exact row_low (ag_same hr7 (fun j hj => ho j (fun e => by have := (hr7.lt j hj).1; omega))) (by omega)
    · refine ⟨hc7.len, hc7.nil, fun i hi hn => ⟨(hc7.row i hi hn).1, by have := (hc7.row i hi hn).2.1; omega, ?_⟩, hc7.inc⟩
      rw [ho _ (by have := (hc7.row i hi hn).2.1; omega)]
      exact (hc7.row i hi hn).2.2
    · exact bel_set (bel_set (ag_next HB1.out.1 hb17) 0 _) 1 _
  have b0 := ag_cell hbox 0
  have b1 := ag_cell hbox 1
  have f0 := ag_fz hbox 0
  have f1 := ag_fz hbox 1
  clear hr7 hc7 hb7 hs7 hb26 hb17 HM6 HCs c0 c1 c2
  go_wp2_with fail
  refine bodyPost_ret (v := .tuple #[.agg #[.int .i64 (c : Int), .slice aL cls.length cL], .slice aC c cC, .int .i64 0]) (res_c2 (p := 6) (u := 7) (v := 8) rfl _ _ w.heap.size 33 _ (0, 0) _ _ _ rfl hset rfl rfl Try.underlying33 rfl (by kernel_rfl)) rfl ?_
  exact ⟨_, _, rfl, by rw [hK]; exact HZ.out⟩
end Go.Proofs.Ytkomadlmonhlhaa
