import Derived.Test.YtkomadlmonhlhaaTsK
namespace Go.Proofs.Ytkomadlmonhlhaa
open Go.ChangeShapes Go.WideShapes Go.ChangeAt Go.RowKit Go.Lib Go.Ag Go.WideMaps Go.Maps Go.ChangeMaps Go.Cn

/-- the clauses of Encode, and of Polar -/
def clsE (ns : Nds) (ls : List Nat) : List (List Int) := clsN allM (coneS ns ls).2 ls (gts ns (coneS ns ls).2 (coneS ns ls).2.length)
def clsP (ns : Nds) (ls : List Nat) : List (List Int) := clsN (wantM (coneS ns ls).2 ls (gts ns (coneS ns ls).2 (coneS ns ls).2.length)) (coneS ns ls).2 ls (gts ns (coneS ns ls).2 (coneS ns ls).2.length)
set_option maxHeartbeats 4000000 in
theorem Encode_ok (w : World) {B R : Nat} {ns : Nds} {nb : Nat} {vb vg : Value} {Mg : Option Nat} {D : DataW Unit} (h : GM w B R ns nb vb vg Mg D) (hgs : GS ns) (aR : Option Addr) (ls : List Nat) (cR : Nat) (hR : U32s w aR ls) (h32 : ∀ l ∈ ls, l < 4294967296) (hbd : ∀ l ∈ ls, l / 2 ≤ ns.length) (hrn : ls.length ≤ 1000000000000) (hc : (coneS ns ls).2.length ≤ 1048576)
    (hcl : (clsE ns ls).length ≤ 1048576) :
    Calls Try.prog 9 #[.pointer (some ⟨R, 0, none⟩), .slice aR ls.length cR] w fun e w' => ∃ vL vC, e = .returned (.tuple #[.agg #[.int .i64 ((coneS ns ls).2.length : Int), vL], vC, .int .i64 0]) ∧ ENC w w' (coneS ns ls).2 (clsE ns ls) vL vC := by
  obtain ⟨w1, hw1⟩ : ∃ w1, w.alloc (.cells #[.int .i64 0, .slice none 0 0] 33) = w1 := ⟨_, rfl⟩
  have HB1 : Hid (Below w.heap.size w w1 ∧ w1.heap[w.heap.size]? = some (.cells #[.int .i64 0, .slice none 0 0] 33 (0, 0))) := by rw [← hw1]; exact ⟨ag_bel1 _ _, heap_alloc_new _ _⟩
  have HE := encode_all w1 (h.over HB1.out.1) hgs aR ls cR (hR.below HB1.out.1) h32 hbd hrn hc hcl
  have HE2 : Hid (Calls Try.prog 31 #[.pointer (some ⟨R, 0, none⟩), .slice aR ls.length cR, .func (.func 32) #[] #[]] w1 fun e w' => ∃ vL vC, e = .returned (.tuple #[.agg #[.int .i64 ((coneS ns ls).2.length : Int), vL], vC, .int .i64 0]) ∧ ENC w1 w' (coneS ns ls).2 (clsE ns ls) vL vC) := HE
  clear HE h hR hcl
  have hs1 : w.heap.size < w1.heap.size := (Array.getElem?_eq_some_iff.1 HB1.out.2).1
  generalize clsE ns ls = cls at *
  generalize (coneS ns ls).2 = cn at *
  go_enter Try.func9, Try.ntmps9
  go_wp2_with fail
  try rw [hw1]
  refine HE2.out.mono ?_
  rintro e w2 ⟨vL, vC, rfl, he⟩
  obtain ⟨ads, bk, hr2, hc2⟩ := he.cl
  obtain ⟨aL, cL, rfl, _, _⟩ := row_form hr2
  obtain ⟨aC, cC, rfl, _, _⟩ := row_form he.cone
  have hbox : w2.heap[w.heap.size]? = some (.cells #[.int .i64 0, .slice none 0 0] 33 (0, 0)) := (he.bel.block _ hs1).trans HB1.out.2
  generalize hcl9 : cls.length = c2 at *
  generalize hcn9 : cn.length = c at *
  have hset : ((w2.setCell ⟨w.heap.size, 0, none⟩ (.int .i64 (c : Int))).setCell ⟨w.heap.size, 1, none⟩ (.slice aL c2 cL)).heap[w.heap.size]? = some (.cells #[.int .i64 (c : Int), .slice aL c2 cL] 33 (0, 0)) := box_set hbox
  have HZ : Hid (ENC w ((w2.setCell ⟨w.heap.size, 0, none⟩ (.int .i64 (c : Int))).setCell ⟨w.heap.size, 1, none⟩ (.slice aL c2 cL)) cn cls (.slice aL c2 cL) (.slice aC c cC)) := by
    have ho : ∀ j, j ≠ w.heap.size → ((w2.setCell ⟨w.heap.size, 0, none⟩ (.int .i64 (c : Int))).setCell ⟨w.heap.size, 1, none⟩ (.slice aL c2 cL)).heap[j]? = w2.heap[j]? := fun j hj => by rw [heap_setCell_other _ _ _ _ hj, heap_setCell_other _ _ _ _ hj]
    have hcone := he.cone
    refine ⟨row_low (ag_same hcone (fun j hj => ho j (fun e => by have := (hcone.lt j hj).1; omega))) (by omega), ⟨ads, bk, by rw [hcl9]; exact row_low (ag_same hr2 (fun j hj => ho j (fun e => by have := (hr2.lt j hj).1; omega))) (by omega), ⟨hc2.len, hc2.nil, fun i hi hn => ⟨(hc2.row i hi hn).1, by have := (hc2.row i hi hn).2.1; omega, ?_⟩, hc2.inc⟩⟩, bel_set (bel_set (ag_next HB1.out.1 he.bel) 0 _) 1 _⟩
    rw [ho _ (by have := (hc2.row i hi hn).2.1; omega)]
    exact (hc2.row i hi hn).2.2
  have b0 := ag_cell hbox 0
  have b1 := ag_cell hbox 1
  have f0 := ag_fz hbox 0
  have f1 := ag_fz hbox 1
  clear he hr2 hc2 HE2
  go_wp2_with fail
  refine bodyPost_ret (v := .tuple #[.agg #[.int .i64 (c : Int), .slice aL c2 cL], .slice aC c cC, .int .i64 0]) (res_c2 (p := 4) (u := 5) (v := 6) rfl _ _ w.heap.size 33 _ (0, 0) _ _ _ rfl hset rfl rfl Try.underlying33 rfl (by kernel_rfl)) rfl ?_
  exact ⟨_, _, by rw [hcn9], HZ.out⟩
set_option maxHeartbeats 4000000 in
theorem Polar_ok (w : World) {B R : Nat} {ns : Nds} {nb : Nat} {vb vg : Value} {Mg : Option Nat} {D : DataW Unit} (h : GM w B R ns nb vb vg Mg D) (hgs : GS ns) (aR : Option Addr) (ls : List Nat) (cR : Nat) (hR : U32s w aR ls) (h32 : ∀ l ∈ ls, l < 4294967296) (hbd : ∀ l ∈ ls, l / 2 ≤ ns.length) (hrn : ls.length ≤ 1000000000000) (hc : (coneS ns ls).2.length ≤ 1048576)
    (hcl : (clsP ns ls).length ≤ 1048576) :
    Calls Try.prog 14 #[.pointer (some ⟨R, 0, none⟩), .slice aR ls.length cR] w fun e w' => ∃ vL vC, e = .returned (.tuple #[.agg #[.int .i64 ((coneS ns ls).2.length : Int), vL], vC, .int .i64 0]) ∧ ENC w w' (coneS ns ls).2 (clsP ns ls) vL vC := by
  obtain ⟨w1, hw1⟩ : ∃ w1, w.alloc (.cells #[.int .i64 0, .slice none 0 0] 33) = w1 := ⟨_, rfl⟩
  have HB1 : Hid (Below w.heap.size w w1 ∧ w1.heap[w.heap.size]? = some (.cells #[.int .i64 0, .slice none 0 0] 33 (0, 0))) := by rw [← hw1]; exact ⟨ag_bel1 _ _, heap_alloc_new _ _⟩
  have HE := encode_pol w1 (h.over HB1.out.1) hgs aR ls cR (hR.below HB1.out.1) h32 hbd hrn hc hcl
  have HE2 : Hid (Calls Try.prog 31 #[.pointer (some ⟨R, 0, none⟩), .slice aR ls.length cR, .func (.func 35) #[] #[]] w1 fun e w' => ∃ vL vC, e = .returned (.tuple #[.agg #[.int .i64 ((coneS ns ls).2.length : Int), vL], vC, .int .i64 0]) ∧ ENC w1 w' (coneS ns ls).2 (clsP ns ls) vL vC) := HE
  clear HE h hR hcl
  have hs1 : w.heap.size < w1.heap.size := (Array.getElem?_eq_some_iff.1 HB1.out.2).1
  generalize clsP ns ls = cls at *
  generalize (coneS ns ls).2 = cn at *
  go_enter Try.func14, Try.ntmps14
  go_wp2_with fail
  try rw [hw1]
  refine HE2.out.mono ?_
  rintro e w2 ⟨vL, vC, rfl, he⟩
  obtain ⟨ads, bk, hr2, hc2⟩ := he.cl
  obtain ⟨aL, cL, rfl, _, _⟩ := row_form hr2
  obtain ⟨aC, cC, rfl, _, _⟩ := row_form he.cone
  have hbox : w2.heap[w.heap.size]? = some (.cells #[.int .i64 0, .slice none 0 0] 33 (0, 0)) := (he.bel.block _ hs1).trans HB1.out.2
  generalize hcl9 : cls.length = c2 at *
  generalize hcn9 : cn.length = c at *
  have hset : ((w2.setCell ⟨w.heap.size, 0, none⟩ (.int .i64 (c : Int))).setCell ⟨w.heap.size, 1, none⟩ (.slice aL c2 cL)).heap[w.heap.size]? = some (.cells #[.int .i64 (c : Int), .slice aL c2 cL] 33 (0, 0)) := box_set hbox
  have HZ : Hid (ENC w ((w2.setCell ⟨w.heap.size, 0, none⟩ (.int .i64 (c : Int))).setCell ⟨w.heap.size, 1, none⟩ (.slice aL c2 cL)) cn cls (.slice aL c2 cL) (.slice aC c cC)) := by
    have ho : ∀ j, j ≠ w.heap.size → ((w2.setCell ⟨w.heap.size, 0, none⟩ (.int .i64 (c : Int))).setCell ⟨w.heap.size, 1, none⟩ (.slice aL c2 cL)).heap[j]? = w2.heap[j]? := fun j hj => by rw [heap_setCell_other _ _ _ _ hj, heap_setCell_other _ _ _ _ hj]
    have hcone := he.cone
    refine ⟨row_low (ag_same hcone (fun j hj => ho j (fun e => by have := (hcone.lt j hj).1; omega))) (by omega), ⟨ads, bk, by rw [hcl9]; exact row_low (ag_same hr2 (fun j hj => ho j (fun e => by have := (hr2.lt j hj).1; omega))) (by omega), ⟨hc2.len, hc2.nil, fun i hi hn => ⟨(hc2.row i hi hn).1, by have := (hc2.row i hi hn).2.1; omega, ?_⟩, hc2.inc⟩⟩, bel_set (bel_set (ag_next HB1.out.1 he.bel) 0 _) 1 _⟩
    rw [ho _ (by have := (hc2.row i hi hn).2.1; omega)]
    exact (hc2.row i hi hn).2.2
  have b0 := ag_cell hbox 0
  have b1 := ag_cell hbox 1
  have f0 := ag_fz hbox 0
  have f1 := ag_fz hbox 1
  clear he hr2 hc2 HE2
  go_wp2_with fail
  refine bodyPost_ret (v := .tuple #[.agg #[.int .i64 (c : Int), .slice aL c2 cL], .slice aC c cC, .int .i64 0]) (res_c2 (p := 4) (u := 5) (v := 6) rfl _ _ w.heap.size 33 _ (0, 0) _ _ _ rfl hset rfl rfl Try.underlying33 rfl (by kernel_rfl)) rfl ?_
  exact ⟨_, _, by rw [hcn9], HZ.out⟩
end Go.Proofs.Ytkomadlmonhlhaa
