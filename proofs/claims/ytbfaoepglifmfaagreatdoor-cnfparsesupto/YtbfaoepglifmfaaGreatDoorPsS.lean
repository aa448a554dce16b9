import Derived.Test.YtbfaoepglifmfaaGreatDoorPsM
import Derived.Test.YtbfaoepglifmfaaGreatDoorPsL
import Derived.Deep.RegionHeld3
namespace Go.Proofs.YtbfaoepglifmfaaGreatDoor
open Go.ChangeShapes Go.WideShapes Go.ChangeAt Go.RowKit Go.Lib Go.Cn

theorem rg_cell {w : World} {G : Nat} {cs : Array Value} {e : TypeId} (h : w.heap[G]? = some (.cells cs e (0, 0))) (j : Nat) : w.cell? ⟨G, j, none⟩ = cs[j]? := by
  simp [World.cell?, h]
theorem rg_fz {w : World} {G : Nat} {cs : Array Value} {e : TypeId} (h : w.heap[G]? = some (.cells cs e (0, 0))) (j : Nat) : w.frozen? ⟨G, j, none⟩ = false := by simp [World.frozen?, h]
theorem rvarP (l : Int) (w : World) (h : -4294967296 ≤ l ∧ l ≤ 4294967296) :
    Calls Tryz.prog 27 #[.int .i64 l] w fun e w' => e = .returned (.int .i64 (vr l)) ∧ w' = w := by
  have e : Hid (vr l = if l < 0 then -l else l) := rfl
  by_cases h : l < 0
  · go_enter Tryz.func27, Tryz.ntmps27
    go_wp2
    go_ret
    exact ⟨ret_int (by rw [e.out, if_pos h]), rfl⟩
  · go_enter Tryz.func27, Tryz.ntmps27
    go_wp2
    go_ret
    exact ⟨ret_int (by rw [e.out, if_neg (by omega)]), rfl⟩
theorem amB_low {v : Nat} {l : Int} (hv : v ≤ 1048576) (h0 : l ≠ 0) : amB v l = decide (vr l ≤ v) := by
  unfold amB litB vr
  rw [Bool.eq_iff_iff]
  simp
  split <;> omega
theorem numW_bd {l : List UInt8} {z : Int} (h : numW l = some z) : -4294967296 ≤ z ∧ z ≤ 4294967296 := by
  unfold numW at h
  split at h
  · cases h; omega
  · split at h
    · cases h
    · cases hp : pM 0 (digs l) with
      | none => rw [hp] at h; cases h
      | some v =>
        have := pM_le hp
        rw [hp] at h
        simp at h
        rw [← h]
        split <;> omega
/-- the document's reading in memory -/
def rgC (r : RS) (vc vo : Value) : Array Value := #[.int .i64 (r.vars : Int), vc, vo, .int .i64 (r.cnt : Int), .int .i64 (r.lits : Int), .bool r.hd, .bool (!r.op.isEmpty)]
structure RG (w wr : World) (R Q : Nat) (r : RS) (vc vo : Value) (L : List Value) : Prop where
  blk : wr.heap[R]? = some (.cells (rgC r vc vo) 45 (0, 0))
  res : wr.heap[Q]? = some (.cells #[.int .i64 0, .slice none 0 0] 24 (0, 0))
  rc : RC w wr r.cls r.op vc vo L
  low : w.heap.size ≤ R
  lowq : w.heap.size ≤ Q
theorem RG.over {w wr w' : World} {R Q : Nat} {r : RS} {vc vo : Value} {L : List Value} (h : RG w wr R Q r vc vo L) (hb : Below wr.heap.size wr w') : RG w w' R Q r vc vo L :=
  ⟨(hb.block R (Array.getElem?_eq_some_iff.1 h.blk).1).trans h.blk, (hb.block Q (Array.getElem?_eq_some_iff.1 h.res).1).trans h.res, h.rc.over hb, h.low, h.lowq⟩
/-- three cells of the reading are set -/
theorem RG.three {w W : World} {R Q : Nat} {cs : Array Value} {cls : List (List Int)} {op : List Int} {vc vo : Value} {L : List Value} (blk : W.heap[R]? = some (.cells cs 45 (0, 0))) (res : W.heap[Q]? = some (.cells #[.int .i64 0, .slice none 0 0] 24 (0, 0))) (rc : RC w W cls op vc vo L) (low : w.heap.size ≤ R) (lowq : w.heap.size ≤ Q)
    (i j k : Nat) (a b c : Value) (r' : RS) (hc : r'.cls = cls) (ho : r'.op = op) (hset : ((cs.setIfInBounds i a).setIfInBounds j b).setIfInBounds k c = rgC r' vc vo) : RG w (((W.setCell ⟨R, i, none⟩ a).setCell ⟨R, j, none⟩ b).setCell ⟨R, k, none⟩ c) R Q r' vc vo L := by
  have hq : Q ≠ R := fun e => by rw [e, blk] at res; cases res
  have h1 := heap_setCell_same W R i _ _ a blk
  have h2 := heap_setCell_same _ R j _ _ b h1
  refine ⟨?_, ?_, ?_, low, lowq⟩
  · rw [heap_setCell_same _ R k _ _ c h2, hset]
  · rw [heap_setCell_other _ _ _ _ hq, heap_setCell_other _ _ _ _ hq, heap_setCell_other _ _ _ _ hq]
    exact res
  · rw [hc, ho]
    exact ((rc.set i a blk (by decide) (by decide) low).set j b h1 (by decide) (by decide) low).set k c h2 (by decide) (by decide) low
/-- rows of strings stand -/
def Stays (W w' : World) : Prop := ∀ (j : Nat) (cs : Array Value), W.heap[j]? = some (.cells cs 9 (0, 0)) → w'.heap[j]? = some (.cells cs 9 (0, 0))
theorem Stays.three {W w6 : World} (h : Stays W w6) {R i j k : Nat} {a b c : Value} {cs : Array Value} (blk : w6.heap[R]? = some (.cells cs 45 (0, 0))) : Stays W (((w6.setCell ⟨R, i, none⟩ a).setCell ⟨R, j, none⟩ b).setCell ⟨R, k, none⟩ c) := fun m ds hm => by
  have h1 := h m ds hm
  have hn : m ≠ R := fun e => by rw [e, blk] at h1; cases h1
  rw [heap_setCell_other _ _ _ _ hn, heap_setCell_other _ _ _ _ hn, heap_setCell_other _ _ _ _ hn]
  exact h1
theorem Stays.grown {W w3 : World} {o : Obj} {B e n : Nat} {v : Value} {M : List Value} (hv : W.ownsRow B e 1 v n M) (hg : (W.alloc o).grownBy w3 v.ownBlock) (hne : e ≠ 9) : Stays W w3 := fun _ _ hm => ps_keep hv hg hm hne
theorem Stays.refl (W : World) : Stays W W := fun _ _ h => h
/-- what taking a word answers -/
def WKP (w W : World) (R Q : Nat) (x : Except Int RS) (e : Ending) (w' : World) : Prop := match x with
  | .error k => e = .returned (.int .i64 k) ∧ w'.heap[Q]? = some (.cells #[.int .i64 0, .slice none 0 0] 24 (0, 0)) ∧ Below w.heap.size w w'
  | .ok r' => e = .returned (.int .i64 0) ∧ Stays W w' ∧ ∃ vc vo L, RG w w' R Q r' vc vo L
theorem WKP.err {w W w' : World} {R Q : Nat} {x : Except Int RS} {k : Int} {r : RS} {vc vo : Value} {L : List Value} (hx : x = .error k) (h : RG w w' R Q r vc vo L) : WKP w W R Q x (.returned (.int .i64 k)) w' := by
  rw [hx]
  exact ⟨rfl, h.res, h.rc.bel⟩
theorem WKP.ok {w W w' : World} {R Q : Nat} {x : Except Int RS} {r' : RS} {vc vo : Value} {L : List Value} (hx : x = .ok r') (hs : Stays W w') (h : RG w w' R Q r' vc vo L) : WKP w W R Q x (.returned (.int .i64 0)) w' := by
  rw [hx]
  exact ⟨rfl, hs, vc, vo, L, h⟩
theorem op_more (r : RS) (l : Int) : (!(r.op ++ [l]).isEmpty) = true := by cases h : r.op ++ [l] with
  | nil => simp at h
  | cons => rfl
set_option maxHeartbeats 4000000 in
set_option maxRecDepth 100000 in
theorem word_any (w W : World) (R Q : Nat) (r : RS) (vc vo : Value) (L : List Value) (s : ByteArray) (hs : s.size ≤ 1048576) (h : RG w W R Q r vc vo L) (hi : RSI r) :
    Calls Tryz.prog 16 #[.pointer (some ⟨R, 0, none⟩), .string s] W (WKP w W R Q (tk r s.data.toList)) := by
  have HNU : Hid (Calls Tryz.prog 26 #[.string s, .bool true] W fun e w' => e = numE (numW s.data.toList) ∧ w' = W) := rnumber_any s true W (by omega)
  have HRD : Hid (RG w W R Q r vc vo L) := h
  clear h
  generalize hPP : WKP w W R Q (tk r s.data.toList) = PP
  have HPE : Hid (∀ k W', tk r s.data.toList = .error k → RG w W' R Q r vc vo L → PP (.returned (.int .i64 k)) W') := fun k W' h1 h2 => by rw [← hPP]; exact WKP.err h1 h2
  have HPO : Hid (∀ r' vc' vo' L' W', tk r s.data.toList = .ok r' → Stays W W' → RG w W' R Q r' vc' vo' L' → PP (.returned (.int .i64 0)) W') := fun r' vc' vo' L' W' h1 h2 h3 => by rw [← hPP]; exact WKP.ok h1 h2 h3
  clear hPP
  have HRN : Hid (RG w W.drew R Q r vc vo L) := HRD.out.over ⟨rfl, rfl, rfl, Nat.le_refl _, fun _ _ => rfl⟩
  cases hn : numW s.data.toList with
  | none =>
    rw [hn] at HNU
    have HX : Hid (tk r s.data.toList = .error 3) := by show _ = _; unfold tk; rw [hn]; rfl
    have HFI : Hid (PP (.returned (.int .i64 3)) W) := HPE.out 3 W HX.out HRD.out
    clear hn HPE HPO HX HRD
    go_enter Tryz.func16, Tryz.ntmps16
    go_wp2_with fail
    refine HNU.out.mono ?_
    rintro e w1 ⟨he, hw⟩
    have he2 : e = .returned (.tuple #[.int .i64 0, .bool false]) := he
    subst he2
    obtain rfl := hw.symm
    clear he
    go_wp2
    first | exact HFI.out | (go_ret; exact HFI.out)
  | some l =>
    have hV := hi.vars
    have hC := hi.cnt
    have hL := hi.lits
    have hO := hi.op
    have hCl := hi.cls
    have hbd := numW_bd hn
    rw [hn] at HNU
    obtain ⟨adc, cc, rfl, hadc⟩ := ps_form HRD.out.rc.row
    obtain ⟨ado, co, rfl, hado⟩ := ps_form HRD.out.rc.op
    have HTK : Hid (tk r s.data.toList = tkN r (some l)) := by show _ = _; unfold tk; rw [hn]
    generalize tk r s.data.toList = X at *
    clear hn hi
    obtain ⟨cl, hcl⟩ : ∃ cl, r.cls.length = cl := ⟨_, rfl⟩
    obtain ⟨ol, hol⟩ : ∃ ol, r.op.length = ol := ⟨_, rfl⟩
    rw [hcl, hol] at HRD HRN HPE
    rw [hcl] at hCl
    rw [hol] at hO
    have HSD : Hid (Stays W W.drew) := fun _ _ h => h
    have c0 : W.cell? ⟨R, 0, none⟩ = some (.int .i64 (r.vars : Int)) := rg_cell HRD.out.blk 0
    have c1 : W.cell? ⟨R, 1, none⟩ = some (.slice adc cl cc) := rg_cell HRD.out.blk 1
    have c2 : W.cell? ⟨R, 2, none⟩ = some (.slice ado ol co) := rg_cell HRD.out.blk 2
    have c3 : W.cell? ⟨R, 3, none⟩ = some (.int .i64 (r.cnt : Int)) := rg_cell HRD.out.blk 3
    have c4 : W.cell? ⟨R, 4, none⟩ = some (.int .i64 (r.lits : Int)) := rg_cell HRD.out.blk 4
    by_cases hA : cl = r.cnt
    · have HX : Hid (X = .error 23) := by show _ = _; rw [HTK.out]; unfold tkN; simp only; rw [if_pos (by rw [hcl]; exact hA)]
      have q1 : ((cl : Int) == (r.cnt : Int)) = true := beq_iff_eq.2 (by omega)
      clear HTK
      go_enter Tryz.func16, Tryz.ntmps16
      go_wp2_with fail
      refine HNU.out.mono ?_
      rintro e w1 ⟨he, hw⟩
      have he2 : e = .returned (.tuple #[.int .i64 l, .bool true]) := he
      subst he2
      obtain rfl := hw.symm
      clear he HNU
      go_wp2_with fail
      go_region
      clear c0 c1 c2 c3 c4
      generalize W.drew = W2 at *
      have d0 : W2.cell? ⟨R, 0, none⟩ = some (.int .i64 (r.vars : Int)) := rg_cell HRN.out.blk 0
      have d1 : W2.cell? ⟨R, 1, none⟩ = some (.slice adc cl cc) := rg_cell HRN.out.blk 1
      have d2 : W2.cell? ⟨R, 2, none⟩ = some (.slice ado ol co) := rg_cell HRN.out.blk 2
      have d4 : W2.cell? ⟨R, 4, none⟩ = some (.int .i64 (r.lits : Int)) := rg_cell HRN.out.blk 4
      have HFJ : Hid (PP (.returned (.int .i64 23)) W2) := HPE.out 23 W2 HX.out HRN.out
      clear HPE HPO HX HRD HRN
      go_wp2
      first | exact HFJ.out | (go_ret; exact HFJ.out)
    have qA : ((cl : Int) == (r.cnt : Int)) = false := beq_eq_false_iff_ne.2 (by omega)
    by_cases hB : l = 0
    · subst hB
      have HX : Hid (X = .ok ⟨r.hd, r.vars, r.cnt, r.cls ++ [r.op], [], r.lits⟩) := by show _ = _; rw [HTK.out]; unfold tkN; simp only; rw [if_neg (by rw [hcl]; exact hA), if_pos trivial]
      clear HTK HPE
      go_enter Tryz.func16, Tryz.ntmps16
      go_wp2_with fail
      refine HNU.out.mono ?_
      rintro e w1 ⟨he, hw⟩
      have he2 : e = .returned (.tuple #[.int .i64 0, .bool true]) := he
      subst he2
      obtain rfl := hw.symm
      clear he HNU
      go_wp2_with fail
      go_region
      clear c0 c1 c2 c3 c4
      generalize W.drew = W2 at *
      have d0 : W2.cell? ⟨R, 0, none⟩ = some (.int .i64 (r.vars : Int)) := rg_cell HRN.out.blk 0
      have d1 : W2.cell? ⟨R, 1, none⟩ = some (.slice adc cl cc) := rg_cell HRN.out.blk 1
      have d2 : W2.cell? ⟨R, 2, none⟩ = some (.slice ado ol co) := rg_cell HRN.out.blk 2
      have d4 : W2.cell? ⟨R, 4, none⟩ = some (.int .i64 (r.lits : Int)) := rg_cell HRN.out.blk 4
      obtain ⟨i0, hi0, hz0, hz1, hz2⟩ := info_parts (P := Tryz.prog) (e := 35) (z := .slice none 0 0) (size := 1) (bytes := 24) (by kernel_rfl)
      have HRW : Hid (W2.ownsRow w.heap.size 35 1 (.slice adc cl cc) cl L) := by have := HRN.out.rc.row; rw [hcl] at this; exact this
      have hRl : R < W2.heap.size := (Array.getElem?_eq_some_iff.1 HRN.out.blk).1
      have hwz : w.heap.size ≤ W2.heap.size := HRN.out.rc.bel.size
      have k4 : ∀ o, (W2.alloc o).cell? ⟨R, 1, none⟩ = some (.slice adc cl cc) := fun o => (World.cell?_of_block (w := W2) (Below.heap_alloc _ _ _ (by show R < _; omega))).trans d1
      have k5 : ∀ o, (W2.alloc o).cell? ⟨R, 2, none⟩ = some (.slice ado ol co) := fun o => (World.cell?_of_block (w := W2) (Below.heap_alloc _ _ _ (by show R < _; omega))).trans d2
      have HGO : Hid (∀ (w7 : World) g7 cap7, w7.ownsRow w.heap.size 35 1 (.slice (some ⟨g7, 0, none⟩) (cl + 1) cap7) (cl + 1) (L ++ [.slice ado ol co]) → (W2.alloc (.cells #[.slice ado ol co] 35)).grownBy w7 (Value.slice adc cl cc).ownBlock → w7.heap[R]? = some (.cells (rgC r (.slice adc cl cc) (.slice ado ol co)) 45 (0, 0)) ∧ w7.heap[Q]? = some (.cells #[.int .i64 0, .slice none 0 0] 24 (0, 0)) ∧ RC w w7 (r.cls ++ [r.op]) [] (.slice (some ⟨g7, 0, none⟩) (cl + 1) cap7) (.slice none 0 0) (L ++ [.slice ado ol co]) ∧ Stays W w7) := fun w7 g7 cap7 h3 h4 => by
        have h5 := HRN.out
        have h7 := h5.rc.row
        refine ⟨ps_keep h7 h4 h5.blk (by decide), ps_keep h7 h4 h5.res (by decide), ?_, fun j cs hj => Stays.grown h7 h4 (by decide) j cs (HSD.out j cs hj)⟩
        exact h5.rc.clause (op' := []) (vo' := .slice none 0 0) (x := .slice ado ol co) (vc' := .slice (some ⟨g7, 0, none⟩) (cl + 1) cap7) (w3 := w7) (by have := h5.rc.op; exact this) (World.ownsRow_nil _ _ _ _) (fun b hb => by cases hb) (by rw [hcl]; exact h3) h4
      go_wp2_with fail
      go_region_law
        (refine step_append_lies _ (by rfl) _ _ _ (by rfl) w.heap.size 35 i0 _ 1 24 Tryz.underlying22 hi0 hz0 hz1 hz2 rfl (by omega) (.slice adc cl cc) cl L (by rfl) ((HRW.out.alloc _).drew) ⟨W2.heap.size, 0, none⟩ 1 1 [.slice ado ol co] (by rfl) (by rfl) (World.news_of_block (cs := #[.slice ado ol co]) (t := 35) (fr := (0, 0)) (heap_alloc_new W2 _)) (by intro u hu; simp at hu; subst hu; rfl) (by omega) (by unfold maxLen; omega) (by omega) (by simp; omega) (W2.heap.size + 1) (by simp) ?_; intro g7 cap7 w7 hown7 hgrow hat hlt7; have HK7 := HGO.out w7 g7 cap7 hown7 ⟨hgrow.os, hgrow.tape, hgrow.output, hgrow.size, hgrow.block⟩; have e1 : w7.cell? ⟨R, 1, none⟩ = some (.slice adc cl cc) := rg_cell HK7.1 1; have f1 : w7.frozen? ⟨R, 1, none⟩ = false := rg_fz HK7.1 1; have e2 : w7.cell? ⟨R, 2, none⟩ = some (.slice ado ol co) := rg_cell HK7.1 2; have f2 : w7.frozen? ⟨R, 2, none⟩ = false := rg_fz HK7.1 2; have e6 : w7.cell? ⟨R, 6, none⟩ = some (.bool (!r.op.isEmpty)) := rg_cell HK7.1 6; have f6 : w7.frozen? ⟨R, 6, none⟩ = false := rg_fz HK7.1 6; have HKK : Hid (w7.heap[R]? = some (.cells (rgC r (.slice adc cl cc) (.slice ado ol co)) 45 (0, 0)) ∧ w7.heap[Q]? = some (.cells #[.int .i64 0, .slice none 0 0] 24 (0, 0)) ∧ RC w w7 (r.cls ++ [r.op]) [] (.slice (some ⟨g7, 0, none⟩) (cl + 1) cap7) (.slice none 0 0) (L ++ [.slice ado ol co]) ∧ Stays W w7) := HK7; clear hown7 hgrow hat hlt7 HK7)
      all_goals go_wp2
      all_goals
        have HFI : Hid (PP (.returned (.int .i64 0)) (((w7.setCell ⟨R, 1, none⟩ (.slice (some ⟨g7, 0, none⟩) (cl + 1) cap7)).setCell ⟨R, 2, none⟩ (.slice none 0 0)).setCell ⟨R, 6, none⟩ (.bool false))) := HPO.out _ _ _ _ _ HX.out (Stays.three HKK.out.2.2.2 HKK.out.1) (RG.three HKK.out.1 HKK.out.2.1 HKK.out.2.2.1 HRN.out.low HRN.out.lowq 1 2 6 _ _ _ _ rfl rfl rfl)
        first | exact HFI.out | (go_ret; exact HFI.out)
    have qB : (l == 0) = false := beq_eq_false_iff_ne.2 hB
    by_cases hD : ol = 65536
    · have HX : Hid (X = .error 22) := by show _ = _; rw [HTK.out]; unfold tkN; simp only; rw [if_neg (by rw [hcl]; exact hA), if_neg hB, if_pos (by rw [hol]; exact hD)]
      have q1 : ((ol : Int) == 65536) = true := beq_iff_eq.2 (by omega)
      clear HTK
      go_enter Tryz.func16, Tryz.ntmps16
      go_wp2_with fail
      refine HNU.out.mono ?_
      rintro e w1 ⟨he, hw⟩
      have he2 : e = .returned (.tuple #[.int .i64 l, .bool true]) := he
      subst he2
      obtain rfl := hw.symm
      clear he HNU
      go_wp2_with fail
      go_region
      clear c0 c1 c2 c3 c4
      generalize W.drew = W2 at *
      have d0 : W2.cell? ⟨R, 0, none⟩ = some (.int .i64 (r.vars : Int)) := rg_cell HRN.out.blk 0
      have d1 : W2.cell? ⟨R, 1, none⟩ = some (.slice adc cl cc) := rg_cell HRN.out.blk 1
      have d2 : W2.cell? ⟨R, 2, none⟩ = some (.slice ado ol co) := rg_cell HRN.out.blk 2
      have d4 : W2.cell? ⟨R, 4, none⟩ = some (.int .i64 (r.lits : Int)) := rg_cell HRN.out.blk 4
      have HFJ : Hid (PP (.returned (.int .i64 22)) W2) := HPE.out 22 W2 HX.out HRN.out
      clear HPE HPO HX HRD HRN
      go_wp2
      first | exact HFJ.out | (go_ret; exact HFJ.out)
    have qD : ((ol : Int) == 65536) = false := beq_eq_false_iff_ne.2 (by omega)
    have HVA : Hid (∀ W, Calls Tryz.prog 27 #[.int .i64 l] W fun e w' => e = .returned (.int .i64 (vr l)) ∧ w' = W) := fun W => rvarP l W hbd
    by_cases ham : vr l ≤ r.vars
    · have hamB : amB r.vars l = true := by rw [amB_low hV hB]; exact decide_eq_true ham
      have qv : ¬ (r.vars : Int) < vr l := by omega
      by_cases hE : r.lits = 4194304
      · have HX : Hid (X = .error 23) := by show _ = _; rw [HTK.out]; unfold tkN; simp only; rw [if_neg (by rw [hcl]; exact hA), if_neg hB, if_neg (by rw [hol]; exact hD), if_neg (by rw [hamB]; simp), if_pos hE]
        have q1 : ((r.lits : Int) == 4194304) = true := beq_iff_eq.2 (by omega)
        clear HTK hamB
        generalize vr l = VL at *
        go_enter Tryz.func16, Tryz.ntmps16
        go_wp2_with fail
        refine HNU.out.mono ?_
        rintro e w1 ⟨he, hw⟩
        have he2 : e = .returned (.tuple #[.int .i64 l, .bool true]) := he
        subst he2
        obtain rfl := hw.symm
        clear he HNU
        go_wp2_with fail
        go_region
        clear c0 c1 c2 c3 c4
        generalize W.drew = W2 at *
        have d0 : W2.cell? ⟨R, 0, none⟩ = some (.int .i64 (r.vars : Int)) := rg_cell HRN.out.blk 0
        have d1 : W2.cell? ⟨R, 1, none⟩ = some (.slice adc cl cc) := rg_cell HRN.out.blk 1
        have d2 : W2.cell? ⟨R, 2, none⟩ = some (.slice ado ol co) := rg_cell HRN.out.blk 2
        have d4 : W2.cell? ⟨R, 4, none⟩ = some (.int .i64 (r.lits : Int)) := rg_cell HRN.out.blk 4
        have HR3' : Hid (∀ m, RG w (W2.drewN m) R Q r (.slice adc cl cc) (.slice ado ol co) L ∧ Stays W (W2.drewN m)) := fun m => ⟨HRN.out.over ⟨rfl, rfl, rfl, Nat.le_refl _, fun _ _ => rfl⟩, fun j cs h => HSD.out j cs h⟩
        go_wp2_with fail
        go_quiet ((go_at_call 27; exact Calls.quiet_of_same (HVA.out _)))
        have HR3 : Hid (RG w (W2.drewN nq) R Q r (.slice adc cl cc) (.slice ado ol co) L) := (HR3'.out nq).1
        have HS3 : Hid (Stays W (W2.drewN nq)) := (HR3'.out nq).2
        clear d0 d1 d2 d4 HRN HVA HSD HR3'
        generalize W2.drewN nq = W3 at *
        have d2 : W3.cell? ⟨R, 2, none⟩ = some (.slice ado ol co) := rg_cell HR3.out.blk 2
        have d4 : W3.cell? ⟨R, 4, none⟩ = some (.int .i64 (r.lits : Int)) := rg_cell HR3.out.blk 4
        have HFJ : Hid (PP (.returned (.int .i64 23)) W3) := HPE.out 23 W3 HX.out HR3.out
        clear HPE HPO HX HR3
        go_wp2
        first | exact HFJ.out | (go_ret; exact HFJ.out)
      · have HX : Hid (X = .ok ⟨r.hd, r.vars, r.cnt, r.cls, r.op ++ [l], r.lits + 1⟩) := by show _ = _; rw [HTK.out]; unfold tkN; simp only; rw [if_neg (by rw [hcl]; exact hA), if_neg hB, if_neg (by rw [hol]; exact hD), if_neg (by rw [hamB]; simp), if_neg hE]
        have q1 : ((r.lits : Int) == 4194304) = false := beq_eq_false_iff_ne.2 (by omega)
        clear HTK HPE hamB
        generalize vr l = VL at *
        go_enter Tryz.func16, Tryz.ntmps16
        go_wp2_with fail
        refine HNU.out.mono ?_
        rintro e w1 ⟨he, hw⟩
        have he2 : e = .returned (.tuple #[.int .i64 l, .bool true]) := he
        subst he2
        obtain rfl := hw.symm
        clear he HNU
        go_wp2_with fail
        go_region
        clear c0 c1 c2 c3 c4
        generalize W.drew = W2 at *
        have d0 : W2.cell? ⟨R, 0, none⟩ = some (.int .i64 (r.vars : Int)) := rg_cell HRN.out.blk 0
        have d1 : W2.cell? ⟨R, 1, none⟩ = some (.slice adc cl cc) := rg_cell HRN.out.blk 1
        have d2 : W2.cell? ⟨R, 2, none⟩ = some (.slice ado ol co) := rg_cell HRN.out.blk 2
        have d4 : W2.cell? ⟨R, 4, none⟩ = some (.int .i64 (r.lits : Int)) := rg_cell HRN.out.blk 4
        have HR3' : Hid (∀ m, RG w (W2.drewN m) R Q r (.slice adc cl cc) (.slice ado ol co) L ∧ Stays W (W2.drewN m)) := fun m => ⟨HRN.out.over ⟨rfl, rfl, rfl, Nat.le_refl _, fun _ _ => rfl⟩, fun j cs h => HSD.out j cs h⟩
        go_wp2_with fail
        go_quiet ((go_at_call 27; exact Calls.quiet_of_same (HVA.out _)))
        have HR3 : Hid (RG w (W2.drewN nq) R Q r (.slice adc cl cc) (.slice ado ol co) L) := (HR3'.out nq).1
        have HS3 : Hid (Stays W (W2.drewN nq)) := (HR3'.out nq).2
        clear d0 d1 d2 d4 HRN HVA HSD HR3'
        generalize W2.drewN nq = W3 at *
        have d2 : W3.cell? ⟨R, 2, none⟩ = some (.slice ado ol co) := rg_cell HR3.out.blk 2
        have d4 : W3.cell? ⟨R, 4, none⟩ = some (.int .i64 (r.lits : Int)) := rg_cell HR3.out.blk 4
        obtain ⟨i0, hi0, hz0, hz1, hz2⟩ := info_parts (P := Tryz.prog) (e := 3) (z := .int .i64 0) (size := 1) (bytes := 8) (by kernel_rfl)
        have HRO : Hid (W3.ownsRow w.heap.size 3 1 (.slice ado ol co) ol (r.op.map (Value.int .i64))) := by have := HR3.out.rc.op; rw [hol] at this; exact this
        have hwz : w.heap.size ≤ W3.heap.size := HR3.out.rc.bel.size
        have HGO : Hid (∀ g6 cap6 (w6 : World) (o : Obj), w6.ownsRow w.heap.size 3 1 (.slice (some ⟨g6, 0, none⟩) (ol + 1) cap6) (ol + 1) (r.op.map (Value.int .i64) ++ [.int .i64 l]) → (W3.alloc o).grownBy w6 (Value.slice ado ol co).ownBlock → ((Value.slice ado ol co).ownBlock = some g6 ∨ g6 = W3.heap.size + 1) → w6.heap[R]? = some (.cells (rgC r (.slice adc cl cc) (.slice ado ol co)) 45 (0, 0)) ∧ w6.heap[Q]? = some (.cells #[.int .i64 0, .slice none 0 0] 24 (0, 0)) ∧ RC w w6 r.cls (r.op ++ [l]) (.slice adc cl cc) (.slice (some ⟨g6, 0, none⟩) (ol + 1) cap6) L ∧ Stays W w6) := fun g6 cap6 w6 o h1 h2 h3 => by
          rw [← hol] at h1 h2 h3 ⊢
          have h4 := HR3.out
          rw [← hol] at h4
          exact ⟨ps_keep h4.rc.op h2 h4.blk (by decide), ps_keep h4.rc.op h2 h4.res (by decide), h4.rc.lit h1 h2 rfl h3, fun j cs hj => Stays.grown h4.rc.op h2 (by decide) j cs (HS3.out j cs hj)⟩
        go_wp2_with (at_builtin; refine wpList_append_lies _ rfl _ _ 35 rfl w.heap.size 3 i0 _ 1 8 Tryz.underlying35 hi0 hz0 hz1 hz2 rfl (by decide) _ _ _ rfl (HRO.out.alloc _) ⟨W3.heap.size, 0, none⟩ 1 1 [.int .i64 l] rfl rfl (cell_one_new _ _ _) (by intro u hu; simp at hu; subst hu; rfl) (by omega) (by unfold maxLen; omega) (by omega) (by simp; omega) (W3.heap.size + 1) (by simp) ?_; intro g6 cap6 w6 hown6 hgrow6 hat6 hlt6; have HRR : Hid (w6.heap[R]? = some (.cells (rgC r (.slice adc cl cc) (.slice ado ol co)) 45 (0, 0)) ∧ w6.heap[Q]? = some (.cells #[.int .i64 0, .slice none 0 0] 24 (0, 0)) ∧ RC w w6 r.cls (r.op ++ [l]) (.slice adc cl cc) (.slice (some ⟨g6, 0, none⟩) (ol + 1) cap6) L ∧ Stays W w6) := HGO.out g6 cap6 w6 _ hown6 hgrow6 hat6; have e2 : w6.cell? ⟨R, 2, none⟩ = some (.slice ado ol co) := rg_cell HRR.out.1 2; have f2 : w6.frozen? ⟨R, 2, none⟩ = false := rg_fz HRR.out.1 2; have e4 : w6.cell? ⟨R, 4, none⟩ = some (.int .i64 (r.lits : Int)) := rg_cell HRR.out.1 4; have f4 : w6.frozen? ⟨R, 4, none⟩ = false := rg_fz HRR.out.1 4; have e6 : w6.cell? ⟨R, 6, none⟩ = some (.bool (!r.op.isEmpty)) := rg_cell HRR.out.1 6; have f6 : w6.frozen? ⟨R, 6, none⟩ = false := rg_fz HRR.out.1 6; clear hown6 hgrow6 hat6 hlt6; refine Hid.out ?_)
        refine Lib.hid ?_
        go_wp2
        have HFI : Hid (PP (.returned (.int .i64 0)) (((w6.setCell ⟨R, 2, none⟩ (.slice (some ⟨g6, 0, none⟩) (ol + 1) cap6)).setCell ⟨R, 4, none⟩ (.int .i64 ((r.lits : Int) + 1))).setCell ⟨R, 6, none⟩ (.bool true))) := HPO.out _ _ _ _ _ HX.out (Stays.three HRR.out.2.2.2 HRR.out.1) (RG.three HRR.out.1 HRR.out.2.1 HRR.out.2.2.1 HR3.out.low HR3.out.lowq 2 4 6 _ _ _ _ rfl rfl (by unfold rgC; rw [op_more]; rfl))
        first | exact HFI.out | (go_ret; exact HFI.out)
    · have HX : Hid (X = .error 20) := by show _ = _; rw [HTK.out]; unfold tkN; simp only; rw [if_neg (by rw [hcl]; exact hA), if_neg hB, if_neg (by rw [hol]; exact hD), if_pos (by rw [amB_low hV hB]; exact decide_eq_false ham)]
      have qv : (r.vars : Int) < vr l := by omega
      clear HTK
      generalize vr l = VL at *
      go_enter Tryz.func16, Tryz.ntmps16
      go_wp2_with fail
      refine HNU.out.mono ?_
      rintro e w1 ⟨he, hw⟩
      have he2 : e = .returned (.tuple #[.int .i64 l, .bool true]) := he
      subst he2
      obtain rfl := hw.symm
      clear he HNU
      go_wp2_with fail
      go_region
      clear c0 c1 c2 c3 c4
      generalize W.drew = W2 at *
      have d0 : W2.cell? ⟨R, 0, none⟩ = some (.int .i64 (r.vars : Int)) := rg_cell HRN.out.blk 0
      have d1 : W2.cell? ⟨R, 1, none⟩ = some (.slice adc cl cc) := rg_cell HRN.out.blk 1
      have d2 : W2.cell? ⟨R, 2, none⟩ = some (.slice ado ol co) := rg_cell HRN.out.blk 2
      have d4 : W2.cell? ⟨R, 4, none⟩ = some (.int .i64 (r.lits : Int)) := rg_cell HRN.out.blk 4
      have HR3' : Hid (∀ m, RG w (W2.drewN m) R Q r (.slice adc cl cc) (.slice ado ol co) L ∧ Stays W (W2.drewN m)) := fun m => ⟨HRN.out.over ⟨rfl, rfl, rfl, Nat.le_refl _, fun _ _ => rfl⟩, fun j cs h => HSD.out j cs h⟩
      go_wp2_with fail
      go_quiet ((go_at_call 27; exact Calls.quiet_of_same (HVA.out _)))
      have HR3 : Hid (RG w (W2.drewN nq) R Q r (.slice adc cl cc) (.slice ado ol co) L) := (HR3'.out nq).1
      have HS3 : Hid (Stays W (W2.drewN nq)) := (HR3'.out nq).2
      clear d0 d1 d2 d4 HRN HVA HSD HR3'
      generalize W2.drewN nq = W3 at *
      have d2 : W3.cell? ⟨R, 2, none⟩ = some (.slice ado ol co) := rg_cell HR3.out.blk 2
      have d4 : W3.cell? ⟨R, 4, none⟩ = some (.int .i64 (r.lits : Int)) := rg_cell HR3.out.blk 4
      have HFJ : Hid (PP (.returned (.int .i64 20)) W3) := HPE.out 20 W3 HX.out HR3.out
      clear HPE HPO HX HR3
      go_wp2
      first | exact HFJ.out | (go_ret; exact HFJ.out)
end Go.Proofs.YtbfaoepglifmfaaGreatDoor
