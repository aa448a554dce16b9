import Derived.Test.YtnknbijbhidpnaaGreatDoorPsM
import Derived.Test.YtnknbijbhidpnaaGreatDoorPsI
import Derived.Test.YtnknbijbhidpnaaGreatDoorSetR
import Derived.Deep.RegionHeld3
namespace Go.Proofs.YtnknbijbhidpnaaGreatDoor
open Go.ChangeShapes Go.WideShapes Go.ChangeAt Go.RowKit Go.Lib Go.Cn

theorem ps_cell {w : World} {G : Nat} {cs : Array Value} {e : TypeId} (h : w.heap[G]? = some (.cells cs e (0, 0))) (j : Nat) : w.cell? ⟨G, j, none⟩ = cs[j]? := by
  simp [World.cell?, h]
theorem ps_fz {w : World} {G : Nat} {cs : Array Value} {e : TypeId} (h : w.heap[G]? = some (.cells cs e (0, 0))) (j : Nat) : w.frozen? ⟨G, j, none⟩ = false := by simp [World.frozen?, h]
theorem ownB_len (ad : Option Addr) (n m c : Nat) : (Value.slice ad n c).ownBlock = (Value.slice ad m c).ownBlock := by cases ad <;> rfl
/-- the program's reader in memory -/
def rdC (r : RS) (vc vo : Value) : Array Value := #[.bool r.hd, .int .i64 (r.vars : Int), .int .i64 (r.cnt : Int), vc, vo, .int .i64 (r.lits : Int)]
structure RD (w wr : World) (R Q : Nat) (r : RS) (vc vo : Value) (L : List Value) : Prop where
  blk : wr.heap[R]? = some (.cells (rdC r vc vo) 54 (0, 0))
  res : wr.heap[Q]? = some (.cells #[.int .i64 0, .slice none 0 0] 24 (0, 0))
  rc : RC w wr r.cls r.op vc vo L
  low : w.heap.size ≤ R
  lowq : w.heap.size ≤ Q
theorem RD.over {w wr w' : World} {R Q : Nat} {r : RS} {vc vo : Value} {L : List Value} (h : RD w wr R Q r vc vo L) (hb : Below wr.heap.size wr w') : RD w w' R Q r vc vo L :=
  ⟨(hb.block R (Array.getElem?_eq_some_iff.1 h.blk).1).trans h.blk, (hb.block Q (Array.getElem?_eq_some_iff.1 h.res).1).trans h.res, h.rc.over hb, h.low, h.lowq⟩
/-- two cells of the reader are set -/
theorem RD.two {w W : World} {R Q : Nat} {cs : Array Value} {cls : List (List Int)} {op : List Int} {vc vo : Value} {L : List Value} (blk : W.heap[R]? = some (.cells cs 54 (0, 0))) (res : W.heap[Q]? = some (.cells #[.int .i64 0, .slice none 0 0] 24 (0, 0))) (rc : RC w W cls op vc vo L) (low : w.heap.size ≤ R) (lowq : w.heap.size ≤ Q)
    (i j : Nat) (a b : Value) (r' : RS) (hc : r'.cls = cls) (ho : r'.op = op) (hset : (cs.setIfInBounds i a).setIfInBounds j b = rdC r' vc vo) : RD w ((W.setCell ⟨R, i, none⟩ a).setCell ⟨R, j, none⟩ b) R Q r' vc vo L := by
  have hq : Q ≠ R := fun e => by rw [e, blk] at res; cases res
  have h1 := heap_setCell_same W R i _ _ a blk
  refine ⟨?_, ?_, ?_, low, lowq⟩
  · rw [heap_setCell_same _ R j _ _ b h1, hset]
  · rw [heap_setCell_other _ _ _ _ hq, heap_setCell_other _ _ _ _ hq]
    exact res
  · rw [hc, ho]
    exact (rc.set i a blk (by decide) (by decide) low).set j b h1 (by decide) (by decide) low
/-- what taking a word answers -/
def TKP (w : World) (R Q : Nat) (x : Except Int RS) (e : Ending) (w' : World) : Prop := match x with
  | .error k => e = .returned (.int .i64 k) ∧ w'.heap[Q]? = some (.cells #[.int .i64 0, .slice none 0 0] 24 (0, 0)) ∧ Below w.heap.size w w'
  | .ok r' => e = .returned (.int .i64 0) ∧ ∃ vc vo L, RD w w' R Q r' vc vo L
theorem TKP.err {w w' : World} {R Q : Nat} {x : Except Int RS} {k : Int} {r : RS} {vc vo : Value} {L : List Value} (hx : x = .error k) (h : RD w w' R Q r vc vo L) : TKP w R Q x (.returned (.int .i64 k)) w' := by
  rw [hx]
  exact ⟨rfl, h.res, h.rc.bel⟩
theorem TKP.ok {w w' : World} {R Q : Nat} {x : Except Int RS} {r' : RS} {vc vo : Value} {L : List Value} (hx : x = .ok r') (h : RD w w' R Q r' vc vo L) : TKP w R Q x (.returned (.int .i64 0)) w' := by
  rw [hx]
  exact ⟨rfl, vc, vo, L, h⟩
set_option maxHeartbeats 4000000 in
set_option maxRecDepth 100000 in
theorem take_of (w W : World) (R Q : Nat) (r : RS) (vc vo : Value) (L : List Value) (s : ByteArray) (hs : s.size ≤ 4000000000) (h : RD w W R Q r vc vo L) (hi : RSI r) (hS : SENT W)
    (HAM0 : ∀ l v W, Calls Tryz.prog 32 #[.int .i64 l, .int .i64 v] W fun e w' => e = .returned (.bool (amB v l)) ∧ w' = W)
    (HCL0 : ∀ (v : Value) (xs : List Int) (B : Nat) (W : World), W.ownsRow B 3 1 v xs.length (xs.map (Value.int .i64)) → xs.length ≤ 65536 → Calls Tryz.prog 40 #[v] W fun e w' => ∃ v', e = .returned v' ∧ w'.ownsRow W.heap.size 3 1 v' xs.length (xs.map (Value.int .i64)) ∧ Below W.heap.size W w') :
    Calls Tryz.prog 21 #[.pointer (some ⟨R, 0, none⟩), .string s] W (TKP w R Q (tk r s.data.toList)) := by
  have HNU : Hid (Calls Tryz.prog 39 #[.string s] W fun e w' => e = numE (numW s.data.toList) ∧ Below W.heap.size W w') := number_any s W (by omega) hS
  have HRD : Hid (RD w W R Q r vc vo L) := h
  have HAM : Hid (∀ l v W, Calls Tryz.prog 32 #[.int .i64 l, .int .i64 v] W fun e w' => e = .returned (.bool (amB v l)) ∧ w' = W) := HAM0
  clear h HAM0 hS
  cases hn : numW s.data.toList with
  | none =>
    rw [hn] at HNU
    have HX : Hid (tk r s.data.toList = .error 3) := by show _ = _; unfold tk; rw [hn]; rfl
    clear HAM HCL0 hn
    generalize tk r s.data.toList = X at *
    go_enter Tryz.func21, Tryz.ntmps21
    go_wp2_with fail
    refine HNU.out.mono ?_
    rintro e w1 ⟨he, hb⟩
    have he2 : e = .returned (.tuple #[.int .i64 0, .bool false]) := he
    subst he2
    have HFI : Hid (TKP w R Q X (.returned (.int .i64 3)) w1) := TKP.err HX.out (HRD.out.over hb)
    clear he hb HRD HX
    go_wp2
    first | exact HFI.out | (go_ret; exact HFI.out)
  | some l =>
    have hV := hi.vars
    have hC := hi.cnt
    have hL := hi.lits
    have hO := hi.op
    have hCl := hi.cls
    rw [hn] at HNU
    obtain ⟨adc, cc, rfl, hadc⟩ := ps_form HRD.out.rc.row
    obtain ⟨ado, co, rfl, hado⟩ := ps_form HRD.out.rc.op
    have HTK : Hid (tk r s.data.toList = tkN r (some l)) := by show _ = _; unfold tk; rw [hn]
    generalize tk r s.data.toList = X at *
    clear hn hi
    obtain ⟨cl, hcl⟩ : ∃ cl, r.cls.length = cl := ⟨_, rfl⟩
    obtain ⟨ol, hol⟩ : ∃ ol, r.op.length = ol := ⟨_, rfl⟩
    rw [hcl, hol] at HRD
    rw [hcl] at hCl
    rw [hol] at hO
    by_cases hA : cl = r.cnt
    · have HX : Hid (X = .error 23) := by show _ = _; rw [HTK.out]; unfold tkN; simp only; rw [if_pos (by rw [hcl]; exact hA)]
      have q1 : ((cl : Int) == (r.cnt : Int)) = true := beq_iff_eq.2 (by omega)
      clear HTK HAM HCL0
      go_enter Tryz.func21, Tryz.ntmps21
      go_wp2_with fail
      refine HNU.out.mono ?_
      rintro e w1 ⟨he, hb⟩
      have he2 : e = .returned (.tuple #[.int .i64 l, .bool true]) := he
      subst he2
      have HR1 : Hid (RD w w1 R Q r (.slice adc cl cc) (.slice ado ol co) L) := HRD.out.over hb
      have c2 : w1.cell? ⟨R, 2, none⟩ = some (.int .i64 (r.cnt : Int)) := ps_cell HR1.out.blk 2
      have c3 : w1.cell? ⟨R, 3, none⟩ = some (.slice adc cl cc) := ps_cell HR1.out.blk 3
      have HR2 : Hid (RD w w1.drew R Q r (.slice adc cl cc) (.slice ado ol co) L) := HR1.out.over ⟨rfl, rfl, rfl, Nat.le_refl _, fun _ _ => rfl⟩
      clear he hb HRD HNU HR1
      go_wp2_with fail
      go_region
      clear c2 c3
      generalize w1.drew = w2 at *
      have d1 : w2.cell? ⟨R, 1, none⟩ = some (.int .i64 (r.vars : Int)) := ps_cell HR2.out.blk 1
      have d3 : w2.cell? ⟨R, 3, none⟩ = some (.slice adc cl cc) := ps_cell HR2.out.blk 3
      have d4 : w2.cell? ⟨R, 4, none⟩ = some (.slice ado ol co) := ps_cell HR2.out.blk 4
      have d5 : w2.cell? ⟨R, 5, none⟩ = some (.int .i64 (r.lits : Int)) := ps_cell HR2.out.blk 5
      have HFI : Hid (TKP w R Q X (.returned (.int .i64 23)) w2) := TKP.err HX.out HR2.out
      clear HR2
      go_wp2
      first | exact HFI.out | (go_ret; exact HFI.out)
    have qA : ((cl : Int) == (r.cnt : Int)) = false := beq_eq_false_iff_ne.2 (by omega)
    by_cases hB : l = 0
    · subst hB
      have HX : Hid (X = .ok ⟨r.hd, r.vars, r.cnt, r.cls ++ [r.op], [], r.lits⟩) := by show _ = _; rw [HTK.out]; unfold tkN; simp only; rw [if_neg (by rw [hcl]; exact hA), if_pos trivial]
      have HCW : Hid (∀ (W' : World), RD w W' R Q r (.slice adc cl cc) (.slice ado ol co) L → Calls Tryz.prog 40 #[.slice ado ol co] W' fun e w' => ∃ v', e = .returned v' ∧ w'.ownsRow W'.heap.size 3 1 v' ol (r.op.map (Value.int .i64)) ∧ Below W'.heap.size W' w') := fun W' h5 => by
        have h6 := HCL0 (.slice ado ol co) r.op w.heap.size W' (by have := h5.rc.op; rw [hol] at this ⊢; exact this) (by omega)
        rw [hol] at h6
        exact h6
      clear HTK HAM HCL0
      go_enter Tryz.func21, Tryz.ntmps21
      go_wp2_with fail
      refine HNU.out.mono ?_
      rintro e w1 ⟨he, hb⟩
      have he2 : e = .returned (.tuple #[.int .i64 0, .bool true]) := he
      subst he2
      have HR1 : Hid (RD w w1 R Q r (.slice adc cl cc) (.slice ado ol co) L) := HRD.out.over hb
      have c2 : w1.cell? ⟨R, 2, none⟩ = some (.int .i64 (r.cnt : Int)) := ps_cell HR1.out.blk 2
      have c3 : w1.cell? ⟨R, 3, none⟩ = some (.slice adc cl cc) := ps_cell HR1.out.blk 3
      have HR2 : Hid (RD w w1.drew R Q r (.slice adc cl cc) (.slice ado ol co) L) := HR1.out.over ⟨rfl, rfl, rfl, Nat.le_refl _, fun _ _ => rfl⟩
      clear he hb HRD HNU HR1
      go_wp2_with fail
      go_region
      clear c2 c3
      generalize w1.drew = w2 at *
      have d1 : w2.cell? ⟨R, 1, none⟩ = some (.int .i64 (r.vars : Int)) := ps_cell HR2.out.blk 1
      have d3 : w2.cell? ⟨R, 3, none⟩ = some (.slice adc cl cc) := ps_cell HR2.out.blk 3
      have d4 : w2.cell? ⟨R, 4, none⟩ = some (.slice ado ol co) := ps_cell HR2.out.blk 4
      have d5 : w2.cell? ⟨R, 5, none⟩ = some (.int .i64 (r.lits : Int)) := ps_cell HR2.out.blk 5
      have HC2 : Hid (Calls Tryz.prog 40 #[.slice ado ol co] w2.drew fun e w' => ∃ v', e = .returned v' ∧ w'.ownsRow w2.heap.size 3 1 v' ol (r.op.map (Value.int .i64)) ∧ Below w2.heap.size w2.drew w') := HCW.out w2.drew (HR2.out.over ⟨rfl, rfl, rfl, Nat.le_refl _, fun _ _ => rfl⟩)
      obtain ⟨i0, hi0, hz0, hz1, hz2⟩ := info_parts (P := Tryz.prog) (e := 37) (z := .slice none 0 0) (size := 1) (bytes := 24) (by kernel_rfl)
      have HRW : Hid (w2.ownsRow w.heap.size 37 1 (.slice adc cl cc) cl L) := by have := HR2.out.rc.row; rw [hcl] at this; exact this
      have HRB : Hid (w2.heap[R]? = some (.cells (rdC r (.slice adc cl cc) (.slice ado ol co)) 54 (0, 0))) := HR2.out.blk
      have hRl : R < w2.heap.size := (Array.getElem?_eq_some_iff.1 HRB.out).1
      have hwz : w.heap.size ≤ w2.heap.size := HR2.out.rc.bel.size
      have hneR : (Value.slice adc cl cc).ownBlock ≠ some R := ps_ne HRW.out HRB.out (by decide)
      have HGO : Hid (∀ (w6 w7 : World) a6 c6 g7 cap7, Below w2.heap.size w2.drew w6 → w6.ownsRow w2.heap.size 3 1 (.slice a6 ol c6) ol (r.op.map (Value.int .i64)) → w7.ownsRow w.heap.size 37 1 (.slice (some ⟨g7, 0, none⟩) (cl + 1) cap7) (cl + 1) (L ++ [.slice a6 ol c6]) → (w6.alloc (.cells #[.slice a6 ol c6] 37)).grownBy w7 (Value.slice adc cl cc).ownBlock → w7.heap[R]? = some (.cells (rdC r (.slice adc cl cc) (.slice ado ol co)) 54 (0, 0)) ∧ w7.heap[Q]? = some (.cells #[.int .i64 0, .slice none 0 0] 24 (0, 0)) ∧ RC w w7 (r.cls ++ [r.op]) [] (.slice (some ⟨g7, 0, none⟩) (cl + 1) cap7) (.slice ado 0 co) (L ++ [.slice a6 ol c6])) := fun w6 w7 a6 c6 g7 cap7 h1 h2 h3 h4 => by
        have h5 : RD w w6 R Q r (.slice adc cl cc) (.slice ado ol co) L := HR2.out.over ⟨h1.os, h1.tape, h1.output, h1.size, h1.block⟩
        have h6 := h5.rc.op
        rw [hol] at h6
        have h7 := h5.rc.row
        refine ⟨ps_keep h7 h4 h5.blk (by decide), ps_keep h7 h4 h5.res (by decide), ?_⟩
        have h8 := h5.rc.clause (op' := []) (vo' := .slice ado 0 co) (x := .slice a6 ol c6) (vc' := .slice (some ⟨g7, 0, none⟩) (cl + 1) cap7) (w3 := w7) (by rw [hol]; exact ps_up h2 hwz) (ps_zero h6) (fun b hb => ⟨(ownB_len ado ol 0 co).trans hb, fun e => ?_⟩) (by rw [hcl]; exact h3) h4
        · exact h8
        · have h9 := (h2.lt b e).1
          have h10 : (Value.slice ado ol co).ownBlock = some b := (ownB_len ado ol 0 co).trans hb
          have h11 := (HR2.out.rc.op.lt b h10).2
          omega
      clear HCW
      go_wp2_with fail
      go_region_law
        (first
          | (go_simp; go_at_call 40; refine HC2.out.mono ?_; rintro e w6 ⟨v6, rfl, ho6, hb6⟩; obtain ⟨a6, c6, rfl, _⟩ := ps_form ho6; have hs6 : w2.heap.size ≤ w6.heap.size := hb6.size; have k1 : w6.heap[R]? = some (.cells (rdC r (.slice adc cl cc) (.slice ado ol co)) 54 (0, 0)) := (hb6.block _ hRl).trans HRB.out; have k2 : w6.cell? ⟨R, 3, none⟩ = some (.slice adc cl cc) := ps_cell k1 3; have k3 : w6.frozen? ⟨R, 3, none⟩ = false := ps_fz k1 3; have k4 : ∀ o, (w6.alloc o).cell? ⟨R, 3, none⟩ = some (.slice adc cl cc) := (fun o => (World.cell?_of_block (w := w6) (Below.heap_alloc _ _ _ (by show R < _; omega))).trans k2); have k5 : ∀ o, (w6.alloc o).frozen? ⟨R, 3, none⟩ = false := (fun o => ps_fz ((Below.heap_alloc _ _ _ (by omega)).trans k1) 3); have HK6 : Hid (Below w2.heap.size w2.drew w6 ∧ w6.ownsRow w2.heap.size 3 1 (.slice a6 ol c6) ol (r.op.map (Value.int .i64))) := ⟨hb6, ho6⟩; have HKR : Hid (w6.ownsRow w.heap.size 37 1 (.slice adc cl cc) cl L) := ps_same HRW.out (fun j hj => hb6.block j (HRW.out.lt j hj).2); clear ho6 hb6 k1)
          | (refine step_append_lies _ (by rfl) _ _ _ (by rfl) w.heap.size 37 i0 _ 1 24 Tryz.underlying22 hi0 hz0 hz1 hz2 rfl (by omega) (.slice adc cl cc) cl L (by rfl) ((HKR.out.alloc _).drew) ⟨w6.heap.size, 0, none⟩ 1 1 [.slice a6 ol c6] (by rfl) (by rfl) (World.news_of_block (cs := #[.slice a6 ol c6]) (t := 37) (fr := (0, 0)) (heap_alloc_new w6 _)) (by intro u hu; simp at hu; subst hu; rfl) (by omega) (by unfold maxLen; omega) (by omega) (by simp; omega) (w6.heap.size + 1) (by simp) ?_; intro g7 cap7 w7 hown7 hgrow hat hlt7; have HK7 := HGO.out w6 w7 a6 c6 g7 cap7 HK6.out.1 HK6.out.2 hown7 hgrow; have k8 : w7.cell? ⟨R, 3, none⟩ = some (.slice adc cl cc) := ps_cell HK7.1 3; have k9 : w7.frozen? ⟨R, 3, none⟩ = false := ps_fz HK7.1 3; have k10 : w7.cell? ⟨R, 4, none⟩ = some (.slice ado ol co) := ps_cell HK7.1 4; have k11 : w7.frozen? ⟨R, 4, none⟩ = false := ps_fz HK7.1 4; have HKK : Hid (w7.heap[R]? = some (.cells (rdC r (.slice adc cl cc) (.slice ado ol co)) 54 (0, 0)) ∧ w7.heap[Q]? = some (.cells #[.int .i64 0, .slice none 0 0] 24 (0, 0)) ∧ RC w w7 (r.cls ++ [r.op]) [] (.slice (some ⟨g7, 0, none⟩) (cl + 1) cap7) (.slice ado 0 co) (L ++ [.slice a6 ol c6])) := HK7; clear hown7 hgrow hat hlt7 HK7))
      all_goals go_wp2
      all_goals
        have HFI : Hid (TKP w R Q X (.returned (.int .i64 0)) ((w7.setCell ⟨R, 3, none⟩ (.slice (some ⟨g7, 0, none⟩) (cl + 1) cap7)).setCell ⟨R, 4, none⟩ (.slice ado 0 co))) := TKP.ok HX.out (RD.two HKK.out.1 HKK.out.2.1 HKK.out.2.2 HR2.out.low HR2.out.lowq 3 4 _ _ _ rfl rfl rfl)
        first | exact HFI.out | (go_ret; exact HFI.out)
    have qB : (l == 0) = false := beq_eq_false_iff_ne.2 hB
    by_cases hD : ol = 65536
    · have HX : Hid (X = .error 22) := by show _ = _; rw [HTK.out]; unfold tkN; simp only; rw [if_neg (by rw [hcl]; exact hA), if_neg hB, if_pos (by rw [hol]; exact hD)]
      have q1 : ((ol : Int) == 65536) = true := beq_iff_eq.2 (by omega)
      clear HTK HAM HCL0
      go_enter Tryz.func21, Tryz.ntmps21
      go_wp2_with fail
      refine HNU.out.mono ?_
      rintro e w1 ⟨he, hb⟩
      have he2 : e = .returned (.tuple #[.int .i64 l, .bool true]) := he
      subst he2
      have HR1 : Hid (RD w w1 R Q r (.slice adc cl cc) (.slice ado ol co) L) := HRD.out.over hb
      have c2 : w1.cell? ⟨R, 2, none⟩ = some (.int .i64 (r.cnt : Int)) := ps_cell HR1.out.blk 2
      have c3 : w1.cell? ⟨R, 3, none⟩ = some (.slice adc cl cc) := ps_cell HR1.out.blk 3
      have HR2 : Hid (RD w w1.drew R Q r (.slice adc cl cc) (.slice ado ol co) L) := HR1.out.over ⟨rfl, rfl, rfl, Nat.le_refl _, fun _ _ => rfl⟩
      clear he hb HRD HNU HR1
      go_wp2_with fail
      go_region
      clear c2 c3
      generalize w1.drew = w2 at *
      have d1 : w2.cell? ⟨R, 1, none⟩ = some (.int .i64 (r.vars : Int)) := ps_cell HR2.out.blk 1
      have d3 : w2.cell? ⟨R, 3, none⟩ = some (.slice adc cl cc) := ps_cell HR2.out.blk 3
      have d4 : w2.cell? ⟨R, 4, none⟩ = some (.slice ado ol co) := ps_cell HR2.out.blk 4
      have d5 : w2.cell? ⟨R, 5, none⟩ = some (.int .i64 (r.lits : Int)) := ps_cell HR2.out.blk 5
      have HFI : Hid (TKP w R Q X (.returned (.int .i64 22)) w2) := TKP.err HX.out HR2.out
      clear HR2
      go_wp2
      first | exact HFI.out | (go_ret; exact HFI.out)
    have qD : ((ol : Int) == 65536) = false := beq_eq_false_iff_ne.2 (by omega)
    have HA2 : Hid (∀ W, Calls Tryz.prog 32 #[.int .i64 l, .int .i64 (r.vars : Int)] W fun e w' => e = .returned (.bool (amB r.vars l)) ∧ w' = W) := fun W => HAM.out l r.vars W
    clear HAM
    cases ham : amB r.vars l with
    | false =>
      rw [ham] at HA2
      have HX : Hid (X = .error 20) := by show _ = _; rw [HTK.out]; unfold tkN; simp only; rw [if_neg (by rw [hcl]; exact hA), if_neg hB, if_neg (by rw [hol]; exact hD), if_pos ham]
      clear HTK HCL0 ham
      go_enter Tryz.func21, Tryz.ntmps21
      go_wp2_with fail
      refine HNU.out.mono ?_
      rintro e w1 ⟨he, hb⟩
      have he2 : e = .returned (.tuple #[.int .i64 l, .bool true]) := he
      subst he2
      have HR1 : Hid (RD w w1 R Q r (.slice adc cl cc) (.slice ado ol co) L) := HRD.out.over hb
      have c2 : w1.cell? ⟨R, 2, none⟩ = some (.int .i64 (r.cnt : Int)) := ps_cell HR1.out.blk 2
      have c3 : w1.cell? ⟨R, 3, none⟩ = some (.slice adc cl cc) := ps_cell HR1.out.blk 3
      have HR2 : Hid (RD w w1.drew R Q r (.slice adc cl cc) (.slice ado ol co) L) := HR1.out.over ⟨rfl, rfl, rfl, Nat.le_refl _, fun _ _ => rfl⟩
      clear he hb HRD HNU HR1
      go_wp2_with fail
      go_region
      clear c2 c3
      generalize w1.drew = w2 at *
      have d1 : w2.cell? ⟨R, 1, none⟩ = some (.int .i64 (r.vars : Int)) := ps_cell HR2.out.blk 1
      have d3 : w2.cell? ⟨R, 3, none⟩ = some (.slice adc cl cc) := ps_cell HR2.out.blk 3
      have d4 : w2.cell? ⟨R, 4, none⟩ = some (.slice ado ol co) := ps_cell HR2.out.blk 4
      have d5 : w2.cell? ⟨R, 5, none⟩ = some (.int .i64 (r.lits : Int)) := ps_cell HR2.out.blk 5
      have HFI : Hid (TKP w R Q X (.returned (.int .i64 20)) w2) := TKP.err HX.out HR2.out
      clear HR2
      go_wp2_with fail
      refine (HA2.out _).mono ?_
      rintro e w' ⟨rfl, hw⟩
      obtain rfl := hw.symm
      go_wp2
      first | exact HFI.out | (go_ret; exact HFI.out)
    | true =>
      rw [ham] at HA2
      by_cases hE : r.lits = 4194304
      · have HX : Hid (X = .error 23) := by show _ = _; rw [HTK.out]; unfold tkN; simp only; rw [if_neg (by rw [hcl]; exact hA), if_neg hB, if_neg (by rw [hol]; exact hD), if_neg (by rw [ham]; simp), if_pos hE]
        have q1 : ((r.lits : Int) == 4194304) = true := beq_iff_eq.2 (by omega)
        clear HTK HCL0 ham
        go_enter Tryz.func21, Tryz.ntmps21
        go_wp2_with fail
        refine HNU.out.mono ?_
        rintro e w1 ⟨he, hb⟩
        have he2 : e = .returned (.tuple #[.int .i64 l, .bool true]) := he
        subst he2
        have HR1 : Hid (RD w w1 R Q r (.slice adc cl cc) (.slice ado ol co) L) := HRD.out.over hb
        have c2 : w1.cell? ⟨R, 2, none⟩ = some (.int .i64 (r.cnt : Int)) := ps_cell HR1.out.blk 2
        have c3 : w1.cell? ⟨R, 3, none⟩ = some (.slice adc cl cc) := ps_cell HR1.out.blk 3
        have HR2 : Hid (RD w w1.drew R Q r (.slice adc cl cc) (.slice ado ol co) L) := HR1.out.over ⟨rfl, rfl, rfl, Nat.le_refl _, fun _ _ => rfl⟩
        clear he hb HRD HNU HR1
        go_wp2_with fail
        go_region
        clear c2 c3
        generalize w1.drew = w2 at *
        have d1 : w2.cell? ⟨R, 1, none⟩ = some (.int .i64 (r.vars : Int)) := ps_cell HR2.out.blk 1
        have d3 : w2.cell? ⟨R, 3, none⟩ = some (.slice adc cl cc) := ps_cell HR2.out.blk 3
        have d4 : w2.cell? ⟨R, 4, none⟩ = some (.slice ado ol co) := ps_cell HR2.out.blk 4
        have d5 : w2.cell? ⟨R, 5, none⟩ = some (.int .i64 (r.lits : Int)) := ps_cell HR2.out.blk 5
        have HFI : Hid (TKP w R Q X (.returned (.int .i64 23)) w2) := TKP.err HX.out HR2.out
        clear HR2
        go_wp2_with fail
        refine (HA2.out _).mono ?_
        rintro e w' ⟨rfl, hw⟩
        obtain rfl := hw.symm
        go_wp2
        first | exact HFI.out | (go_ret; exact HFI.out)
      · have HX : Hid (X = .ok ⟨r.hd, r.vars, r.cnt, r.cls, r.op ++ [l], r.lits + 1⟩) := by show _ = _; rw [HTK.out]; unfold tkN; simp only; rw [if_neg (by rw [hcl]; exact hA), if_neg hB, if_neg (by rw [hol]; exact hD), if_neg (by rw [ham]; simp), if_neg hE]
        have q1 : ((r.lits : Int) == 4194304) = false := beq_eq_false_iff_ne.2 (by omega)
        clear HTK HCL0 ham
        go_enter Tryz.func21, Tryz.ntmps21
        go_wp2_with fail
        refine HNU.out.mono ?_
        rintro e w1 ⟨he, hb⟩
        have he2 : e = .returned (.tuple #[.int .i64 l, .bool true]) := he
        subst he2
        have HR1 : Hid (RD w w1 R Q r (.slice adc cl cc) (.slice ado ol co) L) := HRD.out.over hb
        have c2 : w1.cell? ⟨R, 2, none⟩ = some (.int .i64 (r.cnt : Int)) := ps_cell HR1.out.blk 2
        have c3 : w1.cell? ⟨R, 3, none⟩ = some (.slice adc cl cc) := ps_cell HR1.out.blk 3
        have HR2 : Hid (RD w w1.drew R Q r (.slice adc cl cc) (.slice ado ol co) L) := HR1.out.over ⟨rfl, rfl, rfl, Nat.le_refl _, fun _ _ => rfl⟩
        clear he hb HRD HNU HR1
        go_wp2_with fail
        go_region
        clear c2 c3
        generalize w1.drew = w2 at *
        have d1 : w2.cell? ⟨R, 1, none⟩ = some (.int .i64 (r.vars : Int)) := ps_cell HR2.out.blk 1
        have d3 : w2.cell? ⟨R, 3, none⟩ = some (.slice adc cl cc) := ps_cell HR2.out.blk 3
        have d4 : w2.cell? ⟨R, 4, none⟩ = some (.slice ado ol co) := ps_cell HR2.out.blk 4
        have d5 : w2.cell? ⟨R, 5, none⟩ = some (.int .i64 (r.lits : Int)) := ps_cell HR2.out.blk 5
        obtain ⟨i0, hi0, hz0, hz1, hz2⟩ := info_parts (P := Tryz.prog) (e := 3) (z := .int .i64 0) (size := 1) (bytes := 8) (by kernel_rfl)
        have HRO : Hid (w2.ownsRow w.heap.size 3 1 (.slice ado ol co) ol (r.op.map (Value.int .i64))) := by have := HR2.out.rc.op; rw [hol] at this; exact this
        have hwz : w.heap.size ≤ w2.heap.size := HR2.out.rc.bel.size
        have HGO : Hid (∀ g6 cap6 (w6 : World) (o : Obj), w6.ownsRow w.heap.size 3 1 (.slice (some ⟨g6, 0, none⟩) (ol + 1) cap6) (ol + 1) (r.op.map (Value.int .i64) ++ [.int .i64 l]) → (w2.alloc o).grownBy w6 (Value.slice ado ol co).ownBlock → ((Value.slice ado ol co).ownBlock = some g6 ∨ g6 = w2.heap.size + 1) → w6.heap[R]? = some (.cells (rdC r (.slice adc cl cc) (.slice ado ol co)) 54 (0, 0)) ∧ w6.heap[Q]? = some (.cells #[.int .i64 0, .slice none 0 0] 24 (0, 0)) ∧ RC w w6 r.cls (r.op ++ [l]) (.slice adc cl cc) (.slice (some ⟨g6, 0, none⟩) (ol + 1) cap6) L) := fun g6 cap6 w6 o h1 h2 h3 => by
          rw [← hol] at h1 h2 h3 ⊢
          have h4 := HR2.out
          rw [← hol] at h4
          exact ⟨ps_keep h4.rc.op h2 h4.blk (by decide), ps_keep h4.rc.op h2 h4.res (by decide), h4.rc.lit h1 h2 rfl h3⟩
        go_wp2_with fail
        refine (HA2.out _).mono ?_
        rintro e w' ⟨rfl, hw⟩
        obtain rfl := hw.symm
        go_wp2_with (at_builtin; refine wpList_append_lies _ rfl _ _ 37 rfl w.heap.size 3 i0 _ 1 8 Tryz.underlying37 hi0 hz0 hz1 hz2 rfl (by decide) _ _ _ rfl (HRO.out.alloc _) ⟨w2.heap.size, 0, none⟩ 1 1 [.int .i64 l] rfl rfl (cell_one_new _ _ _) (by intro u hu; simp at hu; subst hu; rfl) (by omega) (by unfold maxLen; omega) (by omega) (by simp; omega) (w2.heap.size + 1) (by simp) ?_; intro g6 cap6 w6 hown6 hgrow6 hat6 hlt6; have HRR : Hid (w6.heap[R]? = some (.cells (rdC r (.slice adc cl cc) (.slice ado ol co)) 54 (0, 0)) ∧ w6.heap[Q]? = some (.cells #[.int .i64 0, .slice none 0 0] 24 (0, 0)) ∧ RC w w6 r.cls (r.op ++ [l]) (.slice adc cl cc) (.slice (some ⟨g6, 0, none⟩) (ol + 1) cap6) L) := HGO.out g6 cap6 w6 _ hown6 hgrow6 hat6; have e4 : w6.cell? ⟨R, 4, none⟩ = some (.slice ado ol co) := ps_cell HRR.out.1 4; have f4 : w6.frozen? ⟨R, 4, none⟩ = false := ps_fz HRR.out.1 4; have e5 : w6.cell? ⟨R, 5, none⟩ = some (.int .i64 (r.lits : Int)) := ps_cell HRR.out.1 5; have f5 : w6.frozen? ⟨R, 5, none⟩ = false := ps_fz HRR.out.1 5; clear hown6 hgrow6 hat6 hlt6; refine Hid.out ?_)
        refine Lib.hid ?_
        go_wp2
        have HFI : Hid (TKP w R Q X (.returned (.int .i64 0)) ((w6.setCell ⟨R, 4, none⟩ (.slice (some ⟨g6, 0, none⟩) (ol + 1) cap6)).setCell ⟨R, 5, none⟩ (.int .i64 ((r.lits : Int) + 1)))) := TKP.ok HX.out (RD.two HRR.out.1 HRR.out.2.1 HRR.out.2.2 HR2.out.low HR2.out.lowq 4 5 _ _ _ rfl rfl rfl)
        first | exact HFI.out | (go_ret; exact HFI.out)
end Go.Proofs.YtnknbijbhidpnaaGreatDoor
