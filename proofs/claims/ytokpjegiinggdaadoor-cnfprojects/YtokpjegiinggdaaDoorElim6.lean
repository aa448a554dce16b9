import Derived.Test.YtokpjegiinggdaaDoorElim5
import Derived.Laws.EntriesVeiled
namespace Go.Proofs.YtokpjegiinggdaaDoor
open Go.ChangeShapes Go.WideShapes Go.ChangeAt Go.RowKit Go.Cn Go.WideMaps Go.Maps

def wkL (ys : List (List Int)) : Int := ys.foldl (fun a c => wrap64 (a + (c.length : Int))) 0
theorem wkL_snoc (ys : List (List Int)) (c : List Int) : wkL (ys ++ [c]) = wrap64 (wkL ys + (c.length : Int)) := by unfold wkL; rw [List.foldl_append]; rfl
set_option maxHeartbeats 2000000 in
theorem work_is (ad bd : Option Addr) (p : Nat) (ys : List (List Int)) (c d : Nat) (w : World) (h : Cls w bd ys) (hl : p ≤ 1048576) (hl2 : ys.length ≤ 1048576) :
    Calls Tryd.prog 54 #[.slice ad p c, .slice bd ys.length d] w fun e w' => e = .returned (.int .u64 (IntKind.u64.wrap ((p : Int) * IntKind.u64.wrap (wkL ys)))) ∧ w' = w := by
  have HI : Hid (Cls w bd ys) := h
  have HN : Hid (∀ k, k < ys.length → wkL (ys.take (k + 1)) = wrap64 (wkL (ys.take k) + ((ys.getD k []).length : Int))) := fun k hk => by rw [take_succ1 ys k hk]; exact wkL_snoc _ _
  have HE : Hid (wkL (ys.take ys.length) = wkL ys) := by rw [List.take_length]; exact rfl
  clear h
  generalize hq : ys.length = q at *
  have HL : Aside (ys.length = q) := hq
  clear hq
  go_enter Tryd.func54, Tryd.ntmps54
  go_wp2
  go_loopg [10, 5] q (fun gk i s wr => ∃ (k : Nat) (x : Int), i = .int .i64 k ∧ k + gk = q ∧ s = .int .i64 x ∧ w = wr ∧ Aside (x = wkL (ys.take k)))
  case atStart => exact ⟨0, 0, rfl, by omega, rfl, rfl, rfl⟩
  case round =>
    obtain ⟨k, x, rfl, hk, rfl, rfl, HXx⟩ := hrel
    by_cases hlt : k < q
    · obtain ⟨b, off, rfl, hb, hc⟩ := HI.out (by rw [HL.out]; omega)
      obtain ⟨aj, cj, ck1, hij⟩ := hc k (by rw [HL.out]; omega)
      have HXn : Aside (wrap64 (x + ((ys.getD k []).length : Int)) = wkL (ys.take (k + 1))) := by rw [HN.out k hlt, HXx.out]; exact rfl
      have q1 : (k : Int) < (q : Int) := by omega
      clear hc hij
      generalize ys.getD k [] = Y at *
      generalize Y.length = yl at *
      go_wp2
      go_roundg (gk - 1)
      case measure => omega
      case rel => exact ⟨k + 1, wrap64 (x + (yl : Int)), by simp, by omega, rfl, rfl, HXn⟩
    · obtain rfl : k = q := by omega
      have hf : Aside (x = wkL ys) := by rw [HXx.out, HE.out]; exact rfl
      go_wp2
      go_ret
      exact ⟨by show Ending.returned (Value.int .u64 (IntKind.u64.wrap ((p : Int) * IntKind.u64.wrap x))) = _; rw [hf.out], rfl⟩
theorem Mks.blk {w : World} {m : Nat} {vars : Int} {f : Int → Bool} (h : Mks w m vars f) : ∃ arr : Array Value, w.heap[m]? = some (.cells arr 4 (0, 0)) := by
  obtain ⟨arr, h1, _⟩ := h
  exact ⟨arr, h1⟩
theorem JSt.mark {w w' : World} {B G M m : Nat} {v : Value} {pl : List Pl} {I : List (List Int × Nat)} {ov : Bool} {D : DataW Unit} {vars : Int} {f : Int → Bool} (h : JSt w B G M v pl I ov D) (hm : Mks w m vars f) (hg : w.grownBy w' (some m)) : JSt w' B G M v pl I ov D := by
  obtain ⟨arr, ha⟩ := hm.blk
  refine h.grown hg ?_ ?_ (Or.inr (row_ne_blk h.gath.row ha (by decide))) (Or.inr fun p hp => ?_)
  · intro e
    cases e
    rw [h.gath.blk] at ha
    cases ha
  · intro e
    cases e
    obtain ⟨es, clock, h1, _⟩ := h.gath.map
    rw [h1] at ha
    cases ha
  · obtain ⟨i, hi, rfl⟩ := List.getElem_of_mem hp
    have h1 := h.each i (by rw [← h.len]; exact hi)
    rw [getD_at _ i _ (by rw [List.length_map]; exact hi), List.getElem_map] at h1
    exact row_ne_blk h1 ha (by decide)
theorem own_mark {w w' : World} {B t n m : Nat} {v : Value} {L : List Value} {vars : Int} {f : Int → Bool} (h : w.ownsRow B t 1 v n L) (hm : Mks w m vars f) (hg : w.grownBy w' (some m)) (ht : t ≠ 4) : w'.ownsRow B t 1 v n L := by
  obtain ⟨arr, ha⟩ := hm.blk
  exact World.ownsRow.kept h hg (Or.inr (row_ne_blk h ha ht))
theorem OwnL.mark {w w' : World} {B m : Nat} {v : Value} {L : List Value} {cs : List (List Int)} {vars : Int} {f : Int → Bool} (h : OwnL w B v L cs) (hm : Mks w m vars f) (hg : w.grownBy w' (some m)) : OwnL w' B v L cs :=
  ⟨h.len, own_mark h.row hm hg (by decide), fun j hj => own_mark (h.each j hj) hm hg (by decide)⟩
theorem blk_mark {w w' : World} {k m : Nat} {cs : Array Value} {t : TypeId} {fr : Nat × Nat} {vars : Int} {f : Int → Bool} (h : w.heap[k]? = some (.cells cs t fr)) (hm : Mks w m vars f) (hg : w.grownBy w' (some m)) (ht : t ≠ 4) : w'.heap[k]? = some (.cells cs t fr) := by
  obtain ⟨arr, ha⟩ := hm.blk
  rw [hg.block k (Array.getElem?_eq_some_iff.1 h).1 ?_]
  · exact h
  · intro e
    cases e
    rw [h] at ha
    cases ha
    exact ht rfl
/-- between two of the bases -/
structure JN (w wr : World) (B G M : Nat) (X : List (List Int)) (Dd : Nat → Nat → Prop) (Bs Os : List (List Int)) (vb vo : Value) (Lb Lo : List Value) (p0 p1 p2 m fn : Nat) (x0 x1 : Value) (vars : Int) (v : Value) (pl : List Pl) (I : List (List Int × Nat)) (ov : Bool) (D : DataW Unit) (k : Nat) : Prop where
  jst : JSt wr B G M v pl I ov D
  gs : GS X (Dd k) I ov
  below : Below B w wr
  tk : TKp w wr
  ob : OwnL wr B vb Lb Bs
  oo : OwnL wr B vo Lo Os
  b0 : wr.heap[p0]? = some (.cells #[x0] 22 (0, 0))
  b1 : wr.heap[p1]? = some (.cells #[x1] 3 (0, 0))
  b2 : wr.heap[p2]? = some (.cells #[.func (.func fn) #[] #[.pointer (some ⟨p1, 0, none⟩), .pointer (some ⟨p0, 0, none⟩)]] 87 (0, 0))
  mks : Mks wr m vars (fun _ => false)
  short : ∀ b, b < k → ∀ o, o < Os.length → (setL (Bs.getD b [] ++ Os.getD o [])).length ≤ 65536
theorem OwnL.rowAt {w : World} {B co j : Nat} {ao : Option Addr} {L : List Value} {cs : List (List Int)} (h : OwnL w B (.slice ao cs.length co) L cs) (hj : j < cs.length) :
    ∃ g aj cj, ao = some ⟨g, 0, none⟩ ∧ w.cell? ⟨g, j, none⟩ = some (.slice aj (cs.getD j []).length cj) ∧ w.ownsRow B 3 1 (.slice aj (cs.getD j []).length cj) (cs.getD j []).length ((cs.getD j []).map (Value.int .i64)) ∧ Ints w aj (cs.getD j []) := by
  have h1 := h.each j hj
  obtain ⟨aj, cj, e1, hs⟩ := own_ints h1
  rcases h.row.2 with ⟨e, h0⟩ | ⟨g, cap, cur, e, _⟩
  · omega
  · cases e
    have hl : j < L.length := by rw [h.len]; exact hj
    refine ⟨g, aj, cj, rfl, ?_, by rw [← e1]; exact h1, hs⟩
    rw [h.row.cellAt j (by omega), List.getElem?_eq_getElem hl, ← e1, getD_at L j _ hl]
theorem ints_ne {w : World} {B m n : Nat} {ad : Option Addr} {c : Nat} {L : List Value} {vars : Int} {f : Int → Bool} (h : w.ownsRow B 3 1 (.slice ad n c) n L) (hm : Mks w m vars f) : ∀ a, ad = some a → a.block ≠ m := by
  intro a e he
  obtain ⟨arr, ha⟩ := hm.blk
  subst e
  exact row_ne_blk h ha (by decide) (by rw [← he]; rfl)
theorem Mks.below {w w' : World} {m : Nat} {vars : Int} {f : Int → Bool} (h : Mks w m vars f) (hb : Below w.heap.size w w') : Mks w' m vars f := by
  obtain ⟨arr, h1, h2⟩ := h
  exact ⟨arr, (hb.block m (Array.getElem?_eq_some_iff.1 h1).1).trans h1, h2⟩
/-- the lists and the boxes -/
structure JB (w' : World) (B : Nat) (Bs Os : List (List Int)) (vb vo : Value) (Lb Lo : List Value) (p0 p1 p2 fn : Nat) (x0 x1 : Value) : Prop where
  ob : OwnL w' B vb Lb Bs
  oo : OwnL w' B vo Lo Os
  b0 : w'.heap[p0]? = some (.cells #[x0] 22 (0, 0))
  b1 : w'.heap[p1]? = some (.cells #[x1] 3 (0, 0))
  b2 : w'.heap[p2]? = some (.cells #[.func (.func fn) #[] #[.pointer (some ⟨p1, 0, none⟩), .pointer (some ⟨p0, 0, none⟩)]] 87 (0, 0))
theorem JB.tk {w w' : World} {B : Nat} {Bs Os : List (List Int)} {vb vo : Value} {Lb Lo : List Value} {p0 p1 p2 fn : Nat} {x0 x1 : Value} (h : JB w B Bs Os vb vo Lb Lo p0 p1 p2 fn x0 x1) (hk : TKp w w') : JB w' B Bs Os vb vo Lb Lo p0 p1 p2 fn x0 x1 :=
  ⟨h.ob.tk hk, h.oo.tk hk, hk.block _ _ _ _ h.b0 (by decide) (by decide), hk.block _ _ _ _ h.b1 (by decide) (by decide), hk.block _ _ _ _ h.b2 (by decide) (by decide)⟩
theorem JB.mark {w w' : World} {B m : Nat} {Bs Os : List (List Int)} {vb vo : Value} {Lb Lo : List Value} {p0 p1 p2 fn : Nat} {x0 x1 : Value} {vars : Int} {f : Int → Bool} (h : JB w B Bs Os vb vo Lb Lo p0 p1 p2 fn x0 x1) (hm : Mks w m vars f) (hg : w.grownBy w' (some m)) : JB w' B Bs Os vb vo Lb Lo p0 p1 p2 fn x0 x1 :=
  ⟨h.ob.mark hm hg, h.oo.mark hm hg, blk_mark h.b0 hm hg (by decide), blk_mark h.b1 hm hg (by decide), blk_mark h.b2 hm hg (by decide)⟩
theorem JN.jb {w wr : World} {B G M : Nat} {X : List (List Int)} {Dd : Nat → Nat → Prop} {Bs Os : List (List Int)} {vb vo : Value} {Lb Lo : List Value} {p0 p1 p2 m fn : Nat} {x0 x1 : Value} {vars : Int} {v : Value} {pl : List Pl} {I : List (List Int × Nat)} {ov : Bool} {D : DataW Unit} {k : Nat} (h : JN w wr B G M X Dd Bs Os vb vo Lb Lo p0 p1 p2 m fn x0 x1 vars v pl I ov D k) : JB wr B Bs Os vb vo Lb Lo p0 p1 p2 fn x0 x1 := ⟨h.ob, h.oo, h.b0, h.b1, h.b2⟩
set_option maxHeartbeats 8000000 in
set_option maxRecDepth 100000 in
theorem join_any (B G M : Nat) (v : Value) (pl : List Pl) (I : List (List Int × Nat)) (D : DataW Unit) (R Ws As : List (List Int)) (vars : Int) (aw aa : Option Addr) (cw ca : Nat) (Lw La : List Value) (w : World)
    (hJ : JSt w B G M v pl I false D) (hS : Gst (eX R Ws As) (fun q => q < R.length) I) (hX : ∀ S ∈ eX R Ws As, setL S = S) (hI : I.length = R.length)
    (hw : OwnL w B (.slice aw Ws.length cw) Lw Ws) (ha : OwnL w B (.slice aa As.length ca) La As) (hwl : Ws.length ≤ 1048576) (hal : As.length ≤ 1048576) (hRl : R.length ≤ 1048576) (hpr : Ws.length * As.length ≤ 1048576)
    (hcw : ∀ c ∈ Ws, Cl1 vars c) (hca : ∀ c ∈ As, Cl1 vars c) (hv0 : 0 ≤ vars) (hv1 : vars ≤ 1048576)
    (hT : ∀ W, Below B w W → PowT W.heap.size W) (hB : B ≤ w.heap.size) :
    Calls Tryd.prog 33 #[.pointer (some ⟨G, 0, none⟩), .slice aw Ws.length cw, .slice aa As.length ca, .int .i64 vars] w fun e w' => ∃ v' pl' I' ov' D' Dd, JSt w' B G M v' pl' I' ov' D' ∧ Below B w w' ∧ TKp w w' ∧
      ((e = .returned (.int .i64 0) ∧ (∀ a ∈ Ws, ∀ b ∈ As, (setL (a ++ b)).length ≤ 65536) ∧ GS (eX R Ws As) Dd I' ov' ∧ ∀ q, q < (eX R Ws As).length → Dd q) ∨ (e = .returned (.int .i64 22) ∧ ∃ a ∈ Ws, ∃ b ∈ As, 65536 < (setL (a ++ b)).length)) := by
  obtain ⟨adv, capv, hv⟩ : ∃ adv capv, v = .slice adv R.length capv := by
    have hl : (pl.map slP).length = R.length := by rw [List.length_map, hJ.len, hI]
    rcases hJ.gath.row.2 with ⟨e, h0⟩ | ⟨g, cap, cur, e, _⟩
    · exact ⟨none, 0, by rw [e]; congr 1; omega⟩
    · exact ⟨_, _, by rw [e, hl]⟩
  subst hv
  generalize hpp : (fun (e : Ending) (w' : World) => ∃ v' pl' I' ov' D' Dd, JSt w' B G M v' pl' I' ov' D' ∧ Below B w w' ∧ TKp w w' ∧
      ((e = .returned (.int .i64 0) ∧ (∀ a ∈ Ws, ∀ b ∈ As, (setL (a ++ b)).length ≤ 65536) ∧ GS (eX R Ws As) Dd I' ov' ∧ ∀ q, q < (eX R Ws As).length → Dd q) ∨ (e = .returned (.int .i64 22) ∧ ∃ a ∈ Ws, ∃ b ∈ As, 65536 < (setL (a ++ b)).length))) = PP
  have HPP : Hid (∀ e w', (∃ v' pl' I' ov' D' Dd, JSt w' B G M v' pl' I' ov' D' ∧ Below B w w' ∧ TKp w w' ∧
      ((e = .returned (.int .i64 0) ∧ (∀ a ∈ Ws, ∀ b ∈ As, (setL (a ++ b)).length ≤ 65536) ∧ GS (eX R Ws As) Dd I' ov' ∧ ∀ q, q < (eX R Ws As).length → Dd q) ∨ (e = .returned (.int .i64 22) ∧ ∃ a ∈ Ws, ∃ b ∈ As, 65536 < (setL (a ++ b)).length))) → PP e w') := fun e w' hh => by rw [← hpp]; exact hh
  clear hpp
  have hG1 : G < w.heap.size := (Array.getElem?_eq_some_iff.1 hJ.gath.blk).1
  have c0 : ∀ o, (w.alloc o).cell? ⟨G, 0, none⟩ = some (.slice adv R.length capv) := fun o => blk_cell ((Below.heap_alloc _ _ _ hG1).trans hJ.gath.blk) 0
  have HWw : Hid (∀ W, Below w.heap.size w W → Calls Tryd.prog 54 #[.slice aa As.length ca, .slice aw Ws.length cw] W fun e w' => e = .returned (.int .u64 (IntKind.u64.wrap ((As.length : Int) * IntKind.u64.wrap (wkL Ws)))) ∧ w' = W) := fun W hW => work_is aa aw As.length Ws ca cw W (hw.cls.below hW) hal hwl
  have HWa : Hid (∀ W, Below w.heap.size w W → Calls Tryd.prog 54 #[.slice aw Ws.length cw, .slice aa As.length ca] W fun e w' => e = .returned (.int .u64 (IntKind.u64.wrap ((Ws.length : Int) * IntKind.u64.wrap (wkL As)))) ∧ w' = W) := fun W hW => work_is aw aa Ws.length As cw ca W (ha.cls.below hW) hwl hal
  have HJ : Hid (JSt w B G M (.slice adv R.length capv) pl I false D) := hJ
  have HS : Hid (Gst (eX R Ws As) (fun q => q < R.length) I) := hS
  have HX : Hid (∀ S ∈ eX R Ws As, setL S = S) := hX
  have HW : Hid (OwnL w B (.slice aw Ws.length cw) Lw Ws) := hw
  have HA : Hid (OwnL w B (.slice aa As.length ca) La As) := ha
  have HCw : Hid (∀ c ∈ Ws, Cl1 vars c) := hcw
  have HCa : Hid (∀ c ∈ As, Cl1 vars c) := hca
  have HT : Hid (∀ W, Below B w W → PowT W.heap.size W) := hT
  clear hJ hS hX hw ha hcw hca hT
  obtain ⟨i0, hi, hz0, hz1, hz2⟩ := info_parts (P := Tryd.prog) (e := 4) (z := .bool false) (size := 1) (bytes := 1) (by kernel_rfl)
  obtain ⟨nm, hnm⟩ : ∃ nm : Nat, (nm : Int) = 2 * vars + 2 := ⟨(2 * vars + 2).toNat, by omega⟩
  obtain ⟨Ab, hAb, hrun⟩ : ∃ A : Array Value, A.toList = List.replicate nm (.bool false) ∧ ∀ W : World, (Instr.makeSlice 91 (.int .i64 (2 * vars + 2)) (.int .i64 (2 * vars + 2))).run Tryd.prog W = .ok (.slice (some ⟨W.heap.size, 0, none⟩) nm nm) (W.alloc (.cells A 4)) := ⟨madeCells #[.bool false] nm, toList_madeCells_one _ _, fun W => by
    have := run_make (P := Tryd.prog) (w := W) 91 4 i0 (.bool false) Tryd.underlying91 hi hz0 .i64 .i64 (nm : Int) (nm : Int) (by omega) (by omega) (by rw [hz2]; omega) (by omega)
    rw [← hnm, this, hz1, Int.toNat_natCast, Nat.mul_one]
    rfl⟩
  have HAb : Hid (∀ W m, W.heap[m]? = some (.cells Ab 4 (0, 0)) → Mks W m vars (fun _ => false)) := fun W m hm => by
    have hsz : Ab.size = nm := by rw [← Array.length_toList, hAb, List.length_replicate]
    refine ⟨Ab, hm, by rw [hsz]; omega, fun l hl => ?_⟩
    have hr := amB_rk hl
    rw [← Array.getElem?_toList, hAb, List.getElem?_replicate, if_pos (by omega)]
  clear hi hz0 hz1 hz2 hAb
  go_enter Tryd.func33, Tryd.ntmps33
  go_wp2_with fail
  have y0 : ((w.alloc (.cells #[.slice aa As.length ca] 22)).alloc (.cells #[.int .i64 (R.length : Int)] 3)).heap[w.heap.size]? = some (.cells #[.slice aa As.length ca] 22 (0, 0)) := heap_alloc2_old _ _ _
  have y1 : ((w.alloc (.cells #[.slice aa As.length ca] 22)).alloc (.cells #[.int .i64 (R.length : Int)] 3)).heap[w.heap.size + 1]? = some (.cells #[.int .i64 (R.length : Int)] 3 (0, 0)) := heap_alloc2_new _ _ _
  have y2 : ((w.alloc (.cells #[.slice aa As.length ca] 22)).alloc (.cells #[.int .i64 (R.length : Int)] 3)).heap.size = w.heap.size + 2 := sz2 _ _ _
  have y3 : Below w.heap.size w ((w.alloc (.cells #[.slice aa As.length ca] 22)).alloc (.cells #[.int .i64 (R.length : Int)] 3)) := ((Below.refl _ _).alloc (Nat.le_refl _) _).alloc (by rw [sz1]; omega) _
  generalize (w.alloc (.cells #[.slice aa As.length ca] 22)).alloc (.cells #[.int .i64 (R.length : Int)] 3) = w2 at *
  have c5 : w2.cell? ⟨w.heap.size, 0, none⟩ = some (.slice aa As.length ca) := blk_cell y0 0
  go_quiet (fail)
  have y4 : (w2.drewN nq).heap = w2.heap := rfl
  have y5 : Below w.heap.size w (w2.drewN nq) := below_dn y3 nq
  rw [← y4] at y0 y1 y2
  have c6 : (w2.drewN nq).cell? ⟨w.heap.size, 0, none⟩ = some (.slice aa As.length ca) := blk_cell y0 0
  clear y3 y4
  generalize w2.drewN nq = w3 at *
  go_wp2_with fail
  have x0 := fun (o : Obj) => (Below.heap_alloc w3 o w.heap.size (by omega)).trans y0
  have x1 := fun (o : Obj) => (Below.heap_alloc w3 o (w.heap.size + 1) (by omega)).trans y1
  have x2 := heap_alloc_at w3 (.cells #[.func (.func 53) #[] #[.pointer (some ⟨w.heap.size + 1, 0, none⟩), .pointer (some ⟨w.heap.size, 0, none⟩)]] 87)
  have x3 := fun (o : Obj) => y5.alloc (by omega) o
  have x4 : ∀ o, (w3.alloc o).heap.size = w.heap.size + 3 := fun o => by simp [y2]
  rw [y2] at x2
  have x0' := x0 (.cells #[.func (.func 53) #[] #[.pointer (some ⟨w.heap.size + 1, 0, none⟩), .pointer (some ⟨w.heap.size, 0, none⟩)]] 87)
  have x1' := x1 (.cells #[.func (.func 53) #[] #[.pointer (some ⟨w.heap.size + 1, 0, none⟩), .pointer (some ⟨w.heap.size, 0, none⟩)]] 87)
  have x3' := x3 (.cells #[.func (.func 53) #[] #[.pointer (some ⟨w.heap.size + 1, 0, none⟩), .pointer (some ⟨w.heap.size, 0, none⟩)]] 87)
  have x4' := x4 (.cells #[.func (.func 53) #[] #[.pointer (some ⟨w.heap.size + 1, 0, none⟩), .pointer (some ⟨w.heap.size, 0, none⟩)]] 87)
  clear x0 x1 x3 x4 y0 y1 y2 y5 c5 c6
  generalize w3.alloc (.cells #[.func (.func 53) #[] #[.pointer (some ⟨w.heap.size + 1, 0, none⟩), .pointer (some ⟨w.heap.size, 0, none⟩)]] 87) = w4 at *
  have c6 : w4.cell? ⟨w.heap.size, 0, none⟩ = some (.slice aa As.length ca) := blk_cell x0' 0
  have HWw4 : Hid (∀ n, Calls Tryd.prog 54 #[.slice aa As.length ca, .slice aw Ws.length cw] (w4.drewN n) fun e w' => e = .returned (.int .u64 (IntKind.u64.wrap ((As.length : Int) * IntKind.u64.wrap (wkL Ws)))) ∧ w' = w4.drewN n) := fun n => HWw.out _ (below_dn x3' n)
  have HWa4 : Hid (∀ n, Calls Tryd.prog 54 #[.slice aw Ws.length cw, .slice aa As.length ca] (w4.drewN n) fun e w' => e = .returned (.int .u64 (IntKind.u64.wrap ((Ws.length : Int) * IntKind.u64.wrap (wkL As)))) ∧ w' = w4.drewN n) := fun n => HWa.out _ (below_dn x3' n)
  clear HWw HWa
  generalize IntKind.u64.wrap ((As.length : Int) * IntKind.u64.wrap (wkL Ws)) = z2 at *
  generalize IntKind.u64.wrap ((Ws.length : Int) * IntKind.u64.wrap (wkL As)) = z1 at *
  go_quiet (first | ((go_at_call_of 54 (#[Value.slice aw Ws.length cw, Value.slice aa As.length ca] : Array Value)); exact Calls.quiet_of_same (HWa4.out _)) | ((go_at_call_of 54 (#[Value.slice aa As.length ca, Value.slice aw Ws.length cw] : Array Value)); exact Calls.quiet_of_same (HWw4.out _)))
  have x5 : (w4.drewN nq).heap = w4.heap := rfl
  have x6 : Below w.heap.size w (w4.drewN nq) := below_dn x3' nq
  rw [← x5] at x0' x1' x2 x4'
  clear x3' x5 c6 HWw4 HWa4
  generalize w4.drewN nq = w5 at *
  have HNext : Hid (∀ (wr w' : World) (k : Nat), True) := fun _ _ _ => trivial
  clear HNext
  generalize decide (z2 < z1) = bz
  have c6 : w5.cell? ⟨w.heap.size, 0, none⟩ = some (.slice aa As.length ca) := blk_cell x0' 0
  have c7 : w5.cell? ⟨w.heap.size + 2, 0, none⟩ = some (.func (.func 53) #[] #[.pointer (some ⟨w.heap.size + 1, 0, none⟩), .pointer (some ⟨w.heap.size, 0, none⟩)]) := blk_cell x2 0
  have c8 : w5.frozen? ⟨w.heap.size + 2, 0, none⟩ = false := blk_frozen x2 0
  cases bz with
  | false =>
    have HOri : Hid (Ori (eX R Ws As) R.length Ws As (fun b o => R.length + b * As.length + o)) := ori_one R Ws As
    have HCb : Hid (∀ c ∈ Ws, Cl1 vars c) := HCw.out
    have HCo : Hid (∀ c ∈ As, Cl1 vars c) := HCa.out
    have HPl : Hid (∀ b o, b < Ws.length → o < As.length → (R.length + b * As.length + o) < 4611686018427387904) := fun b o hb ho => by
      have h1 : (R.length + b * As.length + o) < (eX R Ws As).length := by
        have := HOri.out.at_ b o hb ho
        rcases Nat.lt_or_ge ((R.length + b * As.length + o)) (eX R Ws As).length with h | h
        · exact h
        · rw [List.getElem?_eq_none h] at this; cases this
      have h2 : (eX R Ws As).length = R.length + Ws.length * As.length := by unfold eX; rw [List.length_append, joins_len]
      omega
    have HClo : Hid (∀ (b o : Nat) (W : World), b < Ws.length → o < As.length → W.cell? ⟨w.heap.size + 1, 0, none⟩ = some (.int .i64 (R.length : Int)) → W.cell? ⟨w.heap.size, 0, none⟩ = some (.slice aa As.length ca) → Calls Tryd.prog 53 #[.int .i64 b, .int .i64 o, .pointer (some ⟨w.heap.size + 1, 0, none⟩), .pointer (some ⟨w.heap.size, 0, none⟩)] W fun e w' => e = .returned (.int .i64 (((R.length + b * As.length + o) : Nat) : Int)) ∧ w' = W) := fun b o W hb ho h1 h2 => by
      refine join1_any (w.heap.size + 1) w.heap.size R.length b o As.length ca aa W h1 h2 hRl ?_
      have h3 : (R.length + b * As.length + o) < (eX R Ws As).length := by
        have := HOri.out.at_ b o hb ho
        rcases Nat.lt_or_ge ((R.length + b * As.length + o)) (eX R Ws As).length with h | h
        · exact h
        · rw [List.getElem?_eq_none h] at this; cases this
      have h4 : (eX R Ws As).length = R.length + Ws.length * As.length := by unfold eX; rw [List.length_append, joins_len]
      omega
    have HStart : Hid (∀ W m, Below w.heap.size w W → W.heap[w.heap.size]? = some (.cells #[.slice aa As.length ca] 22 (0, 0)) → W.heap[w.heap.size + 1]? = some (.cells #[.int .i64 (R.length : Int)] 3 (0, 0)) → W.heap[w.heap.size + 2]? = some (.cells #[.func (.func 53) #[] #[.pointer (some ⟨w.heap.size + 1, 0, none⟩), .pointer (some ⟨w.heap.size, 0, none⟩)]] 87 (0, 0)) → W.heap[m]? = some (.cells Ab 4 (0, 0)) → JN w W B G M (eX R Ws As) (fun k => DD R.length (fun b o => R.length + b * As.length + o) Ws.length As.length k 0) Ws As (.slice aw Ws.length cw) (.slice aa As.length ca) Lw La w.heap.size (w.heap.size + 1) (w.heap.size + 2) m 53 (.slice aa As.length ca) (.int .i64 (R.length : Int)) vars (.slice adv R.length capv) pl I false D 0) := fun W m h1 h2 h3 h4 h5 =>
      ⟨HJ.out.below h1, Or.inl ⟨rfl, HS.out.congr (fun q => dd_first q)⟩, h1.mono hB, TKp.of_below h1, HW.out.below h1, HA.out.below h1, h2, h3, h4, HAb.out W m h5, fun b hb => absurd hb (Nat.not_lt_zero _)⟩
    have HFin : Hid (∀ I ov, GS (eX R Ws As) (DD R.length (fun b o => R.length + b * As.length + o) Ws.length As.length Ws.length 0) I ov → (∀ b, b < Ws.length → ∀ o, o < As.length → (setL (Ws.getD b [] ++ As.getD o [])).length ≤ 65536) → (∀ a ∈ Ws, ∀ b ∈ As, (setL (a ++ b)).length ≤ 65536) ∧ ∃ Dd, GS (eX R Ws As) Dd I ov ∧ ∀ q, q < (eX R Ws As).length → Dd q) := fun I ov h1 h2 => by
      refine ⟨fun a ha b hb => ?_, _, h1, fun q hq => dd_all HOri.out q hq⟩
      obtain ⟨i, hi, rfl⟩ := List.getElem_of_mem ha
      obtain ⟨j, hj, rfl⟩ := List.getElem_of_mem hb
      have := h2 i hi j hj
      rw [getD_at _ _ _ hi, getD_at _ _ _ hj] at this
      exact this
    have HLong : Hid (∀ b o, b < Ws.length → o < As.length → 65536 < (setL (Ws.getD b [] ++ As.getD o [])).length → ∃ a ∈ Ws, ∃ b ∈ As, 65536 < (setL (a ++ b)).length) := fun b o hb ho h => ⟨Ws.getD b [], (by rw [getD_at _ _ _ hb]; exact List.getElem_mem _), As.getD o [], (by rw [getD_at _ _ _ ho]; exact List.getElem_mem _), h⟩
    generalize hpq : (fun b o => R.length + b * As.length + o) = plc at *
    have HPl2 : Hid (∀ b o, b < Ws.length → o < As.length → plc b o < 4611686018427387904) := by rw [← hpq]; exact HPl.out
    have HClo2 : Hid (∀ (b o : Nat) (W : World), b < Ws.length → o < As.length → W.cell? ⟨w.heap.size + 1, 0, none⟩ = some (.int .i64 (R.length : Int)) → W.cell? ⟨w.heap.size, 0, none⟩ = some (.slice aa As.length ca) → Calls Tryd.prog 53 #[.int .i64 b, .int .i64 o, .pointer (some ⟨w.heap.size + 1, 0, none⟩), .pointer (some ⟨w.heap.size, 0, none⟩)] W fun e w' => e = .returned (.int .i64 ((plc b o : Nat) : Int)) ∧ w' = W) := by rw [← hpq]; exact HClo.out
    clear hpq HPl HClo
    have hbl : Ws.length ≤ 1048576 := hwl
    have hol : As.length ≤ 1048576 := hal
    go_wp2_with fail
    go_loopg [41] Ws.length (fun gk i wr => ∃ (k : Nat) (v : Value) (pl : List Pl) (I : List (List Int × Nat)) (ov : Bool) (D : DataW Unit), i = .int .i64 k ∧ k + gk = Ws.length ∧ Aside (JN w wr B G M (eX R Ws As) (fun k => DD R.length plc Ws.length As.length k 0) Ws As (.slice aw Ws.length cw) (.slice aa As.length ca) Lw La w.heap.size (w.heap.size + 1) (w.heap.size + 2) (w.heap.size + 3) 53 (.slice aa As.length ca) (.int .i64 (R.length : Int)) vars v pl I ov D k))
    case atStart =>
      refine ⟨0, .slice adv R.length capv, pl, I, false, D, rfl, by omega, ?_⟩
      show JN _ _ _ _ _ _ _ _ _ _ _ _ _ _ _ _ _ _ _ _ _ _ _ _ _ _ _
      exact HStart.out _ _ (x6.alloc (by omega) _) ((Below.heap_alloc _ _ _ (by omega)).trans x0') ((Below.heap_alloc _ _ _ (by omega)).trans x1') ((Below.heap_alloc _ _ _ (by omega)).trans x2) (by have := heap_alloc_at w5 (.cells Ab 4); rw [x4'] at this; exact this)
    case round =>
      clear x0' x1' x2 x4' x6 c6 c7 c8 HStart HJ HS
      obtain ⟨k, v1, pl1, I1, ov1, D1, rfl, hk, H⟩ := hrel
      obtain ⟨W5, hW5⟩ : ∃ W, W = wr := ⟨_, rfl⟩
      subst hW5
      by_cases hlt : k < Ws.length
      · obtain ⟨gb, ak, ck, rfl, ckc, hrow, hin⟩ := H.out.ob.rowAt hlt
        have hCk : Cl1 vars (Ws.getD k []) := HCb.out _ (by rw [getD_at _ _ _ hlt]; exact List.getElem_mem _)
        have hsz : w.heap.size + 3 < W5.heap.size := by
          obtain ⟨arr, ha⟩ := H.out.mks.blk
          exact (Array.getElem?_eq_some_iff.1 ha).1
        have hB5 : B ≤ W5.heap.size := by omega
        obtain ⟨Bk, hBk⟩ : ∃ x, x = Ws.getD k [] := ⟨_, rfl⟩
        rw [← hBk] at ckc hrow hin hCk
        have HBk : Hid (Bk = Ws.getD k []) := hBk
        clear hBk
        have hal : Below W5.heap.size W5 (W5.alloc (.cells #[.int .i64 (k : Int)] 3)) := (Below.refl _ _).alloc (Nat.le_refl _) _
        have hkb : (W5.alloc (.cells #[.int .i64 (k : Int)] 3)).heap[W5.heap.size]? = some (.cells #[.int .i64 (k : Int)] 3 (0, 0)) := heap_alloc_at _ _
        have H6j : JSt (W5.alloc (.cells #[.int .i64 (k : Int)] 3)) B G M v1 pl1 I1 ov1 D1 := H.out.jst.below hal
        have H6b : JB (W5.alloc (.cells #[.int .i64 (k : Int)] 3)) B Ws As _ _ _ _ _ _ _ _ _ _ := H.out.jb.tk (TKp.of_below hal)
        have H6m := H.out.mks.below hal
        have H6r := own_below hrow hal
        have H6w : Below B w (W5.alloc (.cells #[.int .i64 (k : Int)] 3)) := H.out.below.trans (hal.mono hB5)
        have H6i := hin.below hal
        have H6t := H.out.tk.next hal
        have H6g := H.out.gs
        have H6s := H.out.short
        have HMk : Hid (Calls Tryd.prog 56 #[.slice (some ⟨w.heap.size + 3, 0, none⟩) nm nm, .slice ak Bk.length ck, .bool true] (W5.alloc (.cells #[.int .i64 (k : Int)] 3)) fun e w' => e = .returned (.tuple #[]) ∧ Mks w' (w.heap.size + 3) vars (fun x => if x ∈ Bk then true else false) ∧ (W5.alloc (.cells #[.int .i64 (k : Int)] 3)).grownBy w' (some (w.heap.size + 3))) := mark_any (w.heap.size + 3) nm vars ak Bk ck nm true (fun _ => false) _ H6m H6i (ints_ne H6r H6m) hCk.lits hCk.len hnm
        have H6 : Hid ((W5.alloc (.cells #[.int .i64 (k : Int)] 3)).heap[W5.heap.size]? = some (.cells #[.int .i64 (k : Int)] 3 (0, 0)) ∧ JSt (W5.alloc (.cells #[.int .i64 (k : Int)] 3)) B G M v1 pl1 I1 ov1 D1 ∧ JB (W5.alloc (.cells #[.int .i64 (k : Int)] 3)) B Ws As (.slice (some ⟨gb, 0, none⟩) Ws.length cw) (.slice aa As.length ca) Lw La w.heap.size (w.heap.size + 1) (w.heap.size + 2) 53 (.slice aa As.length ca) (.int .i64 (R.length : Int)) ∧ Mks (W5.alloc (.cells #[.int .i64 (k : Int)] 3)) (w.heap.size + 3) vars (fun _ => false) ∧ (W5.alloc (.cells #[.int .i64 (k : Int)] 3)).ownsRow B 3 1 (.slice ak Bk.length ck) Bk.length (Bk.map (Value.int .i64)) ∧ Below B w (W5.alloc (.cells #[.int .i64 (k : Int)] 3)) ∧ TKp w (W5.alloc (.cells #[.int .i64 (k : Int)] 3))) := ⟨hkb, H6j, H6b, H6m, H6r, H6w, H6t⟩
        have HCk : Hid (Cl1 vars Bk) := hCk
        have HGs : Hid (GS (eX R Ws As) (DD R.length plc Ws.length As.length k 0) I1 ov1 ∧ ∀ b, b < k → ∀ o, o < As.length → (setL (Ws.getD b [] ++ As.getD o [])).length ≤ 65536) := ⟨H6g, H6s⟩
        have q1 : (k : Int) < (Ws.length : Int) := by omega
        clear hal hkb H6j H6b H6m H6r H6w H6t H6i H6g H6s hCk hrow hin H
        generalize hkb : W5.heap.size = kb at *
        go_wp2_with fail
        generalize W5.alloc (.cells #[.int .i64 (k : Int)] 3) = w6 at *
        refine HMk.out.mono ?_
        rintro e w7 ⟨rfl, hm7, hg7⟩
        obtain ⟨e1, e2, e3, e4, e5, e6, e7⟩ := H6.out
        have t7 : TKp w w7 := e7.grown hg7 (fun j hj => by cases hj; omega)
        have hb7 : Below B w w7 := e6.grown hg7 (Nat.le_trans hB e6.size) (fun j hj => by cases hj; omega)
        have m7 : Mks w7 (w.heap.size + 3) vars (fun l => decide (l ∈ Bk)) := hm7.congr (fun x => by by_cases hx : x ∈ Bk <;> simp [hx])
        have k7 := blk_mark e1 e4 hg7 (by decide)
        have j7 := e2.mark e4 hg7
        have jb7 := e3.mark e4 hg7
        have r7 := own_mark e5 e4 hg7 (by decide)
        have HJo : Hid (Calls Tryd.prog 57 #[.pointer (some ⟨G, 0, none⟩), .slice ak Bk.length ck, (.slice aa As.length ca), .slice (some ⟨w.heap.size + 3, 0, none⟩) nm nm, .func (.func 58) #[] #[.pointer (some ⟨w.heap.size + 2, 0, none⟩), .pointer (some ⟨kb, 0, none⟩)]] w7 fun e w' => ∃ v' pl' I' ov' D', JSt w' B G M v' pl' I' ov' D' ∧ Below B w7 w' ∧ TKp w7 w' ∧
            ((e = .returned (.int .i64 0) ∧ (∀ o, o < As.length → (setL (Bk ++ As.getD o [])).length ≤ 65536) ∧ GS (eX R Ws As) (DD R.length plc Ws.length As.length (k + 1) 0) I' ov') ∨ (e = .returned (.int .i64 22) ∧ ∃ o, o < As.length ∧ 65536 < (setL (Bk ++ As.getD o [])).length))) := by
          have hBk := HBk.out
          subst hBk
          refine joinOne_any B G M v1 pl1 I1 ov1 D1 (eX R Ws As) R.length k plc Ws As vars ak _ ck _ (w.heap.size + 3) nm nm _ _ _ w7 j7 HGs.out.1 HX.out HOri.out hlt r7 jb7.oo hol m7 hnm HCb.out HCo.out (fun o ho => HPl2.out k o hlt ho) ?_ (fun W hW => HT.out W (hb7.trans hW)) (Nat.le_trans hB hb7.size)
          intro W hW o ho
          have jbW := jb7.tk hW
          exact join31_any (w.heap.size + 2) kb (w.heap.size + 1) w.heap.size k o (plc k o) W (blk_cell jbW.b2 0) (blk_cell (hW.block _ _ _ _ k7 (by decide) (by decide)) 0) (HClo2.out k o W hlt ho (blk_cell jbW.b1 0) (blk_cell jbW.b0 0))
        have H7 : Hid (Below B w w7 ∧ Mks w7 (w.heap.size + 3) vars (fun l => decide (l ∈ Bk)) ∧ JB w7 B Ws As (.slice (some ⟨gb, 0, none⟩) Ws.length cw) (.slice aa As.length ca) Lw La w.heap.size (w.heap.size + 1) (w.heap.size + 2) 53 (.slice aa As.length ca) (.int .i64 (R.length : Int)) ∧ w7.ownsRow B 3 1 (.slice ak Bk.length ck) Bk.length (Bk.map (Value.int .i64)) ∧ TKp w w7) := ⟨hb7, m7, jb7, r7, t7⟩
        clear e1 e2 e3 e4 e5 e6 e7 t7 hb7 m7 k7 j7 jb7 r7 hm7 hg7 HMk H6
        go_wp2_with fail
        refine HJo.out.mono ?_
        rintro e w8 ⟨v8, pl8, I8, ov8, D8, hJ8, hB8, hT8, hr⟩
        have m8 := H7.out.2.1.tk hT8
        have jb8 := H7.out.2.2.1.tk hT8
        have r8 := own_tk H7.out.2.2.2.1 hT8 (by decide) (by decide)
        have hb8 : Below B w w8 := H7.out.1.trans hB8
        have t8 : TKp w w8 := H7.out.2.2.2.2.trans hT8
        have i8 : Ints w8 ak Bk := by
          obtain ⟨a9, c9, e9, h9⟩ := own_ints r8
          cases e9
          exact h9
        have HMk : Hid (Calls Tryd.prog 56 #[.slice (some ⟨w.heap.size + 3, 0, none⟩) nm nm, .slice ak Bk.length ck, .bool false] w8 fun e w' => e = .returned (.tuple #[]) ∧ Mks w' (w.heap.size + 3) vars (fun x => if x ∈ Bk then false else decide (x ∈ Bk)) ∧ w8.grownBy w' (some (w.heap.size + 3))) := mark_any (w.heap.size + 3) nm vars ak Bk ck nm false _ _ m8 i8 (ints_ne r8 m8) HCk.out.lits HCk.out.len hnm
        have H8 : Hid (JSt w8 B G M v8 pl8 I8 ov8 D8 ∧ Mks w8 (w.heap.size + 3) vars (fun l => decide (l ∈ Bk)) ∧ JB w8 B Ws As (.slice (some ⟨gb, 0, none⟩) Ws.length cw) (.slice aa As.length ca) Lw La w.heap.size (w.heap.size + 1) (w.heap.size + 2) 53 (.slice aa As.length ca) (.int .i64 (R.length : Int)) ∧ Below B w w8 ∧ TKp w w8) := ⟨hJ8, m8, jb8, hb8, t8⟩
        clear m8 jb8 r8 hb8 t8 i8 hJ8 hB8 hT8 H7 HJo
        rcases hr with ⟨rfl, hsh, hgs⟩ | ⟨rfl, o, ho, hlong⟩
        · have HR : Hid ((∀ o, o < As.length → (setL (Bk ++ As.getD o [])).length ≤ 65536) ∧ GS (eX R Ws As) (DD R.length plc Ws.length As.length (k + 1) 0) I8 ov8) := ⟨hsh, hgs⟩
          clear hsh hgs
          go_wp2_with fail
          refine HMk.out.mono ?_
          rintro e w9 ⟨rfl, hm9, hg9⟩
          have HN : Aside (JN w w9 B G M (eX R Ws As) (fun k => DD R.length plc Ws.length As.length k 0) Ws As (.slice (some ⟨gb, 0, none⟩) Ws.length cw) (.slice aa As.length ca) Lw La w.heap.size (w.heap.size + 1) (w.heap.size + 2) (w.heap.size + 3) 53 (.slice aa As.length ca) (.int .i64 (R.length : Int)) vars v8 pl8 I8 ov8 D8 (k + 1)) := by
            obtain ⟨e1, e2, e3, e4, e5⟩ := H8.out
            have jb9 := e3.mark e2 hg9
            refine ⟨e1.mark e2 hg9, HR.out.2, e4.grown hg9 (Nat.le_trans hB e4.size) (fun j hj => by cases hj; omega), e5.grown hg9 (fun j hj => by cases hj; omega), jb9.ob, jb9.oo, jb9.b0, jb9.b1, jb9.b2, hm9.congr (fun x => by by_cases hx : x ∈ Bk <;> simp [hx]), fun b hb => ?_⟩
            rcases Nat.lt_succ_iff_lt_or_eq.1 hb with h3 | h3
            · exact HGs.out.2 b h3
            · rw [h3, ← HBk.out]; exact HR.out.1
          clear hm9 hg9
          go_wp2
          go_roundg (Ws.length - k - 1)
          case measure => omega
          case rel => exact ⟨k + 1, v8, pl8, I8, ov8, D8, by simp, by omega, HN⟩
        · have HR : Hid (∃ a ∈ Ws, ∃ b ∈ As, 65536 < (setL (a ++ b)).length) := HLong.out k o hlt ho (by rw [← HBk.out]; exact hlong)
          clear hlong
          go_wp2_with fail
          refine HMk.out.mono ?_
          rintro e w9 ⟨rfl, hm9, hg9⟩
          have HN : Hid (JSt w9 B G M v8 pl8 I8 ov8 D8 ∧ Below B w w9 ∧ TKp w w9) := by
            obtain ⟨e1, e2, e3, e4, e5⟩ := H8.out
            exact ⟨e1.mark e2 hg9, e4.grown hg9 (Nat.le_trans hB e4.size) (fun j hj => by cases hj; omega), e5.grown hg9 (fun j hj => by cases hj; omega)⟩
          clear hm9 hg9
          go_wp2
          exact HPP.out _ _ ⟨v8, pl8, I8, ov8, D8, fun _ => True, HN.out.1, HN.out.2.1, HN.out.2.2, Or.inr ⟨rfl, HR.out⟩⟩
      · obtain rfl : k = Ws.length := by omega
        go_wp2
        obtain ⟨hf1, Dd, hf2, hf3⟩ := HFin.out _ _ H.out.gs H.out.short
        exact HPP.out _ _ ⟨v1, pl1, I1, ov1, D1, Dd, H.out.jst, H.out.below, H.out.tk, Or.inl ⟨rfl, hf1, hf2, hf3⟩⟩
  | true =>
    have HOri : Hid (Ori (eX R Ws As) R.length As Ws (fun b o => R.length + o * As.length + b)) := ori_two R Ws As
    have HCb : Hid (∀ c ∈ As, Cl1 vars c) := HCa.out
    have HCo : Hid (∀ c ∈ Ws, Cl1 vars c) := HCw.out
    have HPl : Hid (∀ b o, b < As.length → o < Ws.length → (R.length + o * As.length + b) < 4611686018427387904) := fun b o hb ho => by
      have h1 : (R.length + o * As.length + b) < (eX R Ws As).length := by
        have := HOri.out.at_ b o hb ho
        rcases Nat.lt_or_ge ((R.length + o * As.length + b)) (eX R Ws As).length with h | h
        · exact h
        · rw [List.getElem?_eq_none h] at this; cases this
      have h2 : (eX R Ws As).length = R.length + Ws.length * As.length := by unfold eX; rw [List.length_append, joins_len]
      omega
    have HClo : Hid (∀ (b o : Nat) (W : World), b < As.length → o < Ws.length → W.cell? ⟨w.heap.size + 1, 0, none⟩ = some (.int .i64 (R.length : Int)) → W.cell? ⟨w.heap.size, 0, none⟩ = some (.slice aa As.length ca) → Calls Tryd.prog 55 #[.int .i64 b, .int .i64 o, .pointer (some ⟨w.heap.size + 1, 0, none⟩), .pointer (some ⟨w.heap.size, 0, none⟩)] W fun e w' => e = .returned (.int .i64 (((R.length + o * As.length + b) : Nat) : Int)) ∧ w' = W) := fun b o W hb ho h1 h2 => by
      refine join2_any (w.heap.size + 1) w.heap.size R.length b o As.length ca aa W h1 h2 hRl ?_
      have h3 : (R.length + o * As.length + b) < (eX R Ws As).length := by
        have := HOri.out.at_ b o hb ho
        rcases Nat.lt_or_ge ((R.length + o * As.length + b)) (eX R Ws As).length with h | h
        · exact h
        · rw [List.getElem?_eq_none h] at this; cases this
      have h4 : (eX R Ws As).length = R.length + Ws.length * As.length := by unfold eX; rw [List.length_append, joins_len]
      omega
    have HStart : Hid (∀ W m, Below w.heap.size w W → W.heap[w.heap.size]? = some (.cells #[.slice aa As.length ca] 22 (0, 0)) → W.heap[w.heap.size + 1]? = some (.cells #[.int .i64 (R.length : Int)] 3 (0, 0)) → W.heap[w.heap.size + 2]? = some (.cells #[.func (.func 55) #[] #[.pointer (some ⟨w.heap.size + 1, 0, none⟩), .pointer (some ⟨w.heap.size, 0, none⟩)]] 87 (0, 0)) → W.heap[m]? = some (.cells Ab 4 (0, 0)) → JN w W B G M (eX R Ws As) (fun k => DD R.length (fun b o => R.length + o * As.length + b) As.length Ws.length k 0) As Ws (.slice aa As.length ca) (.slice aw Ws.length cw) La Lw w.heap.size (w.heap.size + 1) (w.heap.size + 2) m 55 (.slice aa As.length ca) (.int .i64 (R.length : Int)) vars (.slice adv R.length capv) pl I false D 0) := fun W m h1 h2 h3 h4 h5 =>
      ⟨HJ.out.below h1, Or.inl ⟨rfl, HS.out.congr (fun q => dd_first q)⟩, h1.mono hB, TKp.of_below h1, HA.out.below h1, HW.out.below h1, h2, h3, h4, HAb.out W m h5, fun b hb => absurd hb (Nat.not_lt_zero _)⟩
    have HFin : Hid (∀ I ov, GS (eX R Ws As) (DD R.length (fun b o => R.length + o * As.length + b) As.length Ws.length As.length 0) I ov → (∀ b, b < As.length → ∀ o, o < Ws.length → (setL (As.getD b [] ++ Ws.getD o [])).length ≤ 65536) → (∀ a ∈ Ws, ∀ b ∈ As, (setL (a ++ b)).length ≤ 65536) ∧ ∃ Dd, GS (eX R Ws As) Dd I ov ∧ ∀ q, q < (eX R Ws As).length → Dd q) := fun I ov h1 h2 => by
      refine ⟨fun a ha b hb => ?_, _, h1, fun q hq => dd_all HOri.out q hq⟩
      obtain ⟨i, hi, rfl⟩ := List.getElem_of_mem ha
      obtain ⟨j, hj, rfl⟩ := List.getElem_of_mem hb
      have := h2 j hj i hi
      rw [getD_at _ _ _ hi, getD_at _ _ _ hj, setL_comm] at this
      exact this
    have HLong : Hid (∀ b o, b < As.length → o < Ws.length → 65536 < (setL (As.getD b [] ++ Ws.getD o [])).length → ∃ a ∈ Ws, ∃ b ∈ As, 65536 < (setL (a ++ b)).length) := fun b o hb ho h => ⟨Ws.getD o [], (by rw [getD_at _ _ _ ho]; exact List.getElem_mem _), As.getD b [], (by rw [getD_at _ _ _ hb]; exact List.getElem_mem _), by rw [setL_comm]; exact h⟩
    generalize hpq : (fun b o => R.length + o * As.length + b) = plc at *
    have HPl2 : Hid (∀ b o, b < As.length → o < Ws.length → plc b o < 4611686018427387904) := by rw [← hpq]; exact HPl.out
    have HClo2 : Hid (∀ (b o : Nat) (W : World), b < As.length → o < Ws.length → W.cell? ⟨w.heap.size + 1, 0, none⟩ = some (.int .i64 (R.length : Int)) → W.cell? ⟨w.heap.size, 0, none⟩ = some (.slice aa As.length ca) → Calls Tryd.prog 55 #[.int .i64 b, .int .i64 o, .pointer (some ⟨w.heap.size + 1, 0, none⟩), .pointer (some ⟨w.heap.size, 0, none⟩)] W fun e w' => e = .returned (.int .i64 ((plc b o : Nat) : Int)) ∧ w' = W) := by rw [← hpq]; exact HClo.out
    clear hpq HPl HClo
    have hbl : As.length ≤ 1048576 := hal
    have hol : Ws.length ≤ 1048576 := hwl
    go_wp2_with fail
    go_loopg [41] As.length (fun gk i wr => ∃ (k : Nat) (v : Value) (pl : List Pl) (I : List (List Int × Nat)) (ov : Bool) (D : DataW Unit), i = .int .i64 k ∧ k + gk = As.length ∧ Aside (JN w wr B G M (eX R Ws As) (fun k => DD R.length plc As.length Ws.length k 0) As Ws (.slice aa As.length ca) (.slice aw Ws.length cw) La Lw w.heap.size (w.heap.size + 1) (w.heap.size + 2) (w.heap.size + 3) 55 (.slice aa As.length ca) (.int .i64 (R.length : Int)) vars v pl I ov D k))
    case atStart =>
      refine ⟨0, .slice adv R.length capv, pl, I, false, D, rfl, by omega, ?_⟩
      show JN _ _ _ _ _ _ _ _ _ _ _ _ _ _ _ _ _ _ _ _ _ _ _ _ _ _ _
      have sz5 : (w5.setCell ⟨w.heap.size + 2, 0, none⟩ (.func (.func 55) #[] #[.pointer (some ⟨w.heap.size + 1, 0, none⟩), .pointer (some ⟨w.heap.size, 0, none⟩)])).heap.size = w.heap.size + 3 := by simpa using x4'
      exact HStart.out _ _ ((x6.setCell (by show w.heap.size ≤ w.heap.size + 2; omega) _).alloc (by rw [sz5]; omega) _) ((Below.heap_alloc _ _ _ (by rw [sz5]; omega)).trans ((heap_setCell_other _ _ _ _ (by show w.heap.size ≠ w.heap.size + 2; omega)).trans x0')) ((Below.heap_alloc _ _ _ (by rw [sz5]; omega)).trans ((heap_setCell_other _ _ _ _ (by show w.heap.size + 1 ≠ w.heap.size + 2; omega)).trans x1')) ((Below.heap_alloc _ _ _ (by rw [sz5]; omega)).trans (heap_setCell_same _ _ 0 _ _ _ x2)) (by have := heap_alloc_at (w5.setCell ⟨w.heap.size + 2, 0, none⟩ (.func (.func 55) #[] #[.pointer (some ⟨w.heap.size + 1, 0, none⟩), .pointer (some ⟨w.heap.size, 0, none⟩)])) (.cells Ab 4); rw [sz5] at this; exact this)
    case round =>
      clear x0' x1' x2 x4' x6 c6 c7 c8 HStart HJ HS
      obtain ⟨k, v1, pl1, I1, ov1, D1, rfl, hk, H⟩ := hrel
      obtain ⟨W5, hW5⟩ : ∃ W, W = wr := ⟨_, rfl⟩
      subst hW5
      by_cases hlt : k < As.length
      · obtain ⟨gb, ak, ck, rfl, ckc, hrow, hin⟩ := H.out.ob.rowAt hlt
        have hCk : Cl1 vars (As.getD k []) := HCb.out _ (by rw [getD_at _ _ _ hlt]; exact List.getElem_mem _)
        have hsz : w.heap.size + 3 < W5.heap.size := by
          obtain ⟨arr, ha⟩ := H.out.mks.blk
          exact (Array.getElem?_eq_some_iff.1 ha).1
        have hB5 : B ≤ W5.heap.size := by omega
        obtain ⟨Bk, hBk⟩ : ∃ x, x = As.getD k [] := ⟨_, rfl⟩
        rw [← hBk] at ckc hrow hin hCk
        have HBk : Hid (Bk = As.getD k []) := hBk
        clear hBk
        have hal : Below W5.heap.size W5 (W5.alloc (.cells #[.int .i64 (k : Int)] 3)) := (Below.refl _ _).alloc (Nat.le_refl _) _
        have hkb : (W5.alloc (.cells #[.int .i64 (k : Int)] 3)).heap[W5.heap.size]? = some (.cells #[.int .i64 (k : Int)] 3 (0, 0)) := heap_alloc_at _ _
        have H6j : JSt (W5.alloc (.cells #[.int .i64 (k : Int)] 3)) B G M v1 pl1 I1 ov1 D1 := H.out.jst.below hal
        have H6b : JB (W5.alloc (.cells #[.int .i64 (k : Int)] 3)) B As Ws _ _ _ _ _ _ _ _ _ _ := H.out.jb.tk (TKp.of_below hal)
        have H6m := H.out.mks.below hal
        have H6r := own_below hrow hal
        have H6w : Below B w (W5.alloc (.cells #[.int .i64 (k : Int)] 3)) := H.out.below.trans (hal.mono hB5)
        have H6i := hin.below hal
        have H6t := H.out.tk.next hal
        have H6g := H.out.gs
        have H6s := H.out.short
        have HMk : Hid (Calls Tryd.prog 56 #[.slice (some ⟨w.heap.size + 3, 0, none⟩) nm nm, .slice ak Bk.length ck, .bool true] (W5.alloc (.cells #[.int .i64 (k : Int)] 3)) fun e w' => e = .returned (.tuple #[]) ∧ Mks w' (w.heap.size + 3) vars (fun x => if x ∈ Bk then true else false) ∧ (W5.alloc (.cells #[.int .i64 (k : Int)] 3)).grownBy w' (some (w.heap.size + 3))) := mark_any (w.heap.size + 3) nm vars ak Bk ck nm true (fun _ => false) _ H6m H6i (ints_ne H6r H6m) hCk.lits hCk.len hnm
        have H6 : Hid ((W5.alloc (.cells #[.int .i64 (k : Int)] 3)).heap[W5.heap.size]? = some (.cells #[.int .i64 (k : Int)] 3 (0, 0)) ∧ JSt (W5.alloc (.cells #[.int .i64 (k : Int)] 3)) B G M v1 pl1 I1 ov1 D1 ∧ JB (W5.alloc (.cells #[.int .i64 (k : Int)] 3)) B As Ws (.slice (some ⟨gb, 0, none⟩) As.length ca) (.slice aw Ws.length cw) La Lw w.heap.size (w.heap.size + 1) (w.heap.size + 2) 55 (.slice (some ⟨gb, 0, none⟩) As.length ca) (.int .i64 (R.length : Int)) ∧ Mks (W5.alloc (.cells #[.int .i64 (k : Int)] 3)) (w.heap.size + 3) vars (fun _ => false) ∧ (W5.alloc (.cells #[.int .i64 (k : Int)] 3)).ownsRow B 3 1 (.slice ak Bk.length ck) Bk.length (Bk.map (Value.int .i64)) ∧ Below B w (W5.alloc (.cells #[.int .i64 (k : Int)] 3)) ∧ TKp w (W5.alloc (.cells #[.int .i64 (k : Int)] 3))) := ⟨hkb, H6j, H6b, H6m, H6r, H6w, H6t⟩
        have HCk : Hid (Cl1 vars Bk) := hCk
        have HGs : Hid (GS (eX R Ws As) (DD R.length plc As.length Ws.length k 0) I1 ov1 ∧ ∀ b, b < k → ∀ o, o < Ws.length → (setL (As.getD b [] ++ Ws.getD o [])).length ≤ 65536) := ⟨H6g, H6s⟩
        have q1 : (k : Int) < (As.length : Int) := by omega
        clear hal hkb H6j H6b H6m H6r H6w H6t H6i H6g H6s hCk hrow hin H
        generalize hkb : W5.heap.size = kb at *
        go_wp2_with fail
        generalize W5.alloc (.cells #[.int .i64 (k : Int)] 3) = w6 at *
        refine HMk.out.mono ?_
        rintro e w7 ⟨rfl, hm7, hg7⟩
        obtain ⟨e1, e2, e3, e4, e5, e6, e7⟩ := H6.out
        have t7 : TKp w w7 := e7.grown hg7 (fun j hj => by cases hj; omega)
        have hb7 : Below B w w7 := e6.grown hg7 (Nat.le_trans hB e6.size) (fun j hj => by cases hj; omega)
        have m7 : Mks w7 (w.heap.size + 3) vars (fun l => decide (l ∈ Bk)) := hm7.congr (fun x => by by_cases hx : x ∈ Bk <;> simp [hx])
        have k7 := blk_mark e1 e4 hg7 (by decide)
        have j7 := e2.mark e4 hg7
        have jb7 := e3.mark e4 hg7
        have r7 := own_mark e5 e4 hg7 (by decide)
        have HJo : Hid (Calls Tryd.prog 57 #[.pointer (some ⟨G, 0, none⟩), .slice ak Bk.length ck, (.slice aw Ws.length cw), .slice (some ⟨w.heap.size + 3, 0, none⟩) nm nm, .func (.func 58) #[] #[.pointer (some ⟨w.heap.size + 2, 0, none⟩), .pointer (some ⟨kb, 0, none⟩)]] w7 fun e w' => ∃ v' pl' I' ov' D', JSt w' B G M v' pl' I' ov' D' ∧ Below B w7 w' ∧ TKp w7 w' ∧
            ((e = .returned (.int .i64 0) ∧ (∀ o, o < Ws.length → (setL (Bk ++ Ws.getD o [])).length ≤ 65536) ∧ GS (eX R Ws As) (DD R.length plc As.length Ws.length (k + 1) 0) I' ov') ∨ (e = .returned (.int .i64 22) ∧ ∃ o, o < Ws.length ∧ 65536 < (setL (Bk ++ Ws.getD o [])).length))) := by
          have hBk := HBk.out
          subst hBk
          refine joinOne_any B G M v1 pl1 I1 ov1 D1 (eX R Ws As) R.length k plc As Ws vars ak _ ck _ (w.heap.size + 3) nm nm _ _ _ w7 j7 HGs.out.1 HX.out HOri.out hlt r7 jb7.oo hol m7 hnm HCb.out HCo.out (fun o ho => HPl2.out k o hlt ho) ?_ (fun W hW => HT.out W (hb7.trans hW)) (Nat.le_trans hB hb7.size)
          intro W hW o ho
          have jbW := jb7.tk hW
          exact join32_any (w.heap.size + 2) kb (w.heap.size + 1) w.heap.size k o (plc k o) W (blk_cell jbW.b2 0) (blk_cell (hW.block _ _ _ _ k7 (by decide) (by decide)) 0) (HClo2.out k o W hlt ho (blk_cell jbW.b1 0) (blk_cell jbW.b0 0))
        have H7 : Hid (Below B w w7 ∧ Mks w7 (w.heap.size + 3) vars (fun l => decide (l ∈ Bk)) ∧ JB w7 B As Ws (.slice (some ⟨gb, 0, none⟩) As.length ca) (.slice aw Ws.length cw) La Lw w.heap.size (w.heap.size + 1) (w.heap.size + 2) 55 (.slice (some ⟨gb, 0, none⟩) As.length ca) (.int .i64 (R.length : Int)) ∧ w7.ownsRow B 3 1 (.slice ak Bk.length ck) Bk.length (Bk.map (Value.int .i64)) ∧ TKp w w7) := ⟨hb7, m7, jb7, r7, t7⟩
        clear e1 e2 e3 e4 e5 e6 e7 t7 hb7 m7 k7 j7 jb7 r7 hm7 hg7 HMk H6
        go_wp2_with fail
        refine HJo.out.mono ?_
        rintro e w8 ⟨v8, pl8, I8, ov8, D8, hJ8, hB8, hT8, hr⟩
        have m8 := H7.out.2.1.tk hT8
        have jb8 := H7.out.2.2.1.tk hT8
        have r8 := own_tk H7.out.2.2.2.1 hT8 (by decide) (by decide)
        have hb8 : Below B w w8 := H7.out.1.trans hB8
        have t8 : TKp w w8 := H7.out.2.2.2.2.trans hT8
        have i8 : Ints w8 ak Bk := by
          obtain ⟨a9, c9, e9, h9⟩ := own_ints r8
          cases e9
          exact h9
        have HMk : Hid (Calls Tryd.prog 56 #[.slice (some ⟨w.heap.size + 3, 0, none⟩) nm nm, .slice ak Bk.length ck, .bool false] w8 fun e w' => e = .returned (.tuple #[]) ∧ Mks w' (w.heap.size + 3) vars (fun x => if x ∈ Bk then false else decide (x ∈ Bk)) ∧ w8.grownBy w' (some (w.heap.size + 3))) := mark_any (w.heap.size + 3) nm vars ak Bk ck nm false _ _ m8 i8 (ints_ne r8 m8) HCk.out.lits HCk.out.len hnm
        have H8 : Hid (JSt w8 B G M v8 pl8 I8 ov8 D8 ∧ Mks w8 (w.heap.size + 3) vars (fun l => decide (l ∈ Bk)) ∧ JB w8 B As Ws (.slice (some ⟨gb, 0, none⟩) As.length ca) (.slice aw Ws.length cw) La Lw w.heap.size (w.heap.size + 1) (w.heap.size + 2) 55 (.slice (some ⟨gb, 0, none⟩) As.length ca) (.int .i64 (R.length : Int)) ∧ Below B w w8 ∧ TKp w w8) := ⟨hJ8, m8, jb8, hb8, t8⟩
        clear m8 jb8 r8 hb8 t8 i8 hJ8 hB8 hT8 H7 HJo
        rcases hr with ⟨rfl, hsh, hgs⟩ | ⟨rfl, o, ho, hlong⟩
        · have HR : Hid ((∀ o, o < Ws.length → (setL (Bk ++ Ws.getD o [])).length ≤ 65536) ∧ GS (eX R Ws As) (DD R.length plc As.length Ws.length (k + 1) 0) I8 ov8) := ⟨hsh, hgs⟩
          clear hsh hgs
          go_wp2_with fail
          refine HMk.out.mono ?_
          rintro e w9 ⟨rfl, hm9, hg9⟩
          have HN : Aside (JN w w9 B G M (eX R Ws As) (fun k => DD R.length plc As.length Ws.length k 0) As Ws (.slice (some ⟨gb, 0, none⟩) As.length ca) (.slice aw Ws.length cw) La Lw w.heap.size (w.heap.size + 1) (w.heap.size + 2) (w.heap.size + 3) 55 (.slice (some ⟨gb, 0, none⟩) As.length ca) (.int .i64 (R.length : Int)) vars v8 pl8 I8 ov8 D8 (k + 1)) := by
            obtain ⟨e1, e2, e3, e4, e5⟩ := H8.out
            have jb9 := e3.mark e2 hg9
            refine ⟨e1.mark e2 hg9, HR.out.2, e4.grown hg9 (Nat.le_trans hB e4.size) (fun j hj => by cases hj; omega), e5.grown hg9 (fun j hj => by cases hj; omega), jb9.ob, jb9.oo, jb9.b0, jb9.b1, jb9.b2, hm9.congr (fun x => by by_cases hx : x ∈ Bk <;> simp [hx]), fun b hb => ?_⟩
            rcases Nat.lt_succ_iff_lt_or_eq.1 hb with h3 | h3
            · exact HGs.out.2 b h3
            · rw [h3, ← HBk.out]; exact HR.out.1
          clear hm9 hg9
          go_wp2
          go_roundg (As.length - k - 1)
          case measure => omega
          case rel => exact ⟨k + 1, v8, pl8, I8, ov8, D8, by simp, by omega, HN⟩
        · have HR : Hid (∃ a ∈ Ws, ∃ b ∈ As, 65536 < (setL (a ++ b)).length) := HLong.out k o hlt ho (by rw [← HBk.out]; exact hlong)
          clear hlong
          go_wp2_with fail
          refine HMk.out.mono ?_
          rintro e w9 ⟨rfl, hm9, hg9⟩
          have HN : Hid (JSt w9 B G M v8 pl8 I8 ov8 D8 ∧ Below B w w9 ∧ TKp w w9) := by
            obtain ⟨e1, e2, e3, e4, e5⟩ := H8.out
            exact ⟨e1.mark e2 hg9, e4.grown hg9 (Nat.le_trans hB e4.size) (fun j hj => by cases hj; omega), e5.grown hg9 (fun j hj => by cases hj; omega)⟩
          clear hm9 hg9
          go_wp2
          exact HPP.out _ _ ⟨v8, pl8, I8, ov8, D8, fun _ => True, HN.out.1, HN.out.2.1, HN.out.2.2, Or.inr ⟨rfl, HR.out⟩⟩
      · obtain rfl : k = As.length := by omega
        go_wp2
        obtain ⟨hf1, Dd, hf2, hf3⟩ := HFin.out _ _ H.out.gs H.out.short
        exact HPP.out _ _ ⟨v1, pl1, I1, ov1, D1, Dd, H.out.jst, H.out.below, H.out.tk, Or.inl ⟨rfl, hf1, hf2, hf3⟩⟩
end Go.Proofs.YtokpjegiinggdaaDoor
