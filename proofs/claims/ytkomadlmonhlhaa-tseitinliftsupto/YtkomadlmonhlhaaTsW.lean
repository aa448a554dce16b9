import Derived.Test.YtkomadlmonhlhaaTsV
namespace Go.Proofs.Ytkomadlmonhlhaa
open Go.ChangeShapes Go.WideShapes Go.ChangeAt Go.RowKit Go.Lib Go.Ag Go.WideMaps Go.Maps Go.ChangeMaps Go.Cn Go.Shelf
attribute [local go_sem] Oper.semAt_some

theorem wRoot_lt {cn : List Nat} {f : Nat → Nat} (hf : ∀ i, f i < 18446744073709551616) (l : Nat) : ∀ i, wRoot cn f l i < 18446744073709551616 := by
  unfold wRoot
  split
  · exact hf
  · exact addM_lt hf _
/-- marks on their way -/
structure WM (w wr : World) (Cb Bm Mb nw : Nat) (V : Array Value) (f : Nat → Nat) : Prop where
  cb : wr.heap[Cb]? = some (.cells V 83 (0, 0))
  mb : wr.heap[Bm]? = some (.cells #[.slice (some ⟨Mb, 0, none⟩) nw nw] 117 (0, 0))
  mr : MR wr Mb nw f
  bel : Below w.heap.size w wr
  l1 : w.heap.size ≤ Mb
theorem WM.over {w wr w' : World} {Cb Bm Mb nw : Nat} {V : Array Value} {f : Nat → Nat} (h : WM w wr Cb Bm Mb nw V f) (hb : Below wr.heap.size wr w') : WM w w' Cb Bm Mb nw V f :=
  ⟨(hb.block _ (Array.getElem?_eq_some_iff.1 h.cb).1).trans h.cb, (hb.block _ (Array.getElem?_eq_some_iff.1 h.mb).1).trans h.mb, h.mr.keep (hb.block _ h.mr.inb), h.bel.trans (hb.mono h.bel.size), h.l1⟩
theorem WM.ne {w wr : World} {Cb Bm Mb nw : Nat} {V : Array Value} {f : Nat → Nat} (h : WM w wr Cb Bm Mb nw V f) {j : Nat} {cs : Array Value} {t : TypeId} {fr : Nat × Nat} (hj : wr.heap[j]? = some (.cells cs t fr)) (ht : t ≠ 120) : j ≠ Mb := fun e => by
  obtain ⟨A, hA, _⟩ := h.mr.blk
  rw [e, hA] at hj
  cases hj
  exact ht rfl
theorem WM.put {w wr w' : World} {Cb Bm Mb nw : Nat} {V : Array Value} {f g : Nat → Nat} (h : WM w wr Cb Bm Mb nw V f) (hm : MR w' Mb nw g) (ho : OB wr Mb w') : WM w w' Cb Bm Mb nw V g :=
  ⟨(ho.kp _ (Array.getElem?_eq_some_iff.1 h.cb).1 (h.ne h.cb (by decide))).trans h.cb, (ho.kp _ (Array.getElem?_eq_some_iff.1 h.mb).1 (h.ne h.mb (by decide))).trans h.mb, hm, OB.below h.bel h.bel.size ho h.l1, h.l1⟩
theorem OB.from {W W' : World} {Mb nw : Nat} {f : Nat → Nat} (h : OB W Mb W') (hm : MR W Mb nw f) (B : Nat) : KeepsFrom B W W' :=
  ⟨h.size, fun k o _ hk ho => (h.kp k (Array.getElem?_eq_some_iff.1 hk).1 (fun e => by
    obtain ⟨A, hA, _⟩ := hm.blk
    rw [e, hA] at hk
    cases hk
    cases ho)).trans hk⟩
/-- what stands between two rounds -/
structure WI (w : World) (H Bm Mb nw : Nat) (f : Nat → Nat) (W : World) : Prop where
  mr : MR W Mb nw f
  mb : W.heap[Bm]? = some (.cells #[.slice (some ⟨Mb, 0, none⟩) nw nw] 117 (0, 0))
  bel : Below w.heap.size w W
  hs : H ≤ W.heap.size
theorem WI.own {β : Type} {w : World} {H Bm Mb nw : Nat} (hH : w.heap.size ≤ H) (g : β → Nat → Nat) : OwnFrom H (fun s W => WI w H Bm Mb nw (g s) W) := fun s W W' row hs hg hr => by
  have hk : ∀ (j : Nat) (cs : Array Value) (t : TypeId) (fr : Nat × Nat), W.heap[j]? = some (.cells cs t fr) → W'.heap[j]? = W.heap[j]? := fun j cs t fr hj => hg.block j (Array.getElem?_eq_some_iff.1 hj).1 (fun e => by
    obtain ⟨_, o, ho, hc⟩ := hr j e.symm
    rw [hj] at ho
    cases ho
    cases hc)
  obtain ⟨A, hA, _⟩ := hs.mr.blk
  exact ⟨hs.mr.keep (hk _ _ _ _ hA), (hk _ _ _ _ hs.mb).trans hs.mb, (ownFrom_below (β := Unit) (Nat.le_refl _) hH) () W W' row hs.bel hg hr, Nat.le_trans hs.hs hg.size⟩
theorem WI.ob {w : World} {H Bm Mb nw : Nat} {f g : Nat → Nat} {W W' : World} (h : WI w H Bm Mb nw f W) (hl : w.heap.size ≤ Mb) (hm : MR W' Mb nw g) (ho : OB W Mb W') : WI w H Bm Mb nw g W' :=
  ⟨hm, (ho.kp _ (Array.getElem?_eq_some_iff.1 h.mb).1 (fun e => by
    obtain ⟨A, hA, _⟩ := h.mr.blk
    have h5 := h.mb
    rw [e, hA] at h5
    cases h5)).trans h.mb, OB.below h.bel h.bel.size ho hl, Nat.le_trans h.hs ho.size⟩
def foldG {N m : Nat} (f : Nat → Nat) (pre : List (GX1 N m)) : Nat → Nat := pre.foldl (fun f x => wGate f x.2.1) f
theorem foldG_snoc {N m : Nat} (f : Nat → Nat) (pre : List (GX1 N m)) (x : GX1 N m) : foldG f (pre ++ [x]) = wGate (foldG f pre) x.2.1 := by
  unfold foldG
  rw [List.foldl_append]
  rfl
theorem foldG_map {N m : Nat} (f : Nat → Nat) (pre : List (GX1 N m)) : foldG f pre = (pre.map (fun x => x.2.1)).foldl wGate f := by
  unfold foldG
  rw [List.foldl_map]
set_option maxRecDepth 100000 in
set_option maxHeartbeats 16000000 in
theorem wanted_any (w : World) {aR : Option Addr} {ls : List Nat} {M : Nat} {cn : List Nat} {aG : Option Addr} {gs : List GT} (h : CM w aR ls M cn aG gs) (cR cG : Nat) :
    Calls Try.prog 35 #[.agg #[.slice aR ls.length cR, .map (some M), .slice aG gs.length cG]] w fun e w' => ∃ Mb, e = .returned (.slice (some ⟨Mb, 0, none⟩) (wdsN cn.length) (wdsN cn.length)) ∧ MR w' Mb (wdsN cn.length) (wantM cn ls gs) ∧ Below w.heap.size w w' ∧ w.heap.size ≤ Mb := by
  obtain ⟨V, hV⟩ : ∃ V, V = #[Value.slice aR ls.length cR, .map (some M), .slice aG gs.length cG] := ⟨_, rfl⟩
  obtain ⟨w1, hw1⟩ : ∃ w1, w.alloc (.cells #[.slice aR ls.length cR, .map (some M), .slice aG gs.length cG] 83) = w1 := ⟨_, rfl⟩
  have HB : Hid (Below w.heap.size w w1 ∧ w1.heap[w.heap.size]? = some (.cells V 83 (0, 0))) := by
    rw [← hw1, hV]; exact ⟨ag_bel1 _ _, heap_alloc_new _ _⟩
  have hcn := h.c32
  have hrn := h.rn
  have HC : Hid (CM w aR ls M cn aG gs) := h
  have hno : Hid (Calls Try.prog 57 #[.agg #[.slice aR ls.length cR, .map (some M), .slice aG gs.length cG]] w1 fun e w' => ∃ Mb, e = .returned (.slice (some ⟨Mb, 0, none⟩) (wdsN cn.length) (wdsN cn.length)) ∧ MR w' Mb (wdsN cn.length) (fun _ => 0) ∧ Below w1.heap.size w1 w' ∧ w1.heap.size ≤ Mb) := noMarks_any w1 (h.m.keep (HB.out.1.block _ h.m.lt)) (by omega) _ _
  obtain ⟨n2, hn2⟩ : ∃ n2, ls.length = n2 := ⟨_, rfl⟩
  have HN2 : Hid (ls.length = n2) := hn2
  have c0 : w1.cell? ⟨w.heap.size, 0, none⟩ = some (.slice aR n2 cR) := by rw [ag_cell HB.out.2, hV, hn2]; rfl
  have c1 : w1.cell? ⟨w.heap.size, 1, none⟩ = some (.map (some M)) := by rw [ag_cell HB.out.2, hV]; rfl
  have c2 : w1.cell? ⟨w.heap.size, 2, none⟩ = some (.slice aG gs.length cG) := by rw [ag_cell HB.out.2, hV]; rfl
  have HV : Hid (V = #[Value.slice aR n2 cR, .map (some M), .slice aG gs.length cG]) := by rw [hV, hn2]; exact hid rfl
  have HLit : Hid (∀ W (l : Nat), Below w.heap.size w W → l < 4294967296 → Calls Try.prog 61 #[.agg #[.slice aR n2 cR, .map (some M), .slice aG gs.length cG], .int .u32 (l : Int)] W fun e w' => e = .returned (.int .i64 (litI cn l)) ∧ Below W.heap.size W w') := fun W l hW hl => literal_any W (h.m.keep (hW.block _ h.m.lt)) (by omega) _ _ l hl
  rw [hn2] at hno hw1 hrn
  rw [hn2]
  clear h hn2 hV
  have HW1e : Hid (w.alloc (.cells #[.slice aR n2 cR, .map (some M), .slice aG gs.length cG] 83) = w1) := hw1
  refine (callsIn_wide (n := 9)).1 ?_
  refine callsIn_of_wp_marks Try.func35 rfl trivial ?_ rfl
  simp only [Try.ntmps35, List.size_toArray, List.length_cons, List.length_nil, Nat.reduceAdd, Nat.reduceSub, Array.replicate_succ, Array.replicate_zero, List.push_toArray, List.append_toArray, List.nil_append, List.cons_append]
  gi_wp2_with fail
  refine ⟨trivial, (callsIn_wide.2 hno.out).mono ?_⟩
  rintro e w2 ⟨Mb, rfl, hm2, hb2, hl2⟩
  have HM0 : Hid (WM w (w2.alloc (.cells #[.slice (some ⟨Mb, 0, none⟩) (wdsN cn.length) (wdsN cn.length)] 117)) w.heap.size w2.heap.size Mb (wdsN cn.length) V (fun _ => 0)) := by
    have hc := (hb2.block _ (Array.getElem?_eq_some_iff.1 HB.out.2).1).trans HB.out.2
    exact ⟨(Below.heap_alloc _ _ _ (Array.getElem?_eq_some_iff.1 hc).1).trans hc, heap_alloc_new _ _, hm2.keep (Below.heap_alloc _ _ _ hm2.inb), ag_next (ag_next HB.out.1 hb2) (ag_bel1 _ _), Nat.le_trans HB.out.1.size hl2⟩
  have hq : 2 * cn.length ≤ wdsN cn.length * 64 := wdsN_ok _
  generalize hnw : wdsN cn.length = nw at *
  have HBm : Hid (w.heap.size ≤ w2.heap.size) := (ag_next HB.out.1 hb2).size
  clear hm2 hb2 hl2 hno HB c0 c1 c2 hw1 HW1e
  obtain ⟨Bm, hBm⟩ : ∃ Bm, w2.heap.size = Bm := ⟨_, rfl⟩
  rw [hBm] at HM0 HBm
  have c0 : (w2.alloc (.cells #[.slice (some ⟨Mb, 0, none⟩) nw nw] 117)).cell? ⟨w.heap.size, 0, none⟩ = some (.slice aR n2 cR) := by rw [ag_cell HM0.out.cb, HV.out]; rfl
  gi_wp2_with fail
  generalize w2.alloc (.cells #[.slice (some ⟨Mb, 0, none⟩) nw nw] 117) = w3 at *
  clear c0 hBm
  gi_loopw [14] (fun i wr => ∃ j : Nat, j ≤ n2 ∧ i = .int .i64 (j : Int) ∧ Aside (WM w wr w.heap.size Bm Mb nw V ((ls.take j).foldl (wRoot cn) (fun _ => 0)))) (fun i _ => n2 - (intOf i).toNat)
  case atStart => exact ⟨0, Nat.zero_le _, rfl, HM0.out⟩
  case round =>
    clear HM0
    obtain ⟨j, hj, rfl, HM⟩ := hrel
    have c0 : wr.cell? ⟨w.heap.size, 0, none⟩ = some (.slice aR n2 cR) := by rw [ag_cell HM.out.cb, HV.out]; rfl
    have c1 : wr.cell? ⟨w.heap.size, 1, none⟩ = some (.map (some M)) := by rw [ag_cell HM.out.cb, HV.out]; rfl
    have c2 : wr.cell? ⟨w.heap.size, 2, none⟩ = some (.slice aG gs.length cG) := by rw [ag_cell HM.out.cb, HV.out]; rfl
    by_cases hlt : j < n2
    · have q1 : (j : Int) < (n2 : Int) := by omega
      obtain ⟨b, off, rfl, hb, hcc⟩ := HC.out.r (by rw [HN2.out]; omega)
      have hck := (HM.out.bel.cell (p := ⟨b, off + j, none⟩) hb).trans (hcc j (by rw [HN2.out]; exact hlt))
      have hl32 : ls.getD j 0 < 4294967296 := HC.out.r32 _ (by rw [List.getD_eq_getElem?_getD, List.getElem?_eq_getElem (by rw [HN2.out]; exact hlt)]; exact List.getElem_mem _)
      have HF2 : Hid ((ls.take (j + 1)).foldl (wRoot cn) (fun _ => 0) = wRoot cn ((ls.take j).foldl (wRoot cn) (fun _ => 0)) (ls.getD j 0)) := by
        show _ = _
        rw [List.take_succ_eq_append_getElem (by rw [HN2.out]; exact hlt), List.foldl_append, List.getD_eq_getElem?_getD, List.getElem?_eq_getElem (by rw [HN2.out]; exact hlt)]
        rfl
      clear hcc
      generalize ls.getD j 0 = l at *
      generalize (ls.take j).foldl (wRoot cn) (fun _ => 0) = f at *
      have hbd := litI_bd cn l
      gi_wp2_with fail
      refine ⟨trivial, (callsIn_wide.2 (HLit.out wr l HM.out.bel hl32)).mono ?_⟩
      rintro e wc ⟨rfl, hbc⟩
      have HMc : Hid (WM w wc w.heap.size Bm Mb nw V f) := HM.out.over hbc
      clear hbc HM c0 c1 c2 hck
      have m0 : wc.cell? ⟨Bm, 0, none⟩ = some (.slice (some ⟨Mb, 0, none⟩) nw nw) := ag_cell HMc.out.mb 0
      by_cases e0 : litI cn l = 0
      · have HF3 : Hid ((ls.take (j + 1)).foldl (wRoot cn) (fun _ => 0) = f) := by show _ = _; rw [HF2.out]; unfold wRoot; rw [if_pos e0]
        rw [e0]
        gi_wp2_with fail
        go_roundw
        case rel => exact ⟨j + 1, by omega, by simp, by rw [HF3.out]; exact HMc.out⟩
        case measure => first | (simp [intOf]; omega) | simp [intOf]
      · have HF3 : Hid ((ls.take (j + 1)).foldl (wRoot cn) (fun _ => 0) = addM f (litI cn l)) := by show _ = _; rw [HF2.out]; unfold wRoot; rw [if_neg e0]
        have HAd : Hid (Calls Try.prog 62 #[.slice (some ⟨Mb, 0, none⟩) nw nw, .int .i64 (litI cn l)] wc fun e w' => (∃ v, e = .returned v) ∧ MR w' Mb nw (addM f (litI cn l)) ∧ OB wc Mb w') := add_mark wc HMc.out.mr nw cn.length hq (by omega) _ e0 hbd.1 hbd.2
        have q3 : (litI cn l == 0) = false := by simp [e0]
        clear HF2
        generalize addM f (litI cn l) = fa at *
        generalize litI cn l = li at *
        gi_wp2_with fail
        refine ⟨trivial, (callsIn_wide.2 HAd.out).mono ?_⟩
        rintro e wd ⟨⟨v, rfl⟩, hm, ho⟩
        have HMd : Hid (WM w wd w.heap.size Bm Mb nw V fa) := HMc.out.put hm ho
        clear hm ho HMc HAd m0
        gi_wp2_with fail
        go_roundw
        case rel => exact ⟨j + 1, by omega, by simp, by rw [HF3.out]; exact HMd.out⟩
        case measure => first | (simp [intOf]; omega) | simp [intOf]
    · obtain rfl : j = n2 := by omega
      have q1 : ¬ (j : Int) < (j : Int) := by omega
      have HM9 : Hid (WM w wr w.heap.size Bm Mb nw V (ls.foldl (wRoot cn) (fun _ => 0))) := by have := HM.out; rw [List.take_of_length_le (by rw [HN2.out]; exact Nat.le_refl _)] at this; exact this
      clear HM
      gi_wp2_with fail
      refine ⟨trivial, (bw_in _ _ trivial rfl _ _ _ _).mono ?_⟩
      rintro e w' ⟨rfl, hw'⟩
      subst hw'
      gi_wp2_with fail
      obtain ⟨W0, hW0⟩ : ∃ W0, wr.alloc (.cells #[.slice aG gs.length cG] 81) = W0 := ⟨_, rfl⟩
      obtain ⟨H, hH⟩ : ∃ H, W0.heap.size = H := ⟨_, rfl⟩
      have HB0 : Hid (Below wr.heap.size wr W0 ∧ W0.heap[wr.heap.size]? = some (.cells #[.slice aG gs.length cG] 81 (0, 0))) := by rw [← hW0]; exact ⟨ag_bel1 _ _, heap_alloc_new _ _⟩
      have HM0 : Hid (WM w W0 w.heap.size Bm Mb nw V (ls.foldl (wRoot cn) (fun _ => 0))) := HM9.out.over HB0.out.1
      have hwH : w.heap.size ≤ H := by rw [← hH]; exact HM0.out.bel.size
      have HL1 : Hid (w.heap.size ≤ Mb) := HM9.out.l1
      rw [hW0]
      have HHas : Hid (∀ W (l : Int) (f : Nat → Nat), WI w H Bm Mb nw f W → l ≠ 0 → -(cn.length : Int) ≤ l → l ≤ cn.length → Calls Try.prog 64 #[.slice (some ⟨Mb, 0, none⟩) nw nw, .int .i64 l] W fun e w' => e = .returned (.bool (hasM f l)) ∧ Below W.heap.size W w') := fun W l f hW h0 h1 h2 =>
        (has_any W hW.mr _ cn.length hq (by omega) l h0 h1 h2).mono (by
          rintro e w' ⟨rfl, d, rfl⟩
          exact ⟨rfl, drw_bel _ _⟩)
      have HAdd : Hid (∀ W (l : Int) (f : Nat → Nat), WI w H Bm Mb nw f W → l ≠ 0 → -(cn.length : Int) ≤ l → l ≤ cn.length → Calls Try.prog 62 #[.slice (some ⟨Mb, 0, none⟩) nw nw, .int .i64 l] W fun e w' => (∃ v, e = .returned v) ∧ MR w' Mb nw (addM f l) ∧ OB W Mb w') := fun W l f hW h0 h1 h2 => add_mark W hW.mr nw cn.length hq (by omega) l h0 h1 h2
      have gtne : ∀ {W : World} {f : Nat → Nat} {Bx : Nat} {cs : Array Value}, MR W Mb nw f → W.heap[Bx]? = some (.cells cs 130 (0, 0)) → Bx ≠ Mb := fun hm hb e => by
        obtain ⟨A, hA, _⟩ := hm.blk
        rw [e, hA] at hb
        cases hb
      generalize hf0 : ls.foldl (wRoot cn) (fun _ => 0) = f0 at *
      refine wpIn_rangeFunc_ownH (F := Fence.wide) rfl (by omega) (gf := 81) (lb := #[.pointer (some ⟨wr.heap.size, 0, none⟩)]) rfl trivial (enters_of Try.func81 (by kernel_rfl) rfl)
        (bw_stops Fence.wide _ trivial rfl (by omega) wr.heap.size Mb aG gs cG cn.length HC.out.ok (by have := HC.out.gn; omega) W0 ⟨(Array.getElem?_eq_some_iff.1 HB0.out.2).1, HM0.out.ne HB0.out.2 (by decide)⟩ (HC.out.g.below HM0.out.bel) ?hne (ag_cell HB0.out.2 0)) (fun h1 h2 => h1.t h2) (fun W l o o' h1 h2 h3 h4 => KB.b W l o o' h1 h2 h3 h4) (Below.refl _ _) (fun _ => rfl)
        (fun pre W => WI w H Bm Mb nw (foldG f0 pre) W) (fun _ _ _ => False) (by rw [hH]; exact WI.own hwH _) (fun _ _ _ _ _ hs _ _ => hs)
        ⟨HM0.out.mr, HM0.out.mb, HM0.out.bel, by omega⟩
        (fun x a' W => ∃ Bx, W.heap[Bx]? = some (.cells #[.int .i64 x.2.1.1, .int .i64 x.2.1.2.1, .int .i64 x.2.1.2.2] 130 (0, 0)) ∧ a' = { tmps := #[.agg #[.slice aR j cR, .map (some M), .slice aG gs.length cG], .pointer (some ⟨w.heap.size, 0, none⟩), .slice none 0 0, .pointer (some ⟨Bm, 0, none⟩), undef, u5, u6, undef, .pointer (some ⟨Bx, 0, none⟩), .agg #[.slice aR j cR, .map (some M), .slice aG gs.length cG], .slice (some ⟨Mb, 0, none⟩) nw nw, .pointer (some ⟨w.heap.size, 0, none⟩), .slice aR j cR, .int .i64 (j : Int), .int .i64 (j : Int), .bool false, u16, u17, u18, u19, u20, u21, u22, u23, u24, u25, u26, .pointer (some ⟨w.heap.size, 2, none⟩), .slice aG gs.length cG, .func (.func 81) #[] #[.pointer (some ⟨wr.heap.size, 0, none⟩)], .int .i64 (x.1 : Int), .agg #[.int .i64 x.2.1.1, .int .i64 x.2.1.2.1, .int .i64 x.2.1.2.2], undef, undef, undef, undef, undef, undef, undef, undef, undef, undef, undef, undef, undef, undef, undef, undef, undef, undef, undef, undef, undef, undef, undef, undef, undef, undef, undef, undef], defers := [] })
        ?hax ?assign ?body ?done ?stop
      case hne =>
        intro h0 b off e1 e2
        obtain ⟨b', off', e3, hb', _⟩ := HC.out.g h0
        rw [e1] at e3
        cases e3
        have := HL1.out
        omega
      case hax =>
        rintro x a' _ X Y row ⟨Bx, h1, h2⟩ hg hr
        refine ⟨Bx, (hg.block Bx (Array.getElem?_eq_some_iff.1 h1).1 (fun e => ?_)).trans h1, h2⟩
        obtain ⟨_, o, ho, hc⟩ := hr Bx e.symm
        rw [h1] at ho
        cases ho
        cases hc
      case assign =>
        rintro l pre x W K hi hK
        obtain ⟨xi, ⟨⟨gn, ga, gb⟩, hok⟩⟩ := x
        simp only [encG]
        gi_wp2
        exact hK _ _ ((KeepsOthers.alloc _ _).from _) (fun k hk _ => Below.heap_alloc _ _ k (by have := hi.hs; omega)) ⟨hi.mr.keep (Below.heap_alloc _ _ _ hi.mr.inb), (Below.heap_alloc _ _ _ (Array.getElem?_eq_some_iff.1 hi.mb).1).trans hi.mb, hi.bel.trans ((ag_bel1 _ _).mono hi.bel.size), Nat.le_trans hi.hs (ag_bel1 _ _).size⟩ ⟨W.heap.size, heap_alloc_new _ _, rfl⟩
      case body =>
        rintro l pre x a' W hl _ hI ⟨Bx, hBx, rfl⟩ hlt
        have HFN : Hid (foldG f0 (pre ++ [x]) = wGate (foldG f0 pre) x.2.1) := foldG_snoc f0 pre x
        have HI : Hid (WI w H Bm Mb nw (foldG f0 pre) W) := hI
        have hok := x.2.2 (by omega)
        have HWa0 : Hid (WI w H Bm Mb nw (foldG f0 pre) W ∧ OB W Mb W ∧ W.heap[Bx]? = some (.cells #[.int .i64 x.2.1.1, .int .i64 x.2.1.2.1, .int .i64 x.2.1.2.2] 130 (0, 0))) := ⟨hI, OB.refl _ _, hBx⟩
        clear hI hBx
        obtain ⟨FN, hFNe⟩ : ∃ FN, foldG f0 (pre ++ [x]) = FN := ⟨_, rfl⟩
        rw [hFNe] at HFN
        have HFe : Hid (foldG f0 (pre ++ [x]) = FN) := hFNe
        clear hFNe
        have HHe : Hid (W0.heap.size = H) := hH
        generalize foldG f0 pre = f at *
        obtain ⟨xi, ⟨⟨gn, ga, gb⟩, hok2⟩⟩ := x
        obtain ⟨⟨o1, o2⟩, ⟨o3, o4, o5⟩, ⟨o6, o7, o8⟩⟩ := hok
        simp only [] at o1 o2 o3 o4 o5 o6 o7 o8 HWa0 HFN
        have f0 : W.cell? ⟨Bx, 0, none⟩ = some (.int .i64 gn) := ag_cell HWa0.out.2.2 0
        have f1 : W.cell? ⟨Bx, 1, none⟩ = some (.int .i64 ga) := ag_cell HWa0.out.2.2 1
        have f2 : W.cell? ⟨Bx, 2, none⟩ = some (.int .i64 gb) := ag_cell HWa0.out.2.2 2
        have m0 : W.cell? ⟨Bm, 0, none⟩ = some (.slice (some ⟨Mb, 0, none⟩) nw nw) := ag_cell HWa0.out.1.mb 0
        gi_wp2_with fail
        refine ⟨trivial, (CallsIn.inRound l (callsIn_wide.2 (HHas.out W gn f HWa0.out.1 (by omega) (by omega) (by omega)))).mono ?_⟩
        rintro e Wa ⟨rfl, hbc⟩
        have HWa : Hid (WI w H Bm Mb nw f Wa ∧ OB W Mb Wa ∧ Wa.heap[Bx]? = some (.cells #[.int .i64 gn, .int .i64 ga, .int .i64 gb] 130 (0, 0))) := ⟨HWa0.out.1.ob HL1.out (HWa0.out.1.mr.keep (hbc.block _ HWa0.out.1.mr.inb)) (OB.of_below hbc), OB.of_below hbc, (hbc.block _ (Array.getElem?_eq_some_iff.1 HWa0.out.2.2).1).trans HWa0.out.2.2⟩
        clear hbc HWa0 f0 f1 f2 m0
        have f0 : Wa.cell? ⟨Bx, 0, none⟩ = some (.int .i64 gn) := ag_cell HWa.out.2.2 0
        have f1 : Wa.cell? ⟨Bx, 1, none⟩ = some (.int .i64 ga) := ag_cell HWa.out.2.2 1
        have f2 : Wa.cell? ⟨Bx, 2, none⟩ = some (.int .i64 gb) := ag_cell HWa.out.2.2 2
        have m0 : Wa.cell? ⟨Bm, 0, none⟩ = some (.slice (some ⟨Mb, 0, none⟩) nw nw) := ag_cell HWa.out.1.mb 0
        cases hh1 : hasM f gn with
        | true =>
          gi_wp2_with fail
          refine ⟨trivial, (CallsIn.inRound l (callsIn_wide.2 (HAdd.out Wa ga (f) HWa.out.1 (by omega) (by omega) (by omega)))).mono ?_⟩
          rintro e Wb ⟨⟨_, rfl⟩, hmc, hoc⟩
          have HWb : Hid (WI w H Bm Mb nw (addM f ga) Wb ∧ OB W Mb Wb ∧ Wb.heap[Bx]? = some (.cells #[.int .i64 gn, .int .i64 ga, .int .i64 gb] 130 (0, 0))) := ⟨HWa.out.1.ob HL1.out hmc hoc, HWa.out.2.1.trans hoc, (hoc.kp _ (Array.getElem?_eq_some_iff.1 HWa.out.2.2).1 (gtne HWa.out.1.mr HWa.out.2.2)).trans HWa.out.2.2⟩
          clear hmc hoc HWa f0 f1 f2 m0
          have f0 : Wb.cell? ⟨Bx, 0, none⟩ = some (.int .i64 gn) := ag_cell HWb.out.2.2 0
          have f1 : Wb.cell? ⟨Bx, 1, none⟩ = some (.int .i64 ga) := ag_cell HWb.out.2.2 1
          have f2 : Wb.cell? ⟨Bx, 2, none⟩ = some (.int .i64 gb) := ag_cell HWb.out.2.2 2
          have m0 : Wb.cell? ⟨Bm, 0, none⟩ = some (.slice (some ⟨Mb, 0, none⟩) nw nw) := ag_cell HWb.out.1.mb 0
          gi_wp2_with fail
          refine ⟨trivial, (CallsIn.inRound l (callsIn_wide.2 (HAdd.out Wb gb (addM f ga) HWb.out.1 (by omega) (by omega) (by omega)))).mono ?_⟩
          rintro e Wc ⟨⟨_, rfl⟩, hmc, hoc⟩
          have HWc : Hid (WI w H Bm Mb nw (addM (addM f ga) gb) Wc ∧ OB W Mb Wc ∧ Wc.heap[Bx]? = some (.cells #[.int .i64 gn, .int .i64 ga, .int .i64 gb] 130 (0, 0))) := ⟨HWb.out.1.ob HL1.out hmc hoc, HWb.out.2.1.trans hoc, (hoc.kp _ (Array.getElem?_eq_some_iff.1 HWb.out.2.2).1 (gtne HWb.out.1.mr HWb.out.2.2)).trans HWb.out.2.2⟩
          clear hmc hoc HWb f0 f1 f2 m0
          have f0 : Wc.cell? ⟨Bx, 0, none⟩ = some (.int .i64 gn) := ag_cell HWc.out.2.2 0
          have f1 : Wc.cell? ⟨Bx, 1, none⟩ = some (.int .i64 ga) := ag_cell HWc.out.2.2 1
          have f2 : Wc.cell? ⟨Bx, 2, none⟩ = some (.int .i64 gb) := ag_cell HWc.out.2.2 2
          have m0 : Wc.cell? ⟨Bm, 0, none⟩ = some (.slice (some ⟨Mb, 0, none⟩) nw nw) := ag_cell HWc.out.1.mb 0
          gi_wp2_with fail
          refine ⟨trivial, (CallsIn.inRound l (callsIn_wide.2 (HHas.out Wc (-gn) (addM (addM f ga) gb) HWc.out.1 (by omega) (by omega) (by omega)))).mono ?_⟩
          rintro e Wd ⟨rfl, hbc⟩
          have HWd : Hid (WI w H Bm Mb nw (addM (addM f ga) gb) Wd ∧ OB W Mb Wd ∧ Wd.heap[Bx]? = some (.cells #[.int .i64 gn, .int .i64 ga, .int .i64 gb] 130 (0, 0))) := ⟨HWc.out.1.ob HL1.out (HWc.out.1.mr.keep (hbc.block _ HWc.out.1.mr.inb)) (OB.of_below hbc), HWc.out.2.1.trans (OB.of_below hbc), (hbc.block _ (Array.getElem?_eq_some_iff.1 HWc.out.2.2).1).trans HWc.out.2.2⟩
          clear hbc HWc f0 f1 f2 m0
          have f0 : Wd.cell? ⟨Bx, 0, none⟩ = some (.int .i64 gn) := ag_cell HWd.out.2.2 0
          have f1 : Wd.cell? ⟨Bx, 1, none⟩ = some (.int .i64 ga) := ag_cell HWd.out.2.2 1
          have f2 : Wd.cell? ⟨Bx, 2, none⟩ = some (.int .i64 gb) := ag_cell HWd.out.2.2 2
          have m0 : Wd.cell? ⟨Bm, 0, none⟩ = some (.slice (some ⟨Mb, 0, none⟩) nw nw) := ag_cell HWd.out.1.mb 0
          cases hh2 : hasM (addM (addM f ga) gb) (-gn) with
          | true =>
            gi_wp2_with fail
            refine ⟨trivial, (CallsIn.inRound l (callsIn_wide.2 (HAdd.out Wd (-ga) (addM (addM f ga) gb) HWd.out.1 (by omega) (by omega) (by omega)))).mono ?_⟩
            rintro e We ⟨⟨_, rfl⟩, hmc, hoc⟩
            have HWe : Hid (WI w H Bm Mb nw (addM (addM (addM f ga) gb) (-ga)) We ∧ OB W Mb We ∧ We.heap[Bx]? = some (.cells #[.int .i64 gn, .int .i64 ga, .int .i64 gb] 130 (0, 0))) := ⟨HWd.out.1.ob HL1.out hmc hoc, HWd.out.2.1.trans hoc, (hoc.kp _ (Array.getElem?_eq_some_iff.1 HWd.out.2.2).1 (gtne HWd.out.1.mr HWd.out.2.2)).trans HWd.out.2.2⟩
            clear hmc hoc HWd f0 f1 f2 m0
            have f0 : We.cell? ⟨Bx, 0, none⟩ = some (.int .i64 gn) := ag_cell HWe.out.2.2 0
            have f1 : We.cell? ⟨Bx, 1, none⟩ = some (.int .i64 ga) := ag_cell HWe.out.2.2 1
            have f2 : We.cell? ⟨Bx, 2, none⟩ = some (.int .i64 gb) := ag_cell HWe.out.2.2 2
            have m0 : We.cell? ⟨Bm, 0, none⟩ = some (.slice (some ⟨Mb, 0, none⟩) nw nw) := ag_cell HWe.out.1.mb 0
            gi_wp2_with fail
            refine ⟨trivial, (CallsIn.inRound l (callsIn_wide.2 (HAdd.out We (-gb) (addM (addM (addM f ga) gb) (-ga)) HWe.out.1 (by omega) (by omega) (by omega)))).mono ?_⟩
            rintro e Wf ⟨⟨_, rfl⟩, hmc, hoc⟩
            have HWf : Hid (WI w H Bm Mb nw (addM (addM (addM (addM f ga) gb) (-ga)) (-gb)) Wf ∧ OB W Mb Wf ∧ Wf.heap[Bx]? = some (.cells #[.int .i64 gn, .int .i64 ga, .int .i64 gb] 130 (0, 0))) := ⟨HWe.out.1.ob HL1.out hmc hoc, HWe.out.2.1.trans hoc, (hoc.kp _ (Array.getElem?_eq_some_iff.1 HWe.out.2.2).1 (gtne HWe.out.1.mr HWe.out.2.2)).trans HWe.out.2.2⟩
            clear hmc hoc HWe f0 f1 f2 m0
            have f0 : Wf.cell? ⟨Bx, 0, none⟩ = some (.int .i64 gn) := ag_cell HWf.out.2.2 0
            have f1 : Wf.cell? ⟨Bx, 1, none⟩ = some (.int .i64 ga) := ag_cell HWf.out.2.2 1
            have f2 : Wf.cell? ⟨Bx, 2, none⟩ = some (.int .i64 gb) := ag_cell HWf.out.2.2 2
            have m0 : Wf.cell? ⟨Bm, 0, none⟩ = some (.slice (some ⟨Mb, 0, none⟩) nw nw) := ag_cell HWf.out.1.mb 0
            have hfin : wGate f (gn, ga, gb) = addM (addM (addM (addM f ga) gb) (-ga)) (-gb) := by unfold wGate wTwo wOne; simp [hh1, hh2]
            rw [hfin] at HFN
            have HZ : Hid (KeepsFrom H W _ ∧ KB H Mb W _ ∧ WI w H Bm Mb nw FN _) := ⟨HWf.out.2.1.from HI.out.mr H, fun k hk hn => HWf.out.2.1.kp k (Nat.lt_of_lt_of_le hk HI.out.hs) hn, by rw [HFN.out]; exact HWf.out.1⟩
            clear f0 f1 f2 m0
            gi_wp2_with fail
            exact (show KeepsFrom W0.heap.size W _ ∧ KB W0.heap.size Mb W _ ∧ WI w H Bm Mb nw (foldG _ _) _ from ⟨by rw [HHe.out]; exact HZ.out.1, by rw [HHe.out]; exact HZ.out.2.1, by rw [HFe.out]; exact HZ.out.2.2⟩)
          | false =>
            have hfin : wGate f (gn, ga, gb) = addM (addM f ga) gb := by unfold wGate wTwo wOne; simp [hh1, hh2]
            rw [hfin] at HFN
            have HZ : Hid (KeepsFrom H W _ ∧ KB H Mb W _ ∧ WI w H Bm Mb nw FN _) := ⟨HWd.out.2.1.from HI.out.mr H, fun k hk hn => HWd.out.2.1.kp k (Nat.lt_of_lt_of_le hk HI.out.hs) hn, by rw [HFN.out]; exact HWd.out.1⟩
            clear f0 f1 f2 m0
            gi_wp2_with fail
            exact (show KeepsFrom W0.heap.size W _ ∧ KB W0.heap.size Mb W _ ∧ WI w H Bm Mb nw (foldG _ _) _ from ⟨by rw [HHe.out]; exact HZ.out.1, by rw [HHe.out]; exact HZ.out.2.1, by rw [HFe.out]; exact HZ.out.2.2⟩)
        | false =>
          gi_wp2_with fail
          refine ⟨trivial, (CallsIn.inRound l (callsIn_wide.2 (HHas.out Wa (-gn) (f) HWa.out.1 (by omega) (by omega) (by omega)))).mono ?_⟩
          rintro e Wd ⟨rfl, hbc⟩
          have HWd : Hid (WI w H Bm Mb nw (f) Wd ∧ OB W Mb Wd ∧ Wd.heap[Bx]? = some (.cells #[.int .i64 gn, .int .i64 ga, .int .i64 gb] 130 (0, 0))) := ⟨HWa.out.1.ob HL1.out (HWa.out.1.mr.keep (hbc.block _ HWa.out.1.mr.inb)) (OB.of_below hbc), HWa.out.2.1.trans (OB.of_below hbc), (hbc.block _ (Array.getElem?_eq_some_iff.1 HWa.out.2.2).1).trans HWa.out.2.2⟩
          clear hbc HWa f0 f1 f2 m0
          have f0 : Wd.cell? ⟨Bx, 0, none⟩ = some (.int .i64 gn) := ag_cell HWd.out.2.2 0
          have f1 : Wd.cell? ⟨Bx, 1, none⟩ = some (.int .i64 ga) := ag_cell HWd.out.2.2 1
          have f2 : Wd.cell? ⟨Bx, 2, none⟩ = some (.int .i64 gb) := ag_cell HWd.out.2.2 2
          have m0 : Wd.cell? ⟨Bm, 0, none⟩ = some (.slice (some ⟨Mb, 0, none⟩) nw nw) := ag_cell HWd.out.1.mb 0
          cases hh2 : hasM f (-gn) with
          | true =>
            gi_wp2_with fail
            refine ⟨trivial, (CallsIn.inRound l (callsIn_wide.2 (HAdd.out Wd (-ga) (f) HWd.out.1 (by omega) (by omega) (by omega)))).mono ?_⟩
            rintro e We ⟨⟨_, rfl⟩, hmc, hoc⟩
            have HWe : Hid (WI w H Bm Mb nw (addM f (-ga)) We ∧ OB W Mb We ∧ We.heap[Bx]? = some (.cells #[.int .i64 gn, .int .i64 ga, .int .i64 gb] 130 (0, 0))) := ⟨HWd.out.1.ob HL1.out hmc hoc, HWd.out.2.1.trans hoc, (hoc.kp _ (Array.getElem?_eq_some_iff.1 HWd.out.2.2).1 (gtne HWd.out.1.mr HWd.out.2.2)).trans HWd.out.2.2⟩
            clear hmc hoc HWd f0 f1 f2 m0
            have f0 : We.cell? ⟨Bx, 0, none⟩ = some (.int .i64 gn) := ag_cell HWe.out.2.2 0
            have f1 : We.cell? ⟨Bx, 1, none⟩ = some (.int .i64 ga) := ag_cell HWe.out.2.2 1
            have f2 : We.cell? ⟨Bx, 2, none⟩ = some (.int .i64 gb) := ag_cell HWe.out.2.2 2
            have m0 : We.cell? ⟨Bm, 0, none⟩ = some (.slice (some ⟨Mb, 0, none⟩) nw nw) := ag_cell HWe.out.1.mb 0
            gi_wp2_with fail
            refine ⟨trivial, (CallsIn.inRound l (callsIn_wide.2 (HAdd.out We (-gb) (addM f (-ga)) HWe.out.1 (by omega) (by omega) (by omega)))).mono ?_⟩
            rintro e Wf ⟨⟨_, rfl⟩, hmc, hoc⟩
            have HWf : Hid (WI w H Bm Mb nw (addM (addM f (-ga)) (-gb)) Wf ∧ OB W Mb Wf ∧ Wf.heap[Bx]? = some (.cells #[.int .i64 gn, .int .i64 ga, .int .i64 gb] 130 (0, 0))) := ⟨HWe.out.1.ob HL1.out hmc hoc, HWe.out.2.1.trans hoc, (hoc.kp _ (Array.getElem?_eq_some_iff.1 HWe.out.2.2).1 (gtne HWe.out.1.mr HWe.out.2.2)).trans HWe.out.2.2⟩
            clear hmc hoc HWe f0 f1 f2 m0
            have f0 : Wf.cell? ⟨Bx, 0, none⟩ = some (.int .i64 gn) := ag_cell HWf.out.2.2 0
            have f1 : Wf.cell? ⟨Bx, 1, none⟩ = some (.int .i64 ga) := ag_cell HWf.out.2.2 1
            have f2 : Wf.cell? ⟨Bx, 2, none⟩ = some (.int .i64 gb) := ag_cell HWf.out.2.2 2
            have m0 : Wf.cell? ⟨Bm, 0, none⟩ = some (.slice (some ⟨Mb, 0, none⟩) nw nw) := ag_cell HWf.out.1.mb 0
            have hfin : wGate f (gn, ga, gb) = addM (addM f (-ga)) (-gb) := by unfold wGate wTwo wOne; simp [hh1, hh2]
            rw [hfin] at HFN
            have HZ : Hid (KeepsFrom H W _ ∧ KB H Mb W _ ∧ WI w H Bm Mb nw FN _) := ⟨HWf.out.2.1.from HI.out.mr H, fun k hk hn => HWf.out.2.1.kp k (Nat.lt_of_lt_of_le hk HI.out.hs) hn, by rw [HFN.out]; exact HWf.out.1⟩
            clear f0 f1 f2 m0
            gi_wp2_with fail
            exact (show KeepsFrom W0.heap.size W _ ∧ KB W0.heap.size Mb W _ ∧ WI w H Bm Mb nw (foldG _ _) _ from ⟨by rw [HHe.out]; exact HZ.out.1, by rw [HHe.out]; exact HZ.out.2.1, by rw [HFe.out]; exact HZ.out.2.2⟩)
          | false =>
            have hfin : wGate f (gn, ga, gb) = f := by unfold wGate wTwo wOne; simp [hh1, hh2]
            rw [hfin] at HFN
            have HZ : Hid (KeepsFrom H W _ ∧ KB H Mb W _ ∧ WI w H Bm Mb nw FN _) := ⟨HWd.out.2.1.from HI.out.mr H, fun k hk hn => HWd.out.2.1.kp k (Nat.lt_of_lt_of_le hk HI.out.hs) hn, by rw [HFN.out]; exact HWd.out.1⟩
            clear f0 f1 f2 m0
            gi_wp2_with fail
            exact (show KeepsFrom W0.heap.size W _ ∧ KB W0.heap.size Mb W _ ∧ WI w H Bm Mb nw (foldG _ _) _ from ⟨by rw [HHe.out]; exact HZ.out.1, by rw [HHe.out]; exact HZ.out.2.1, by rw [HFe.out]; exact HZ.out.2.2⟩)
      case done =>
        rintro D xs W hD hS hI hK
        have m0 : W.cell? ⟨Bm, 0, none⟩ = some (.slice (some ⟨Mb, 0, none⟩) nw nw) := ag_cell hI.mb 0
        have HFW : Hid (foldG f0 xs = wantM cn ls gs) := by
          show _ = _
          rw [foldG_map, hS, elG_all, ← hf0]
          rfl
        have HI : Hid (WI w H Bm Mb nw (foldG f0 xs) W) := hI
        gi_wp2_with fail
        refine ⟨by simp, .inl ⟨_, _, rfl, run_takeDeferred hK, ?_⟩⟩
        refine ⟨_, results_tmp rfl _ _ _, Mb, by rw [hnw]; rfl, ?_, ?_, HL1.out⟩
        · rw [← HFW.out, hnw]
          obtain ⟨A, hA, _⟩ := HI.out.mr.blk
          exact HI.out.mr.keep (World.putObj_heap_other (fun e => by rw [← e, hA] at hK; cases hK))
        · exact HI.out.bel.trans (belowK_b (w := w) (Nat.le_refl _) W D _ _ (by omega) hK rfl rfl)
      case stop =>
        rintro D c pre W _ _ h _
        exact h.elim
end Go.Proofs.Ytkomadlmonhlhaa
