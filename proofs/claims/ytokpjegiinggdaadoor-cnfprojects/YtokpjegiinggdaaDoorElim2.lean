import Derived.Test.YtokpjegiinggdaaDoorTStep
import Derived.Test.YtokpjegiinggdaaDoorElim1
namespace Go.Proofs.YtokpjegiinggdaaDoor
open Go.ChangeShapes Go.WideShapes Go.ChangeAt Go.RowKit Go.Cn Go.WideMaps Go.Maps
open Go.Sort (HoldsK get_flatK)

theorem sw_old (w : World) (g m k : Nat) (d : Array Pl) (os : Array Obj) (hk : k < w.heap.size) (hne : k ≠ g) : (sortWorldK encP 2 w g 0 m d os).heap[k]? = w.heap[k]? := by
  show ((w.heap.modify g _) ++ os)[k]? = _
  rw [Array.getElem?_append_left (by simpa using hk), Array.getElem?_modify, if_neg (fun e => hne e.symm)]
theorem sw_at (w : World) (g m : Nat) (d : Array Pl) (os : Array Obj) {cur : Array Value} {e : TypeId} (h : w.heap[g]? = some (.cells cur e (0, 0))) : ∃ cur', (sortWorldK encP 2 w g 0 m d os).heap[g]? = some (.cells cur' e (0, 0)) ∧ cur'.size = cur.size := by
  have hg : g < w.heap.size := (Array.getElem?_eq_some_iff.1 h).1
  refine ⟨Sort.putCells id 0 (Sort.flatK encP 2 d) cur, ?_, by simp [Sort.putCells]⟩
  show ((w.heap.modify g _) ++ os)[g]? = _
  rw [Array.getElem?_append_left (by simpa using hg), Array.getElem?_modify, if_pos rfl, h]
  rfl
theorem cells_of_holds {w : World} {g : Nat} {cur : Array Value} {e : TypeId} {pl : List Pl} (hb : w.heap[g]? = some (.cells cur e (0, 0))) (hs : pl.length * 2 ≤ cur.size) (h : HoldsK encP 2 w g 0 pl.toArray) : cur.toList.take (pl.length * 2) = cellsP (pl.map slP) := by
  apply List.ext_getElem?
  intro j
  by_cases hj : j < pl.length * 2
  · have h1 := (h j (by simpa using hj)).1
    rw [get_flatK encP 2 pl.toArray j (by simpa using hj)] at h1
    rw [List.getElem?_take_of_lt hj]
    simp only [World.cell?, hb, Nat.zero_add] at h1
    simp only [Option.isSome_none, Bool.false_eq_true, if_false] at h1
    rw [Array.getElem?_toList, h1]
    have hk : j / 2 < pl.length := by omega
    have e1 : pl.toArray[j / 2]! = pl[j / 2] := by rw [getElem!_pos pl.toArray (j / 2) (by simpa using hk)]; simp
    rw [e1]
    obtain ⟨g1, g2⟩ := cellsP_get pl (j / 2) hk
    rcases Nat.mod_two_eq_zero_or_one j with h0 | h0
    · have hj2 : j = 2 * (j / 2) := by omega
      rw [h0, show (cellsP (pl.map slP))[j]? = (cellsP (pl.map slP))[2 * (j / 2)]? by rw [← hj2], g1]
      simp [encP, slV]
    · have hj2 : j = 2 * (j / 2) + 1 := by omega
      rw [h0, show (cellsP (pl.map slP))[j]? = (cellsP (pl.map slP))[2 * (j / 2) + 1]? by rw [← hj2], g2]
      simp [encP]
  · rw [List.getElem?_eq_none (by simp; omega), List.getElem?_eq_none (by rw [cellsP_len]; simp; omega)]
/-- the sort of what was gathered -/
theorem sort_gath {w : World} {B G M n : Nat} {v : Value} {pl : List Pl} {lits : Int} {over : Bool} {D : DataW Unit} (h : Gath w B G M v (pl.map slP) lits over n D) (hn : pl.length ≤ 1048576) :
    Calls Tryd.prog 59 #[v, .func (.func 60) #[] #[]] w fun e w' => e = .returned (.tuple #[]) ∧ ∃ pl' : List Pl, pl'.Perm pl ∧ (pl'.Pairwise fun a b => a.2.val ≤ b.2.val) ∧ Gath w' B G M v (pl'.map slP) lits over n D ∧ GKept w w' G M v := by
  by_cases h0 : 0 < pl.length
  · rcases h.row.2 with ⟨e, h1⟩ | ⟨g, cap, cur, e, hB, hg, h1, h2, h3, h4⟩
    · simp only [List.length_map] at h1; omega
    · simp only [List.length_map] at e h1 h3 h4
      subst e
      have hgl : g < w.heap.size := (Array.getElem?_eq_some_iff.1 hg).1
      have hH := holds_pl hg h4
      have hs := sortP_any g 0 cap pl.toArray w hH hgl (by simp; omega)
      simp only [List.size_toArray] at hs
      refine hs.mono fun e w' ⟨he, d', m, os, hp, hs, hw⟩ => ⟨he, d'.toList, ?_, ?_, ?_, ?_⟩
      · have hsz' : d'.size = pl.length := by simpa using hp.1
        have h := hp.2.2
        rw [← hsz', Array.extract_size] at h
        have e : (pl.toArray.extract 0 d'.size).toList = pl := by rw [hsz']; simp
        rw [e] at h
        exact h
      · have hsz' : d'.size = pl.length := by simpa using hp.1
        rw [List.pairwise_iff_getElem]
        intro i j hi hj hij
        have hi' : i < d'.size := by simpa using hi
        have hj' : j < d'.size := by simpa using hj
        have h1 := hs i j (Nat.zero_le _) hij (by omega)
        rw [ltP, getElem!_pos d' i hi', getElem!_pos d' j hj'] at h1
        simp at h1 ⊢
        omega
      · have hsz' : d'.size = pl.length := by simpa using hp.1
        obtain ⟨cur', c1, c2⟩ := sw_at w g m d' os hg
        have hH2 : HoldsK encP 2 w' g 0 d' := by rw [hw]; exact holdsK_sortWorldK encP 2 w g 0 m pl.toArray d' os hgl hH (by simpa using hsz')
        rw [← hw] at c1
        have hG : G ≠ g := fun e2 => row_ne_blk h.row h.blk (by decide) (by rw [e2]; rfl)
        have hM : M ≠ g := fun e2 => row_ne_map h.row h.map (by rw [e2]; rfl)
        have hGl : G < w.heap.size := (Array.getElem?_eq_some_iff.1 h.blk).1
        refine ⟨by rw [hw, sw_old w g m G d' os hGl hG]; exact h.blk, ?_, ?_, h.bg, h.bm⟩
        · have hl : (d'.toList.map slP).length = pl.length := by simpa using hsz'
          refine ⟨by rw [cellsP_len], Or.inr ⟨g, cap, cur', by rw [hl], hB, c1, by rw [hl]; exact h1, h2, by rw [c2]; exact h3, ?_⟩⟩
          rw [List.length_map]
          refine cells_of_holds c1 ?_ (by simpa using hH2)
          rw [c2, h3]
          simp [hsz']
          omega
        · have hMl := h.map.lt
          obtain ⟨es, clock, m1, m2⟩ := h.map
          exact ⟨es, clock, by rw [hw, sw_old w g m M d' os hMl hM]; exact m1, m2⟩
      · rw [hw]
        exact ⟨rfl, rfl, rfl, (by show w.heap.size ≤ ((w.heap.modify g _) ++ os).size; simp), fun k hk _ _ hkv => sw_old w g m k d' os hk (fun e2 => hkv (by rw [e2]; rfl))⟩
  · have hp0 : pl = [] := List.eq_nil_of_length_eq_zero (by omega)
    subst hp0
    obtain ⟨p, cap, rfl⟩ : ∃ p cap, v = .slice p 0 cap := by
      rcases h.row.2 with ⟨e, _⟩ | ⟨g, cap, cur, e, _⟩
      · exact ⟨none, 0, e⟩
      · exact ⟨_, cap, e⟩
    have hs := AnyF.slices_SortFunc_none (P := Tryd.prog) Tryd.sortP p cap (.func (.func 60) #[] #[]) w
    exact hs.mono fun e w' ⟨he, hw⟩ => ⟨he, [], List.Perm.refl _, List.Pairwise.nil, by rw [hw]; exact h, by rw [hw]; exact GKept.of_below (Below.refl _ _)⟩
structure FSt2 (w2 wr : World) (vars : Int) (v5 : Value) (k : Nat) (pl : List Pl) : Prop where
  r5 : wr.heap[w2.heap.size]? = some (.cells #[.int .i64 vars, v5] 24 (0, 0))
  own : wr.ownsRow w2.heap.size 40 1 v5 k ((pl.take k).map slV)
  below : Below w2.heap.size w2 wr
  size : w2.heap.size + 1 ≤ wr.heap.size
set_option maxHeartbeats 4000000 in
set_option maxRecDepth 100000 in
theorem formula_gen (B G M n : Nat) (v : Value) (pl0 : List Pl) (lits vars : Int) (over : Bool) (D : DataW Unit) (w : World) (hG : Gath w B G M v (pl0.map slP) lits over n D) (hn0 : pl0.length ≤ 1048576) :
    Calls Tryd.prog 34 #[.pointer (some ⟨G, 0, none⟩), .int .i64 vars] w fun e w' => ∃ (v' : Value) (pl : List Pl), e = .returned (.agg #[.int .i64 vars, v']) ∧ pl.Perm pl0 ∧ (pl.Pairwise fun a b => a.2.val ≤ b.2.val) ∧ w'.ownsRow w.heap.size 40 1 v' pl.length (pl.map slV) ∧ GKept w w' G M v := by
  have HG : Hid (Gath w B G M v (pl0.map slP) lits over n D) := hG
  have hG1 : G < w.heap.size := (Array.getElem?_eq_some_iff.1 hG.blk).1
  have HS : Hid (∀ o, Calls Tryd.prog 59 #[v, .func (.func 60) #[] #[]] (w.alloc o) fun e w' => e = .returned (.tuple #[]) ∧ ∃ pl' : List Pl, pl'.Perm pl0 ∧ (pl'.Pairwise fun a b => a.2.val ≤ b.2.val) ∧ Gath w' B G M v (pl'.map slP) lits over n D ∧ GKept (w.alloc o) w' G M v) := fun o => sort_gath (hG.below ((Below.refl _ _).alloc (Nat.le_refl _) o)) hn0
  clear hG
  have d0 : ∀ o, (w.alloc o).cell? ⟨G, 0, none⟩ = some v := fun o => blk_cell ((Below.heap_alloc _ _ _ hG1).trans HG.out.blk) 0
  obtain ⟨i0, hi, hz0, hz1, hz2⟩ := info_parts Tryd.info40
  go_enter Tryd.func34, Tryd.ntmps34
  go_wp2_with fail
  refine (HS.out _).mono ?_
  rintro e w2 ⟨rfl, pl, hperm, hsorted, hG2, hK2⟩
  have hlen : pl.length = pl0.length := hperm.length_eq
  have hn : pl.length ≤ 1048576 := by omega
  have HPS : Hid (pl.Perm pl0 ∧ (pl.Pairwise fun a b => a.2.val ≤ b.2.val)) := ⟨hperm, hsorted⟩
  obtain ⟨adv, capv, hv⟩ : ∃ adv capv, v = .slice adv pl.length capv := by
    rcases hG2.row.2 with ⟨e, h0⟩ | ⟨g, cap, cur, e, _⟩
    · simp only [List.length_map] at h0; exact ⟨none, 0, by rw [e, h0]⟩
    · simp only [List.length_map] at e; exact ⟨_, _, e⟩
  subst hv
  have hsz2 : w.heap.size + 1 ≤ w2.heap.size := by have := hK2.size; simpa using this
  have hG2l : G < w2.heap.size := by omega
  have HC0 : Hid (∀ W, Below w2.heap.size w2 W → W.cell? ⟨G, 0, none⟩ = some (.slice adv pl.length capv)) := fun W hW => (hW.cell (p := ⟨G, 0, none⟩) hG2l).trans (blk_cell hG2.blk 0)
  have HE : Hid (0 < pl.length → ∃ g, adv = some ⟨g, 0, none⟩ ∧ ∀ W, Below w2.heap.size w2 W → ∀ k (hk : k < pl.length), W.cell? ⟨g, 2 * k, none⟩ = some (slV pl[k]) ∧ W.cell? ⟨g, 2 * k + 1, none⟩ = some (.int .i64 (pl[k].2.val : Int))) := by
    intro hp
    rcases hG2.row.2 with ⟨e, h0⟩ | ⟨g, cap, cur, e, _, hg, _⟩
    · simp only [List.length_map] at h0; omega
    · simp only [List.length_map] at e
      cases e
      refine ⟨g, rfl, fun W hW k hk => ?_⟩
      have hgl : g < w2.heap.size := (Array.getElem?_eq_some_iff.1 hg).1
      have hr := hG2.row
      simp only [List.length_map] at hr
      obtain ⟨q1, q2⟩ := cellsP_get pl k hk
      exact ⟨by rw [hW.cell (p := ⟨g, 2 * k, none⟩) hgl, hr.cellAt (2 * k) (by omega), q1], by rw [hW.cell (p := ⟨g, 2 * k + 1, none⟩) hgl, hr.cellAt (2 * k + 1) (by omega), q2]⟩
  have hvne : some w.heap.size ≠ (Value.slice adv pl.length capv).ownBlock := fun e => by have := (HG.out.row.lt w.heap.size e.symm).2; omega
  have hMl := HG.out.map.lt
  have hR4 : w2.heap[w.heap.size]? = some (.cells #[.int .i64 0, .slice none 0 0] 24 (0, 0)) := (hK2.block w.heap.size (by simp) (by omega) (by omega) hvne).trans (heap_alloc_new _ _)
  have HR4 : Hid (∀ W, Below w2.heap.size w2 W → W.heap[w.heap.size]? = some (.cells #[.int .i64 0, .slice none 0 0] 24 (0, 0))) := fun W hW => (hW.block w.heap.size (by omega)).trans hR4
  have HK2 : Hid (GKept w w2 G M (.slice adv pl.length capv)) := ⟨hK2.os, hK2.tape, hK2.output, by omega, fun k hk h1 h2 h3 => (hK2.block k (by simp; omega) h1 h2 h3).trans (Below.heap_alloc _ _ k hk)⟩
  clear d0 hR4 hG2 hK2 hvne hMl hperm hsorted HS
  have b0 : ∀ o, Below w2.heap.size w2 (w2.alloc o) := fun o => (Below.refl _ _).alloc (Nat.le_refl _) o
  have d2 : ∀ o, (w2.alloc o).cell? ⟨G, 0, none⟩ = some (.slice adv pl.length capv) := fun o => HC0.out _ (b0 o)
  have HB0 : Hid (∀ o, Below w2.heap.size w2 (w2.alloc o)) := b0
  clear b0
  go_wp2
  go_loopg [20] pl.length (fun gk i wr => ∃ (k : Nat) (v5 : Value), i = .int .i64 k ∧ k + gk = pl.length ∧ Aside (FSt2 w2 wr vars v5 k pl))
  case atStart =>
    exact ⟨0, .slice none 0 0, rfl, by omega, ⟨heap_alloc_at _ _, World.ownsRow_nil _ _ _ _, HB0.out _, by simp⟩⟩
  case round =>
    clear d2
    obtain ⟨k, v5, rfl, hk, H⟩ := hrel
    obtain ⟨ad5, cap5, rfl⟩ := own_shapeC H.out.own
    have hr4 := HR4.out wr H.out.below
    by_cases hlt : k < pl.length
    · obtain ⟨g, rfl, hc⟩ := HE.out (by omega)
      obtain ⟨c1, c2⟩ := hc wr H.out.below k hlt
      have HP : Aside ((pl.take (k + 1)).map slV = (pl.take k).map slV ++ [slV pl[k]]) := pl_take pl k hlt
      clear hc hr4
      generalize pl[k] = p at *
      obtain ⟨⟨pa, pn, pc⟩, pq⟩ := p
      simp only [slV] at c1 c2 HP
      rw [Nat.mul_comm] at c1 c2
      have s5 := H.out.size
      have x1 : ∀ o, (wr.alloc o).cell? ⟨w2.heap.size, 1, none⟩ = some (.slice ad5 k cap5) := fun o => by
        rw [World.cell?_of_block (w := wr) (Below.heap_alloc _ _ _ (by show w2.heap.size < _; omega))]; exact blk_cell H.out.r5 1
      have hsz5 : w2.heap.size ≤ wr.heap.size := H.out.below.size
      go_wp2_with (at_builtin; refine wpList_append_own _ rfl _ _ 22 rfl w2.heap.size 40 i0 (.slice none 0 0) 1 24 Tryd.underlying22 hi hz0 hz1 hz2 rfl (by decide) _ _ _ rfl ((H.out.own.alloc _).alloc _) ⟨wr.heap.size + 1, 0, none⟩ 1 1 [.slice pa pn pc] rfl rfl (by have h := cell_one_new (wr.alloc (.cells #[.slice pa pn pc, .int .i64 (pq.val : Int)] 89)) (.slice pa pn pc) 40; simpa using h) (by intro u hu; simp at hu; subst hu; rfl) (by unfold maxLen; omega) (by omega) (by simp; omega) ?_; intro v6 w6 hown6 hgrow6 hnil6; obtain ⟨ad6, cap6, rfl⟩ := own_shapeC hown6; have HO6 : Hid (w6.ownsRow w2.heap.size 40 1 (.slice ad6 (k + 1) cap6) (k + 1) ((pl.take k).map slV ++ [.slice pa pn pc])) := hown6; have HG6 : Hid (((wr.alloc (.cells #[.slice pa pn pc, .int .i64 (pq.val : Int)] 89)).alloc (.cells #[.slice pa pn pc] 40)).grownBy w6 (Value.ownBlock (.slice ad5 k cap5))) := hgrow6; clear hown6 hgrow6 hnil6; refine Hid.out ?_)
      refine Lib.hid ?_
      have hne5 : (Value.slice ad5 k cap5).ownBlock ≠ some w2.heap.size := row_ne_blk H.out.own H.out.r5 (by decide)
      have y5 : w6.heap[w2.heap.size]? = some (.cells #[.int .i64 vars, .slice ad5 k cap5] 24 (0, 0)) := by
        rw [HG6.out.block w2.heap.size (by simp; omega) (fun e => hne5 e.symm), Below.heap_alloc _ _ _ (by simp; omega), Below.heap_alloc _ _ _ (by omega)]
        exact H.out.r5
      have z1 : w6.cell? ⟨w2.heap.size, 1, none⟩ = some (.slice ad5 k cap5) := blk_cell y5 1
      have z2 : w6.frozen? ⟨w2.heap.size, 1, none⟩ = false := blk_frozen y5 1
      have HY : Hid (w6.heap[w2.heap.size]? = some (.cells #[.int .i64 vars, .slice ad5 k cap5] 24 (0, 0))) := y5
      clear y5 hne5 c1 c2 x1
      go_wp2
      go_roundg (gk - 1)
      case measure => omega
      case rel =>
        refine ⟨k + 1, .slice ad6 (k + 1) cap6, by simp, by omega, ⟨?_, ?_, ?_, ?_⟩⟩
        · rw [heap_setCell_same _ w2.heap.size 1 _ _ _ HY.out]; rfl
        · rw [HP.out]
          exact World.ownsRow.kept HO6.out (gb_set w6 ⟨w2.heap.size, 1, none⟩ _) (Or.inr (row_ne_blk HO6.out HY.out (by decide)))
        · have b1 : Below w2.heap.size w2 w6 := ((H.out.below.alloc hsz5 _).alloc (by simp; omega) _).grown HG6.out (by simp; omega) (fun j hj => (H.out.own.lt j hj).1)
          exact b1.setCell (Nat.le_refl _) _
        · have := HG6.out.size
          simp at this ⊢
          omega
    · have x4 : wr.cell? ⟨w.heap.size, 0, none⟩ = some (.int .i64 0) := blk_cell hr4 0
      have x4b : wr.cell? ⟨w.heap.size, 1, none⟩ = some (.slice none 0 0) := blk_cell hr4 1
      have f4 : wr.frozen? ⟨w.heap.size, 0, none⟩ = false := blk_frozen hr4 0
      have f4b : wr.frozen? ⟨w.heap.size, 1, none⟩ = false := blk_frozen hr4 1
      have x5 : wr.cell? ⟨w2.heap.size, 0, none⟩ = some (.int .i64 vars) := blk_cell H.out.r5 0
      have x5b : wr.cell? ⟨w2.heap.size, 1, none⟩ = some (.slice ad5 k cap5) := blk_cell H.out.r5 1
      have HR5 : Hid (wr.heap[w.heap.size]? = some (.cells #[.int .i64 0, .slice none 0 0] 24 (0, 0))) := hr4
      clear hr4
      go_wp2
      have hfin : ((wr.setCell ⟨w.heap.size, 0, none⟩ (.int .i64 vars)).setCell ⟨w.heap.size, 1, none⟩ (.slice ad5 k cap5)).heap[w.heap.size]? = some (.cells #[.int .i64 vars, .slice ad5 k cap5] 24 (0, 0)) := by
        rw [heap_setCell_same _ w.heap.size 1 _ _ _ (heap_setCell_same _ w.heap.size 0 _ _ _ HR5.out)]; rfl
      refine bodyPost_ret (v := .agg #[.int .i64 vars, .slice ad5 k cap5]) (results_cell_row rfl _ _ w.heap.size 24 _ (0, 0) _ rfl hfin Tryd.underlying24 rfl (by kernel_rfl)) rfl ?_
      obtain rfl : k = pl.length := by omega
      have hne4 : (Value.slice ad5 pl.length cap5).ownBlock ≠ some w.heap.size := row_ne_blk H.out.own HR5.out (by decide)
      have ho := H.out.own
      rw [List.take_length] at ho
      refine ⟨_, pl, rfl, HPS.out.1, HPS.out.2, own_up (World.ownsRow.kept (World.ownsRow.kept ho (gb_set wr ⟨w.heap.size, 0, none⟩ _) (Or.inr hne4)) (gb_set _ ⟨w.heap.size, 1, none⟩ _) (Or.inr hne4)) (by omega), ?_⟩
      have hb := H.out.below
      have hk2 := HK2.out
      refine ⟨hb.os.trans hk2.os, hb.tape.trans hk2.tape, hb.output.trans hk2.output, ?_, fun j hj h1 h2 h3 => ?_⟩
      · have := hb.size
        simp
        omega
      · rw [heap_setCell_other _ _ j _ (by show j ≠ w.heap.size; omega), heap_setCell_other _ _ j _ (by show j ≠ w.heap.size; omega), hb.block j (by omega)]
        exact hk2.block j hj h1 h2 h3
end Go.Proofs.YtokpjegiinggdaaDoor
