import Derived.Test.YtnknbijbhidpnaaGreatDoorSortP
namespace Go.Proofs.YtnknbijbhidpnaaGreatDoor
open Go.ChangeShapes Go.WideShapes Go.ChangeAt Go.RowKit Go.Cn
open Go.Sort (HoldsK get_flatK)

theorem Tryz.info37 : (Tryz.prog.info? 37).map (fun i => (i.zero, i.size, i.bytes)) = some (some (.slice none 0 0), 1, 24) := by kernel_rfl
def slP (p : Pl) : Value × Int := (.slice p.1.1 p.1.2.1 p.1.2.2, (p.2.val : Int))
def slV (p : Pl) : Value := .slice p.1.1 p.1.2.1 p.1.2.2
theorem cellsP_get (pl : List Pl) (k : Nat) (h : k < pl.length) : (cellsP (pl.map slP))[2 * k]? = some (slV pl[k]) ∧ (cellsP (pl.map slP))[2 * k + 1]? = some (.int .i64 (pl[k].2.val : Int)) := by
  induction pl generalizing k with
  | nil => simp at h
  | cons p l ih =>
    have e : cellsP ((p :: l).map slP) = slV p :: .int .i64 (p.2.val : Int) :: cellsP (l.map slP) := rfl
    cases k with
    | zero => rw [e]; exact ⟨rfl, rfl⟩
    | succ k =>
      have h' : k < l.length := by simpa using h
      rw [e, show 2 * (k + 1) = 2 * k + 1 + 1 by omega, show 2 * k + 1 + 1 + 1 = (2 * k + 1) + 1 + 1 by omega]
      simp only [List.getElem?_cons_succ, List.getElem_cons_succ]
      exact ih k h'
theorem holds_pl {w : World} {g : Nat} {cur : Array Value} {e : TypeId} {pl : List Pl} (hb : w.heap[g]? = some (.cells cur e (0, 0))) (ht : cur.toList.take (pl.length * 2) = cellsP (pl.map slP)) : HoldsK encP 2 w g 0 pl.toArray := by
  intro j hj
  have hj' : j < pl.length * 2 := by simpa using hj
  refine ⟨?_, by simp [World.frozen?, hb]⟩
  rw [get_flatK encP 2 pl.toArray j (by simpa using hj')]
  have hk : j / 2 < pl.length := by omega
  have e1 : pl.toArray[j / 2]! = pl[j / 2] := by rw [getElem!_pos pl.toArray (j / 2) (by simpa using hk)]; simp
  have h1 : (cur.toList.take (pl.length * 2))[j]? = (cellsP (pl.map slP))[j]? := by rw [ht]
  rw [List.getElem?_take_of_lt hj'] at h1
  simp only [World.cell?, hb, Nat.zero_add]
  simp only [Option.isSome_none, Bool.false_eq_true, if_false]
  rw [← Array.getElem?_toList, h1, e1]
  obtain ⟨g1, g2⟩ := cellsP_get pl (j / 2) hk
  rcases Nat.mod_two_eq_zero_or_one j with h | h
  · have hj2 : j = 2 * (j / 2) := by omega
    rw [h]
    rw [show (cellsP (pl.map slP))[j]? = (cellsP (pl.map slP))[2 * (j / 2)]? by rw [← hj2], g1]
    simp [encP, slV]
  · have hj2 : j = 2 * (j / 2) + 1 := by omega
    rw [h]
    rw [show (cellsP (pl.map slP))[j]? = (cellsP (pl.map slP))[2 * (j / 2) + 1]? by rw [← hj2], g2]
    simp [encP]
theorem pl_take (pl : List Pl) (k : Nat) (h : k < pl.length) : (pl.take (k + 1)).map slV = (pl.take k).map slV ++ [slV pl[k]] := by
  rw [List.take_add_one, List.getElem?_eq_getElem h, List.map_append]; rfl
structure FSt (w w2 wr : World) (vars : Int) (v5 : Value) (k : Nat) (pl : List Pl) : Prop where
  r4 : wr.heap[w.heap.size]? = some (.cells #[.int .i64 0, .slice none 0 0] 24 (0, 0))
  r5 : wr.heap[w2.heap.size]? = some (.cells #[.int .i64 vars, v5] 24 (0, 0))
  own : wr.ownsRow w.heap.size 37 1 v5 k ((pl.take k).map slV)
  below : Below w.heap.size w wr
  size : w2.heap.size + 1 ≤ wr.heap.size
theorem own_shapeC {w : World} {B n : Nat} {v : Value} {L : List Value} (h : w.ownsRow B 37 1 v n L) : ∃ ad cap, v = .slice ad n cap := by
  rcases h.2 with ⟨e, h0⟩ | ⟨g, cap, cur, rfl, _⟩
  · exact ⟨none, 0, by rw [e, h0]⟩
  · exact ⟨_, _, rfl⟩
theorem heap_alloc_at (w : World) (o : Obj) : (w.alloc o).heap[w.heap.size]? = some o := heap_alloc_new w o
set_option maxHeartbeats 4000000 in
set_option maxRecDepth 100000 in
theorem formula_of (B G M n : Nat) (v : Value) (pl : List Pl) (lits vars : Int) (over : Bool) (D : DataW Unit) (w : World) (hG : Gath w B G M v (pl.map slP) lits over n D) (hn : pl.length ≤ 1048576)
    (hsort : ∀ W, Below w.heap.size w W → Calls Tryz.prog 60 #[v, .func (.func 61) #[] #[]] W fun e w' => e = .returned (.tuple #[]) ∧ Below W.heap.size W w') :
    Calls Tryz.prog 50 #[.pointer (some ⟨G, 0, none⟩), .int .i64 vars] w fun e w' => ∃ v', e = .returned (.agg #[.int .i64 vars, v']) ∧ w'.ownsRow w.heap.size 37 1 v' pl.length (pl.map slV) ∧ Below w.heap.size w w' := by
  have HG : Hid (Gath w B G M v (pl.map slP) lits over n D) := hG
  have HS : Hid (∀ W, Below w.heap.size w W → Calls Tryz.prog 60 #[v, .func (.func 61) #[] #[]] W fun e w' => e = .returned (.tuple #[]) ∧ Below W.heap.size W w') := hsort
  clear hG hsort
  obtain ⟨adv, capv, hv⟩ : ∃ adv capv, v = .slice adv pl.length capv := by
    rcases HG.out.row.2 with ⟨e, h0⟩ | ⟨g, cap, cur, e, _⟩
    · simp only [List.length_map] at h0; exact ⟨none, 0, by rw [e, h0]⟩
    · simp only [List.length_map] at e; exact ⟨_, _, e⟩
  subst hv
  have hG1 : G < w.heap.size := (Array.getElem?_eq_some_iff.1 HG.out.blk).1
  have HC0 : Hid (∀ W, Below w.heap.size w W → W.cell? ⟨G, 0, none⟩ = some (.slice adv pl.length capv)) := fun W hW => (hW.cell (p := ⟨G, 0, none⟩) hG1).trans (blk_cell HG.out.blk 0)
  have HE : Hid (0 < pl.length → ∃ g, adv = some ⟨g, 0, none⟩ ∧ ∀ W, Below w.heap.size w W → ∀ k (hk : k < pl.length), W.cell? ⟨g, 2 * k, none⟩ = some (slV pl[k]) ∧ W.cell? ⟨g, 2 * k + 1, none⟩ = some (.int .i64 (pl[k].2.val : Int))) := by
    intro hp
    rcases HG.out.row.2 with ⟨e, h0⟩ | ⟨g, cap, cur, e, _, hg, _⟩
    · simp only [List.length_map] at h0; omega
    · simp only [List.length_map] at e
      cases e
      refine ⟨g, rfl, fun W hW k hk => ?_⟩
      have hgl : g < w.heap.size := (Array.getElem?_eq_some_iff.1 hg).1
      have hr := HG.out.row
      simp only [List.length_map] at hr
      obtain ⟨q1, q2⟩ := cellsP_get pl k hk
      exact ⟨by rw [hW.cell (p := ⟨g, 2 * k, none⟩) hgl, hr.cellAt (2 * k) (by omega), q1], by rw [hW.cell (p := ⟨g, 2 * k + 1, none⟩) hgl, hr.cellAt (2 * k + 1) (by omega), q2]⟩
  obtain ⟨i0, hi, hz0, hz1, hz2⟩ := info_parts Tryz.info37
  have b0 : ∀ o, Below w.heap.size w (w.alloc o) := fun o => (Below.refl _ _).alloc (Nat.le_refl _) o
  have d0 : ∀ o, (w.alloc o).cell? ⟨G, 0, none⟩ = some (.slice adv pl.length capv) := fun o => HC0.out _ (b0 o)
  have HB0 : Hid (∀ o, Below w.heap.size w (w.alloc o)) := b0
  clear b0
  go_enter Tryz.func50, Tryz.ntmps50
  go_wp2_with fail
  refine (HS.out _ (HB0.out _)).mono ?_
  rintro e w2 ⟨rfl, hb2⟩
  have hsz2 : w.heap.size + 1 ≤ w2.heap.size := by have := hb2.size; simpa using this
  have HB2 : Hid (Below w.heap.size w w2) := (HB0.out _).trans (hb2.mono (by simp))
  have hR4 : w2.heap[w.heap.size]? = some (.cells #[.int .i64 0, .slice none 0 0] 24 (0, 0)) := (hb2.block w.heap.size (by simp)).trans (heap_alloc_new _ _)
  clear hb2 d0
  have d2 : ∀ o, (w2.alloc o).cell? ⟨G, 0, none⟩ = some (.slice adv pl.length capv) := fun o => HC0.out _ (HB2.out.alloc (by omega) o)
  go_wp2
  go_loopg [20] pl.length (fun gk i wr => ∃ (k : Nat) (v5 : Value), i = .int .i64 k ∧ k + gk = pl.length ∧ Aside (FSt w w2 wr vars v5 k pl))
  case atStart =>
    refine ⟨0, .slice none 0 0, rfl, by omega, ⟨?_, heap_alloc_at _ _, World.ownsRow_nil _ _ _ _, HB2.out.alloc (by omega) _, by simp⟩⟩
    rw [Below.heap_alloc _ _ _ (by omega)]; exact hR4
  case round =>
    clear d2 hR4
    obtain ⟨k, v5, rfl, hk, H⟩ := hrel
    obtain ⟨ad5, cap5, rfl⟩ := own_shapeC H.out.own
    by_cases hlt : k < pl.length
    · obtain ⟨g, rfl, hc⟩ := HE.out (by omega)
      obtain ⟨c1, c2⟩ := hc wr H.out.below k hlt
      have HP : Aside ((pl.take (k + 1)).map slV = (pl.take k).map slV ++ [slV pl[k]]) := pl_take pl k hlt
      clear hc
      generalize pl[k] = p at *
      obtain ⟨⟨pa, pn, pc⟩, pq⟩ := p
      simp only [slV] at c1 c2 HP
      rw [Nat.mul_comm] at c1 c2
      have s5 := H.out.size
      have x1 : ∀ o, (wr.alloc o).cell? ⟨w2.heap.size, 1, none⟩ = some (.slice ad5 k cap5) := fun o => by
        rw [World.cell?_of_block (w := wr) (Below.heap_alloc _ _ _ (by show w2.heap.size < _; omega))]; exact blk_cell H.out.r5 1
      have hsz5 : w.heap.size ≤ wr.heap.size := H.out.below.size
      go_wp2_with (at_builtin; refine wpList_append_own _ rfl _ _ 22 rfl w.heap.size 37 i0 (.slice none 0 0) 1 24 Tryz.underlying22 hi hz0 hz1 hz2 rfl (by decide) _ _ _ rfl ((H.out.own.alloc _).alloc _) ⟨wr.heap.size + 1, 0, none⟩ 1 1 [.slice pa pn pc] rfl rfl (by have h := cell_one_new (wr.alloc (.cells #[.slice pa pn pc, .int .i64 (pq.val : Int)] 102)) (.slice pa pn pc) 37; simpa using h) (by intro u hu; simp at hu; subst hu; rfl) (by unfold maxLen; omega) (by omega) (by simp; omega) ?_; intro v6 w6 hown6 hgrow6 hnil6; obtain ⟨ad6, cap6, rfl⟩ := own_shapeC hown6; have HO6 : Hid (w6.ownsRow w.heap.size 37 1 (.slice ad6 (k + 1) cap6) (k + 1) ((pl.take k).map slV ++ [.slice pa pn pc])) := hown6; have HG6 : Hid (((wr.alloc (.cells #[.slice pa pn pc, .int .i64 (pq.val : Int)] 102)).alloc (.cells #[.slice pa pn pc] 37)).grownBy w6 (Value.ownBlock (.slice ad5 k cap5))) := hgrow6; clear hown6 hgrow6 hnil6; refine Hid.out ?_)
      refine Lib.hid ?_
      have hne4 : (Value.slice ad5 k cap5).ownBlock ≠ some w.heap.size := row_ne_blk H.out.own H.out.r4 (by decide)
      have hne5 : (Value.slice ad5 k cap5).ownBlock ≠ some w2.heap.size := row_ne_blk H.out.own H.out.r5 (by decide)
      have y5 : w6.heap[w2.heap.size]? = some (.cells #[.int .i64 vars, .slice ad5 k cap5] 24 (0, 0)) := by
        rw [HG6.out.block w2.heap.size (by simp; omega) (fun e => hne5 e.symm), Below.heap_alloc _ _ _ (by simp; omega), Below.heap_alloc _ _ _ (by omega)]
        exact H.out.r5
      have y4 : w6.heap[w.heap.size]? = some (.cells #[.int .i64 0, .slice none 0 0] 24 (0, 0)) := by
        rw [HG6.out.block w.heap.size (by simp; omega) (fun e => hne4 e.symm), Below.heap_alloc _ _ _ (by simp; omega), Below.heap_alloc _ _ _ (by omega)]
        exact H.out.r4
      have z1 : w6.cell? ⟨w2.heap.size, 1, none⟩ = some (.slice ad5 k cap5) := blk_cell y5 1
      have z2 : w6.frozen? ⟨w2.heap.size, 1, none⟩ = false := blk_frozen y5 1
      have HY : Hid (w6.heap[w2.heap.size]? = some (.cells #[.int .i64 vars, .slice ad5 k cap5] 24 (0, 0)) ∧ w6.heap[w.heap.size]? = some (.cells #[.int .i64 0, .slice none 0 0] 24 (0, 0))) := ⟨y5, y4⟩
      clear y5 y4 hne4 hne5 c1 c2 x1
      go_wp2
      go_roundg (gk - 1)
      case measure => omega
      case rel =>
        refine ⟨k + 1, .slice ad6 (k + 1) cap6, by simp, by omega, ⟨?_, ?_, ?_, ?_, ?_⟩⟩
        · rw [heap_setCell_other _ _ _ _ (by show w.heap.size ≠ w2.heap.size; omega)]; exact HY.out.2
        · rw [heap_setCell_same _ w2.heap.size 1 _ _ _ HY.out.1]; rfl
        · rw [HP.out]
          exact World.ownsRow.kept HO6.out (gb_set w6 ⟨w2.heap.size, 1, none⟩ _) (Or.inr (row_ne_blk HO6.out HY.out.1 (by decide)))
        · have b1 : Below w.heap.size w w6 := ((H.out.below.alloc hsz5 _).alloc (by simp; omega) _).grown HG6.out (by simp; omega) (fun j hj => (H.out.own.lt j hj).1)
          exact b1.setCell (by show w.heap.size ≤ w2.heap.size; omega) _
        · have := HG6.out.size
          simp at this ⊢
          omega
    · have x4 : wr.cell? ⟨w.heap.size, 0, none⟩ = some (.int .i64 0) := blk_cell H.out.r4 0
      have x4b : wr.cell? ⟨w.heap.size, 1, none⟩ = some (.slice none 0 0) := blk_cell H.out.r4 1
      have f4 : wr.frozen? ⟨w.heap.size, 0, none⟩ = false := blk_frozen H.out.r4 0
      have f4b : wr.frozen? ⟨w.heap.size, 1, none⟩ = false := blk_frozen H.out.r4 1
      have x5 : wr.cell? ⟨w2.heap.size, 0, none⟩ = some (.int .i64 vars) := blk_cell H.out.r5 0
      have x5b : wr.cell? ⟨w2.heap.size, 1, none⟩ = some (.slice ad5 k cap5) := blk_cell H.out.r5 1
      go_wp2
      have hfin : ((wr.setCell ⟨w.heap.size, 0, none⟩ (.int .i64 vars)).setCell ⟨w.heap.size, 1, none⟩ (.slice ad5 k cap5)).heap[w.heap.size]? = some (.cells #[.int .i64 vars, .slice ad5 k cap5] 24 (0, 0)) := by
        rw [heap_setCell_same _ w.heap.size 1 _ _ _ (heap_setCell_same _ w.heap.size 0 _ _ _ H.out.r4)]; rfl
      refine bodyPost_ret (v := .agg #[.int .i64 vars, .slice ad5 k cap5]) (results_cell_row rfl _ _ w.heap.size 24 _ (0, 0) _ rfl hfin Tryz.underlying24 rfl (by kernel_rfl)) rfl ?_
      obtain rfl : k = pl.length := by omega
      have hne4 : (Value.slice ad5 pl.length cap5).ownBlock ≠ some w.heap.size := row_ne_blk H.out.own H.out.r4 (by decide)
      have ho := H.out.own
      rw [List.take_length] at ho
      exact ⟨_, rfl, World.ownsRow.kept (World.ownsRow.kept ho (gb_set wr ⟨w.heap.size, 0, none⟩ _) (Or.inr hne4)) (gb_set _ ⟨w.heap.size, 1, none⟩ _) (Or.inr hne4), (H.out.below.setCell (Nat.le_refl _) _).setCell (Nat.le_refl _) _⟩
end Go.Proofs.YtnknbijbhidpnaaGreatDoor
