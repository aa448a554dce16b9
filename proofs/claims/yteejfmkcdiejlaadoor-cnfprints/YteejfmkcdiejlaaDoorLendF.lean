import Derived.Test.YteejfmkcdiejlaaDoorLend
namespace Go.Proofs.YteejfmkcdiejlaaDoor
open Go.ChangeShapes Go.WideShapes Go.ChangeAt Go.RowKit Go.Cn

/-- clauses that came in -/
def ClsS (w : World) (ad : Option Addr) (cs : List (List Int)) : Prop :=
  0 < cs.length → ∃ b off, ad = some ⟨b, off, none⟩ ∧ b < w.heap.size ∧ ∀ j, j < cs.length → ∃ aj cj, w.cell? ⟨b, off + j, none⟩ = some (.slice aj (cs.getD j []).length cj) ∧ Sl w aj cj (cs.getD j [])
theorem ClsS.cls {w : World} {ad : Option Addr} {cs : List (List Int)} (h : ClsS w ad cs) : Cls w ad cs := by
  intro h0
  obtain ⟨b, off, e, hlt, hc⟩ := h h0
  refine ⟨b, off, e, hlt, fun j hj => ?_⟩
  obtain ⟨aj, cj, h1, h2⟩ := hc j hj
  exact ⟨aj, cj, h1, h2.ints⟩
theorem ClsS.below {w w' : World} {ad : Option Addr} {cs : List (List Int)} (h : ClsS w ad cs) (hb : Below w.heap.size w w') : ClsS w' ad cs := by
  intro h0
  obtain ⟨b, off, e, hlt, hc⟩ := h h0
  refine ⟨b, off, e, Nat.lt_of_lt_of_le hlt hb.size, fun j hj => ?_⟩
  obtain ⟨aj, cj, h1, h2⟩ := hc j hj
  exact ⟨aj, cj, (hb.cell (p := ⟨b, off + j, none⟩) hlt).trans h1, h2.below hb⟩
/-- the slice of a lent clause in block g -/
def lv (cs : List (List Int)) (G : Nat → Nat) (j : Nat) : Value := .slice (some ⟨G j, 0, none⟩) (cs.getD j []).length ((cs.getD j []).length + 2)
def lvs (cs : List (List Int)) (G : Nat → Nat) (k : Nat) : List Value := (List.range k).map (lv cs G)
theorem lvs_succ (cs : List (List Int)) (G : Nat → Nat) (k : Nat) : lvs cs G (k + 1) = lvs cs G k ++ [lv cs G k] := by simp [lvs, List.range_succ]
theorem lvs_len (cs : List (List Int)) (G : Nat → Nat) (k : Nat) : (lvs cs G k).length = k := by simp [lvs]
theorem lvs_upd (cs : List (List Int)) (G : Nat → Nat) (k g : Nat) : lvs cs (fun j => if j = k then g else G j) k = lvs cs G k := by
  unfold lvs
  apply List.map_congr_left
  intro j hj
  have : j ≠ k := by have := List.mem_range.1 hj; omega
  simp [lv, this]
theorem lvs_get (cs : List (List Int)) (G : Nat → Nat) (k j : Nat) (h : j < k) : (lvs cs G k)[j]? = some (lv cs G j) := by simp [lvs, h]
/-- a formula that was lent -/
structure LentF (w : World) (g : Nat) (cs : List (List Int)) : Prop where
  ex : ∃ B G mk, w.ownsRow B 36 1 (.slice (some ⟨g, 0, none⟩) (cs.length + 1) (cs.length + 1)) (cs.length + 1) (lvs cs G cs.length ++ [.slice (some ⟨mk, 0, none⟩) 1 1]) ∧ (∀ j, j < cs.length → Lent w (G j) (cs.getD j [])) ∧ mk < w.heap.size ∧ w.cell? ⟨mk, 0, none⟩ = some (.int .i64 55555)
theorem LentF.below {w w' : World} {g : Nat} {cs : List (List Int)} (h : LentF w g cs) (hb : Below w.heap.size w w') : LentF w' g cs := by
  obtain ⟨B, G, mk, h1, h2, h3, h4⟩ := h.ex
  exact ⟨B, G, mk, row_below h1 hb, fun j hj => (h2 j hj).below hb, Nat.lt_of_lt_of_le h3 hb.size, (hb.cell (p := ⟨mk, 0, none⟩) h3).trans h4⟩
theorem LentF.cls {w : World} {g : Nat} {cs : List (List Int)} (h : LentF w g cs) : Cls w (some ⟨g, 0, none⟩) cs := by
  obtain ⟨B, G, mk, h1, h2, h3, h4⟩ := h.ex
  intro h0
  refine ⟨g, 0, rfl, (h1.lt g rfl).2, fun j hj => ⟨some ⟨G j, 0, none⟩, (cs.getD j []).length + 2, ?_, (h2 j hj).ints⟩⟩
  rw [Nat.zero_add, h1.cellAt j (by omega), List.getElem?_append_left (by rw [lvs_len]; exact hj), lvs_get cs G _ j hj]
  rfl
structure LSt (w wr : World) (vars : Int) (ad : Option Addr) (c : Nat) (cs : List (List Int)) (k : Nat) (G : Nat → Nat) : Prop where
  r1 : wr.heap[w.heap.size]? = some (.cells #[.int .i64 vars, .slice ad cs.length c] 24 (0, 0))
  r2 : wr.heap[w.heap.size + 1]? = some (.cells #[.int .i64 0, .slice none 0 0] 24 (0, 0))
  own : wr.ownsRow w.heap.size 36 1 (.slice (some ⟨w.heap.size + 2, 0, none⟩) k (cs.length + 1)) k (lvs cs G k)
  lent : ∀ j, j < k → Lent wr (G j) (cs.getD j [])
  below : Below w.heap.size w wr
  size : w.heap.size + 3 ≤ wr.heap.size
set_option maxHeartbeats 4000000 in
set_option maxRecDepth 100000 in
theorem lend_any (vars : Int) (ad : Option Addr) (cs : List (List Int)) (c : Nat) (w : World) (h : ClsS w ad cs) (hl : cs.length ≤ 5864062014805) (hcl : ∀ j, j < cs.length → (cs.getD j []).length ≤ 17592186044416) :
    Calls Tryd.prog 4 #[.agg #[.int .i64 vars, .slice ad cs.length c]] w fun e w' => e = .returned (.agg #[.int .i64 vars, .slice (some ⟨w.heap.size + 2, 0, none⟩) cs.length (cs.length + 1)]) ∧ LentF w' (w.heap.size + 2) cs ∧ Below w.heap.size w w' := by
  obtain ⟨i0, hi, hz0, hz1, hz2⟩ := info_parts Tryd.info36
  have HC : Aside (ClsS w ad cs) := h
  have HM : Aside (∀ j, j < cs.length → (cs.getD j []).length ≤ 17592186044416) := hcl
  clear h hcl
  generalize hn : cs.length = n at *
  have HL : Aside (cs.length = n) := hn
  clear hn
  go_enter Tryd.func4, Tryd.ntmps4
  go_wp2_with (at_make; refine wpList_make_own _ rfl _ _ 22 rfl w.heap.size 36 i0 (.slice none 0 0) 1 Tryd.underlying22 hi hz0 hz1 .i64 .i64 _ (n + 1) rfl rfl (by omega) (by rw [hz2]; omega) (by unfold maxLen; omega) (by rw [sz2]; omega) ?_; intro w1 hown1 hgrow1; refine Hid.out ?_)
  refine Lib.hid ?_
  rw [sz2] at hown1
  have hs1 : w.heap.size + 2 ≤ w1.heap.size := by have := hgrow1.size; rw [sz2] at this; exact this
  have hs1b : w.heap.size + 2 < w1.heap.size := (hown1.lt (w.heap.size + 2) rfl).2
  have HS1 : Aside (LSt w w1 vars ad c cs 0 (fun _ => 0)) := by
    refine ⟨?_, ?_, ?_, fun j hj => by omega, ?_, by omega⟩
    · rw [HL.out, hgrow1.block w.heap.size (by rw [sz2]; omega) (by simp), Below.heap_alloc _ _ _ (by rw [sz1]; omega)]; exact heap_alloc_at _ _
    · rw [hgrow1.block (w.heap.size + 1) (by rw [sz2]; omega) (by simp)]; exact heap_alloc2_new _ _ _
    · rw [HL.out]; exact hown1
    · exact (((Below.refl _ _).alloc (Nat.le_refl _) _).alloc (by rw [sz1]; omega) _).grown hgrow1 (by rw [sz2]; omega) (fun k hk => by cases hk)
  clear hown1 hgrow1 hs1 hs1b
  go_wp2
  go_loopg [3, 4] n (fun gk s3 s4 wr => ∃ (k : Nat) (G : Nat → Nat), s3 = .slice (some ⟨w.heap.size + 2, 0, none⟩) k (n + 1) ∧ s4 = .int .i64 k ∧ k + gk = n ∧ Aside (LSt w wr vars ad c cs k G))
  case atStart => exact ⟨0, fun _ => 0, rfl, rfl, by omega, HS1⟩
  case round =>
    clear HS1
    obtain ⟨k, G, rfl, rfl, hk, H⟩ := hrel
    have y1 : wr.cell? ⟨w.heap.size, 1, none⟩ = some (.slice ad n c) := by have h := blk_cell H.out.r1 1; rw [HL.out] at h; exact h
    by_cases hlt : k < n
    · obtain ⟨b, off, rfl, hb, hc⟩ := (HC.out.below H.out.below) (by rw [HL.out]; omega)
      obtain ⟨aj, cj, ck, hsl⟩ := hc k (by rw [HL.out]; exact hlt)
      have HSl : Aside (Sl wr aj cj (cs.getD k [])) := hsl
      have hm := HM.out k (by omega)
      have hs := H.out.size
      clear hc hsl
      have HLe : Hid (Calls Tryd.prog 10 #[.slice aj (cs.getD k []).length cj] wr fun e w' => e = .returned (.slice (some ⟨wr.heap.size, 0, none⟩) (cs.getD k []).length ((cs.getD k []).length + 2)) ∧ Lent w' wr.heap.size (cs.getD k []) ∧ Below wr.heap.size wr w') := lent_any aj (cs.getD k []) cj wr HSl.out hm
      go_wp2_with fail
      refine HLe.out.mono ?_
      rintro e w2 ⟨rfl, hL2, hb2⟩
      have HL2 : Hid (Lent w2 wr.heap.size (cs.getD k [])) := hL2
      have HB2 : Hid (Below wr.heap.size wr w2) := hb2
      have hs2 : wr.heap.size ≤ w2.heap.size := hb2.size
      have HO2 : Hid (w2.ownsRow w.heap.size 36 1 (.slice (some ⟨w.heap.size + 2, 0, none⟩) k (n + 1)) k (lvs cs G k)) := by
        have := row_below H.out.own hb2; rw [HL.out] at this; exact this
      clear hL2 hb2 HLe
      go_wp2_with (at_builtin; refine wpList_append_fits _ rfl (.tmp 17) (.tmp 24) 22 rfl w.heap.size 36 i0 1 Tryd.underlying22 hi hz1 (w.heap.size + 2) k (n + 1) _ rfl (HO2.out.alloc _) ⟨w2.heap.size, 0, none⟩ 1 1 [.slice (some ⟨wr.heap.size, 0, none⟩) (cs.getD k []).length ((cs.getD k []).length + 2)] rfl rfl (cell_one_new _ _ _) (by intro u hu; simp at hu; subst hu; rfl) (by omega) ?_; intro w3 hown3 hgrow3; have HO3 : Hid (w3.ownsRow w.heap.size 36 1 (.slice (some ⟨w.heap.size + 2, 0, none⟩) (k + 1) (n + 1)) (k + 1) (lvs cs G k ++ [.slice (some ⟨wr.heap.size, 0, none⟩) (cs.getD k []).length ((cs.getD k []).length + 2)])) := hown3; have HG3 : Hid ((w2.alloc (.cells #[.slice (some ⟨wr.heap.size, 0, none⟩) (cs.getD k []).length ((cs.getD k []).length + 2)] 36)).grownBy w3 (some (w.heap.size + 2))) := hgrow3; clear hown3 hgrow3)
      go_roundg (gk - 1)
      case measure => omega
      case rel =>
        have hkeep : ∀ j, j < wr.heap.size → j ≠ w.heap.size + 2 → w3.heap[j]? = wr.heap[j]? := by
          intro j h1 h2
          rw [HG3.out.block j (by rw [sz1]; omega) (fun e => h2 (by cases e; rfl)), Below.heap_alloc _ _ _ (by omega), HB2.out.block j h1]
        have hlk : ∀ g xs, Lent w2 g xs → g ≠ w.heap.size + 2 → Lent w3 g xs := by
          intro g xs ⟨B, hL⟩ hne
          exact ⟨B, World.ownsRow.kept (hL.alloc _) HG3.out (Or.inr (fun e => hne (by simpa [Value.ownBlock] using e)))⟩
        have hrow := row_below H.out.own HB2.out
        refine ⟨k + 1, fun j => if j = k then wr.heap.size else G j, by simp, by simp, by omega, ⟨?_, ?_, ?_, ?_, ?_, ?_⟩⟩
        · rw [hkeep _ (by omega) (by omega)]; exact H.out.r1
        · rw [hkeep _ (by omega) (by omega)]; exact H.out.r2
        · rw [HL.out, lvs_succ, lvs_upd]
          simp only [lv, if_true]
          exact HO3.out
        · intro j hj
          by_cases e : j = k
          · subst e
            simp only [if_true]
            exact hlk _ _ HL2.out (by omega)
          · simp only [e, if_false]
            have hLj := H.out.lent j (by omega)
            refine hlk _ _ (hLj.below HB2.out) ?_
            intro e2
            obtain ⟨B', hL'⟩ := hLj
            rcases H.out.own.2 with ⟨h, _⟩ | ⟨g', cap', cur, e3, _, hg, _⟩
            · cases h
            · cases e3
              exact row_ne_blk hL' hg (by decide) (by rw [e2]; rfl)
        · have b1 := below_next H.out.below HB2.out
          exact (b1.alloc b1.size _).grown HG3.out (by rw [sz1]; have := b1.size; omega) (fun j hj => by cases hj; omega)
        · have := HG3.out.size
          rw [sz1] at this
          omega
    · obtain rfl : k = n := by omega
      have hs := H.out.size
      have HO : Hid (wr.ownsRow w.heap.size 36 1 (.slice (some ⟨w.heap.size + 2, 0, none⟩) k (k + 1)) k (lvs cs G k)) := by
        have := H.out.own; rw [HL.out] at this; exact this
      go_wp2_with (at_builtin; refine wpList_append_fits _ rfl (.tmp 26) (.tmp 28) 22 rfl w.heap.size 36 i0 1 Tryd.underlying22 hi hz1 (w.heap.size + 2) k (k + 1) _ rfl ((HO.out.alloc _).alloc _) ⟨wr.heap.size + 1, 0, none⟩ 1 1 [.slice (some ⟨wr.heap.size, 0, none⟩) 1 1] rfl rfl (by have h := cell_one_new (wr.alloc (.cells #[.int .i64 55555] 3)) (.slice (some ⟨wr.heap.size, 0, none⟩) 1 1) 36; simpa using h) (by intro u hu; simp at hu; subst hu; rfl) (by omega) ?_; intro w3 hown3 hgrow3; have HO3 : Hid (w3.ownsRow w.heap.size 36 1 (.slice (some ⟨w.heap.size + 2, 0, none⟩) (k + 1) (k + 1)) (k + 1) (lvs cs G k ++ [.slice (some ⟨wr.heap.size, 0, none⟩) 1 1])) := hown3; have HG3 : Hid (((wr.alloc (.cells #[.int .i64 55555] 3)).alloc (.cells #[.slice (some ⟨wr.heap.size, 0, none⟩) 1 1] 36)).grownBy w3 (some (w.heap.size + 2))) := hgrow3; clear hown3 hgrow3; refine Hid.out ?_)
      refine Lib.hid ?_
      have hkeep : ∀ j, j < wr.heap.size + 1 → j ≠ w.heap.size + 2 → w3.heap[j]? = (wr.alloc (.cells #[.int .i64 55555] 3)).heap[j]? := by
        intro j h1 h2
        rw [HG3.out.block j (by rw [sz2]; omega) (fun e => h2 (by cases e; rfl)), Below.heap_alloc _ _ _ (by rw [sz1]; omega)]
      have hs3 : wr.heap.size + 2 ≤ w3.heap.size := by have := HG3.out.size; rw [sz2] at this; exact this
      have z1 : w3.heap[w.heap.size]? = some (.cells #[.int .i64 vars, .slice ad k c] 24 (0, 0)) := by
        rw [hkeep _ (by omega) (by omega), Below.heap_alloc _ _ _ (by omega)]; have := H.out.r1; rw [HL.out] at this; exact this
      have z2 : w3.heap[w.heap.size + 1]? = some (.cells #[.int .i64 0, .slice none 0 0] 24 (0, 0)) := by
        rw [hkeep _ (by omega) (by omega), Below.heap_alloc _ _ _ (by omega)]; exact H.out.r2
      have z3 : w3.heap[wr.heap.size]? = some (.cells #[.int .i64 55555] 3 (0, 0)) := by
        rw [hkeep _ (by omega) (by omega)]; exact heap_alloc_at _ _
      have HLn : Hid (∀ j, j < k → Lent w3 (G j) (cs.getD j [])) := by
        intro j hj
        obtain ⟨B', hL'⟩ := H.out.lent j hj
        refine ⟨B', World.ownsRow.kept ((hL'.alloc _).alloc _) HG3.out (Or.inr ?_)⟩
        rcases H.out.own.2 with ⟨h, _⟩ | ⟨g', cap', cur, e3, _, hg, _⟩
        · cases h
        · cases e3
          exact row_ne_blk hL' hg (by decide)
      have HB3 : Hid (Below w.heap.size w w3) := by
        have b1 := H.out.below
        exact ((b1.alloc b1.size _).alloc (by rw [sz1]; have := b1.size; omega) _).grown HG3.out (by rw [sz2]; have := b1.size; omega) (fun j hj => by cases hj; omega)
      have a0 : w3.cell? ⟨w.heap.size, 0, none⟩ = some (.int .i64 vars) := blk_cell z1 0
      have a1 : w3.cell? ⟨w.heap.size, 1, none⟩ = some (.slice ad k c) := blk_cell z1 1
      have a2 : w3.cell? ⟨w.heap.size + 1, 0, none⟩ = some (.int .i64 0) := blk_cell z2 0
      have a3 : w3.cell? ⟨w.heap.size + 1, 1, none⟩ = some (.slice none 0 0) := blk_cell z2 1
      have f2 : w3.frozen? ⟨w.heap.size + 1, 0, none⟩ = false := blk_frozen z2 0
      have f3 : w3.frozen? ⟨w.heap.size + 1, 1, none⟩ = false := blk_frozen z2 1
      have HZ : Hid (w3.heap[w.heap.size + 1]? = some (.cells #[.int .i64 0, .slice none 0 0] 24 (0, 0)) ∧ w3.heap[wr.heap.size]? = some (.cells #[.int .i64 55555] 3 (0, 0))) := ⟨z2, z3⟩
      clear hkeep z1 z2 z3 y1
      go_wp2
      go_region
      go_wp2
      have hfin : ((w3.setCell ⟨w.heap.size + 1, 0, none⟩ (.int .i64 vars)).setCell ⟨w.heap.size + 1, 1, none⟩ (.slice (some ⟨w.heap.size + 2, 0, none⟩) k (k + 1))).drew.heap[w.heap.size + 1]? = some (.cells #[.int .i64 vars, .slice (some ⟨w.heap.size + 2, 0, none⟩) k (k + 1)] 24 (0, 0)) := by
        show ((w3.setCell ⟨w.heap.size + 1, 0, none⟩ (.int .i64 vars)).setCell ⟨w.heap.size + 1, 1, none⟩ (.slice (some ⟨w.heap.size + 2, 0, none⟩) k (k + 1))).heap[w.heap.size + 1]? = _
        rw [heap_setCell_same _ (w.heap.size + 1) 1 _ _ _ (heap_setCell_same _ (w.heap.size + 1) 0 _ _ _ HZ.out.1)]; rfl
      refine bodyPost_ret (v := .agg #[.int .i64 vars, .slice (some ⟨w.heap.size + 2, 0, none⟩) k (k + 1)]) (results_cell_row (p := 2) rfl _ _ (w.heap.size + 1) 24 _ (0, 0) _ rfl hfin Tryd.underlying24 rfl (by kernel_rfl)) rfl ?_
      have hset : ∀ {B e n : Nat} {v : Value} {L : List Value}, w3.ownsRow B e 1 v n L → e ≠ 24 → ((w3.setCell ⟨w.heap.size + 1, 0, none⟩ (.int .i64 vars)).setCell ⟨w.heap.size + 1, 1, none⟩ (.slice (some ⟨w.heap.size + 2, 0, none⟩) k (k + 1))).drew.ownsRow B e 1 v n L := by
        intro B e n v L ho he
        have hne := row_ne_blk ho HZ.out.1 he
        have h2 := World.ownsRow.kept (World.ownsRow.kept ho (gb_set w3 ⟨w.heap.size + 1, 0, none⟩ (.int .i64 vars)) (Or.inr hne)) (gb_set (w3.setCell ⟨w.heap.size + 1, 0, none⟩ (.int .i64 vars)) ⟨w.heap.size + 1, 1, none⟩ (.slice (some ⟨w.heap.size + 2, 0, none⟩) k (k + 1))) (Or.inr hne)
        exact own_dn h2 1
      have hle : w.heap.size ≤ w.heap.size + 1 := by omega
      refine ⟨rfl, ⟨w.heap.size, G, wr.heap.size, ?_, ?_, ?_, ?_⟩, ((HB3.out.setCell hle _).setCell hle _).drew⟩
      · rw [HL.out]; exact hset HO3.out (by decide)
      · intro j hj
        rw [HL.out] at hj
        obtain ⟨B', hL'⟩ := HLn.out j hj
        exact ⟨B', hset hL' (by decide)⟩
      · show wr.heap.size < ((w3.setCell ⟨w.heap.size + 1, 0, none⟩ (.int .i64 vars)).setCell ⟨w.heap.size + 1, 1, none⟩ (.slice (some ⟨w.heap.size + 2, 0, none⟩) k (k + 1))).heap.size
        simp
        omega
      · show ((w3.setCell ⟨w.heap.size + 1, 0, none⟩ (.int .i64 vars)).setCell ⟨w.heap.size + 1, 1, none⟩ (.slice (some ⟨w.heap.size + 2, 0, none⟩) k (k + 1))).cell? ⟨wr.heap.size, 0, none⟩ = _
        have hm : ((w3.setCell ⟨w.heap.size + 1, 0, none⟩ (.int .i64 vars)).setCell ⟨w.heap.size + 1, 1, none⟩ (.slice (some ⟨w.heap.size + 2, 0, none⟩) k (k + 1))).heap[wr.heap.size]? = some (.cells #[.int .i64 55555] 3 (0, 0)) := by
          rw [heap_setCell_other _ _ _ _ (by show wr.heap.size ≠ w.heap.size + 1; omega), heap_setCell_other _ _ _ _ (by show wr.heap.size ≠ w.heap.size + 1; omega)]
          exact HZ.out.2
        exact blk_cell hm 0
end Go.Proofs.YteejfmkcdiejlaaDoor
