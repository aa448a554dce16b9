import Derived.Test.YtopdbhkkmolllaaGreatDoorKnI
namespace Go.Proofs.YtopdbhkkmolllaaGreatDoor
open Go.ChangeShapes Go.WideShapes Go.ChangeAt Go.RowKit Go.Lib Go.Kn

/-- facts in a row, from a cell on -/
def RowF (W : World) (g o : Nat) (fs : List Fc) : Prop := ∀ i, i < fs.length → W.cell? ⟨g, o + i * 5, none⟩ = some (.int .i64 (fs.getD i zF).w) ∧ W.cell? ⟨g, o + i * 5 + 1, none⟩ = some (uV (fs.getD i zF).one) ∧ W.cell? ⟨g, o + i * 5 + 2, none⟩ = some (uV (fs.getD i zF).zero) ∧ W.cell? ⟨g, o + i * 5 + 3, none⟩ = some (uV (fs.getD i zF).least) ∧ W.cell? ⟨g, o + i * 5 + 4, none⟩ = some (uV (fs.getD i zF).top)
theorem RowF.next {W W' : World} {g o : Nat} {fs : List Fc} (h : RowF W g o fs) (hg : g < W.heap.size) (hb : Below W.heap.size W W') : RowF W' g o fs := fun i hi => by
  obtain ⟨a, b, c, d, e⟩ := h i hi
  exact ⟨(hb.cell (by exact hg)).trans a, (hb.cell (by exact hg)).trans b, (hb.cell (by exact hg)).trans c, (hb.cell (by exact hg)).trans d, (hb.cell (by exact hg)).trans e⟩
/-- a row of room for n facts, of which the first ones are told -/
def RB (W : World) (G n : Nat) (gs : List Fc) : Prop := gs.length ≤ n ∧ ∃ A : Array Value, W.heap[G]? = some (.cells A 24 (0, 0)) ∧ A.size = n * 5 ∧ ∀ i, i < gs.length → A[i * 5]? = some (.int .i64 (gs.getD i zF).w) ∧ A[i * 5 + 1]? = some (uV (gs.getD i zF).one) ∧ A[i * 5 + 2]? = some (uV (gs.getD i zF).zero) ∧ A[i * 5 + 3]? = some (uV (gs.getD i zF).least) ∧ A[i * 5 + 4]? = some (uV (gs.getD i zF).top)
theorem RB.lt {W : World} {G n : Nat} {gs : List Fc} (h : RB W G n gs) : G < W.heap.size := by
  obtain ⟨_, A, hA, _⟩ := h
  exact (Array.getElem?_eq_some_iff.1 hA).1
theorem RB.row {W : World} {G n : Nat} {gs : List Fc} (h : RB W G n gs) : RowF W G 0 gs := fun i hi => by
  obtain ⟨_, A, hA, _, h2⟩ := h
  obtain ⟨a, b, c, d, e⟩ := h2 i hi
  rw [Nat.zero_add]
  exact ⟨(blk_cell hA _).trans a, (blk_cell hA _).trans b, (blk_cell hA _).trans c, (blk_cell hA _).trans d, (blk_cell hA _).trans e⟩
theorem RB.next {W W' : World} {G n : Nat} {gs : List Fc} (h : RB W G n gs) (hb : Below W.heap.size W W') : RB W' G n gs := by
  have hl := h.lt
  obtain ⟨h0, A, hA, h1⟩ := h
  exact ⟨h0, A, (hb.block G hl).trans hA, h1⟩
/-- the next place can be written -/
theorem RB.room {W : World} {G n : Nat} {gs : List Fc} (h : RB W G n gs) (hk : gs.length < n) (j : Nat) (hj : j < 5) : (∃ v, W.cell? ⟨G, gs.length * 5 + j, none⟩ = some v) ∧ W.frozen? ⟨G, gs.length * 5 + j, none⟩ = false := by
  obtain ⟨h0, A, hA, hs, h1⟩ := h
  refine ⟨⟨A[gs.length * 5 + j]'(by rw [hs]; omega), ?_⟩, by simp [World.frozen?, hA]⟩
  rw [blk_cell hA, Array.getElem?_eq_getElem]
abbrev set5o (W : World) (g o : Nat) (a b c d e : Value) : World := ((((W.setCell ⟨g, o, none⟩ a).setCell ⟨g, o + 1, none⟩ b).setCell ⟨g, o + 2, none⟩ c).setCell ⟨g, o + 3, none⟩ d).setCell ⟨g, o + 4, none⟩ e
theorem set5o_bel {n : Nat} {w W : World} (h : Below n w W) {g : Nat} (hg : n ≤ g) (o : Nat) (a b c d e : Value) : Below n w (set5o W g o a b c d e) :=
  bel_set (bel_set (bel_set (bel_set (bel_set h hg _ _) hg _ _) hg _ _) hg _ _) hg _ _
theorem RB.put {W : World} {G n : Nat} {gs : List Fc} (h : RB W G n gs) (hk : gs.length < n) (f : Fc) : RB (set5o W G (gs.length * 5) (.int .i64 f.w) (uV f.one) (uV f.zero) (uV f.least) (uV f.top)) G n (gs ++ [f]) := by
  obtain ⟨h0, A, hA, hs, h1⟩ := h
  have k1 := Go.heap_setCell_same W G (gs.length * 5) A 24 (.int .i64 f.w) hA
  have k2 := Go.heap_setCell_same _ G (gs.length * 5 + 1) _ _ (uV f.one) k1
  have k3 := Go.heap_setCell_same _ G (gs.length * 5 + 2) _ _ (uV f.zero) k2
  have k4 := Go.heap_setCell_same _ G (gs.length * 5 + 3) _ _ (uV f.least) k3
  have k5 := Go.heap_setCell_same _ G (gs.length * 5 + 4) _ _ (uV f.top) k4
  refine ⟨by rw [List.length_append]; exact hk, _, k5, by simp [hs], fun i hi => ?_⟩
  rw [List.length_append, List.length_singleton] at hi
  simp only [Array.getElem?_setIfInBounds, Array.size_setIfInBounds, hs]
  by_cases e : i = gs.length
  · subst e
    have ee : (gs ++ [f]).getD gs.length zF = f := by rw [List.getD_eq_getElem?_getD, List.getElem?_append_right (Nat.le_refl _)]; simp
    rw [ee]
    refine ⟨?_, ?_, ?_, ?_, ?_⟩
    · rw [if_neg (by omega), if_neg (by omega), if_neg (by omega), if_neg (by omega), if_pos rfl, if_pos (by omega)]
    · rw [if_neg (by omega), if_neg (by omega), if_neg (by omega), if_pos rfl, if_pos (by omega)]
    · rw [if_neg (by omega), if_neg (by omega), if_pos rfl, if_pos (by omega)]
    · rw [if_neg (by omega), if_pos rfl, if_pos (by omega)]
    · rw [if_pos rfl, if_pos (by omega)]
  · have hi2 : i < gs.length := by omega
    have ee : (gs ++ [f]).getD i zF = gs.getD i zF := by rw [List.getD_eq_getElem?_getD, List.getElem?_append_left hi2, ← List.getD_eq_getElem?_getD]
    rw [ee]
    obtain ⟨a, b, c, d, g⟩ := h1 i hi2
    refine ⟨?_, ?_, ?_, ?_, ?_⟩
    · rw [if_neg (by omega), if_neg (by omega), if_neg (by omega), if_neg (by omega), if_neg (by omega)]; exact a
    · rw [if_neg (by omega), if_neg (by omega), if_neg (by omega), if_neg (by omega), if_neg (by omega)]; exact b
    · rw [if_neg (by omega), if_neg (by omega), if_neg (by omega), if_neg (by omega), if_neg (by omega)]; exact c
    · rw [if_neg (by omega), if_neg (by omega), if_neg (by omega), if_neg (by omega), if_neg (by omega)]; exact d
    · rw [if_neg (by omega), if_neg (by omega), if_neg (by omega), if_neg (by omega), if_neg (by omega)]; exact g
/-- what settleAll answers -/
def AllP (w w' : World) (fs : List Fc) (v : Value) (c : Nat) : Prop :=
  (c = 5 ∧ v = .slice none 0 0 ∧ ∃ i, i < fs.length ∧ ¬ (fs.getD i zF).may) ∨
  ((∀ i, i < fs.length → (fs.getD i zF).may) ∧ c = 1 ∧ v = .slice none 0 0 ∧ ∃ i, i < fs.length ∧ ∀ y, ¬ (fs.getD i zF).word y) ∨
  ((∀ i, i < fs.length → (fs.getD i zF).may) ∧ c = 0 ∧ ∃ G gs, v = .slice (some ⟨G, 0, none⟩) fs.length fs.length ∧ gs.length = fs.length ∧ (∀ i, i < fs.length → SET (fs.getD i zF) (gs.getD i zF)) ∧ RowF w' G 0 gs ∧ w.heap.size ≤ G ∧ G < w'.heap.size)
set_option maxHeartbeats 4000000 in
theorem all_any (fs : List Fc) (g n c : Nat) (w : World) (hn : fs.length = n) (hnb : n ≤ 1000000000) (hg : g < w.heap.size) (hr : RowF w g 0 fs) :
    Calls Tryz.prog 13 #[.slice (some ⟨g, 0, none⟩) n c] w fun e w' => ∃ v c, AllP w w' fs v c ∧ e = .returned (.tuple #[v, eV c]) ∧ Below w.heap.size w w' := by
  have HMy : Hid (∀ f W, Calls Tryz.prog 15 #[fV f] W fun e w' => ∃ b : Bool, (b = true ↔ f.may) ∧ e = .returned (.bool b) ∧ Below W.heap.size W w') := fun f W => may_any f W
  have HSt : Hid (∀ f W, f.may → Calls Tryz.prog 17 #[fV f] W fun e w' => ∃ r, ST f r ∧ e = .returned (.tuple #[fV (r.getD zF), .bool r.isSome]) ∧ Below W.heap.size W w') := fun f W h => settle_any f W h
  have HR : Hid (RowF w g 0 fs) := hr
  have HN : Hid (fs.length = n) := hn
  clear hr hn
  obtain ⟨i1, hi1, hz1, hs1, hb1⟩ := info_parts (P := Tryz.prog) (e := 24) (z := .agg #[.int .i64 0, .int .u64 0, .int .u64 0, .int .u64 0, .int .u64 0]) (size := 5) (bytes := 40) (by kernel_rfl)
  have eM : ∀ W : World, (Instr.makeSlice 39 (.int .i64 (n : Int)) (.int .i64 (n : Int))).run Tryz.prog W = .ok (.slice (some ⟨W.heap.size, 0, none⟩) n n) (W.alloc (.cells (madeCells (Value.agg #[.int .i64 0, .int .u64 0, .int .u64 0, .int .u64 0, .int .u64 0]).cells (n * 5)) 24)) := fun W => by
    have := run_make (P := Tryz.prog) (w := W) 39 24 i1 (.agg #[.int .i64 0, .int .u64 0, .int .u64 0, .int .u64 0, .int .u64 0]) Tryz.underlying39 hi1 hz1 .i64 .i64 (n : Int) (n : Int) (by omega) (by omega) (by rw [hb1]; omega) (by omega)
    rw [this, hs1, show ((n : Int)).toNat = n by omega]
  clear hi1 hz1 hs1 hb1
  have HA0 : Hid ((madeCells (Value.agg #[.int .i64 0, .int .u64 0, .int .u64 0, .int .u64 0, .int .u64 0]).cells (n * 5)).size = n * 5) := size_madeCells _ _
  generalize madeCells (Value.agg #[.int .i64 0, .int .u64 0, .int .u64 0, .int .u64 0, .int .u64 0]).cells (n * 5) = A0 at *
  go_enter Tryz.func13, Tryz.ntmps13
  go_wp2_with fail
  go_loopg [12] n (fun gk v12 wr => ∃ k : Nat, v12 = .int .i64 (k : Int) ∧ k + gk = n ∧ Aside (∀ i, i < k → (fs.getD i zF).may) ∧ Aside (Below w.heap.size w wr))
  case atStart => exact ⟨0, rfl, by omega, fun i hi => by omega, Below.refl _ _⟩
  case round =>
    obtain ⟨k, rfl, hk, HK, HW⟩ := hrel
    by_cases hlt : k < n
    · have q1 : (k : Int) < (n : Int) := by omega
      obtain ⟨c0, c1, c2, c3, c4⟩ := (HR.out.next hg HW.out) k (by rw [HN.out]; exact hlt)
      rw [Nat.zero_add] at c0 c1 c2 c3 c4
      have HFM : Hid (∀ W, Calls Tryz.prog 15 #[fV (fs.getD k zF)] W fun e w' => ∃ b : Bool, (b = true ↔ (fs.getD k zF).may) ∧ e = .returned (.bool b) ∧ Below W.heap.size W w') := fun W => HMy.out _ W
      have HPM : Hid ((fs.getD k zF).may → ∀ i, i < k + 1 → (fs.getD i zF).may) := fun h i hi => by
        rcases Nat.lt_or_eq_of_le (Nat.le_of_lt_succ hi) with e | e
        · exact HK.out i e
        · subst e; exact h
      have HPN : Hid (¬ (fs.getD k zF).may → ∃ i, i < n ∧ ¬ (fs.getD i zF).may) := fun h => ⟨k, hlt, h⟩
      generalize fs.getD k zF = f at *
      clear HK
      go_wp2_with fail
      refine (HFM.out _).mono ?_
      rintro e w2 ⟨b, hb, rfl, hbel⟩
      have HW2 : Hid (Below w.heap.size w w2) := nx (nxa HW.out _) hbel
      have HBM : Hid (b = true ↔ f.may) := hb
      clear hb hbel HW
      cases b with
      | false =>
        go_wp2_with fail
        go_ret2
        exact ⟨_, 5, Or.inl ⟨rfl, rfl, by rw [HN.out]; exact HPN.out (fun h => absurd (HBM.out.2 h) (by simp))⟩, rfl, HW2.out⟩
      | true =>
        go_wp2_with fail
        go_roundg (n - (k + 1))
        case measure => omega
        case rel => exact ⟨k + 1, by simp, by omega, HPM.out (HBM.out.1 (by trivial)), HW2.out⟩
    · obtain rfl : k = n := by omega
      obtain ⟨w5, hw5⟩ : ∃ w5, w5 = wr := ⟨_, rfl⟩
      subst hw5
      have HRB : Hid (RB (w5.alloc (.cells A0 24)) w5.heap.size k []) := ⟨Nat.zero_le _, A0, heap_alloc_new _ _, HA0.out, fun i hi => by simp at hi⟩
      have hg5 : g < w5.heap.size := Nat.lt_of_lt_of_le hg HW.out.size
      have HR5 : Hid (RowF w5 g 0 fs) := HR.out.next hg HW.out
      have hw6 : Below w5.heap.size w5 (w5.alloc (.cells A0 24)) := bel1 _ _
      have HW6 : Hid (Below w5.heap.size w5 (w5.alloc (.cells A0 24))) := hw6
      clear hw6
      have q1 : ¬ (k : Int) < (k : Int) := by omega
      go_wp2_with fail
      go_loopg [25] k (fun gk v25 wr => ∃ (j : Nat) (gs : List Fc), v25 = .int .i64 (j : Int) ∧ j + gk = k ∧ Aside (gs.length = j ∧ (∀ i, i < j → SET (fs.getD i zF) (gs.getD i zF)) ∧ RB wr w5.heap.size k gs ∧ Below w5.heap.size w5 wr))
      case atStart => exact ⟨0, [], rfl, by omega, rfl, fun i hi => by omega, HRB.out, HW6.out⟩
      case round =>
        obtain ⟨j, gs, rfl, hj, HJ⟩ := hrel
        by_cases hlt : j < k
        · have q2 : (j : Int) < (k : Int) := by omega
          obtain ⟨c0, c1, c2, c3, c4⟩ := (HR5.out.next hg5 HJ.out.2.2.2) j (by rw [HN.out]; exact hlt)
          rw [Nat.zero_add] at c0 c1 c2 c3 c4
          have HFS : Hid (∀ W, Calls Tryz.prog 17 #[fV (fs.getD j zF)] W fun e w' => ∃ r, ST (fs.getD j zF) r ∧ e = .returned (.tuple #[fV (r.getD zF), .bool r.isSome]) ∧ Below W.heap.size W w') := fun W => HSt.out _ W (HK.out j hlt)
          obtain ⟨f, hf⟩ : ∃ f, fs.getD j zF = f := ⟨_, rfl⟩
          have HF : Hid (fs.getD j zF = f) := hf
          rw [hf] at c0 c1 c2 c3 c4 HFS
          clear hf
          go_wp2_with fail
          refine (HFS.out _).mono ?_
          rintro e w7 ⟨r, hr, rfl, hbel⟩
          have HST : Hid (ST f r) := hr
          have hb7 : Below wr.heap.size wr w7 := nx (bel1 _ _) hbel
          have HJ7 : Hid (RB w7 w5.heap.size k gs ∧ Below w5.heap.size w5 w7) := ⟨HJ.out.2.2.1.next hb7, nx HJ.out.2.2.2 hb7⟩
          have HGL : Hid (gs.length = j ∧ ∀ i, i < j → SET (fs.getD i zF) (gs.getD i zF)) := ⟨HJ.out.1, HJ.out.2.1⟩
          have hroom : ∀ m, m < 5 → (∃ v, w7.cell? ⟨w5.heap.size, j * 5 + m, none⟩ = some v) ∧ w7.frozen? ⟨w5.heap.size, j * 5 + m, none⟩ = false := fun m hm => by
            have := HJ7.out.1.room (by rw [HGL.out.1]; exact hlt) m hm
            rw [HGL.out.1] at this
            exact this
          obtain ⟨⟨x0, z0⟩, y0⟩ := hroom 0 (by omega)
          obtain ⟨⟨x1, z1⟩, y1⟩ := hroom 1 (by omega)
          obtain ⟨⟨x2, z2⟩, y2⟩ := hroom 2 (by omega)
          obtain ⟨⟨x3, z3⟩, y3⟩ := hroom 3 (by omega)
          obtain ⟨⟨x4, z4⟩, y4⟩ := hroom 4 (by omega)
          rw [Nat.add_zero] at z0 y0
          clear hroom hr hbel hb7 HJ c0 c1 c2 c3 c4
          cases r with
          | none =>
            go_wp2_with fail
            go_ret2
            exact ⟨_, 1, Or.inr (Or.inl ⟨by rw [HN.out]; exact HK.out, rfl, rfl, j, by rw [HN.out]; exact hlt, by rw [HF.out]; exact HST.out⟩), rfl, nx HW.out (set5o_bel HJ7.out.2 (Nat.le_refl _) _ _ _ _ _ _)⟩
          | some f2 =>
            dsimp only [Option.getD, Option.isSome]
            go_wp2_with fail
            go_roundg (k - (j + 1))
            case measure => omega
            case rel =>
              have hp := HJ7.out.1.put (by rw [HGL.out.1]; exact hlt) f2
              rw [HGL.out.1] at hp
              refine ⟨j + 1, gs ++ [f2], by simp, by omega, by rw [List.length_append, HGL.out.1]; rfl, fun i hi => ?_, hp, set5o_bel HJ7.out.2 (Nat.le_refl _) _ _ _ _ _ _⟩
              by_cases e : i = j
              · subst e
                rw [HF.out, List.getD_eq_getElem?_getD, List.getElem?_append_right (by rw [HGL.out.1]; omega), HGL.out.1, Nat.sub_self]
                exact HST.out
              · rw [List.getD_eq_getElem?_getD (l := gs ++ [f2]), List.getElem?_append_left (by rw [HGL.out.1]; omega), ← List.getD_eq_getElem?_getD]
                exact HGL.out.2 i (by omega)
        · obtain rfl : j = k := by omega
          have q2 : ¬ (j : Int) < (j : Int) := by omega
          go_wp2_with fail
          go_ret2
          exact ⟨_, 0, Or.inr (Or.inr ⟨by rw [HN.out]; exact HK.out, rfl, w5.heap.size, gs, by rw [HN.out]; rfl, by rw [HN.out]; exact HJ.out.1, by rw [HN.out]; exact HJ.out.2.1, HJ.out.2.2.1.row, HW.out.size, HJ.out.2.2.1.lt⟩), rfl, nx HW.out HJ.out.2.2.2⟩
end Go.Proofs.YtopdbhkkmolllaaGreatDoor
