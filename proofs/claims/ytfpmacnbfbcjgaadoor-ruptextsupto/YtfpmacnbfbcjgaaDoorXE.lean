import Derived.Test.YtfpmacnbfbcjgaaDoorXD
namespace Go.Proofs.YtfpmacnbfbcjgaaDoor
open Go.ChangeShapes Go.WideShapes Go.ChangeAt Go.RowKit Go.Lib

theorem blk_cell {w : World} {G : Nat} {cs : Array Value} {e : TypeId} (h : w.heap[G]? = some (.cells cs e (0, 0))) (j : Nat) : w.cell? ⟨G, j, none⟩ = cs[j]? := by
  simp [World.cell?, h]
theorem row_ne_blk {w : World} {B e size n G : Nat} {v : Value} {L : List Value} {cs : Array Value} {t : TypeId} {fr : Nat × Nat} (h : w.ownsRow B e size v n L) (hb : w.heap[G]? = some (.cells cs t fr)) (hne : e ≠ t) : v.ownBlock ≠ some G := by
  intro e1
  rcases h.2 with ⟨h0, _⟩ | ⟨g, cap, cur, h0, _, hg, _⟩
  · rw [h0] at e1; cases e1
  · rw [h0] at e1
    have e2 : g = G := by simpa [Value.ownBlock] using e1
    rw [← e2, hg] at hb
    cases hb
    exact hne rfl
theorem rowO_same {w w' : World} {base e size n : Nat} {v : Value} {L : List Value} (h : w.ownsRow base e size v n L) (hk : ∀ k, v.ownBlock = some k → w'.heap[k]? = w.heap[k]?) : w'.ownsRow base e size v n L := by
  refine ⟨h.1, ?_⟩
  rcases h.2 with h3 | ⟨b, cap, cur, e, h4, h5, h6⟩
  · exact Or.inl h3
  · exact Or.inr ⟨b, cap, cur, e, h4, (hk b (by rw [e]; rfl)).trans h5, h6⟩
theorem rowO_form {w : World} {base e size n : Nat} {v : Value} {L : List Value} (h : w.ownsRow base e size v n L) : ∃ ad c, v = .slice ad n c ∧ (0 < n → ∃ b, ad = some ⟨b, 0, none⟩ ∧ b < w.heap.size) := by
  rcases h.2 with ⟨e, h0⟩ | ⟨b, cap, cur, e, _, hb, hc, _⟩
  · exact ⟨none, 0, by rw [e, h0], fun h => by omega⟩
  · exact ⟨_, cap, e, fun _ => ⟨b, rfl, (Array.getElem?_eq_some_iff.1 hb).1⟩⟩
/-- a clause that was copied: in new memory -/
def CQ (w : World) (B : Nat) (v : Value) (c : List Int) : Prop :=
  ∃ ad cp, v = .slice ad c.length cp ∧ (0 < c.length → ∃ b cs, ad = some ⟨b, 0, none⟩ ∧ B ≤ b ∧ w.heap[b]? = some (.cells cs 3 (0, 0)) ∧ ∀ j, j < c.length → w.cell? ⟨b, 0 + j, none⟩ = some (.int .i64 (c.getD j 0)))
theorem CQ.kept {w w' : World} {B : Nat} {v : Value} {c : List Int} (h : CQ w B v c) (hk : ∀ k, B ≤ k → (∃ cs, w.heap[k]? = some (.cells cs 3 (0, 0))) → w'.heap[k]? = w.heap[k]?) : CQ w' B v c := by
  obtain ⟨ad, cp, h1, h2⟩ := h
  refine ⟨ad, cp, h1, fun h0 => ?_⟩
  obtain ⟨b, cs, h3, h4, h5, h6⟩ := h2 h0
  have h7 := hk b h4 ⟨cs, h5⟩
  exact ⟨b, cs, h3, h4, h7.trans h5, fun j hj => (World.cell?_of_block h7).trans (h6 j hj)⟩
theorem CQ_own {w : World} {B b k cap : Nat} {xs : List Int} (h : w.ownsRow 0 3 1 (.slice (some ⟨b, 0, none⟩) k cap) k (xs.map (Value.int .i64))) (hO : B ≤ b) (hk : xs.length = k) : CQ w B (.slice (some ⟨b, 0, none⟩) k cap) xs := by
  refine ⟨_, cap, by rw [hk], fun _ => ?_⟩
  have h1 := h
  rcases h.2 with ⟨e, _⟩ | ⟨g', cap', cur, e, _, hb, _⟩
  · cases e
  · cases e
    refine ⟨b, cur, rfl, hO, hb, fun j hj => ?_⟩
    rw [Nat.zero_add, h1.cellAt j (by omega), List.getElem?_map, List.getElem?_eq_getElem hj, getD_of _ _ _ hj]
    rfl
def stC (ps : List (Bool × List Int)) (q : Nat → Value) (k : Nat) : List Value := (List.range k).flatMap fun j => [.bool (ps.getD j (false, [])).1, q j]
theorem stC_succ (ps : List (Bool × List Int)) (q : Nat → Value) (k : Nat) : stC ps q (k + 1) = stC ps q k ++ [.bool (ps.getD k (false, [])).1, q k] := by
  unfold stC
  rw [List.range_succ, List.flatMap_append]
  rfl
theorem stC_congr (ps : List (Bool × List Int)) (q q' : Nat → Value) (k : Nat) (h : ∀ j, j < k → q j = q' j) : stC ps q k = stC ps q' k := by
  induction k with
  | zero => rfl
  | succ k ih => rw [stC_succ, stC_succ, ih (fun j hj => h j (by omega)), h k (by omega)]
theorem stC_len (ps : List (Bool × List Int)) (q : Nat → Value) (k : Nat) : (stC ps q k).length = k * 2 := by
  induction k with
  | zero => rfl
  | succ k ih => rw [stC_succ, List.length_append, ih]; simp; omega
theorem stC_get (ps : List (Bool × List Int)) (q : Nat → Value) : ∀ (k j : Nat), j < k → (stC ps q k)[j * 2]? = some (.bool (ps.getD j (false, [])).1) ∧ (stC ps q k)[j * 2 + 1]? = some (q j)
  | 0, j, h => absurd h (Nat.not_lt_zero j)
  | k + 1, j, h => by
    rw [stC_succ]
    by_cases e : j < k
    · have := stC_get ps q k j e
      rw [List.getElem?_append_left (by rw [stC_len]; omega), List.getElem?_append_left (by rw [stC_len]; omega)]
      exact this
    · obtain rfl : j = k := by omega
      rw [List.getElem?_append_right (by rw [stC_len]; omega), List.getElem?_append_right (by rw [stC_len]; omega), stC_len]
      simp
/-- the copy on its way -/
structure SST (w wr : World) (ps : List (Bool × List Int)) (k : Nat) (v : Value) (q : Nat → Value) : Prop where
  row : wr.ownsRow w.heap.size 33 2 v k (stC ps q k)
  rq : ∀ j, j < k → CQ wr w.heap.size (q j) (ps.getD j (false, [])).2
  below : Below w.heap.size w wr
theorem SST.kept {w wr w' : World} {ps : List (Bool × List Int)} {k : Nat} {v : Value} {q : Nat → Value} (h : SST w wr ps k v q) (hs : wr.heap.size ≤ w'.heap.size) (hk : ∀ j, j < wr.heap.size → w'.heap[j]? = wr.heap[j]?) (ho : w'.os = wr.os ∧ w'.tape = wr.tape ∧ w'.output = wr.output) : SST w w' ps k v q := by
  have hz := h.below.size
  refine ⟨rowO_same h.row (fun j hj => hk j (h.row.lt j hj).2), fun j hj => (h.rq j hj).kept (fun i _ hc => by
    obtain ⟨cs, hc⟩ := hc
    exact hk i (Array.getElem?_eq_some_iff.1 hc).1), ⟨ho.1.trans h.below.os, ho.2.1.trans h.below.tape, ho.2.2.trans h.below.output, Nat.le_trans h.below.size hs, fun j hj => (hk j (by omega)).trans (h.below.block j hj)⟩⟩
/-- behind both appends -/
theorem SST.add {w wr w4 w6 : World} {ps : List (Bool × List Int)} {k : Nat} {v : Value} {q : Nat → Value} (h : SST w wr ps k v q)
    (hs4 : wr.heap.size ≤ w4.heap.size) (hk4 : ∀ j, j < wr.heap.size → w4.heap[j]? = wr.heap[j]?) (ho4 : w4.os = wr.os ∧ w4.tape = wr.tape ∧ w4.output = wr.output) {vx v6 : Value} (hq : CQ w4 w.heap.size vx (ps.getD k (false, [])).2)
    (k1 : w6.ownsRow w.heap.size 33 2 v6 (k + 1) (stC ps q k ++ [.bool (ps.getD k (false, [])).1, vx])) (k2 : (w4.alloc (.cells #[.bool (ps.getD k (false, [])).1, vx] 33)).grownBy w6 v.ownBlock) : ∃ q', SST w w6 ps (k + 1) v6 q' := by
  have h4 := h.kept hs4 hk4 ho4
  have ha := h4.kept (w' := w4.alloc (.cells #[.bool (ps.getD k (false, [])).1, vx] 33)) (by simp) (fun j hj => Below.heap_alloc _ _ j hj) ⟨rfl, rfl, rfl⟩
  have hqa : CQ (w4.alloc (.cells #[.bool (ps.getD k (false, [])).1, vx] 33)) w.heap.size vx (ps.getD k (false, [])).2 := hq.kept (fun j _ hc => by
    obtain ⟨o, hc⟩ := hc
    exact Below.heap_alloc _ _ j (Array.getElem?_eq_some_iff.1 hc).1)
  have hcq : ∀ {u : Value} {c : List Int}, CQ (w4.alloc (.cells #[.bool (ps.getD k (false, [])).1, vx] 33)) w.heap.size u c → CQ w6 w.heap.size u c := fun hq => hq.kept (fun i _ hc => by
    obtain ⟨cs, hc⟩ := hc
    exact k2.block i (Array.getElem?_eq_some_iff.1 hc).1 (fun e => row_ne_blk ha.row hc (by decide) e.symm))
  refine ⟨fun j => if j = k then vx else q j, ?_, fun j hj => ?_, ?_⟩
  · rw [stC_succ, if_pos rfl, stC_congr ps _ q k (fun j hj => if_neg (by omega))]
    exact k1
  · by_cases e : j = k
    · rw [if_pos e, e]
      exact hcq hqa
    · rw [if_neg e]
      exact hcq (ha.rq j (by omega))
  · have hz := ha.below.size
    exact ⟨k2.os.trans ha.below.os, k2.tape.trans ha.below.tape, k2.output.trans ha.below.output, Nat.le_trans ha.below.size k2.size, fun j hj => (k2.block j (by omega) (fun e => by have := (ha.row.lt j e.symm).1; omega)).trans (ha.below.block j hj)⟩
theorem SST.stp {w wr : World} {ps : List (Bool × List Int)} {v : Value} {q : Nat → Value} (h : SST w wr ps ps.length v q) : ∃ aM cM, v = .slice aM ps.length cM ∧ Stp wr aM ps := by
  obtain ⟨aM, cM, e, hb⟩ := rowO_form h.row
  refine ⟨aM, cM, e, fun h0 => ?_⟩
  obtain ⟨b, rfl, hlt⟩ := hb h0
  refine ⟨b, 0, rfl, hlt, fun j hj => ?_⟩
  obtain ⟨aj, cj, ej, hj2⟩ := h.rq j hj
  have hr := h.row
  rw [e] at hr
  have hg := stC_get ps q ps.length j hj
  refine ⟨aj, cj, ?_, ?_, fun hp => ?_⟩
  · rw [Nat.zero_add, hr.cellAt (j * 2) (by omega)]
    exact hg.1
  · rw [Nat.zero_add, hr.cellAt (j * 2 + 1) (by omega), ← ej]
    exact hg.2
  · obtain ⟨b2, c2, e2, _, h5, h6⟩ := hj2 hp
    exact ⟨b2, 0, e2, (Array.getElem?_eq_some_iff.1 h5).1, h6⟩
set_option maxHeartbeats 8000000 in
set_option maxRecDepth 20000 in
theorem steps_any (ad : Option Addr) (ps : List (Bool × List Int)) (c : Nat) (w : World) (h : Stp w ad ps) (hl : ps.length ≤ 1048576) (hcl : ∀ s ∈ ps, s.2.length ≤ 1048576) :
    Calls Tryd.prog 5 #[.slice ad ps.length c] w fun e w' => ∃ aM cM, e = .returned (.slice aM ps.length cM) ∧ Stp w' aM ps ∧ Below w.heap.size w w' := by
  generalize hPP : (fun (e : Ending) (w' : World) => ∃ aM cM, e = .returned (.slice aM ps.length cM) ∧ Stp w' aM ps ∧ Below w.heap.size w w') = PP
  have HPP : Hid (∀ v q w', SST w w' ps ps.length v q → PP (.returned v) w') := fun v q w' h1 => by
    rw [← hPP]
    obtain ⟨aM, cM, e, h2⟩ := h1.stp
    exact ⟨aM, cM, by rw [e], h2, h1.below⟩
  clear hPP
  have HS : Hid (SST w w ps 0 (.slice none 0 0) (fun _ => .slice none 0 0)) := ⟨World.ownsRow_nil _ _ _ _, fun j hj => absurd hj (Nat.not_lt_zero j), Below.refl _ _⟩
  have HC : Hid (Stp w ad ps) := h
  have HM : Hid (∀ s ∈ ps, s.2.length ≤ 1048576) := hcl
  obtain ⟨i0, hi0, hz0, hz1, hz2⟩ := info_parts (P := Tryd.prog) (e := 3) (z := .int .i64 0) (size := 1) (bytes := 8) (by kernel_rfl)
  obtain ⟨j0, hj0, hy0, hy1, hy2⟩ := info_parts (P := Tryd.prog) (e := 33) (z := .agg #[.bool false, .slice none 0 0]) (size := 2) (bytes := 32) (by kernel_rfl)
  clear h hcl
  obtain ⟨n, hn⟩ : ∃ n, ps.length = n := ⟨_, rfl⟩
  have HL : Hid (ps.length = n) := hn
  rw [hn] at hl HPP ⊢
  clear hn
  go_enter Tryd.func5, Tryd.ntmps5
  go_wp2_with fail
  go_loopg [3, 4] n (fun gk s3 s4 wr => ∃ k : Nat, s4 = .int .i64 (k : Int) ∧ k + gk = n ∧ Aside (∃ q, SST w wr ps k s3 q))
  case atStart => exact ⟨0, rfl, by omega, _, HS.out⟩
  case round =>
    obtain ⟨k, rfl, hk, HU⟩ := hrel
    clear HS
    by_cases hlt : k < n
    · obtain ⟨q, ho⟩ := HU.out
      obtain ⟨aA, cA, eA, _⟩ := rowO_form ho.row
      subst eA
      obtain ⟨b, off, rfl, hb, hc⟩ := HC.out (by rw [HL.out]; omega)
      obtain ⟨aj, cj, hc0, hc1, hij⟩ := hc k (by rw [HL.out]; exact hlt)
      have hm := HM.out _ (show ps.getD k (false, []) ∈ ps by rw [getD_of _ _ _ (by rw [HL.out]; exact hlt)]; exact List.getElem_mem _)
      have hz := ho.below.size
      have HO : Hid (SST w wr ps k (.slice aA k cA) q) := ho
      have HFIN : Hid (∀ (w4 : World) (vx v6 : Value), wr.heap.size ≤ w4.heap.size → (∀ j, j < wr.heap.size → w4.heap[j]? = wr.heap[j]?) → (w4.os = wr.os ∧ w4.tape = wr.tape ∧ w4.output = wr.output) → CQ w4 w.heap.size vx (ps.getD k (false, [])).2 → ∀ (w6 : World), w6.ownsRow w.heap.size 33 2 v6 (k + 1) (stC ps q k ++ [.bool (ps.getD k (false, [])).1, vx]) → (w4.alloc (.cells #[.bool (ps.getD k (false, [])).1, vx] 33)).grownBy w6 (Value.ownBlock (.slice aA k cA)) → ∃ q', SST w w6 ps (k + 1) v6 q') := fun w4 vx v6 h1 h2 h3 h4 w6 k1 k2 => HO.out.add h1 h2 h3 h4 k1 k2
      obtain ⟨s, hs⟩ : ∃ s, ps.getD k (false, []) = s := ⟨_, rfl⟩
      rw [hs] at hc0 hc1 hij hm HFIN
      clear hs
      obtain ⟨d, C⟩ := s
      have hm' : C.length ≤ 1048576 := hm
      have hbw : b < wr.heap.size := by omega
      have hc0' : w.cell? ⟨b, off + k * 2, none⟩ = some (.bool d) := hc0
      have hc1' : w.cell? ⟨b, off + k * 2 + 1, none⟩ = some (.slice aj C.length cj) := hc1
      have HKO : Hid (∀ w4 : World, (∀ j, j < wr.heap.size → w4.heap[j]? = wr.heap[j]?) → w4.cell? ⟨b, off + k * 2, none⟩ = some (.bool d) ∧ w4.cell? ⟨b, off + k * 2 + 1, none⟩ = some (.slice aj C.length cj)) := fun w4 h5 => ⟨(World.cell?_of_block (w' := w4) (w := w) (a := ⟨b, off + k * 2, none⟩) ((h5 b hbw).trans (HO.out.below.block b hb))).trans hc0', (World.cell?_of_block (w' := w4) (w := w) (a := ⟨b, off + k * 2 + 1, none⟩) ((h5 b hbw).trans (HO.out.below.block b hb))).trans hc1'⟩
      have y0 : wr.cell? ⟨b, off + k * 2, none⟩ = some (.bool d) := (HKO.out wr (fun _ _ => rfl)).1
      have y1 : wr.cell? ⟨b, off + k * 2 + 1, none⟩ = some (.slice aj C.length cj) := (HKO.out wr (fun _ _ => rfl)).2
      have y0a : ∀ ob, (wr.alloc ob).cell? ⟨b, off + k * 2, none⟩ = some (.bool d) := fun ob => (HKO.out _ (fun j hj => Below.heap_alloc _ _ j hj)).1
      have y1a : ∀ ob, (wr.alloc ob).cell? ⟨b, off + k * 2 + 1, none⟩ = some (.slice aj C.length cj) := fun ob => (HKO.out _ (fun j hj => Below.heap_alloc _ _ j hj)).2
      have HRO : Hid (∀ w4 : World, (∀ j, j < wr.heap.size → w4.heap[j]? = wr.heap[j]?) → w4.ownsRow w.heap.size 33 2 (.slice aA k cA) k (stC ps q k)) := fun w4 h5 => rowO_same HO.out.row (fun j hj => h5 j (HO.out.row.lt j hj).2)
      have HIJ : Hid (Ints w aj C) := hij
      have q1 : (k : Int) < (n : Int) := by omega
      clear HU ho hc hc0 hc1 hij hb hm hc0' hc1'
      generalize stC ps q k = L at *
      obtain ⟨xl, hxl⟩ : ∃ xl, C.length = xl := ⟨_, rfl⟩
      have HXL : Hid (C.length = xl) := hxl
      rw [hxl] at hm' y1 y1a HKO
      clear hxl
      by_cases hi1 : xl = 0
      · subst hi1
        have HNB : Hid (∀ ob, ((wr.alloc (.cells #[] 3)).alloc ob).heap[wr.heap.size + 1]? = some ob) := fun ob => by
          have h5 := heap_alloc_new (wr.alloc (.cells #[] 3)) ob
          rw [show (wr.alloc (.cells #[] 3)).heap.size = wr.heap.size + 1 by simp] at h5
          exact h5
        have HRA0 : Hid (∀ ob, ((wr.alloc (.cells #[] 3)).alloc ob).ownsRow w.heap.size 33 2 (.slice aA k cA) k L) := fun ob => HRO.out _ (fun j hj => (Below.heap_alloc _ _ j (by simp; omega)).trans (Below.heap_alloc _ _ j hj))
        have HFIN0 : Hid (∀ v6 (w6 : World), w6.ownsRow w.heap.size 33 2 v6 (k + 1) (L ++ [.bool d, .slice (some ⟨wr.heap.size, 0, none⟩) 0 0]) → ((wr.alloc (.cells #[] 3)).alloc (.cells #[.bool d, .slice (some ⟨wr.heap.size, 0, none⟩) 0 0] 33)).grownBy w6 (Value.ownBlock (.slice aA k cA)) → ∃ q', SST w w6 ps (k + 1) v6 q') := fun v6 w6 k1 k2 => HFIN.out (wr.alloc (.cells #[] 3)) _ v6 (by simp) (fun j hj => Below.heap_alloc _ _ j hj) ⟨rfl, rfl, rfl⟩ ⟨_, _, by rw [HXL.out], fun h5 => absurd h5 (by rw [HXL.out]; simp)⟩ w6 k1 k2
        clear HIJ HFIN
        cases aj with
        | none =>
          go_wp2_with fail
          first | (go_region_law (first
            | (refine step_append_lies _ (by rfl) _ _ _ (by rfl) w.heap.size 33 j0 _ 2 32 Tryd.underlying22 hj0 hy0 hy1 hy2 rfl (by omega) (.slice aA k cA) k L (by rfl) ((HRA0.out _).drew) ⟨wr.heap.size + 1, 0, none⟩ 1 1 [.bool d, .slice (some ⟨wr.heap.size, 0, none⟩) 0 0] (by rfl) (by rfl) (World.news_of_block (cs := #[.bool d, .slice (some ⟨wr.heap.size, 0, none⟩) 0 0]) (t := 33) (fr := (0, 0)) (HNB.out _)) (by intro u hu; simp at hu; rcases hu with rfl | rfl <;> rfl) (by omega) (by unfold maxLen; omega) (by omega) (by simp; omega) ((wr.alloc (.cells #[] 3)).heap.size + 1) (by simp) ?_; intro g6 cap6 w6 hown6 hgrow6 hat6 hlt6; have HN : Aside (∃ q', SST w w6 ps (k + 1) (.slice (some ⟨g6, 0, none⟩) (k + 1) cap6) q') := HFIN0.out _ w6 hown6 ⟨hgrow6.os, hgrow6.tape, hgrow6.output, hgrow6.size, hgrow6.block⟩; clear hown6 hgrow6 hat6 hlt6))) | fail
          all_goals
            go_wp2
            go_roundg (gk - 1)
            case measure => omega
            case rel => exact ⟨k + 1, by simp, by omega, HN⟩
        | some a0 =>
          go_wp2_with fail
          first | (go_region_law (first
            | (refine step_append_lies _ (by rfl) _ _ _ (by rfl) w.heap.size 33 j0 _ 2 32 Tryd.underlying22 hj0 hy0 hy1 hy2 rfl (by omega) (.slice aA k cA) k L (by rfl) ((HRA0.out _).drew) ⟨wr.heap.size + 1, 0, none⟩ 1 1 [.bool d, .slice (some ⟨wr.heap.size, 0, none⟩) 0 0] (by rfl) (by rfl) (World.news_of_block (cs := #[.bool d, .slice (some ⟨wr.heap.size, 0, none⟩) 0 0]) (t := 33) (fr := (0, 0)) (HNB.out _)) (by intro u hu; simp at hu; rcases hu with rfl | rfl <;> rfl) (by omega) (by unfold maxLen; omega) (by omega) (by simp; omega) ((wr.alloc (.cells #[] 3)).heap.size + 1) (by simp) ?_; intro g6 cap6 w6 hown6 hgrow6 hat6 hlt6; have HN : Aside (∃ q', SST w w6 ps (k + 1) (.slice (some ⟨g6, 0, none⟩) (k + 1) cap6) q') := HFIN0.out _ w6 hown6 ⟨hgrow6.os, hgrow6.tape, hgrow6.output, hgrow6.size, hgrow6.block⟩; clear hown6 hgrow6 hat6 hlt6))) | fail
          all_goals
            go_wp2
            go_roundg (gk - 1)
            case measure => omega
            case rel => exact ⟨k + 1, by simp, by omega, HN⟩
      · obtain ⟨b1, o1, rfl, hb1, hcel⟩ := HIJ.out (by rw [HXL.out]; omega)
        have hb1w : b1 < wr.heap.size := by omega
        have HML : Hid ((C.map (Value.int .i64)).length = xl * 1) := by show _ = _; rw [List.length_map, HXL.out]; omega
        have HONE : Hid (∀ u ∈ C.map (Value.int .i64), u.oneCell' = true) := fun u hu => by obtain ⟨x, _, rfl⟩ := List.mem_map.1 hu; rfl
        have HLit : Hid ((wr.alloc (.cells #[] 3)).drew.ownsRow 0 3 1 (.slice (some ⟨wr.heap.size, 0, none⟩) 0 0) 0 []) := World.ownsRow_lit wr #[] 0 (Nat.zero_le _) (by unfold maxLen; omega) rfl
        have HNW : Hid (∀ j u, (C.map (Value.int .i64))[j]? = some u → (wr.alloc (.cells #[] 3)).drew.cell? ((⟨b1, o1, none⟩ : Addr).add j) = some u) := fun j u hj => by
          rw [Addr.add_lit]
          rw [List.getElem?_map] at hj
          by_cases hjl : j < C.length
          · rw [List.getElem?_eq_getElem hjl] at hj
            have h5 := hcel j hjl
            rw [getD_of _ _ _ hjl] at h5
            have hj' : Value.int .i64 C[j] = u := Option.some.inj hj
            rw [← hj']
            refine (World.cell?_of_block (w' := wr.alloc (.cells #[] 3)) (w := w) (a := ⟨b1, o1 + j, none⟩) ?_).trans h5
            show (wr.alloc (.cells #[] 3)).heap[b1]? = w.heap[b1]?
            rw [Below.heap_alloc _ _ b1 hb1w]
            exact HO.out.below.block b1 hb1
          · rw [List.getElem?_eq_none (by omega)] at hj
            exact absurd hj (by simp)
        have HMID : Hid (∀ g4 cap4 (w4 : World), w4.ownsRow 0 3 1 (.slice (some ⟨g4, 0, none⟩) (0 + xl) cap4) (0 + xl) ([] ++ C.map (Value.int .i64)) → (wr.alloc (.cells #[] 3)).drew.grownBy w4 (some wr.heap.size) → (some wr.heap.size = some g4 ∨ g4 = wr.heap.size + 1) → g4 < w4.heap.size → (wr.heap.size ≤ w4.heap.size ∧ (∀ k, k < wr.heap.size → w4.heap[k]? = wr.heap[k]?)) ∧ (w4.os = wr.os ∧ w4.tape = wr.tape ∧ w4.output = wr.output) ∧ CQ w4 w.heap.size (.slice (some ⟨g4, 0, none⟩) xl cap4) C) := fun g4 cap4 w4 h1 h2 h3 h4 => by
          have hsz : wr.heap.size ≤ w4.heap.size := by have := h2.size; simp at this; omega
          have hk4 : ∀ k, k < wr.heap.size → w4.heap[k]? = wr.heap[k]? := fun k hk => (h2.block k (by simp; omega) (fun e => by injection e with e; omega)).trans (Below.heap_alloc _ _ k hk)
          refine ⟨⟨hsz, hk4⟩, ⟨h2.os, h2.tape, h2.output⟩, CQ_own ?_ ?_ HXL.out⟩
          · rw [Nat.zero_add, List.nil_append] at h1
            exact h1
          · rcases h3 with e | e
            · injection e with e; omega
            · omega
        have HK3 : Hid (∀ w4 : World, (∀ j, j < wr.heap.size → w4.heap[j]? = wr.heap[j]?) → w4.cell? ⟨b, off + k * 2, none⟩ = some (.bool d)) := fun w4 h5 => (HKO.out w4 h5).1
        have HRA : Hid (∀ w4 : World, wr.heap.size ≤ w4.heap.size → (∀ j, j < wr.heap.size → w4.heap[j]? = wr.heap[j]?) → ∀ ob, (w4.alloc ob).ownsRow w.heap.size 33 2 (.slice aA k cA) k L) := fun w4 h4 h5 ob => HRO.out _ (fun j hj => (Below.heap_alloc _ _ j (by omega)).trans (h5 j hj))
        clear hcel hb1 HIJ hb1w
        go_wp2_with fail
        first | (go_region_law (first
          | (refine step_append_lies _ (by rfl) _ _ _ (by rfl) 0 3 i0 _ 1 8 Tryd.underlying31 hi0 hz0 hz1 hz2 rfl (by omega) (.slice (some ⟨wr.heap.size, 0, none⟩) 0 0) 0 [] (by rfl) HLit.out ⟨b1, o1, none⟩ xl cj (C.map (Value.int .i64)) (by rfl) HML.out HNW.out HONE.out (by omega) (by unfold maxLen; omega) (by omega) (by omega) (wr.heap.size + 1) (by simp) ?_; intro g4 cap4 w4 hown4 hgrow4 hat4 hlt4; have HMD' : Hid ((wr.heap.size ≤ w4.heap.size ∧ (∀ k, k < wr.heap.size → w4.heap[k]? = wr.heap[k]?)) ∧ (w4.os = wr.os ∧ w4.tape = wr.tape ∧ w4.output = wr.output) ∧ CQ w4 w.heap.size (.slice (some ⟨g4, 0, none⟩) xl cap4) C) := HMID.out g4 cap4 w4 hown4 hgrow4 hat4 hlt4; have k34 := HK3.out w4 HMD'.out.1.2; have hz4 := HMD'.out.1.1; clear hown4 hgrow4 hat4 hlt4)
          | (refine step_append_lies _ (by rfl) _ _ _ (by rfl) w.heap.size 33 j0 _ 2 32 Tryd.underlying22 hj0 hy0 hy1 hy2 rfl (by omega) (.slice aA k cA) k L (by rfl) (HRA.out w4 HMD'.out.1.1 HMD'.out.1.2 _) ⟨w4.heap.size, 0, none⟩ 1 1 [.bool d, .slice (some ⟨g4, 0, none⟩) xl cap4] (by rfl) (by rfl) (World.news_of_block (cs := #[.bool d, .slice (some ⟨g4, 0, none⟩) xl cap4]) (t := 33) (fr := (0, 0)) (heap_alloc_new w4 _)) (by intro u hu; simp at hu; rcases hu with rfl | rfl <;> rfl) (by omega) (by unfold maxLen; omega) (by omega) (by simp; omega) (w4.heap.size + 1) (by simp) ?_; intro g6 cap6 w6 hown6 hgrow6 hat6 hlt6; have HN : Aside (∃ q', SST w w6 ps (k + 1) (.slice (some ⟨g6, 0, none⟩) (k + 1) cap6) q') := HFIN.out w4 _ _ HMD'.out.1.1 HMD'.out.1.2 HMD'.out.2.1 HMD'.out.2.2 w6 hown6 ⟨hgrow6.os, hgrow6.tape, hgrow6.output, hgrow6.size, hgrow6.block⟩; clear hown6 hgrow6 hat6 hlt6))) | fail
        all_goals
          go_wp2
          go_roundg (gk - 1)
          case measure => omega
          case rel => exact ⟨k + 1, by simp, by omega, HN⟩
    · have hkn : k = n := by omega
      subst hkn
      have HFI : Hid (PP (.returned u3) wr) := by
        obtain ⟨q, ho⟩ := HU.out
        exact HPP.out u3 q wr ho
      go_wp2
      first | exact HFI.out | (go_ret; exact HFI.out)
end Go.Proofs.YtfpmacnbfbcjgaaDoor
