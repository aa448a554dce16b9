import Derived.Test.YtfpmacnbfbcjgaaEA
import Derived.Test.YtfpmacnbfbcjgaaCC
namespace Go.Proofs.Ytfpmacnbfbcjgaa
open Go.ChangeShapes Go.WideShapes Go.ChangeAt Go.RowKit
open Go.Pr
theorem rowO_same {w w' : World} {base e size n : Nat} {v : Value} {L : List Value} (h : w.ownsRow base e size v n L) (hk : ∀ k, v.ownBlock = some k → w'.heap[k]? = w.heap[k]?) : w'.ownsRow base e size v n L := by
  refine ⟨h.1, ?_⟩
  rcases h.2 with h3 | ⟨b, cap, cur, e, h4, h5, h6⟩
  · exact Or.inl h3
  · exact Or.inr ⟨b, cap, cur, e, h4, (hk b (by rw [e]; rfl)).trans h5, h6⟩
theorem rowO_form {w : World} {base e size n : Nat} {v : Value} {L : List Value} (h : w.ownsRow base e size v n L) : ∃ ad c, v = .slice ad n c ∧ (0 < n → ∃ b, ad = some ⟨b, 0, none⟩ ∧ b < w.heap.size) := by
  rcases h.2 with ⟨e, h0⟩ | ⟨b, cap, cur, e, _, hb, hc, _⟩
  · exact ⟨none, 0, by rw [e, h0], fun h => by omega⟩
  · exact ⟨_, cap, e, fun _ => ⟨b, rfl, (Array.getElem?_eq_some_iff.1 hb).1⟩⟩
/-- a clause that was copied: in new memory -/
def CQ (w : World) (B : Nat) (v : Value) (c : List Int) : Prop :=
  ∃ ad cp, v = .slice ad c.length cp ∧ (0 < c.length → ∃ b cs, ad = some ⟨b, 0, none⟩ ∧ B ≤ b ∧ w.heap[b]? = some (.cells cs 3 (0, 0)) ∧ ∀ j, j < c.length → w.cell? ⟨b, 0 + j, none⟩ = some (.int .i64 (c.getD j 0)))
theorem CQ.kept {w w' : World} {B : Nat} {v : Value} {c : List Int} (h : CQ w B v c) (hk : ∀ k, B ≤ k → (∃ cs, w.heap[k]? = some (.cells cs 3 (0, 0))) → w'.heap[k]? = w.heap[k]?) : CQ w' B v c := by
  obtain ⟨ad, cp, h1, h2⟩ := h
  refine ⟨ad, cp, h1, fun h0 => ?_⟩
  obtain ⟨b, cs, h3, h4, h5, h6⟩ := h2 h0
  have h7 := hk b h4 ⟨cs, h5⟩
  exact ⟨b, cs, h3, h4, h7.trans h5, fun j hj => (World.cell?_of_block h7).trans (h6 j hj)⟩
theorem CQ_own {w : World} {B b k cap : Nat} {xs : List Int} (h : w.ownsRow 0 3 1 (.slice (some ⟨b, 0, none⟩) k cap) k (xs.map (Value.int .i64))) (hO : B ≤ b) (hk : xs.length = k) : CQ w B (.slice (some ⟨b, 0, none⟩) k cap) xs := by
  refine ⟨_, cap, by rw [hk], fun _ => ?_⟩
  have h1 := h
  rcases h.2 with ⟨e, _⟩ | ⟨g', cap', cur, e, _, hb, _⟩
  · cases e
  · cases e
    refine ⟨b, cur, rfl, hO, hb, fun j hj => ?_⟩
    rw [Nat.zero_add, h1.cellAt j (by omega), List.getElem?_map, List.getElem?_eq_getElem hj, getD_of _ _ _ hj]
    rfl
/-- a formula that is being copied -/
structure FO (w : World) (B g : Nat) (vars : Int) (cls : List (List Int)) (pA : Value) (q : Nat → Value) : Prop where
  blk : w.heap[g]? = some (.cells #[.int .i64 vars, pA] 24 (0, 0))
  gb : B ≤ g
  rA : w.ownsRow 0 26 1 pA cls.length ((List.range cls.length).map q)
  oA : ∀ k, pA.ownBlock = some k → B ≤ k
  rq : ∀ k, k < cls.length → CQ w B (q k) (cls.getD k [])
theorem FO.kept {w w' : World} {B g : Nat} {vars : Int} {cls : List (List Int)} {pA : Value} {q : Nat → Value} (h : FO w B g vars cls pA q) (hk : ∀ k, k < w.heap.size → w'.heap[k]? = w.heap[k]?) : FO w' B g vars cls pA q := by
  have hlt : ∀ {k : Nat} {o : Obj}, w.heap[k]? = some o → k < w.heap.size := fun h => (Array.getElem?_eq_some_iff.1 h).1
  refine ⟨(hk g (hlt h.blk)).trans h.blk, h.gb, ?_, h.oA, fun k hk2 => (h.rq k hk2).kept (fun j _ hc => by obtain ⟨cs, hc⟩ := hc; exact hk j (hlt hc))⟩
  refine ⟨h.rA.1, ?_⟩
  rcases h.rA.2 with h3 | ⟨b, cap, cur, e, h4, h5, h6⟩
  · exact Or.inl h3
  · exact Or.inr ⟨b, cap, cur, e, h4, (hk b (hlt h5)).trans h5, h6⟩
theorem FO.re {w w1 : World} {B g : Nat} {vars : Int} {cls : List (List Int)} {pA : Value} {q : Nat → Value} (h : FO w B g vars cls pA q) (hB : B ≤ w.heap.size) (hgr : w.grownBy w1 pA.ownBlock) (v vx : Value) (xs : List Int) (hr : w1.ownsRow 0 26 1 v (cls.length + 1) ((List.range cls.length).map q ++ [vx])) (hv : v.ownBlock = pA.ownBlock ∨ ∃ k, v.ownBlock = some k ∧ w.heap.size ≤ k) (hx : CQ w B vx xs) :
    w1.heap[g]? = some (.cells #[.int .i64 vars, pA] 24 (0, 0)) ∧ (∃ q', FO (w1.setCell ⟨g, 1, none⟩ v) B g vars (cls ++ [xs]) v q') ∧ Below B w (w1.setCell ⟨g, 1, none⟩ v) ∧ ∀ k o t fr, w.heap[k]? = some (Obj.cells o t fr) → k ≠ g → t ≠ 26 → (w1.setCell ⟨g, 1, none⟩ v).heap[k]? = w.heap[k]? := by
  have hlt : ∀ {k : Nat} {o : Obj}, w.heap[k]? = some o → k < w.heap.size := fun h => (Array.getElem?_eq_some_iff.1 h).1
  have hoth : ∀ k, k ≠ g → (w1.setCell ⟨g, 1, none⟩ v).heap[k]? = w1.heap[k]? := fun k hk => heap_setCell_other _ _ _ _ hk
  have hty : ∀ k o t fr, w.heap[k]? = some (Obj.cells o t fr) → t ≠ 26 → w1.heap[k]? = w.heap[k]? := fun k o t fr hk ht => hgr.block k (hlt hk) (fun e => row_ne_blk h.rA hk (fun e => ht e.symm) e.symm)
  have hb1 := (hty g _ _ _ h.blk (by decide)).trans h.blk
  have hvg : v.ownBlock ≠ some g := row_ne_blk hr hb1 (by decide)
  have hcq : ∀ {u : Value} {c : List Int}, CQ w B u c → CQ (w1.setCell ⟨g, 1, none⟩ v) B u c := fun hq => hq.kept (fun k _ hc => by
    obtain ⟨cs, hc⟩ := hc
    refine (hoth k (fun e => ?_)).trans (hty k _ _ _ hc (by decide))
    rw [e, h.blk] at hc
    injection hc with hc
    injection hc with _ h2 _
    exact absurd h2 (by decide))
  refine ⟨hb1, ⟨fun k => if k = cls.length then vx else q k, ?_, h.gb, ?_, fun k hk => ?_, fun k hk => ?_⟩, ⟨?_, ?_, ?_, ?_, fun k hk => ?_⟩, fun k o t fr hk hne ht => (hoth k hne).trans (hty k o t fr hk ht)⟩
  · rw [heap_setCell_same _ g 1 _ _ _ hb1]
    rfl
  · have e : (List.range (cls ++ [xs]).length).map (fun k => if k = cls.length then vx else q k) = (List.range cls.length).map q ++ [vx] := by
      rw [List.length_append, List.length_singleton, List.range_succ, List.map_append, List.map_singleton, if_pos rfl]
      congr 1
      exact List.map_congr_left fun k hk => by rw [if_neg (by have := List.mem_range.1 hk; omega)]
    rw [e, List.length_append, List.length_singleton]
    exact rowO_same hr (fun k hk => hoth k (fun e => hvg (by rw [hk, e])))
  · rcases hv with e | ⟨k2, e, h3⟩
    · exact h.oA k (by rw [← e]; exact hk)
    · rw [e] at hk
      cases hk
      omega
  · rw [List.length_append, List.length_singleton] at hk
    by_cases e : k = cls.length
    · rw [if_pos e, e, List.getD_eq_getElem?_getD, List.getElem?_append_right (Nat.le_refl _)]
      simp
      exact hcq hx
    · rw [if_neg e, List.getD_eq_getElem?_getD, List.getElem?_append_left (by omega), ← List.getD_eq_getElem?_getD]
      exact hcq (h.rq k (by omega))
  · exact hgr.os
  · exact hgr.tape
  · exact hgr.output
  · have := hgr.size; simp; exact this
  · have hg := h.gb
    rw [hoth k (by omega)]
    exact hgr.block k (by omega) (fun e => by have := h.oA k e.symm; omega)
/-- the copy on its way -/
structure OST (w wr : World) (vars : Int) (ad : Option Addr) (c : Nat) (cs : List (List Int)) (k : Nat) (pA : Value) (q : Nat → Value) : Prop where
  r1 : wr.heap[w.heap.size]? = some (.cells #[.int .i64 vars, .slice ad cs.length c] 24 (0, 0))
  r2 : wr.heap[w.heap.size + 1]? = some (.cells #[.int .i64 0, .slice none 0 0] 24 (0, 0))
  fo : FO wr w.heap.size (w.heap.size + 2) vars (cs.take k) pA q
  below : Below w.heap.size w wr
theorem OST.size {w wr : World} {vars : Int} {ad : Option Addr} {c : Nat} {cs : List (List Int)} {k : Nat} {pA : Value} {q : Nat → Value} (h : OST w wr vars ad c cs k pA q) : w.heap.size + 3 ≤ wr.heap.size := by
  have := (Array.getElem?_eq_some_iff.1 h.fo.blk).1
  omega
theorem OST.kept {w wr w' : World} {vars : Int} {ad : Option Addr} {c : Nat} {cs : List (List Int)} {k : Nat} {pA : Value} {q : Nat → Value} (h : OST w wr vars ad c cs k pA q) (hs : wr.heap.size ≤ w'.heap.size) (hk : ∀ j, j < wr.heap.size → w'.heap[j]? = wr.heap[j]?) (ho : w'.os = wr.os ∧ w'.tape = wr.tape ∧ w'.output = wr.output) : OST w w' vars ad c cs k pA q := by
  have hz := h.size
  exact ⟨(hk _ (by omega)).trans h.r1, (hk _ (by omega)).trans h.r2, h.fo.kept hk, ⟨ho.1.trans h.below.os, ho.2.1.trans h.below.tape, ho.2.2.trans h.below.output, Nat.le_trans h.below.size hs, fun j hj => (hk j (by omega)).trans (h.below.block j hj)⟩⟩
/-- behind both appends -/
theorem OST.add {w wr w4 w6 : World} {vars : Int} {ad : Option Addr} {c : Nat} {cs : List (List Int)} {k : Nat} {pA : Value} {q : Nat → Value} (h : OST w wr vars ad c cs k pA q) (hk : k < cs.length) {aA : Option Addr} {cA : Nat} (eA : pA = .slice aA k cA)
    (hs4 : wr.heap.size ≤ w4.heap.size) (hk4 : ∀ j, j < wr.heap.size → w4.heap[j]? = wr.heap[j]?) (ho4 : w4.os = wr.os ∧ w4.tape = wr.tape ∧ w4.output = wr.output) {vx : Value} (hq : CQ w4 w.heap.size vx (cs.getD k [])) {g6 cap6 : Nat}
    (k1 : w6.ownsRow 0 26 1 (.slice (some ⟨g6, 0, none⟩) (k + 1) cap6) (k + 1) ((List.range k).map q ++ [vx])) (k2 : (w4.alloc (.cells #[vx] 26)).grownBy w6 (Value.ownBlock (.slice aA k cA))) (k3 : (Value.slice aA k cA).ownBlock = some g6 ∨ g6 = w4.heap.size + 1) :
    w6.heap[w.heap.size + 2]? = some (.cells #[.int .i64 vars, pA] 24 (0, 0)) ∧ ∃ q', OST w (w6.setCell ⟨w.heap.size + 2, 1, none⟩ (.slice (some ⟨g6, 0, none⟩) (k + 1) cap6)) vars ad c cs (k + 1) (.slice (some ⟨g6, 0, none⟩) (k + 1) cap6) q' := by
  have hz := h.size
  have htl : (cs.take k).length = k := by rw [List.length_take]; omega
  have h4 := h.kept hs4 hk4 ho4
  have ha := h4.kept (w' := w4.alloc (.cells #[vx] 26)) (by simp) (fun j hj => Below.heap_alloc _ _ j hj) ⟨rfl, rfl, rfl⟩
  have hqa : CQ (w4.alloc (.cells #[vx] 26)) w.heap.size vx (cs.getD k []) := hq.kept (fun j _ hc => by
    obtain ⟨o, hc⟩ := hc
    exact Below.heap_alloc _ _ j (Array.getElem?_eq_some_iff.1 hc).1)
  obtain ⟨z1, ⟨q', z2⟩, z3, z4⟩ := ha.fo.re (w1 := w6) (by simp; omega) (by rw [eA]; exact k2) (.slice (some ⟨g6, 0, none⟩) (k + 1) cap6) vx (cs.getD k []) (by rw [htl]; exact k1) (by
    rw [eA]
    rcases k3 with e | e
    · exact Or.inl e.symm
    · exact Or.inr ⟨g6, rfl, by rw [e]; simp⟩) hqa
  have et : cs.take k ++ [cs.getD k []] = cs.take (k + 1) := by
    rw [List.take_add_one, List.getElem?_eq_getElem hk, getD_of _ _ _ hk]
    rfl
  rw [et] at z2
  exact ⟨z1, q', (z4 _ _ _ _ ha.r1 (by omega) (by decide)).trans ha.r1, (z4 _ _ _ _ ha.r2 (by omega) (by decide)).trans ha.r2, z2, ⟨z3.os.trans ha.below.os, z3.tape.trans ha.below.tape, z3.output.trans ha.below.output, Nat.le_trans ha.below.size z3.size, fun j hj => (z3.block j hj).trans (ha.below.block j hj)⟩⟩
/-- what the copy is -/
theorem OST.cls {w wr w' : World} {vars : Int} {ad : Option Addr} {c : Nat} {cs : List (List Int)} {pA : Value} {q : Nat → Value} (h : OST w wr vars ad c cs cs.length pA q) {aA : Option Addr} {cA : Nat} (eA : pA = .slice aA cs.length cA) (hk : ∀ j, j ≠ w.heap.size + 1 → w'.heap[j]? = wr.heap[j]?) : Cls w' aA cs := by
  intro h0
  have hr := h.fo.rA
  rw [List.take_length] at hr
  have hne : pA.ownBlock ≠ some (w.heap.size + 1) := row_ne_blk hr h.r2 (by decide)
  have hr' : w'.ownsRow 0 26 1 pA cs.length ((List.range cs.length).map q) := rowO_same hr (fun k hk2 => hk k (fun e => hne (by rw [hk2, e])))
  obtain ⟨ad2, c2, e, hb⟩ := rowO_form hr'
  rw [eA] at e
  cases e
  obtain ⟨b, rfl, hlt⟩ := hb h0
  refine ⟨b, 0, rfl, hlt, fun j hj => ?_⟩
  have hq := h.fo.rq j (by rw [List.take_length]; exact hj)
  rw [List.take_length] at hq
  have hq' : CQ w' w.heap.size (q j) (cs.getD j []) := hq.kept (fun k _ hc => hk k (fun e => by
    obtain ⟨o, hc⟩ := hc
    rw [e, h.r2] at hc
    injection hc with hc
    injection hc with _ h2 _
    exact absurd h2 (by decide)))
  obtain ⟨aj, cj, ej, hj2⟩ := hq'
  refine ⟨aj, cj, ?_, fun hp => ?_⟩
  · rw [eA] at hr'
    rw [Nat.zero_add, hr'.cellAt j (by omega), List.getElem?_map, List.getElem?_range hj, ← ej]
    rfl
  · obtain ⟨b2, c2, e2, _, h5, h6⟩ := hj2 hp
    exact ⟨b2, 0, e2, (Array.getElem?_eq_some_iff.1 h5).1, h6⟩
set_option maxHeartbeats 8000000 in
set_option maxRecDepth 20000 in
theorem own_any (vars : Int) (ad : Option Addr) (cs : List (List Int)) (c : Nat) (w : World) (h : Cls w ad cs) (hl : cs.length ≤ 1048576) (hcl : ∀ j, j < cs.length → (cs.getD j []).length ≤ 1048576) :
    Calls Try.prog 4 #[.agg #[.int .i64 vars, .slice ad cs.length c]] w fun e w' => ∃ aM cM, e = .returned (.agg #[.int .i64 vars, .slice aM cs.length cM]) ∧ Cls w' aM cs ∧ Below w.heap.size w w' := by
  generalize hPP : (fun (e : Ending) (w' : World) => ∃ aM cM, e = .returned (.agg #[.int .i64 vars, .slice aM cs.length cM]) ∧ Cls w' aM cs ∧ Below w.heap.size w w') = PP
  have HPP : Hid (∀ aM cM w', Cls w' aM cs → Below w.heap.size w w' → PP (.returned (.agg #[.int .i64 vars, .slice aM cs.length cM])) w') := fun aM cM w' h1 h2 => by rw [← hPP]; exact ⟨aM, cM, rfl, h1, h2⟩
  clear hPP
  have HS : Hid (OST w (((w.alloc (.cells #[.int .i64 vars, .slice ad cs.length c] 24)).alloc (.cells #[.int .i64 0, .slice none 0 0] 24)).alloc (.cells #[.int .i64 vars, .slice none 0 0] 24)) vars ad c cs 0 (.slice none 0 0) (fun _ => .slice none 0 0)) := by
    refine ⟨?_, ?_, ⟨?_, by omega, World.ownsRow_nil _ _ _ _, fun k hk => absurd hk (by simp [Value.ownBlock]), fun k hk => absurd hk (by simp)⟩, ?_⟩
    · rw [Below.heap_alloc _ _ _ (by simp; omega), Below.heap_alloc _ _ _ (by simp)]
      exact heap_alloc_new _ _
    · rw [Below.heap_alloc _ _ _ (by simp)]
      have h5 := heap_alloc_new (w.alloc (.cells #[.int .i64 vars, .slice ad cs.length c] 24)) (.cells #[.int .i64 0, .slice none 0 0] 24)
      rw [show (w.alloc (.cells #[.int .i64 vars, .slice ad cs.length c] 24)).heap.size = w.heap.size + 1 by simp] at h5
      exact h5
    · have h5 := heap_alloc_new ((w.alloc (.cells #[.int .i64 vars, .slice ad cs.length c] 24)).alloc (.cells #[.int .i64 0, .slice none 0 0] 24)) (.cells #[.int .i64 vars, .slice none 0 0] 24)
      rw [show ((w.alloc (.cells #[.int .i64 vars, .slice ad cs.length c] 24)).alloc (.cells #[.int .i64 0, .slice none 0 0] 24)).heap.size = w.heap.size + 2 by simp] at h5
      exact h5
    · exact (((Below.refl _ _).alloc (Nat.le_refl _) _).alloc (by simp) _).alloc (by simp; omega) _
  have HC : Hid (Cls w ad cs) := h
  have HM : Hid (∀ j, j < cs.length → (cs.getD j []).length ≤ 1048576) := hcl
  obtain ⟨i0, hi0, hz0, hz1, hz2⟩ := info_parts (P := Try.prog) (e := 3) (z := .int .i64 0) (size := 1) (bytes := 8) (by kernel_rfl)
  obtain ⟨j0, hj0, hy0, hy1, hy2⟩ := info_parts (P := Try.prog) (e := 26) (z := .slice none 0 0) (size := 1) (bytes := 24) (by kernel_rfl)
  clear h hcl
  obtain ⟨n, hn⟩ : ∃ n, cs.length = n := ⟨_, rfl⟩
  have HL : Hid (cs.length = n) := hn
  rw [hn] at hl HS HPP ⊢
  clear hn
  go_enter Try.func4, Try.ntmps4
  go_wp2_with fail
  generalize ((w.alloc (.cells #[.int .i64 vars, .slice ad n c] 24)).alloc (.cells #[.int .i64 0, .slice none 0 0] 24)).alloc (.cells #[.int .i64 vars, .slice none 0 0] 24) = W0 at HS ⊢
  go_loopg [4] n (fun gk s4 wr => ∃ k : Nat, s4 = .int .i64 (k : Int) ∧ k + gk = n ∧ Aside (∃ pA q, OST w wr vars ad c cs k pA q))
  case atStart => exact ⟨0, rfl, by omega, _, _, HS.out⟩
  case round =>
    obtain ⟨k, rfl, hk, HU⟩ := hrel
    clear HS
    obtain ⟨pA, q, ho⟩ := HU.out
    have y1 : wr.cell? ⟨w.heap.size, 1, none⟩ = some (.slice ad n c) := by have h5 := blk_cell ho.r1 1; rw [HL.out] at h5; exact h5
    have htl : (cs.take k).length = k := by rw [List.length_take, HL.out]; omega
    obtain ⟨aA, cA, eA, _⟩ := rowO_form ho.fo.rA
    rw [htl] at eA
    by_cases hlt : k < n
    · obtain ⟨b, off, rfl, hb, hc⟩ := HC.out (by rw [HL.out]; omega)
      obtain ⟨aj, cj, hck, hij⟩ := hc k (by rw [HL.out]; exact hlt)
      have hm := HM.out k (by rw [HL.out]; exact hlt)
      have hz := ho.size
      have HO : Hid (OST w wr vars (some ⟨b, off, none⟩) c cs k (.slice aA k cA) q) := by rw [eA] at ho; exact ho
      have ck : wr.cell? ⟨b, off + k, none⟩ = some (.slice aj (cs.getD k []).length cj) := (World.cell?_of_block (w' := wr) (w := w) (a := ⟨b, off + k, none⟩) (ho.below.block b hb)).trans hck
      have k0 : wr.cell? ⟨w.heap.size + 2, 1, none⟩ = some (.slice aA k cA) := (blk_cell ho.fo.blk 1).trans (congrArg some eA)
      have hbw : b < wr.heap.size := Nat.lt_of_lt_of_le hb ho.below.size
      have HKO : Hid (∀ w4 : World, (∀ j, j < wr.heap.size → w4.heap[j]? = wr.heap[j]?) → w4.cell? ⟨w.heap.size, 1, none⟩ = some (.slice (some ⟨b, off, none⟩) n c) ∧ w4.cell? ⟨b, off + k, none⟩ = some (.slice aj (cs.getD k []).length cj) ∧ w4.cell? ⟨w.heap.size + 2, 1, none⟩ = some (.slice aA k cA)) := fun w4 h5 => ⟨(World.cell?_of_block (w' := w4) (w := wr) (a := ⟨w.heap.size, 1, none⟩) (h5 w.heap.size (by omega))).trans y1, (World.cell?_of_block (w' := w4) (w := wr) (a := ⟨b, off + k, none⟩) (h5 _ hbw)).trans ck, (World.cell?_of_block (w' := w4) (w := wr) (a := ⟨w.heap.size + 2, 1, none⟩) (h5 (w.heap.size + 2) (by omega))).trans k0⟩
      have y1a : ∀ ob, (wr.alloc ob).cell? ⟨w.heap.size, 1, none⟩ = some (.slice (some ⟨b, off, none⟩) n c) := fun ob => (HKO.out _ (fun j hj => Below.heap_alloc _ _ j hj)).1
      have cka : ∀ ob, (wr.alloc ob).cell? ⟨b, off + k, none⟩ = some (.slice aj (cs.getD k []).length cj) := fun ob => (HKO.out _ (fun j hj => Below.heap_alloc _ _ j hj)).2.1
      have k0a : ∀ ob, (wr.alloc ob).cell? ⟨w.heap.size + 2, 1, none⟩ = some (.slice aA k cA) := fun ob => (HKO.out _ (fun j hj => Below.heap_alloc _ _ j hj)).2.2
      have HRO : Hid (∀ w4 : World, (∀ j, j < wr.heap.size → w4.heap[j]? = wr.heap[j]?) → w4.ownsRow 0 26 1 (.slice aA k cA) k ((List.range k).map q)) := fun w4 h5 => by
        have h6 := (HO.out.fo.kept h5).rA
        rw [htl] at h6
        exact h6
      have HIJ : Hid (Ints w aj (cs.getD k [])) := hij
      have HFIN : Hid (∀ (w4 : World) (vx : Value), wr.heap.size ≤ w4.heap.size → (∀ j, j < wr.heap.size → w4.heap[j]? = wr.heap[j]?) → (w4.os = wr.os ∧ w4.tape = wr.tape ∧ w4.output = wr.output) → CQ w4 w.heap.size vx (cs.getD k []) → ∀ g6 cap6 (w6 : World), w6.ownsRow 0 26 1 (.slice (some ⟨g6, 0, none⟩) (k + 1) cap6) (k + 1) ((List.range k).map q ++ [vx]) → (w4.alloc (.cells #[vx] 26)).grownBy w6 (Value.ownBlock (.slice aA k cA)) → ((Value.slice aA k cA).ownBlock = some g6 ∨ g6 = w4.heap.size + 1) → w6.heap[w.heap.size + 2]? = some (.cells #[.int .i64 vars, .slice aA k cA] 24 (0, 0)) ∧ ∃ pA q', OST w (w6.setCell ⟨w.heap.size + 2, 1, none⟩ (.slice (some ⟨g6, 0, none⟩) (k + 1) cap6)) vars (some ⟨b, off, none⟩) c cs (k + 1) pA q') := fun w4 vx h1 h2 h3 h4 g6 cap6 w6 k1 k2 k3 => by
        obtain ⟨z1, q', z2⟩ := HO.out.add (by rw [HL.out]; exact hlt) rfl h1 h2 h3 h4 k1 k2 k3
        exact ⟨z1, _, q', z2⟩
      have q1 : (k : Int) < (n : Int) := by omega
      clear HU ho eA htl hc hck hij hb
      obtain ⟨xl, hxl⟩ : ∃ xl, (cs.getD k []).length = xl := ⟨_, rfl⟩
      have HXL : Hid ((cs.getD k []).length = xl) := hxl
      rw [hxl] at hm ck cka HKO
      clear hxl
      by_cases hi1 : xl = 0
      · subst hi1
        have HNB : Hid (∀ ob, ((wr.alloc (.cells #[] 3)).alloc ob).heap[wr.heap.size + 1]? = some ob) := fun ob => by
          have h5 := heap_alloc_new (wr.alloc (.cells #[] 3)) ob
          rw [show (wr.alloc (.cells #[] 3)).heap.size = wr.heap.size + 1 by simp] at h5
          exact h5
        have HRA0 : Hid (∀ ob, ((wr.alloc (.cells #[] 3)).alloc ob).ownsRow 0 26 1 (.slice aA k cA) k ((List.range k).map q)) := fun ob => HRO.out _ (fun j hj => (Below.heap_alloc _ _ j (by simp; omega)).trans (Below.heap_alloc _ _ j hj))
        have HFIN0 : Hid (∀ g6 cap6 (w6 : World), w6.ownsRow 0 26 1 (.slice (some ⟨g6, 0, none⟩) (k + 1) cap6) (k + 1) ((List.range k).map q ++ [.slice (some ⟨wr.heap.size, 0, none⟩) 0 0]) → ((wr.alloc (.cells #[] 3)).alloc (.cells #[.slice (some ⟨wr.heap.size, 0, none⟩) 0 0] 26)).grownBy w6 (Value.ownBlock (.slice aA k cA)) → ((Value.slice aA k cA).ownBlock = some g6 ∨ g6 = (wr.alloc (.cells #[] 3)).heap.size + 1) → w6.heap[w.heap.size + 2]? = some (.cells #[.int .i64 vars, .slice aA k cA] 24 (0, 0)) ∧ ∃ pA q', OST w (w6.setCell ⟨w.heap.size + 2, 1, none⟩ (.slice (some ⟨g6, 0, none⟩) (k + 1) cap6)) vars (some ⟨b, off, none⟩) c cs (k + 1) pA q') := fun g6 cap6 w6 k1 k2 k3 => HFIN.out (wr.alloc (.cells #[] 3)) _ (by simp) (fun j hj => Below.heap_alloc _ _ j hj) ⟨rfl, rfl, rfl⟩ ⟨_, _, by rw [HXL.out], fun h5 => absurd h5 (by rw [HXL.out]; simp)⟩ g6 cap6 w6 k1 k2 k3
        have k0b : ∀ ob ob2, ((wr.alloc ob).alloc ob2).cell? ⟨w.heap.size + 2, 1, none⟩ = some (.slice aA k cA) := fun ob ob2 => (HKO.out _ (fun j hj => (Below.heap_alloc _ _ j (by simp; omega)).trans (Below.heap_alloc _ _ j hj))).2.2
        clear HIJ HFIN
        cases aj with
        | none =>
          go_wp2_with fail
          first | (go_region_law (first
            | (refine step_append_lies _ (by rfl) _ _ _ (by rfl) 0 26 j0 _ 1 24 Try.underlying22 hj0 hy0 hy1 hy2 rfl (by omega) (.slice aA k cA) k ((List.range k).map q) (by rfl) ((HRA0.out _).drew) ⟨wr.heap.size + 1, 0, none⟩ 1 1 [.slice (some ⟨wr.heap.size, 0, none⟩) 0 0] (by rfl) (by rfl) (World.news_of_block (cs := #[.slice (some ⟨wr.heap.size, 0, none⟩) 0 0]) (t := 26) (fr := (0, 0)) (HNB.out _)) (by intro u hu; simp at hu; subst hu; rfl) (by omega) (by unfold maxLen; omega) (by omega) (by omega) ((wr.alloc (.cells #[] 3)).heap.size + 1) (by simp) ?_; intro g6 cap6 w6 hown6 hgrow6 hat6 hlt6; have HK7 : Hid (w6.heap[w.heap.size + 2]? = some (.cells #[.int .i64 vars, .slice aA k cA] 24 (0, 0)) ∧ ∃ pA q', OST w (w6.setCell ⟨w.heap.size + 2, 1, none⟩ (.slice (some ⟨g6, 0, none⟩) (k + 1) cap6)) vars (some ⟨b, off, none⟩) c cs (k + 1) pA q') := HFIN0.out g6 cap6 w6 hown6 ⟨hgrow6.os, hgrow6.tape, hgrow6.output, hgrow6.size, hgrow6.block⟩ hat6; have e3 : w6.cell? ⟨w.heap.size + 2, 1, none⟩ = some (.slice aA k cA) := blk_cell HK7.out.1 1; have f3 : w6.frozen? ⟨w.heap.size + 2, 1, none⟩ = false := (by simp [World.frozen?, HK7.out.1]); clear hown6 hgrow6 hat6 hlt6))) | fail
          all_goals
            have HN : Aside (∃ pA q', OST w (w6.setCell ⟨w.heap.size + 2, 1, none⟩ (.slice (some ⟨g6, 0, none⟩) (k + 1) cap6)) vars (some ⟨b, off, none⟩) c cs (k + 1) pA q') := HK7.out.2
            clear HK7
            go_wp2
            go_roundg (gk - 1)
            case measure => omega
            case rel => exact ⟨k + 1, by simp, by omega, HN⟩
        | some a0 =>
          go_wp2_with fail
          first | (go_region_law (first
            | (refine step_append_lies _ (by rfl) _ _ _ (by rfl) 0 26 j0 _ 1 24 Try.underlying22 hj0 hy0 hy1 hy2 rfl (by omega) (.slice aA k cA) k ((List.range k).map q) (by rfl) ((HRA0.out _).drew) ⟨wr.heap.size + 1, 0, none⟩ 1 1 [.slice (some ⟨wr.heap.size, 0, none⟩) 0 0] (by rfl) (by rfl) (World.news_of_block (cs := #[.slice (some ⟨wr.heap.size, 0, none⟩) 0 0]) (t := 26) (fr := (0, 0)) (HNB.out _)) (by intro u hu; simp at hu; subst hu; rfl) (by omega) (by unfold maxLen; omega) (by omega) (by omega) ((wr.alloc (.cells #[] 3)).heap.size + 1) (by simp) ?_; intro g6 cap6 w6 hown6 hgrow6 hat6 hlt6; have HK7 : Hid (w6.heap[w.heap.size + 2]? = some (.cells #[.int .i64 vars, .slice aA k cA] 24 (0, 0)) ∧ ∃ pA q', OST w (w6.setCell ⟨w.heap.size + 2, 1, none⟩ (.slice (some ⟨g6, 0, none⟩) (k + 1) cap6)) vars (some ⟨b, off, none⟩) c cs (k + 1) pA q') := HFIN0.out g6 cap6 w6 hown6 ⟨hgrow6.os, hgrow6.tape, hgrow6.output, hgrow6.size, hgrow6.block⟩ hat6; have e3 : w6.cell? ⟨w.heap.size + 2, 1, none⟩ = some (.slice aA k cA) := blk_cell HK7.out.1 1; have f3 : w6.frozen? ⟨w.heap.size + 2, 1, none⟩ = false := (by simp [World.frozen?, HK7.out.1]); clear hown6 hgrow6 hat6 hlt6))) | fail
          all_goals
            have HN : Aside (∃ pA q', OST w (w6.setCell ⟨w.heap.size + 2, 1, none⟩ (.slice (some ⟨g6, 0, none⟩) (k + 1) cap6)) vars (some ⟨b, off, none⟩) c cs (k + 1) pA q') := HK7.out.2
            clear HK7
            go_wp2
            go_roundg (gk - 1)
            case measure => omega
            case rel => exact ⟨k + 1, by simp, by omega, HN⟩
      · have hxp : 0 < (cs.getD k []).length := by rw [HXL.out]; omega
        obtain ⟨b1, o1, rfl, hb1, hcel⟩ := HIJ.out hxp
        have hb1w : b1 < wr.heap.size := Nat.lt_of_lt_of_le hb1 HO.out.below.size
        have HML : Hid (((cs.getD k []).map (Value.int .i64)).length = xl * 1) := by show _ = _; rw [List.length_map, HXL.out]; omega
        have HONE : Hid (∀ u ∈ (cs.getD k []).map (Value.int .i64), u.oneCell' = true) := fun u hu => by obtain ⟨x, _, rfl⟩ := List.mem_map.1 hu; rfl
        have HLit : Hid ((wr.alloc (.cells #[] 3)).drew.ownsRow 0 3 1 (.slice (some ⟨wr.heap.size, 0, none⟩) 0 0) 0 []) := World.ownsRow_lit wr #[] 0 (Nat.zero_le _) (by unfold maxLen; omega) rfl
        have HNW : Hid (∀ j u, ((cs.getD k []).map (Value.int .i64))[j]? = some u → (wr.alloc (.cells #[] 3)).drew.cell? ((⟨b1, o1, none⟩ : Addr).add j) = some u) := fun j u hj => by
          rw [Addr.add_lit]
          rw [List.getElem?_map] at hj
          by_cases hjl : j < (cs.getD k []).length
          · rw [List.getElem?_eq_getElem hjl] at hj
            have h5 := hcel j hjl
            rw [getD_of _ _ _ hjl] at h5
            have hj' : Value.int .i64 (cs.getD k [])[j] = u := Option.some.inj hj
            rw [← hj']
            refine (World.cell?_of_block (w' := wr.alloc (.cells #[] 3)) (w := w) (a := ⟨b1, o1 + j, none⟩) ?_).trans h5
            show (wr.alloc (.cells #[] 3)).heap[b1]? = w.heap[b1]?
            rw [Below.heap_alloc _ _ b1 hb1w]
            exact HO.out.below.block b1 hb1
          · rw [List.getElem?_eq_none (by omega)] at hj
            exact absurd hj (by simp)
        have HMID : Hid (∀ g4 cap4 (w4 : World), w4.ownsRow 0 3 1 (.slice (some ⟨g4, 0, none⟩) (0 + xl) cap4) (0 + xl) ([] ++ (cs.getD k []).map (Value.int .i64)) → (wr.alloc (.cells #[] 3)).drew.grownBy w4 (some wr.heap.size) → (some wr.heap.size = some g4 ∨ g4 = wr.heap.size + 1) → g4 < w4.heap.size → (wr.heap.size ≤ w4.heap.size ∧ (∀ k, k < wr.heap.size → w4.heap[k]? = wr.heap[k]?)) ∧ (w4.os = wr.os ∧ w4.tape = wr.tape ∧ w4.output = wr.output) ∧ CQ w4 w.heap.size (.slice (some ⟨g4, 0, none⟩) xl cap4) (cs.getD k [])) := fun g4 cap4 w4 h1 h2 h3 h4 => by
          have hsz : wr.heap.size ≤ w4.heap.size := by have := h2.size; simp at this; omega
          have hk4 : ∀ k, k < wr.heap.size → w4.heap[k]? = wr.heap[k]? := fun k hk => (h2.block k (by simp; omega) (fun e => by injection e with e; omega)).trans (Below.heap_alloc _ _ k hk)
          refine ⟨⟨hsz, hk4⟩, ⟨h2.os, h2.tape, h2.output⟩, CQ_own ?_ ?_ HXL.out⟩
          · rw [Nat.zero_add, List.nil_append] at h1
            exact h1
          · rcases h3 with e | e
            · injection e with e; omega
            · omega
        have HK3 : Hid (∀ w4 : World, (∀ j, j < wr.heap.size → w4.heap[j]? = wr.heap[j]?) → w4.cell? ⟨w.heap.size + 2, 1, none⟩ = some (.slice aA k cA)) := fun w4 h5 => (HKO.out w4 h5).2.2
        have HK3a : Hid (∀ w4 : World, wr.heap.size ≤ w4.heap.size → (∀ j, j < wr.heap.size → w4.heap[j]? = wr.heap[j]?) → ∀ ob, (w4.alloc ob).cell? ⟨w.heap.size + 2, 1, none⟩ = some (.slice aA k cA)) := fun w4 h4 h5 ob => (HKO.out _ (fun j hj => (Below.heap_alloc _ _ j (by omega)).trans (h5 j hj))).2.2
        have HRA : Hid (∀ w4 : World, wr.heap.size ≤ w4.heap.size → (∀ j, j < wr.heap.size → w4.heap[j]? = wr.heap[j]?) → ∀ ob, (w4.alloc ob).ownsRow 0 26 1 (.slice aA k cA) k ((List.range k).map q)) := fun w4 h4 h5 ob => HRO.out _ (fun j hj => (Below.heap_alloc _ _ j (by omega)).trans (h5 j hj))
        clear hcel hb1 HIJ hxp hb1w
        generalize cs.getD k [] = C at *
        go_wp2_with fail
        first | (go_region_law (first
          | (refine step_append_lies _ (by rfl) _ _ _ (by rfl) 0 3 i0 _ 1 8 Try.underlying26 hi0 hz0 hz1 hz2 rfl (by omega) (.slice (some ⟨wr.heap.size, 0, none⟩) 0 0) 0 [] (by rfl) HLit.out ⟨b1, o1, none⟩ xl cj (C.map (Value.int .i64)) (by rfl) HML.out HNW.out HONE.out (by omega) (by unfold maxLen; omega) (by omega) (by omega) (wr.heap.size + 1) (by simp) ?_; intro g4 cap4 w4 hown4 hgrow4 hat4 hlt4; have HMD' : Hid ((wr.heap.size ≤ w4.heap.size ∧ (∀ k, k < wr.heap.size → w4.heap[k]? = wr.heap[k]?)) ∧ (w4.os = wr.os ∧ w4.tape = wr.tape ∧ w4.output = wr.output) ∧ CQ w4 w.heap.size (.slice (some ⟨g4, 0, none⟩) xl cap4) C) := HMID.out g4 cap4 w4 hown4 hgrow4 hat4 hlt4; have k34 := HK3.out w4 HMD'.out.1.2; have k34a := HK3a.out w4 HMD'.out.1.1 HMD'.out.1.2; clear hown4 hgrow4 hat4 hlt4)
          | (refine step_append_lies _ (by rfl) _ _ _ (by rfl) 0 26 j0 _ 1 24 Try.underlying22 hj0 hy0 hy1 hy2 rfl (by omega) (.slice aA k cA) k ((List.range k).map q) (by rfl) (HRA.out w4 HMD'.out.1.1 HMD'.out.1.2 _) ⟨w4.heap.size, 0, none⟩ 1 1 [.slice (some ⟨g4, 0, none⟩) xl cap4] (by rfl) (by rfl) (World.news_of_block (cs := #[.slice (some ⟨g4, 0, none⟩) xl cap4]) (t := 26) (fr := (0, 0)) (heap_alloc_new w4 _)) (by intro u hu; simp at hu; subst hu; rfl) (by omega) (by unfold maxLen; omega) (by omega) (by omega) (w4.heap.size + 1) (by simp) ?_; intro g6 cap6 w6 hown6 hgrow6 hat6 hlt6; have HK7 : Hid (w6.heap[w.heap.size + 2]? = some (.cells #[.int .i64 vars, .slice aA k cA] 24 (0, 0)) ∧ ∃ pA q', OST w (w6.setCell ⟨w.heap.size + 2, 1, none⟩ (.slice (some ⟨g6, 0, none⟩) (k + 1) cap6)) vars (some ⟨b, off, none⟩) c cs (k + 1) pA q') := HFIN.out w4 _ HMD'.out.1.1 HMD'.out.1.2 HMD'.out.2.1 HMD'.out.2.2 g6 cap6 w6 hown6 ⟨hgrow6.os, hgrow6.tape, hgrow6.output, hgrow6.size, hgrow6.block⟩ hat6; have e3 : w6.cell? ⟨w.heap.size + 2, 1, none⟩ = some (.slice aA k cA) := blk_cell HK7.out.1 1; have f3 : w6.frozen? ⟨w.heap.size + 2, 1, none⟩ = false := (by simp [World.frozen?, HK7.out.1]); clear hown6 hgrow6 hat6 hlt6))) | fail
        all_goals
          have HN : Aside (∃ pA q', OST w (w6.setCell ⟨w.heap.size + 2, 1, none⟩ (.slice (some ⟨g6, 0, none⟩) (k + 1) cap6)) vars (some ⟨b, off, none⟩) c cs (k + 1) pA q') := HK7.out.2
          clear HK7
          go_wp2
          go_roundg (gk - 1)
          case measure => omega
          case rel => exact ⟨k + 1, by simp, by omega, HN⟩
    · have hkn : k = n := by omega
      subst hkn
      have HO : Hid (OST w wr vars ad c cs k (.slice aA k cA) q) := by rw [eA] at ho; exact ho
      have g0 : wr.cell? ⟨w.heap.size + 2, 0, none⟩ = some (.int .i64 vars) := blk_cell HO.out.fo.blk 0
      have g1 : wr.cell? ⟨w.heap.size + 2, 1, none⟩ = some (.slice aA k cA) := blk_cell HO.out.fo.blk 1
      have c0 : wr.cell? ⟨w.heap.size + 1, 0, none⟩ = some (.int .i64 0) := blk_cell HO.out.r2 0
      have c1 : wr.cell? ⟨w.heap.size + 1, 1, none⟩ = some (.slice none 0 0) := blk_cell HO.out.r2 1
      have f0 : wr.frozen? ⟨w.heap.size + 1, 0, none⟩ = false := by simp [World.frozen?, HO.out.r2]
      have f1 : wr.frozen? ⟨w.heap.size + 1, 1, none⟩ = false := by simp [World.frozen?, HO.out.r2]
      have hz := HO.out.size
      have HFI : Hid (∀ u0 u1 m, Cls (((wr.setCell ⟨w.heap.size + 1, 0, none⟩ u0).setCell ⟨w.heap.size + 1, 1, none⟩ u1).drewN m) aA cs ∧ Below w.heap.size w (((wr.setCell ⟨w.heap.size + 1, 0, none⟩ u0).setCell ⟨w.heap.size + 1, 1, none⟩ u1).drewN m)) := fun u0 u1 m => by
        have hh : ∀ j, j ≠ w.heap.size + 1 → ((wr.setCell ⟨w.heap.size + 1, 0, none⟩ u0).setCell ⟨w.heap.size + 1, 1, none⟩ u1).heap[j]? = wr.heap[j]? := fun j hj => (heap_setCell_other _ _ _ _ hj).trans (heap_setCell_other _ _ _ _ hj)
        have h5 := HO.out
        have hb := h5.below
        rw [← HL.out] at h5
        exact ⟨h5.cls rfl hh, ⟨hb.os, hb.tape, hb.output, by have := hb.size; simp [World.drewN]; exact this, fun j hj => (hh j (by omega)).trans (hb.block j hj)⟩⟩
      have HR2 : Hid (wr.heap[w.heap.size + 1]? = some (.cells #[.int .i64 0, .slice none 0 0] 24 (0, 0))) := HO.out.r2
      clear HU ho eA htl HO
      go_wp2
      have hfin : ((wr.setCell ⟨w.heap.size + 1, 0, none⟩ (.int .i64 vars)).setCell ⟨w.heap.size + 1, 1, none⟩ (.slice aA k cA)).heap[w.heap.size + 1]? = some (.cells #[.int .i64 vars, .slice aA k cA] 24 (0, 0)) := by
        rw [heap_setCell_same _ (w.heap.size + 1) 1 _ _ _ (heap_setCell_same _ (w.heap.size + 1) 0 _ _ _ HR2.out)]; rfl
      refine bodyPost_ret (v := .agg #[.int .i64 vars, .slice aA k cA]) (results_cell_row (p := 2) rfl _ _ (w.heap.size + 1) 24 _ (0, 0) _ rfl hfin Try.underlying24 rfl (by kernel_rfl)) rfl ?_
      have h5 := HFI.out (.int .i64 vars) (.slice aA k cA) 0
      exact HPP.out _ _ _ h5.1 h5.2
end Go.Proofs.Ytfpmacnbfbcjgaa
