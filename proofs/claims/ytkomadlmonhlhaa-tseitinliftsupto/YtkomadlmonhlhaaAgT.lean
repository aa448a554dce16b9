import Derived.Test.YtkomadlmonhlhaaAgS
namespace Go.Proofs.Ytkomadlmonhlhaa
open Go.ChangeShapes Go.WideShapes Go.ChangeAt Go.RowKit Go.Lib Go.Ag Go.WideMaps Go.Maps Go.ChangeMaps Go.Cn

theorem made_at (z : Value) (n : Nat) {i : Nat} (hi : i < n) (hz : z.cells = #[z] := by rfl) : (madeCells z.cells (n * 1))[i]? = some z := by
  rw [hz]
  unfold madeCells
  rw [Array.getElem?_map, Array.getElem?_eq_getElem (by simp; exact hi)]
  simp [Nat.mod_one]
/-- what a write to a table leaves of the rest -/
structure TK (w : World) (P n : Nat) (pg : Nat → Option Nat) (w' : World) (pg' : Nat → Option Nat) : Prop where
  os : w'.os = w.os
  tape : w'.tape = w.tape
  output : w'.output = w.output
  size : w.heap.size ≤ w'.heap.size
  kp : ∀ j, j < w.heap.size → j ≠ P → (∀ k, k < n → pg k ≠ some j) → w'.heap[j]? = w.heap[j]?
  fr : ∀ k b, k < n → pg' k = some b → pg k = some b ∨ w.heap.size ≤ b
def updV (f : Nat → Value) (m : Nat) (v : Value) (i : Nat) : Value := if i = m then v else f i
theorem TB.put {w : World} {tp t : TypeId} {z : Value} {lo P n : Nat} {pg : Nat → Option Nat} {f : Nat → Value} (h : TB w tp t z lo P n pg f) {q b r : Nat} (hq : q < n) (hp : pg q = some b) (hr : r < 1024) (v : Value) (o : Obj) :
    TB ((w.setCell ⟨b, r, none⟩ v).alloc o) tp t z lo P n pg (updV f (1024 * q + r) v) ∧ TK w P n pg ((w.setCell ⟨b, r, none⟩ v).alloc o) pg := by
  obtain ⟨hlo, hbP, row, hb, hs, hrow⟩ := h.page q b hq hp
  obtain ⟨cs, hc, hcs, hck⟩ := h.blk
  have hbl := (Array.getElem?_eq_some_iff.1 hb).1
  have hPl := (Array.getElem?_eq_some_iff.1 hc).1
  have hk : ∀ j, j < w.heap.size → j ≠ b → ((w.setCell ⟨b, r, none⟩ v).alloc o).heap[j]? = w.heap[j]? := fun j hj hn => (Below.heap_alloc _ _ _ (by simp; exact hj)).trans (heap_setCell_other _ _ _ _ hn)
  have hb' : ((w.setCell ⟨b, r, none⟩ v).alloc o).heap[b]? = some (.cells (row.setIfInBounds r v) t (0, 0)) := (Below.heap_alloc _ _ _ (by simp; exact hbl)).trans (heap_setCell_same _ b r _ _ _ hb)
  refine ⟨⟨⟨cs, (hk P hPl (fun e => hbP e.symm)).trans hc, hcs, hck⟩, h.low, fun k b2 hk2 hp2 => ?_, fun k hk2 hp2 i hi => ?_, h.inj⟩, ⟨rfl, rfl, rfl, by simp, fun j hj hn hnp => hk j hj (fun e => hnp q hq (by rw [hp, e])), fun k b2 _ hb2 => Or.inl hb2⟩⟩
  · obtain ⟨h1, h2, row2, h3, h4, h5⟩ := h.page k b2 hk2 hp2
    by_cases e : b2 = b
    · subst e
      have ek := h.inj k q b2 hk2 hq hp2 hp
      subst ek
      rw [h3] at hb
      injection hb with hb
      injection hb with hb
      subst hb
      refine ⟨h1, h2, _, hb', by simp; exact h4, fun i hi => ?_⟩
      unfold updV
      by_cases ei : i = r
      · subst ei
        rw [if_pos rfl, Array.getElem?_setIfInBounds_self_of_lt (by omega)]
      · rw [if_neg (by omega), Array.getElem?_setIfInBounds_ne (fun e => ei e.symm)]
        exact h5 i hi
    · refine ⟨h1, h2, row2, (hk b2 (Array.getElem?_eq_some_iff.1 h3).1 e).trans h3, h4, fun i hi => ?_⟩
      unfold updV
      rw [if_neg (fun e2 => ?_)]
      · exact h5 i hi
      · have : k = q := by omega
        subst this
        rw [hp] at hp2
        cases hp2
        exact e rfl
  · unfold updV
    rw [if_neg (fun e2 => ?_)]
    · exact h.void k hk2 hp2 i hi
    · have : k = q := by omega
      subst this
      rw [hp] at hp2
      cases hp2
theorem TB.fresh {w : World} {tp t : TypeId} {z : Value} {lo P n : Nat} {pg : Nat → Option Nat} {f : Nat → Value} (h : TB w tp t z lo P n pg f) {q r : Nat} (hq : q < n) (hp : pg q = none) (hr : r < 1024) (v : Value) (o : Obj) {A : Array Value} (hA : A.size = 1024 ∧ ∀ i, i < 1024 → A[i]? = some z) :
    ∀ w', w' = (((w.setCell ⟨P, q, none⟩ (.slice (some ⟨w.heap.size + 1, 0, none⟩) 1024 1024)).alloc o).alloc (.cells (A.setIfInBounds r v) t)) →
    TB w' tp t z lo P n (fun k => if k = q then some (w.heap.size + 1) else pg k) (updV f (1024 * q + r) v) ∧ TK w P n pg w' (fun k => if k = q then some (w.heap.size + 1) else pg k) := by
  intro w' hw'
  obtain ⟨cs, hc, hcs, hck⟩ := h.blk
  have hPl := (Array.getElem?_eq_some_iff.1 hc).1
  have hlo := h.low
  have hk : ∀ j, j < w.heap.size → j ≠ P → w'.heap[j]? = w.heap[j]? := fun j hj hn => by
    rw [hw']
    exact ((Below.heap_alloc _ _ _ (by simp; omega)).trans (Below.heap_alloc _ _ _ (by simp; exact hj))).trans (heap_setCell_other _ _ _ _ hn)
  have hP' : w'.heap[P]? = some (.cells (cs.setIfInBounds q (.slice (some ⟨w.heap.size + 1, 0, none⟩) 1024 1024)) tp (0, 0)) := by
    rw [hw']
    exact ((Below.heap_alloc _ _ _ (by simp; omega)).trans (Below.heap_alloc _ _ _ (by simp; exact hPl))).trans (heap_setCell_same _ P q _ _ _ hc)
  have hN : w'.heap[w.heap.size + 1]? = some (.cells (A.setIfInBounds r v) t (0, 0)) := by
    have h5 := heap_alloc_new ((w.setCell ⟨P, q, none⟩ (.slice (some ⟨w.heap.size + 1, 0, none⟩) 1024 1024)).alloc o) (.cells (A.setIfInBounds r v) t)
    have e9 : ((w.setCell ⟨P, q, none⟩ (.slice (some ⟨w.heap.size + 1, 0, none⟩) 1024 1024)).alloc o).heap.size = w.heap.size + 1 := by simp
    rw [e9] at h5
    rw [hw']
    exact h5
  have hsz : w.heap.size ≤ w'.heap.size := by rw [hw']; simp; omega
  have hos : w'.os = w.os ∧ w'.tape = w.tape ∧ w'.output = w.output := by rw [hw']; exact ⟨rfl, rfl, rfl⟩
  refine ⟨⟨⟨_, hP', by simp; exact hcs, fun k hk2 => ?_⟩, hlo, fun k b2 hk2 hp2 => ?_, fun k hk2 hp2 i hi => ?_, fun k k' b hk1 hk2 h1 h2 => ?_⟩, ⟨hos.1, hos.2.1, hos.2.2, hsz, fun j hj hn _ => hk j hj hn, fun k b2 _ hb2 => ?_⟩⟩
  · by_cases e : k = q
    · subst e
      rw [Array.getElem?_setIfInBounds_self_of_lt (by omega)]
      simp
    · rw [Array.getElem?_setIfInBounds_ne (fun e2 => e e2.symm), hck k hk2]
      simp [e]
  · have hp3 : (if k = q then some (w.heap.size + 1) else pg k) = some b2 := hp2
    by_cases e : k = q
    · subst e
      rw [if_pos rfl] at hp3
      cases hp3
      refine ⟨by omega, by omega, _, hN, by simp; exact hA.1, fun i hi => ?_⟩
      unfold updV
      by_cases ei : i = r
      · subst ei
        rw [if_pos rfl, Array.getElem?_setIfInBounds_self_of_lt (by rw [hA.1]; omega)]
      · rw [if_neg (by omega), Array.getElem?_setIfInBounds_ne (fun e => ei e.symm), hA.2 i hi, h.void k hq hp i hi]
    · rw [if_neg e] at hp3
      obtain ⟨h1, h2, row, h3, h4, h5⟩ := h.page k b2 hk2 hp3
      refine ⟨h1, h2, row, (hk b2 (Array.getElem?_eq_some_iff.1 h3).1 h2).trans h3, h4, fun i hi => ?_⟩
      unfold updV
      rw [if_neg (fun e2 => e (by omega))]
      exact h5 i hi
  · have hp3 : (if k = q then some (w.heap.size + 1) else pg k) = none := hp2
    by_cases e : k = q
    · rw [if_pos e] at hp3; cases hp3
    · rw [if_neg e] at hp3
      unfold updV
      rw [if_neg (fun e2 => e (by omega))]
      exact h.void k hk2 hp3 i hi
  · have g1 : (if k = q then some (w.heap.size + 1) else pg k) = some b := h1
    have g2 : (if k' = q then some (w.heap.size + 1) else pg k') = some b := h2
    have old : ∀ x, x < n → pg x = some b → b < w.heap.size := fun x hx hxb => by
      obtain ⟨_, _, row, h3, _⟩ := h.page x b hx hxb
      exact (Array.getElem?_eq_some_iff.1 h3).1
    by_cases e : k = q
    · by_cases e' : k' = q
      · rw [e, e']
      · rw [if_pos e] at g1
        rw [if_neg e'] at g2
        have := old k' hk2 g2
        cases g1
        omega
    · by_cases e' : k' = q
      · rw [if_neg e] at g1
        rw [if_pos e'] at g2
        have := old k hk1 g1
        cases g2
        omega
      · rw [if_neg e] at g1
        rw [if_neg e'] at g2
        exact h.inj k k' b hk1 hk2 g1 g2
  · have hp3 : (if k = q then some (w.heap.size + 1) else pg k) = some b2 := hb2
    by_cases e : k = q
    · rw [if_pos e] at hp3
      cases hp3
      exact Or.inr (by omega)
    · rw [if_neg e] at hp3
      exact Or.inl hp3
set_option maxHeartbeats 4000000 in
set_option maxRecDepth 100000 in
theorem setB_any (w : World) {lo P n : Nat} {pg : Nat → Option Nat} {f : Nat → Value} (h : TB w 49 4 (.bool false) lo P n pg f) (m : Nat) (hm : m < 4294967296) (hn : m / 1024 < n) (v : Bool) :
    Calls Try.prog 84 #[.agg #[.slice (some ⟨P, 0, none⟩) n n], .int .i64 (m : Int), .bool v] w fun e w' => e = .returned (.tuple #[]) ∧ ∃ pg', TB w' 49 4 (.bool false) lo P n pg' (updV f m (.bool v)) ∧ TK w P n pg w' pg' := by
  obtain ⟨q, hq⟩ : ∃ q, m / 1024 = q := ⟨_, rfl⟩
  obtain ⟨r, hr⟩ : ∃ r, m % 1024 = r := ⟨_, rfl⟩
  rw [hq] at hn
  have e1 : (m : Int) / 1024 = (q : Int) := by omega
  have e2 : (m : Int) % 1024 = (r : Int) := by omega
  have hr2 : r < 1024 := by omega
  have hqr : 1024 * q + r = m := by omega
  obtain ⟨cs, hb, hs, hc⟩ := h.blk
  have qn : (q : Int) < (n : Int) := by omega
  have hPl : P < w.heap.size := (Array.getElem?_eq_some_iff.1 hb).1
  have qS : ∀ (w : World) (a : Option Addr) (l c : Nat), (binOp .eql 49 (.slice a l c) (.slice none 0 0)).run Try.prog w = .ok (.bool a.isNone) w := fun w a l c => run_eql_slice_nil w _ _ a l c 0 0 Try.underlying49
  have f0 : w.frozen? ⟨P, q, none⟩ = false := ag_fz hb q
  obtain ⟨i1, hi1, hz1, hs1, hb1⟩ := info_parts (P := Try.prog) (e := 4) (z := .bool false) (size := 1) (bytes := 1) (by kernel_rfl)
  have eM : ∀ W : World, (Instr.makeSlice 49 (.int .i64 1024) (.int .i64 1024)).run Try.prog W = .ok (.slice (some ⟨W.heap.size, 0, none⟩) 1024 1024) (W.alloc (.cells (madeCells (Value.bool false).cells (1024 * 1)) 4)) := fun W => by
    have := run_make (P := Try.prog) (w := W) 49 4 i1 (.bool false) Try.underlying49 hi1 hz1 .i64 .i64 1024 1024 (by omega) (by omega) (by rw [hb1]; omega) (by omega)
    rw [this, hs1]
    rfl
  have HA : Hid ((madeCells (Value.bool false).cells (1024 * 1)).size = 1024 ∧ ∀ i, i < 1024 → (madeCells (Value.bool false).cells (1024 * 1))[i]? = some (.bool false)) := ⟨by rw [size_madeCells], fun i hi => made_at _ _ hi⟩
  generalize madeCells (Value.bool false).cells (1024 * 1) = A at *
  clear hi1 hz1 hs1 hb1
  have hA1 : A[r]? = some (.bool false) := HA.out.2 r hr2
  have hA2 : A.size = 1024 := HA.out.1
  have hA3 : r < A.size := by omega
  cases hp : pg q with
  | none =>
    have c0 : w.cell? ⟨P, q, none⟩ = some (.slice none 0 0) := by rw [ag_cell hb, hc q hn, hp]
    have HFR : Hid (∀ (o : Obj) (w' : World), w' = (((w.setCell ⟨P, q, none⟩ (.slice (some ⟨w.heap.size + 1, 0, none⟩) 1024 1024)).alloc o).alloc (.cells (A.setIfInBounds r (.bool v)) 4)) → TB w' 49 4 (.bool false) lo P n (fun k => if k = q then some (w.heap.size + 1) else pg k) (updV f (1024 * q + r) (.bool v)) ∧ TK w P n pg w' (fun k => if k = q then some (w.heap.size + 1) else pg k)) := fun o => h.fresh hn hp hr2 (.bool v) o HA.out
    clear hb hc hs hq hr h
    go_enter Try.func84, Try.ntmps84
    go_wp2_with fail
    go_end0
    refine ⟨rfl, (fun k => if k = q then some (w.heap.size + 1) else pg k), ?_⟩
    rw [← hqr]
    exact HFR.out _ _ rfl
  | some b =>
    obtain ⟨-, hbP, row, hb2, hs2, hrow⟩ := h.page q b hn hp
    have hbl : b < w.heap.size := (Array.getElem?_eq_some_iff.1 hb2).1
    have c0 : w.cell? ⟨P, q, none⟩ = some (.slice (some ⟨b, 0, none⟩) 1024 1024) := by rw [ag_cell hb, hc q hn, hp]
    have f1 : w.frozen? ⟨b, r, none⟩ = false := ag_fz hb2 r
    have c1 : w.cell? ⟨b, r, none⟩ = some (f (1024 * q + r)) := by rw [ag_cell hb2]; exact hrow r hr2
    have HPU : Hid (∀ o : Obj, TB ((w.setCell ⟨b, r, none⟩ (.bool v)).alloc o) 49 4 (.bool false) lo P n pg (updV f (1024 * q + r) (.bool v)) ∧ TK w P n pg ((w.setCell ⟨b, r, none⟩ (.bool v)).alloc o) pg) := fun o => h.put hn hp hr2 (.bool v) o
    clear hb hc hs hq hr hb2 hs2 hrow h
    go_enter Try.func84, Try.ntmps84
    go_wp2_with fail
    go_end0
    refine ⟨rfl, pg, ?_⟩
    rw [← hqr]
    exact HPU.out _
set_option maxHeartbeats 4000000 in
set_option maxRecDepth 100000 in
theorem setW_any (w : World) {lo P n : Nat} {pg : Nat → Option Nat} {f : Nat → Value} (h : TB w 116 120 (.int .u64 0) lo P n pg f) (m : Nat) (hm : m < 4294967296) (hn : m / 1024 < n) (v : Nat) :
    Calls Try.prog 90 #[.agg #[.slice (some ⟨P, 0, none⟩) n n], .int .i64 (m : Int), .int .u64 (v : Int)] w fun e w' => e = .returned (.tuple #[]) ∧ ∃ pg', TB w' 116 120 (.int .u64 0) lo P n pg' (updV f m (.int .u64 (v : Int))) ∧ TK w P n pg w' pg' := by
  obtain ⟨q, hq⟩ : ∃ q, m / 1024 = q := ⟨_, rfl⟩
  obtain ⟨r, hr⟩ : ∃ r, m % 1024 = r := ⟨_, rfl⟩
  rw [hq] at hn
  have e1 : (m : Int) / 1024 = (q : Int) := by omega
  have e2 : (m : Int) % 1024 = (r : Int) := by omega
  have hr2 : r < 1024 := by omega
  have hqr : 1024 * q + r = m := by omega
  obtain ⟨cs, hb, hs, hc⟩ := h.blk
  have qn : (q : Int) < (n : Int) := by omega
  have hPl : P < w.heap.size := (Array.getElem?_eq_some_iff.1 hb).1
  have qS : ∀ (w : World) (a : Option Addr) (l c : Nat), (binOp .eql 116 (.slice a l c) (.slice none 0 0)).run Try.prog w = .ok (.bool a.isNone) w := fun w a l c => run_eql_slice_nil w _ _ a l c 0 0 Try.underlying116
  have f0 : w.frozen? ⟨P, q, none⟩ = false := ag_fz hb q
  obtain ⟨i1, hi1, hz1, hs1, hb1⟩ := info_parts (P := Try.prog) (e := 120) (z := .int .u64 0) (size := 1) (bytes := 8) (by kernel_rfl)
  have eM : ∀ W : World, (Instr.makeSlice 116 (.int .i64 1024) (.int .i64 1024)).run Try.prog W = .ok (.slice (some ⟨W.heap.size, 0, none⟩) 1024 1024) (W.alloc (.cells (madeCells (Value.int .u64 0).cells (1024 * 1)) 120)) := fun W => by
    have := run_make (P := Try.prog) (w := W) 116 120 i1 (.int .u64 0) Try.underlying116 hi1 hz1 .i64 .i64 1024 1024 (by omega) (by omega) (by rw [hb1]; omega) (by omega)
    rw [this, hs1]
    rfl
  have HA : Hid ((madeCells (Value.int .u64 0).cells (1024 * 1)).size = 1024 ∧ ∀ i, i < 1024 → (madeCells (Value.int .u64 0).cells (1024 * 1))[i]? = some (.int .u64 0)) := ⟨by rw [size_madeCells], fun i hi => made_at _ _ hi⟩
  generalize madeCells (Value.int .u64 0).cells (1024 * 1) = A at *
  clear hi1 hz1 hs1 hb1
  have hA1 : A[r]? = some (.int .u64 0) := HA.out.2 r hr2
  have hA2 : A.size = 1024 := HA.out.1
  have hA3 : r < A.size := by omega
  cases hp : pg q with
  | none =>
    have c0 : w.cell? ⟨P, q, none⟩ = some (.slice none 0 0) := by rw [ag_cell hb, hc q hn, hp]
    have HFR : Hid (∀ (o : Obj) (w' : World), w' = (((w.setCell ⟨P, q, none⟩ (.slice (some ⟨w.heap.size + 1, 0, none⟩) 1024 1024)).alloc o).alloc (.cells (A.setIfInBounds r (.int .u64 (v : Int))) 120)) → TB w' 116 120 (.int .u64 0) lo P n (fun k => if k = q then some (w.heap.size + 1) else pg k) (updV f (1024 * q + r) (.int .u64 (v : Int))) ∧ TK w P n pg w' (fun k => if k = q then some (w.heap.size + 1) else pg k)) := fun o => h.fresh hn hp hr2 (.int .u64 (v : Int)) o HA.out
    clear hb hc hs hq hr h
    go_enter Try.func90, Try.ntmps90
    go_wp2_with fail
    go_end0
    refine ⟨rfl, (fun k => if k = q then some (w.heap.size + 1) else pg k), ?_⟩
    rw [← hqr]
    exact HFR.out _ _ rfl
  | some b =>
    obtain ⟨-, hbP, row, hb2, hs2, hrow⟩ := h.page q b hn hp
    have hbl : b < w.heap.size := (Array.getElem?_eq_some_iff.1 hb2).1
    have c0 : w.cell? ⟨P, q, none⟩ = some (.slice (some ⟨b, 0, none⟩) 1024 1024) := by rw [ag_cell hb, hc q hn, hp]
    have f1 : w.frozen? ⟨b, r, none⟩ = false := ag_fz hb2 r
    have c1 : w.cell? ⟨b, r, none⟩ = some (f (1024 * q + r)) := by rw [ag_cell hb2]; exact hrow r hr2
    have HPU : Hid (∀ o : Obj, TB ((w.setCell ⟨b, r, none⟩ (.int .u64 (v : Int))).alloc o) 116 120 (.int .u64 0) lo P n pg (updV f (1024 * q + r) (.int .u64 (v : Int))) ∧ TK w P n pg ((w.setCell ⟨b, r, none⟩ (.int .u64 (v : Int))).alloc o) pg) := fun o => h.put hn hp hr2 (.int .u64 (v : Int)) o
    clear hb hc hs hq hr hb2 hs2 hrow h
    go_enter Try.func90, Try.ntmps90
    go_wp2_with fail
    go_end0
    refine ⟨rfl, pg, ?_⟩
    rw [← hqr]
    exact HPU.out _
end Go.Proofs.Ytkomadlmonhlhaa
