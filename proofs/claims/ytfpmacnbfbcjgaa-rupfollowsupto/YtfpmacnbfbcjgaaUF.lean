import Derived.Test.YtfpmacnbfbcjgaaRows
import Derived.Test.YtfpmacnbfbcjgaaCC
import Derived.ProofKit
import Derived.OpenShut
import Derived.SizedLaws
import Derived.ChangeOld
import Derived.Carry
import Derived.JoinedCond
import Derived.Deep.Matrix
namespace Go.Proofs.Ytfpmacnbfbcjgaa
open Go.ChangeShapes Go.WideShapes Go.ChangeAt Go.RowKit
namespace bulks
theorem one_le {H : Type} (d : DataW H) : 1 ≤ Rows.uptoBulk d := by
  cases d with
  | lit l => cases l <;> simp [Rows.uptoBulk]
  | nil => simp [Rows.uptoBulk]
  | ptr d => simp [Rows.uptoBulk]
  | slice elems spare => simp [Rows.uptoBulk]
  | agg parts => simp [Rows.uptoBulk]
  | iface t d => simp [Rows.uptoBulk]
  | map entries => simp [Rows.uptoBulk]
  | held h => simp [Rows.uptoBulk]
theorem part {H : Type} {d : DataW H} {l : List (DataW H)} (h : d ∈ l) : Rows.uptoBulk d ≤ Rows.uptoBulkAll l := by
  induction l with
  | nil => cases h
  | cons x r ih =>
    simp only [Rows.uptoBulkAll]
    cases List.mem_cons.1 h with
    | inl e => subst e; omega
    | inr e => have := ih e; omega
theorem len {H : Type} (l : List (DataW H)) : l.length ≤ Rows.uptoBulkAll l := by
  induction l with
  | nil => simp [Rows.uptoBulkAll]
  | cons x r ih => have := one_le x; simp only [Rows.uptoBulkAll, List.length_cons]; omega
theorem slice {H : Type} (elems spare : List (DataW H)) : elems.length + spare.length + 1 ≤ Rows.uptoBulk (.slice elems spare) := by
  have h1 := len elems
  have h2 := len spare
  simp only [Rows.uptoBulk]
  omega
theorem elem {H : Type} {elems spare : List (DataW H)} {d : DataW H} (h : d ∈ elems) : Rows.uptoBulk d ≤ Rows.uptoBulk (.slice elems spare) := by
  have := part h
  simp only [Rows.uptoBulk]
  omega
theorem field {H : Type} {parts : List (DataW H)} {d : DataW H} (h : d ∈ parts) : Rows.uptoBulk d ≤ Rows.uptoBulk (.agg parts) := by
  have := part h
  simp only [Rows.uptoBulk]
  omega
theorem bound {H : Type} {l : List (DataW H)} (hk : Rows.uptoSmall H l = true) : Rows.uptoBulkAll l ≤ 1048576 := of_decide_eq_true hk
end bulks
theorem ownU : ownKnob Try.prog.godebug = none := by kernel_rfl
theorem laidOutU : laidOutB Try.prog = true := by kernel_rfl
/-- an address that is read bears no spot -/
theorem addr_litU {w : World} {x : Addr} {v : Value} (h : w.cell? (x.add 0) = some v) : x = ⟨x.block, x.off, none⟩ := by
  obtain ⟨b, o, s⟩ := x
  cases s with
  | none => rfl
  | some k =>
    simp only [World.cell?, Addr.add, if_true] at h
    split at h
    · simp at h
    · cases h
theorem take_getDU (zs : List Int) (n j : Nat) (h : j < n) : (zs.take n).getD j 0 = zs.getD j 0 := by
  rw [List.getD_eq_getElem?_getD, List.getElem?_take_of_lt h, List.getD_eq_getElem?_getD]
theorem cellsIU : Try.prog.cellsOf 3 = 1 := by kernel_rfl
theorem cellsCU : Try.prog.cellsOf 26 = 1 := by kernel_rfl
theorem cellsFU : Try.prog.cellsOf 24 = 2 := by kernel_rfl
/-- a clause that came in -/
theorem open_clauseU {H : Type} {enc : TypeId × Value → H} {W : World} {base fuel : Nat} {a : Option Addr} {l0 cap : Nat} {x : DataW H × List MemPlace} (h : DataW.trod enc Try.prog W base (fun _ => true) true fuel 26 [.slice a l0 cap] = some x) (hb : Rows.uptoBulk x.1 ≤ 1048576) :
    ∃ xs : List Int, xs.length = l0 ∧ Ints W a xs ∧ xs.length ≤ 1048576 := by
  rcases open_ints Try.underlying26 Try.underlying3 (by kernel_rfl) h with ⟨hcs, hd⟩ | ⟨ad, l, c, zs, hcs, hb2, hl, hm, hz, hx, hcell, hwz⟩
  · cases hcs
    exact ⟨[], rfl, fun h => absurd h (by simp), by simp⟩
  · cases hcs
    simp only [if_true] at hz
    have hlen : (zs.take l0).length = l0 := by simp; omega
    have hbb : l0 ≤ 1048576 := by
      have hb' : Rows.uptoBulk (H := H) (.slice (lits .i64 (zs.take l0)) (lits .i64 (zs.drop l0))) ≤ 1048576 := by rw [hx] at hb; exact hb
      have h5 := bulks.slice (H := H) (lits .i64 (zs.take l0)) (lits .i64 (zs.drop l0))
      have h6 : (lits (H := H) .i64 (zs.take l0)).length = l0 := by simp [lits]; omega
      rw [h6] at h5
      omega
    refine ⟨zs.take l0, hlen, fun hp => ?_, by rw [hlen]; exact hbb⟩
    have hl0 : 0 < l0 := by rw [hlen] at hp; exact hp
    have h0 := hcell 0 (by omega)
    have e := addr_litU h0
    have hlt : ad.block < W.heap.size := by
      have := block_lt_of_cell h0
      rw [e] at this
      exact this
    refine ⟨ad.block, ad.off, by rw [← e], hlt, fun j hj => ?_⟩
    have hj' : j < l0 := by rw [hlen] at hj; exact hj
    have hj2 := hcell j (by omega)
    rw [e, Addr.add_lit] at hj2
    rw [hj2, take_getDU zs l0 j hj']
/-- a list of clauses that came in -/
theorem open_clausesU {H : Type} {enc : TypeId × Value → H} {W : World} {base fuel : Nat} {v : Value} {x : DataW H × List MemPlace} (h : DataW.trod enc Try.prog W base (fun _ => true) true fuel 22 [v] = some x) (hb : Rows.uptoBulk x.1 ≤ 1048576) :
    ∃ ad cap cs, v = .slice ad (List.length cs) cap ∧ Cls W ad cs ∧ cs.length ≤ 1048576 ∧ ∀ j, j < cs.length → (cs.getD j []).length ≤ 1048576 := by
  rcases Go.Deep.open_int_rows Try.underlying22 Try.underlying26 Try.underlying3 cellsCU cellsIU h with ⟨hcs, hx⟩ | ⟨a, len, cap, A, L, C, Z, hcs, _, hl, hm, hx, hrows⟩
  · cases hcs
    exact ⟨none, 0, [], rfl, fun h => absurd h (by simp), by simp, fun j hj => absurd hj (by simp)⟩
  · cases hcs
    have hlen : ((List.range len).map fun r => (Z r).take (L r)).length = len := by simp
    have hget : ∀ j, j < len → ((List.range len).map fun r => (Z r).take (L r)).getD j [] = (Z j).take (L j) := by
      intro j hj
      rw [List.getD_eq_getElem?_getD, List.getElem?_map, List.getElem?_range hj]
      rfl
    have hLj : ∀ j, j < len → ((Z j).take (L j)).length = L j := by
      intro j hj
      obtain ⟨_, h1, h2, h3, _⟩ := hrows j (by omega)
      simp; omega
    rw [hx] at hb
    refine ⟨some a, cap, (List.range len).map fun r => (Z r).take (L r), by rw [hlen], ?_, ?_, ?_⟩
    · intro h0
      rw [hlen] at h0
      have c0 := (hrows 0 (by omega)).1
      have e := addr_litU c0
      have hlt : a.block < W.heap.size := by
        have := block_lt_of_cell c0
        rw [e] at this
        exact this
      refine ⟨a.block, a.off, by rw [← e], hlt, fun j hj => ?_⟩
      rw [hlen] at hj
      obtain ⟨h1, h2, h3, h4, h5, h6, h7⟩ := hrows j (by omega)
      rw [hget j hj, hLj j hj]
      rw [e, Addr.add_lit] at h1
      refine ⟨A j, C j, h1, fun hp => ?_⟩
      rw [hLj j hj] at hp
      cases hA : A j with
      | none => have := h6 hA; omega
      | some a' =>
        have h8 := (h7 a' hA).2
        have e' := addr_litU (h8 0 (by omega))
        have hlt' : a'.block < W.heap.size := by
          have := block_lt_of_cell (h8 0 (by omega))
          rw [e'] at this
          exact this
        refine ⟨a'.block, a'.off, by rw [← e'], hlt', fun i hi => ?_⟩
        rw [hLj j hj] at hi
        have h9 := h8 i (by omega)
        rw [e', Addr.add_lit] at h9
        rw [h9, take_getDU (Z j) (L j) i hi]
    · have h5 := Nat.le_trans (bulks.slice (H := H) _ _) hb
      rw [hlen]
      simp only [List.length_map, List.length_range] at h5
      omega
    · intro j hj
      rw [hlen] at hj
      rw [hget j hj, hLj j hj]
      obtain ⟨h1, h2, h3, h4, h5, h6, h7⟩ := hrows j (by omega)
      cases hA : A j with
      | none => have := h6 hA; omega
      | some a' =>
        have h8 := Nat.le_trans (bulks.elem (List.mem_map.2 ⟨j, List.mem_range.2 hj, rfl⟩)) hb
        rw [hA] at h8
        have h9 := Nat.le_trans (bulks.slice (H := H) (lits .i64 ((Z j).take (L j))) (lits .i64 ((Z j).drop (L j)))) h8
        have h10 : (lits (H := H) .i64 ((Z j).take (L j))).length = L j := by simp [lits]; omega
        rw [h10] at h9
        omega
set_option maxRecDepth 100000 in
/-- a formula that came in -/
theorem open_formulaU {H : Type} {enc : TypeId × Value → H} {W : World} {base b2 : Nat} {v : Value} {d : DataW H} {p : List MemPlace} (hv : Value.okWide Try.prog W .any base 24 v)
    (h : DataW.Trod enc Try.prog W b2 (fun _ => true) true 24 v d p) (hb : Rows.uptoBulk d ≤ 1048576) :
    ∃ vars ad cap cs, v = .agg #[.int .i64 vars, .slice ad (List.length cs) cap] ∧ (-9223372036854775808 ≤ vars ∧ vars ≤ 9223372036854775807) ∧ Cls W ad cs ∧ cs.length ≤ 1048576 ∧ ∀ j, j < cs.length → (cs.getD j []).length ≤ 1048576 := by
  obtain ⟨cells, rfl, hsz⟩ := okWide_struct Try.underlying24 hv
  obtain ⟨fuel, hf⟩ := h
  obtain ⟨y0, y1, n, hx, hlen, h0, h1⟩ := trod_struct2 Try.underlying24 hf
  rw [cellsFU] at hsz
  obtain ⟨x0, x1, rfl⟩ : ∃ x0 x1, cells = #[x0, x1] := by
    obtain ⟨l⟩ := cells
    match l, hsz with
    | [x0, x1], _ => exact ⟨x0, x1, rfl⟩
  have hc0 : Try.prog.cellsOf 3 = 1 := by kernel_rfl
  have hc1 : Try.prog.cellsOf 22 = 1 := by kernel_rfl
  simp [Value.cells, hc0, hc1] at h0 h1
  cases hx
  obtain ⟨vars, hvv, hx0, hwf⟩ := DataW.trod_int Try.underlying3 h0
  cases hvv
  obtain ⟨ad, cap, cs, rfl, hfm⟩ := open_clausesU h1 (Nat.le_trans (bulks.field (List.mem_cons_of_mem _ (List.mem_cons_self ..))) hb)
  exact ⟨vars, ad, cap, cs, rfl, by simp [Lit.wf, IntKind.min, IntKind.max, IntKind.signed, IntKind.bits] at hwf; omega, hfm⟩
end Go.Proofs.Ytfpmacnbfbcjgaa
