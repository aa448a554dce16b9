import Derived.Test.YteejfmkcdiejlaaDoorFr
import Derived.Test.YteejfmkcdiejlaaDoorWhole
import Derived.Deep.Matrix
namespace Go.Proofs.YteejfmkcdiejlaaDoor
open Go.ChangeShapes Go.WideShapes Go.ChangeAt Go.RowKit Go.Cn

theorem cellsI : Tryd.prog.cellsOf 3 = 1 := by kernel_rfl
theorem cellsC : Tryd.prog.cellsOf 36 = 1 := by kernel_rfl
theorem cellsF : Tryd.prog.cellsOf 24 = 2 := by kernel_rfl
theorem bytesC : Tryd.prog.bytesOf 36 = 24 := by kernel_rfl
theorem weightsAll_mem {H : Type} {P : Program} {e : TypeId} : ∀ {l : List (DataW H)} {d : DataW H}, d ∈ l → ∀ n ∈ d.weights P e, n ∈ DataW.weightsAll P e l
  | d' :: r, d, hd, n, hn => by
    simp only [DataW.weightsAll, List.mem_append]
    rcases List.mem_cons.1 hd with rfl | h
    · exact Or.inl hn
    · exact Or.inr (weightsAll_mem h n hn)
theorem sized_part {H : Type} {P : Program} {ts : List TypeId} {ds : List (DataW H)} (h : (DataW.weightsEach P ts ds).all (· ≤ reachBytes) = true) {j : Nat} {t : TypeId} {d : DataW H} (ht : ts[j]? = some t) (hd : ds[j]? = some d) {z : Nat} (hz : z ∈ d.weights P t) : z ≤ reachBytes :=
  of_decide_eq_true (List.all_eq_true.1 h _ (DataW.weights_mem_each ht hd _ hz))
/-- a list of clauses that came in -/
theorem open_clauses {H : Type} {enc : TypeId × Value → H} {W : World} {base fuel : Nat} {v : Value} {x : DataW H × List MemPlace} (h : DataW.trod enc Tryd.prog W base (fun _ => true) true fuel 22 [v] = some x) (hw : ∀ z ∈ x.1.weights Tryd.prog 22, z ≤ reachBytes) :
    ∃ ad cap cs, v = .slice ad (List.length cs) cap ∧ Fm W ad cs := by
  rcases Go.Deep.open_int_rows Tryd.underlying22 Tryd.underlying36 Tryd.underlying3 cellsC cellsI h with ⟨hcs, hx⟩ | ⟨a, len, cap, A, L, C, Z, hcs, _, hl, hm, hx, hrows⟩
  · cases hcs
    exact ⟨none, 0, [], rfl, ⟨fun h => absurd h (by simp), by simp, fun j hj => absurd hj (by simp)⟩⟩
  · cases hcs
    have hlen : ((List.range len).map fun r => (Z r).take (L r)).length = len := by simp
    have hget : ∀ j, j < len → ((List.range len).map fun r => (Z r).take (L r)).getD j [] = (Z j).take (L j) := by
      intro j hj
      rw [List.getD_eq_getElem?_getD, List.getElem?_map, List.getElem?_range hj]
      rfl
    have hwl : cap * 24 ≤ reachBytes := by
      have := hw (cap * 24) (by rw [hx]; simp only [DataW.weights, Tryd.underlying22, bytesC, List.length_map, List.length_range]; rw [Nat.add_sub_cancel' hl]; exact List.mem_cons_self)
      exact this
    have hLj : ∀ j, j < len → ((Z j).take (L j)).length = L j := by
      intro j hj
      obtain ⟨_, h1, h2, h3, _⟩ := hrows j (by omega)
      simp; omega
    refine ⟨some a, cap, (List.range len).map fun r => (Z r).take (L r), by rw [hlen], ⟨?_, ?_, ?_⟩⟩
    · intro h0
      rw [hlen] at h0
      have c0 := (hrows 0 (by omega)).1
      have e := addr_lit c0
      have hlt : a.block < W.heap.size := by
        have := block_lt_of_cell c0
        rw [e] at this
        exact this
      refine ⟨a.block, a.off, by rw [← e], hlt, fun j hj => ?_⟩
      rw [hlen] at hj
      obtain ⟨h1, h2, h3, h4, h5, h6, h7⟩ := hrows j (by omega)
      rw [hget j hj, hLj j hj]
      rw [e, Addr.add_lit] at h1
      refine ⟨A j, C j, h1, ⟨by rw [hLj j hj]; exact h2, h6, fun hp => ?_⟩⟩
      rw [hLj j hj] at hp
      cases hA : A j with
      | none => have := h6 hA; omega
      | some a' =>
        have h8 := (h7 a' hA).2
        have e' := addr_lit (h8 0 (by omega))
        have hlt' : a'.block < W.heap.size := by
          have := block_lt_of_cell (h8 0 (by omega))
          rw [e'] at this
          exact this
        refine ⟨a'.block, a'.off, by rw [← e'], hlt', fun i hi => ?_⟩
        rw [hLj j hj] at hi
        have h9 := h8 i (by omega)
        rw [e', Addr.add_lit] at h9
        rw [h9, take_getD (Z j) (L j) i hi]
    · rw [hlen]; unfold reachBytes at hwl; omega
    · intro j hj
      rw [hlen] at hj
      rw [hget j hj, hLj j hj]
      obtain ⟨h1, h2, h3, h4, h5, h6, h7⟩ := hrows j (by omega)
      cases hA : A j with
      | none => have := h6 hA; omega
      | some a' =>
        have hz : C j * 8 ∈ (Go.Deep.intRow (H := H) .i64 (A j) (L j) (Z j)).weights Tryd.prog 36 := by
          rw [hA]
          simp only [Go.Deep.intRow, DataW.weights, Tryd.underlying36, bytesI, lits, List.length_map, List.length_take, List.length_drop]
          rw [show min (L j) (Z j).length + ((Z j).length - L j) = C j by omega]
          exact List.mem_cons_self
        have := hw (C j * 8) (by
          rw [hx]
          simp only [DataW.weights, Tryd.underlying22, List.mem_cons, List.mem_append]
          exact Or.inr (Or.inl (weightsAll_mem (List.mem_map.2 ⟨j, List.mem_range.2 hj, rfl⟩) _ hz)))
        unfold reachBytes at this
        omega
set_option maxRecDepth 100000 in
/-- a formula that came in -/
theorem open_formula {H : Type} {enc : TypeId × Value → H} {W : World} {base b2 : Nat} {v : Value} {d : DataW H} {p : List MemPlace} (hv : Value.okWide Tryd.prog W .any base 24 v)
    (h : DataW.Trod enc Tryd.prog W b2 (fun _ => true) true 24 v d p) (hw : ∀ z ∈ d.weights Tryd.prog 24, z ≤ reachBytes) :
    ∃ vars ad cap cs, v = .agg #[.int .i64 vars, .slice ad (List.length cs) cap] ∧ (-9223372036854775808 ≤ vars ∧ vars ≤ 9223372036854775807) ∧ Fm W ad cs := by
  obtain ⟨cells, rfl, hsz⟩ := okWide_struct Tryd.underlying24 hv
  obtain ⟨fuel, hf⟩ := h
  obtain ⟨y0, y1, n, hx, hlen, h0, h1⟩ := trod_struct2 Tryd.underlying24 hf
  rw [cellsF] at hsz
  obtain ⟨x0, x1, rfl⟩ : ∃ x0 x1, cells = #[x0, x1] := by
    obtain ⟨l⟩ := cells
    match l, hsz with
    | [x0, x1], _ => exact ⟨x0, x1, rfl⟩
  have hc0 : Tryd.prog.cellsOf 3 = 1 := by kernel_rfl
  have hc1 : Tryd.prog.cellsOf 22 = 1 := by kernel_rfl
  simp [Value.cells, hc0, hc1] at h0 h1
  cases hx
  obtain ⟨vars, hvv, hx0, hwf⟩ := DataW.trod_int Tryd.underlying3 h0
  cases hvv
  obtain ⟨ad, cap, cs, rfl, hfm⟩ := open_clauses h1 (fun z hz => hw z (by
    simp only [DataW.weights, Tryd.underlying24]
    simp [DataW.weightsEach]
    exact Or.inr hz))
  exact ⟨vars, ad, cap, cs, rfl, bounds_i64 hwf, hfm⟩
end Go.Proofs.YteejfmkcdiejlaaDoor
