import Derived.Test.YtnknbijbhidpnaaGreatDoorRows
import Derived.Test.YtnknbijbhidpnaaGreatDoorCards
import Derived.Test.YtnknbijbhidpnaaGreatDoorTie
import Derived.Test.YtnknbijbhidpnaaGreatDoorBkE
import Derived.ProofKit
import Derived.LaidMore
import Derived.OpenShut
import Derived.ShutString
import Derived.SizedLaws
import Derived.ChangeOld
import Derived.Carry
import Derived.Stop.Joined
import Derived.Stop.LaidErr
import Derived.Lib.LaidTab
import Derived.SevenTiedAt
import Derived.Deep.Slices
import Derived.Deep.Strs
import Derived.Deep.DeepHandedRow
import Derived.Shelf.Vars
import Derived.Deep.Matrix
namespace Go.Proofs.YtnknbijbhidpnaaGreatDoor
open Go.ChangeShapes Go.WideShapes Go.ChangeAt Go.RowKit Go.Cn

theorem own : ownKnob Tryz.prog.godebug = none := by kernel_rfl
theorem laidOut : laidOutB Tryz.prog = true := by kernel_rfl
theorem gPow : Tryz.prog.globalNamed "internal/strconv.uint64pow10" = some 2 := by kernel_rfl
theorem gLow : Tryz.prog.globalNamed "cadence/cnf.lowTrue" = some 0 := by kernel_rfl
theorem tPow : (Tryz.prog.globals[2]?).map (·.type) = some 123 := by kernel_rfl
theorem tLow : (Tryz.prog.globals[0]?).map (·.type) = some 86 := by kernel_rfl
theorem cellsU : Tryz.prog.cellsOf 42 = 1 := by kernel_rfl
theorem cellsPow : Tryz.prog.cellsOf 123 = 20 := by kernel_rfl
theorem cellsLow : Tryz.prog.cellsOf 86 = 6 := by kernel_rfl
theorem bytesI : Tryz.prog.bytesOf 3 = 8 := by kernel_rfl
def lowZ : List Int := [12297829382473034410, 14757395258967641292, 17361641481138401520, 18374966859414961920, 18446462603027742720, 18446744069414584320]
theorem gSyn : Tryz.prog.globalNamed "strconv.ErrSyntax" = some 3 := by kernel_rfl
theorem gRan : Tryz.prog.globalNamed "strconv.ErrRange" = some 4 := by kernel_rfl
theorem tSyn : (Tryz.prog.globals[3]?).map (·.type) = some 92 := by kernel_rfl
theorem tRan : (Tryz.prog.globals[4]?).map (·.type) = some 92 := by kernel_rfl
theorem cellsES : Tryz.prog.cellsOf 158 = 1 := by kernel_rfl
theorem cells9 : Tryz.prog.cellsOf 9 = 1 := by kernel_rfl
theorem star : "*" ++ "errors.errorString" = "*errors.errorString" := by decide
theorem rowES (u : TypeId) (h : Tryz.prog.typeName? 3 u = some "*errors.errorString") : u = 156 :=
  typeName_ptr_named (nm := "errors.errorString") (by rw [star]; kernel_rfl) (by kernel_rfl) (by decide) u (by rw [star]; exact h)
theorem lv_laid {W : World} (h : laidMetH Tryz.prog Rows.cnfBackRow.laid W) : LV W := by
  rw [MakeChecks.laidMetH_plain _ _ _ (by kernel_rfl)] at h
  have h2 := h.tail.tail
  have hp : Lib.TabIs Tryz.prog W "internal/strconv.uint64pow10" .u64 Lib.pow10Tab := Lib.tabIs_of_head gPow tPow Tryz.underlying123 Tryz.underlying42 cellsU cellsPow h2
  have hl : Lib.TabIs Tryz.prog W "cadence/cnf.lowTrue" .u64 lowZ := Lib.tabIs_of_head gLow tLow Tryz.underlying86 Tryz.underlying42 cellsU cellsLow h2.tail.tail.tail
  exact ⟨Lib.tabBelow_of_tabIs hp, hl.cell gLow 0 (by decide), hl.cell gLow 1 (by decide)⟩
/-- what the listed variables give, and the shape of the rest -/
theorem env_laid {W : World} (h : laidMetH Tryz.prog Rows.cnfBackRow.laid W) (hsh : W.ShapedOpen Tryz.prog) : ENV W := by
  rw [MakeChecks.laidMetH_plain _ _ _ (by kernel_rfl)] at h
  have h3 := h.tail.tail.tail
  have h4 := h3.tail
  obtain ⟨a1, s1, hv1, -, -, -⟩ := laid_sentinel h3 gRan tRan Tryz.underlying92 rowES Tryz.underlying156 Tryz.underlying158 rfl rfl Tryz.underlying9 cellsES cells9
  obtain ⟨a0, s0, hv0, -, -, -⟩ := laid_sentinel h4 gSyn tSyn Tryz.underlying92 rowES Tryz.underlying156 Tryz.underlying158 rfl rfl Tryz.underlying9 cellsES cells9
  refine ⟨⟨⟨_, by have h0 := World.var?_cell gSyn hv0 0; simpa using h0, Or.inr ⟨_, _, rfl⟩⟩, ⟨_, by have h0 := World.var?_cell gRan hv1 0; simpa using h0, Or.inr ⟨_, _, rfl⟩⟩⟩, ?_⟩
  exact cell_of_shapedOpen_int (t := 3) (zero := #[.int .i64 0]) hsh (by decide +kernel) (by kernel_rfl) rfl (by kernel_rfl) (by kernel_rfl) Tryz.underlying3
set_option maxRecDepth 100000 in
/-- the door's own heap meets the condition -/
theorem door_met (os : Os) (args : Array Value) : laidMetH Tryz.prog Rows.cnfBackRow.laid ((World.doorLaid Tryz.prog 4000 os).forCall (fun _ _ => 0) ⟨#[], args, []⟩).memory :=
  laidMetH_of_parts3 (fuel := 8) (laidMet_of_run' 8 (by kernel_rfl) (by kernel_rfl)) (by kernel_rfl) (by kernel_rfl)
/-- an address that is read bears no spot -/
theorem addr_lit {w : World} {x : Addr} {v : Value} (h : w.cell? (x.add 0) = some v) : x = ⟨x.block, x.off, none⟩ := by
  obtain ⟨b, o, s⟩ := x
  cases s with
  | none => rfl
  | some k =>
    simp only [World.cell?, Addr.add, if_true] at h
    split at h
    · simp at h
    · cases h
theorem take_getD (zs : List Int) (n j : Nat) (h : j < n) : (zs.take n).getD j 0 = zs.getD j 0 := by
  rw [List.getD_eq_getElem?_getD, List.getElem?_take_of_lt h, List.getD_eq_getElem?_getD]
/-- a clause that came in -/
theorem open_clause {H : Type} {enc : TypeId × Value → H} {W : World} {base fuel : Nat} {a : Option Addr} {len cap : Nat} {x : DataW H × List MemPlace} (h : DataW.trod enc Tryz.prog W base (fun _ => true) true fuel 37 [.slice a len cap] = some x) :
    ∃ xs : List Int, xs.length = len ∧ Sl W a cap xs ∧ (cap = 0 ∨ ∃ elems spare, x.1 = .slice elems spare ∧ elems.length + spare.length = cap) := by
  rcases open_ints Tryz.underlying37 Tryz.underlying3 (by kernel_rfl) h with ⟨hcs, hd⟩ | ⟨ad, l, c, zs, hcs, hb, hl, hm, hz, hx, hcell, hwz⟩
  · cases hcs
    exact ⟨[], rfl, ⟨Nat.le_refl _, fun _ => rfl, fun h => absurd h (by simp)⟩, Or.inl rfl⟩
  · cases hcs
    simp only [if_true] at hz
    refine ⟨zs.take len, by simp; omega, ⟨by simp; omega, (fun e => by cases e), fun hp => ?_⟩, Or.inr ⟨lits .i64 (zs.take len), lits .i64 (zs.drop len), by rw [hx], by simp [lits]; omega⟩⟩
    have hl0 : 0 < len := by simp at hp; omega
    have h0 := hcell 0 (by omega)
    have e := addr_lit h0
    have hlt : ad.block < W.heap.size := by
      have := block_lt_of_cell h0
      rw [e] at this
      exact this
    refine ⟨ad.block, ad.off, by rw [← e], hlt, fun j hj => ?_⟩
    have hj' : j < len := by simp at hj; omega
    have hj2 := hcell j (by omega)
    rw [e, Addr.add_lit] at hj2
    rw [hj2, take_getD zs len j hj']
/-- a row of numbers that came in -/
theorem open_nums64 {H : Type} {enc : TypeId × Value → H} {W : World} {base fuel : Nat} {a : Option Addr} {len cap : Nat} {x : DataW H × List MemPlace} (h : DataW.trod enc Tryz.prog W base (fun _ => true) true fuel 25 [.slice a len cap] = some x) :
    ∃ xs : List Int, xs.length = len ∧ Sl W a cap xs ∧ (cap = 0 ∨ ∃ elems spare, x.1 = .slice elems spare ∧ elems.length + spare.length = cap) := by
  rcases open_ints Tryz.underlying25 Tryz.underlying3 (by kernel_rfl) h with ⟨hcs, hd⟩ | ⟨ad, l, c, zs, hcs, hb, hl, hm, hz, hx, hcell, hwz⟩
  · cases hcs
    exact ⟨[], rfl, ⟨Nat.le_refl _, fun _ => rfl, fun h => absurd h (by simp)⟩, Or.inl rfl⟩
  · cases hcs
    simp only [if_true] at hz
    refine ⟨zs.take len, by simp; omega, ⟨by simp; omega, (fun e => by cases e), fun hp => ?_⟩, Or.inr ⟨lits .i64 (zs.take len), lits .i64 (zs.drop len), by rw [hx], by simp [lits]; omega⟩⟩
    have hl0 : 0 < len := by simp at hp; omega
    have h0 := hcell 0 (by omega)
    have e := addr_lit h0
    have hlt : ad.block < W.heap.size := by
      have := block_lt_of_cell h0
      rw [e] at this
      exact this
    refine ⟨ad.block, ad.off, by rw [← e], hlt, fun j hj => ?_⟩
    have hj' : j < len := by simp at hj; omega
    have hj2 := hcell j (by omega)
    rw [e, Addr.add_lit] at hj2
    rw [hj2, take_getD zs len j hj']
theorem cellsI : Tryz.prog.cellsOf 3 = 1 := by kernel_rfl
theorem cellsC : Tryz.prog.cellsOf 37 = 1 := by kernel_rfl
theorem cellsF : Tryz.prog.cellsOf 24 = 2 := by kernel_rfl
theorem bytesC : Tryz.prog.bytesOf 37 = 24 := by kernel_rfl
theorem weightsAll_mem {H : Type} {P : Program} {e : TypeId} : ∀ {l : List (DataW H)} {d : DataW H}, d ∈ l → ∀ n ∈ d.weights P e, n ∈ DataW.weightsAll P e l
  | d' :: r, d, hd, n, hn => by
    simp only [DataW.weightsAll, List.mem_append]
    rcases List.mem_cons.1 hd with rfl | h
    · exact Or.inl hn
    · exact Or.inr (weightsAll_mem h n hn)
theorem sized_part {H : Type} {P : Program} {ts : List TypeId} {ds : List (DataW H)} (h : (DataW.weightsEach P ts ds).all (· ≤ reachBytes) = true) {j : Nat} {t : TypeId} {d : DataW H} (ht : ts[j]? = some t) (hd : ds[j]? = some d) {z : Nat} (hz : z ∈ d.weights P t) : z ≤ reachBytes :=
  of_decide_eq_true (List.all_eq_true.1 h _ (DataW.weights_mem_each ht hd _ hz))
/-- a list of clauses that came in -/
theorem open_clauses {H : Type} {enc : TypeId × Value → H} {W : World} {base fuel : Nat} {v : Value} {x : DataW H × List MemPlace} (h : DataW.trod enc Tryz.prog W base (fun _ => true) true fuel 22 [v] = some x) (hw : ∀ z ∈ x.1.weights Tryz.prog 22, z ≤ reachBytes) :
    ∃ ad cap cs, v = .slice ad (List.length cs) cap ∧ Fm W ad cs := by
  rcases Go.Deep.open_int_rows Tryz.underlying22 Tryz.underlying37 Tryz.underlying3 cellsC cellsI h with ⟨hcs, hx⟩ | ⟨a, len, cap, A, L, C, Z, hcs, _, hl, hm, hx, hrows⟩
  · cases hcs
    exact ⟨none, 0, [], rfl, ⟨fun h => absurd h (by simp), by simp, fun j hj => absurd hj (by simp)⟩⟩
  · cases hcs
    have hlen : ((List.range len).map fun r => (Z r).take (L r)).length = len := by simp
    have hget : ∀ j, j < len → ((List.range len).map fun r => (Z r).take (L r)).getD j [] = (Z j).take (L j) := by
      intro j hj
      rw [List.getD_eq_getElem?_getD, List.getElem?_map, List.getElem?_range hj]
      rfl
    have hwl : cap * 24 ≤ reachBytes := by
      have := hw (cap * 24) (by rw [hx]; simp only [DataW.weights, Tryz.underlying22, bytesC, List.length_map, List.length_range]; rw [Nat.add_sub_cancel' hl]; exact List.mem_cons_self)
      exact this
    have hLj : ∀ j, j < len → ((Z j).take (L j)).length = L j := by
      intro j hj
      obtain ⟨_, h1, h2, h3, _⟩ := hrows j (by omega)
      simp; omega
    refine ⟨some a, cap, (List.range len).map fun r => (Z r).take (L r), by rw [hlen], ⟨?_, ?_, ?_⟩⟩
    · intro h0
      rw [hlen] at h0
      have c0 := (hrows 0 (by omega)).1
      have e := addr_lit c0
      have hlt : a.block < W.heap.size := by
        have := block_lt_of_cell c0
        rw [e] at this
        exact this
      refine ⟨a.block, a.off, by rw [← e], hlt, fun j hj => ?_⟩
      rw [hlen] at hj
      obtain ⟨h1, h2, h3, h4, h5, h6, h7⟩ := hrows j (by omega)
      rw [hget j hj, hLj j hj]
      rw [e, Addr.add_lit] at h1
      refine ⟨A j, C j, h1, ⟨by rw [hLj j hj]; exact h2, h6, fun hp => ?_⟩⟩
      rw [hLj j hj] at hp
      cases hA : A j with
      | none => have := h6 hA; omega
      | some a' =>
        have h8 := (h7 a' hA).2
        have e' := addr_lit (h8 0 (by omega))
        have hlt' : a'.block < W.heap.size := by
          have := block_lt_of_cell (h8 0 (by omega))
          rw [e'] at this
          exact this
        refine ⟨a'.block, a'.off, by rw [← e'], hlt', fun i hi => ?_⟩
        rw [hLj j hj] at hi
        have h9 := h8 i (by omega)
        rw [e', Addr.add_lit] at h9
        rw [h9, take_getD (Z j) (L j) i hi]
    · rw [hlen]; unfold reachBytes at hwl; omega
    · intro j hj
      rw [hlen] at hj
      rw [hget j hj, hLj j hj]
      obtain ⟨h1, h2, h3, h4, h5, h6, h7⟩ := hrows j (by omega)
      cases hA : A j with
      | none => have := h6 hA; omega
      | some a' =>
        have hz : C j * 8 ∈ (Go.Deep.intRow (H := H) .i64 (A j) (L j) (Z j)).weights Tryz.prog 37 := by
          rw [hA]
          simp only [Go.Deep.intRow, DataW.weights, Tryz.underlying37, bytesI, lits, List.length_map, List.length_take, List.length_drop]
          rw [show min (L j) (Z j).length + ((Z j).length - L j) = C j by omega]
          exact List.mem_cons_self
        have := hw (C j * 8) (by
          rw [hx]
          simp only [DataW.weights, Tryz.underlying22, List.mem_cons, List.mem_append]
          exact Or.inr (Or.inl (weightsAll_mem (List.mem_map.2 ⟨j, List.mem_range.2 hj, rfl⟩) _ hz)))
        unfold reachBytes at this
        omega
set_option maxRecDepth 100000 in
/-- a formula that came in -/
theorem open_formula {H : Type} {enc : TypeId × Value → H} {W : World} {base b2 : Nat} {v : Value} {d : DataW H} {p : List MemPlace} (hv : Value.okWide Tryz.prog W .any base 24 v)
    (h : DataW.Trod enc Tryz.prog W b2 (fun _ => true) true 24 v d p) (hw : ∀ z ∈ d.weights Tryz.prog 24, z ≤ reachBytes) :
    ∃ vars ad cap cs, v = .agg #[.int .i64 vars, .slice ad (List.length cs) cap] ∧ (-9223372036854775808 ≤ vars ∧ vars ≤ 9223372036854775807) ∧ Fm W ad cs := by
  obtain ⟨cells, rfl, hsz⟩ := okWide_struct Tryz.underlying24 hv
  obtain ⟨fuel, hf⟩ := h
  obtain ⟨y0, y1, n, hx, hlen, h0, h1⟩ := trod_struct2 Tryz.underlying24 hf
  rw [cellsF] at hsz
  obtain ⟨x0, x1, rfl⟩ : ∃ x0 x1, cells = #[x0, x1] := by
    obtain ⟨l⟩ := cells
    match l, hsz with
    | [x0, x1], _ => exact ⟨x0, x1, rfl⟩
  have hc0 : Tryz.prog.cellsOf 3 = 1 := by kernel_rfl
  have hc1 : Tryz.prog.cellsOf 22 = 1 := by kernel_rfl
  simp [Value.cells, hc0, hc1] at h0 h1
  cases hx
  obtain ⟨vars, hvv, hx0, hwf⟩ := DataW.trod_int Tryz.underlying3 h0
  cases hvv
  obtain ⟨ad, cap, cs, rfl, hfm⟩ := open_clauses h1 (fun z hz => hw z (by
    simp only [DataW.weights, Tryz.underlying24]
    simp [DataW.weightsEach]
    exact Or.inr hz))
  exact ⟨vars, ad, cap, cs, rfl, bounds_i64 hwf, hfm⟩
end Go.Proofs.YtnknbijbhidpnaaGreatDoor
