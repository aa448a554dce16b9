import Derived.Test.YtfpmacnbfbcjgaaDoorXE
import Derived.Test.YtfpmacnbfbcjgaaDoorRows
import Derived.Test.YtfpmacnbfbcjgaaDoorCards
import Derived.Test.YtfpmacnbfbcjgaaDoorTie
import Derived.LaidMore
import Derived.ShutString
import Derived.SizedLaws
import Derived.ChangeOld
import Derived.Carry
import Derived.Stop.Joined
import Derived.Stop.LaidErr
import Derived.Lib.LaidTab
import Derived.SevenTiedAt
import Derived.Deep.Slices
import Derived.Deep.Strs
import Derived.Deep.DeepHandedRow
namespace Go.Proofs.YtfpmacnbfbcjgaaDoor
open Go.ChangeShapes Go.WideShapes Go.ChangeAt Go.RowKit Go.Lib
namespace bulks
theorem one_le {H : Type} (d : DataW H) : 1 ≤ Rows.uptoBulk d := by
  cases d with
  | lit l => cases l <;> simp [Rows.uptoBulk]
  | nil => simp [Rows.uptoBulk]
  | ptr d => simp [Rows.uptoBulk]
  | slice elems spare => simp [Rows.uptoBulk]
  | agg parts => simp [Rows.uptoBulk]
  | iface t d => simp [Rows.uptoBulk]
  | map entries => simp [Rows.uptoBulk]
  | held h => simp [Rows.uptoBulk]
theorem part {H : Type} {d : DataW H} {l : List (DataW H)} (h : d ∈ l) : Rows.uptoBulk d ≤ Rows.uptoBulkAll l := by
  induction l with
  | nil => cases h
  | cons x r ih =>
    simp only [Rows.uptoBulkAll]
    cases List.mem_cons.1 h with
    | inl e => subst e; omega
    | inr e => have := ih e; omega
theorem len {H : Type} (l : List (DataW H)) : l.length ≤ Rows.uptoBulkAll l := by
  induction l with
  | nil => simp [Rows.uptoBulkAll]
  | cons x r ih => have := one_le x; simp only [Rows.uptoBulkAll, List.length_cons]; omega
theorem slice {H : Type} (elems spare : List (DataW H)) : elems.length + spare.length + 1 ≤ Rows.uptoBulk (.slice elems spare) := by
  have h1 := len elems
  have h2 := len spare
  simp only [Rows.uptoBulk]
  omega
theorem elem {H : Type} {elems spare : List (DataW H)} {d : DataW H} (h : d ∈ elems) : Rows.uptoBulk d ≤ Rows.uptoBulk (.slice elems spare) := by
  have := part h
  simp only [Rows.uptoBulk]
  omega
theorem field {H : Type} {parts : List (DataW H)} {d : DataW H} (h : d ∈ parts) : Rows.uptoBulk d ≤ Rows.uptoBulk (.agg parts) := by
  have := part h
  simp only [Rows.uptoBulk]
  omega
theorem bound {H : Type} {l : List (DataW H)} (hk : Rows.uptoSmall H l = true) : Rows.uptoBulkAll l ≤ 1048576 := of_decide_eq_true hk
end bulks
theorem own : ownKnob Tryd.prog.godebug = none := by kernel_rfl
theorem laidOut : laidOutB Tryd.prog = true := by kernel_rfl
theorem gPow : Tryd.prog.globalNamed "internal/strconv.uint64pow10" = some 1 := by kernel_rfl
theorem tPow : (Tryd.prog.globals[1]?).map (·.type) = some 82 := by kernel_rfl
theorem cellsU : Tryd.prog.cellsOf 57 = 1 := by kernel_rfl
theorem cellsPow : Tryd.prog.cellsOf 82 = 20 := by kernel_rfl
theorem cellsI : Tryd.prog.cellsOf 3 = 1 := by kernel_rfl
theorem cellsB : Tryd.prog.cellsOf 4 = 1 := by kernel_rfl
theorem cellsC : Tryd.prog.cellsOf 31 = 1 := by kernel_rfl
theorem cellsS : Tryd.prog.cellsOf 33 = 2 := by kernel_rfl
/-- what the listed variables give -/
theorem of_laid {W : World} (h : laidMetH Tryd.prog Rows.rupTextsUptoRow.laid W) : PowT W.heap.size W := by
  rw [MakeChecks.laidMetH_plain _ _ _ (by kernel_rfl)] at h
  have h2 := h.tail.tail
  exact Lib.tabBelow_of_tabIs (Lib.tabIs_of_head gPow tPow Tryd.underlying82 Tryd.underlying57 cellsU cellsPow h2)
/-- an address that is read bears no spot -/
theorem addr_lit {w : World} {x : Addr} {v : Value} (h : w.cell? (x.add 0) = some v) : x = ⟨x.block, x.off, none⟩ := by
  obtain ⟨b, o, s⟩ := x
  cases s with
  | none => rfl
  | some k =>
    simp only [World.cell?, Addr.add, if_true] at h
    split at h
    · simp at h
    · cases h
theorem take_getD (zs : List Int) (n j : Nat) (h : j < n) : (zs.take n).getD j 0 = zs.getD j 0 := by
  rw [List.getD_eq_getElem?_getD, List.getElem?_take_of_lt h, List.getD_eq_getElem?_getD]
/-- a clause that came in -/
theorem open_clause {H : Type} {enc : TypeId × Value → H} {W : World} {base fuel : Nat} {v : Value} {x : DataW H × List MemPlace} (h : DataW.trod enc Tryd.prog W base (fun _ => true) true fuel 31 [v] = some x) (hb : Rows.uptoBulk x.1 ≤ 1048576) :
    ∃ (ad : Option Addr) (cp : Nat) (xs : List Int), v = .slice ad xs.length cp ∧ Ints W ad xs ∧ xs.length ≤ 1048576 ∧ ∀ y ∈ xs, -9223372036854775808 ≤ y ∧ y ≤ 9223372036854775807 := by
  rcases open_ints Tryd.underlying31 Tryd.underlying3 cellsI h with ⟨hcs, hd⟩ | ⟨ad, l, c, zs, hcs, hb2, hl, hm, hz, hx, hcell, hwz⟩
  · cases hcs
    exact ⟨none, 0, [], rfl, fun h => absurd h (by simp), by simp, fun y hy => absurd hy (by simp)⟩
  · cases hcs
    simp only [if_true] at hz
    have hlen : (zs.take l).length = l := by simp; omega
    have hbb : l ≤ 1048576 := by
      have hb' : Rows.uptoBulk (H := H) (.slice (lits .i64 (zs.take l)) (lits .i64 (zs.drop l))) ≤ 1048576 := by rw [hx] at hb; exact hb
      have h5 := bulks.slice (H := H) (lits .i64 (zs.take l)) (lits .i64 (zs.drop l))
      have h6 : (lits (H := H) .i64 (zs.take l)).length = l := by simp [lits]; omega
      rw [h6] at h5
      omega
    refine ⟨some ad, c, zs.take l, by rw [hlen], fun hp => ?_, by rw [hlen]; exact hbb, fun y hy => ?_⟩
    · rw [hlen] at hp
      have h0 := hcell 0 (by omega)
      have e := addr_lit h0
      have hlt : ad.block < W.heap.size := by
        have := block_lt_of_cell h0
        rw [e] at this
        exact this
      refine ⟨ad.block, ad.off, by rw [← e], hlt, fun j hj => ?_⟩
      rw [hlen] at hj
      have hj2 := hcell j (by omega)
      rw [e, Addr.add_lit] at hj2
      rw [hj2, take_getD zs l j hj]
    · exact bounds_i64 (hwz y (List.mem_of_mem_take hy))
/-- one step that came in, with where its clause lies -/
structure STQ where
  d : Bool
  ad : Option Addr
  cp : Nat
  xs : List Int
def STQ.ok (W : World) (o : STQ) : Prop := Ints W o.ad o.xs ∧ o.xs.length ≤ 1048576 ∧ ∀ y ∈ o.xs, -9223372036854775808 ≤ y ∧ y ≤ 9223372036854775807
set_option maxRecDepth 100000 in
theorem open_step {H : Type} {enc : TypeId × Value → H} {W : World} {base fuel : Nat} {cs : List Value} {x : DataW H × List MemPlace} (h : DataW.trod enc Tryd.prog W base (fun _ => true) true fuel 33 cs = some x) (hb : Rows.uptoBulk x.1 ≤ 1048576) :
    ∃ o : STQ, cs = [.bool o.d, .slice o.ad o.xs.length o.cp] ∧ o.ok W := by
  obtain ⟨y0, y1, n, hx, hlen, h0, h1⟩ := trod_struct2 Tryd.underlying33 h
  rw [cellsS] at hlen
  obtain ⟨v0, v1, rfl⟩ : ∃ v0 v1, cs = [v0, v1] := by
    match cs, hlen with
    | [v0, v1], _ => exact ⟨v0, v1, rfl⟩
  simp [cellsB, cellsC] at h0 h1
  obtain ⟨d, e0, _⟩ := DataW.trod_bool Tryd.underlying4 h0
  cases e0
  obtain ⟨ad, cp, xs, rfl, hr⟩ := open_clause h1 (by
    rw [hx] at hb
    exact Nat.le_trans (bulks.field (List.mem_cons_of_mem _ (List.mem_cons_self ..))) hb)
  exact ⟨⟨d, ad, cp, xs⟩, rfl, hr⟩
set_option maxRecDepth 100000 in
/-- a proof's steps that came in -/
theorem open_steps {H : Type} {enc : TypeId × Value → H} {W : World} {base b2 : Nat} {v : Value} {d : DataW H} {p : List MemPlace} (hv : Value.okWide Tryd.prog W .any base 22 v)
    (h : DataW.Trod enc Tryd.prog W b2 (fun _ => true) true 22 v d p) (hb : Rows.uptoBulk d ≤ 1048576) :
    ∃ (ad : Option Addr) (cap : Nat) (ps : List (Bool × List Int)), v = .slice ad ps.length cap ∧ Stp W ad ps ∧ SBd ps := by
  obtain ⟨a', len, cap', rfl⟩ := okWide_slice Tryd.underlying22 hv
  obtain ⟨fuel, hf⟩ := h
  have hf' : DataW.trod enc Tryd.prog W b2 (fun _ => true) true fuel 22 [.slice a' len cap'] = some (d, p) := hf
  rcases Go.Deep.open_slice Tryd.underlying22 hf' with ⟨hcs, hx⟩ | ⟨a, len2, cap, m, n, D, Pl, hcs, _, hl, hm, hmm, hx, hel⟩
  · cases hcs
    exact ⟨none, 0, [], rfl, fun h => absurd h (by simp), ⟨by simp, fun s hs => absurd hs (by simp)⟩⟩
  · cases hcs
    simp only [if_true] at hmm
    subst hmm
    rw [cellsS] at hel
    have hd : d = .slice ((List.range len).map D) ((List.range (m - len)).map fun j => D (len + j)) := congrArg Prod.fst hx
    have each : ∀ i, i < len → ∃ o : STQ, W.cells? b2 (a.add (i * 2)) 2 = some [.bool o.d, .slice o.ad o.xs.length o.cp] ∧ o.ok W := fun i hi => by
      obtain ⟨cs', h1, h2⟩ := hel i (by omega)
      obtain ⟨o, rfl, ho⟩ := open_step h2 (by
        rw [hd] at hb
        exact Nat.le_trans (bulks.elem (List.mem_map.2 ⟨i, List.mem_range.2 hi, rfl⟩)) hb)
      exact ⟨o, h1, ho⟩
    obtain ⟨q, hq⟩ : ∃ q : Nat → STQ, ∀ i, i < len → W.cells? b2 (a.add (i * 2)) 2 = some [.bool (q i).d, .slice (q i).ad (q i).xs.length (q i).cp] ∧ (q i).ok W := by
      refine ⟨fun i => if hi : i < len then Classical.choose (each i hi) else ⟨false, none, 0, []⟩, fun i hi => ?_⟩
      simp only [dif_pos hi]
      exact Classical.choose_spec (each i hi)
    have hlen : ((List.range len).map fun i => ((q i).d, (q i).xs)).length = len := by simp
    have hget : ∀ j, j < len → ((List.range len).map fun i => ((q i).d, (q i).xs)).getD j (false, []) = ((q j).d, (q j).xs) := fun j hj => by
      rw [List.getD_eq_getElem?_getD, List.getElem?_map, List.getElem?_range hj]
      rfl
    refine ⟨some a, m, (List.range len).map fun i => ((q i).d, (q i).xs), by rw [hlen], fun hp => ?_, ⟨?_, fun s hs => ?_⟩⟩
    · rw [hlen] at hp
      have hc : ∀ i, i < len → W.cell? (a.add (i * 2 + 0)) = some (.bool (q i).d) ∧ W.cell? (a.add (i * 2 + 1)) = some (.slice (q i).ad (q i).xs.length (q i).cp) := fun i hi => by
        obtain ⟨_, _, hcell⟩ := World.cells?_some (hq i hi).1
        have e0 := hcell 0 (by omega)
        have e1 := hcell 1 (by omega)
        rw [Go.Deep.add_add] at e0 e1
        exact ⟨by simpa using e0, by simpa using e1⟩
      have h0 := (hc 0 hp).1
      have e := addr_lit (by simpa using h0)
      have hlt : a.block < W.heap.size := by
        have := block_lt_of_cell h0
        rw [e] at this
        exact this
      refine ⟨a.block, a.off, by rw [← e], hlt, fun j hj => ?_⟩
      rw [hlen] at hj
      obtain ⟨c0, c1⟩ := hc j hj
      rw [hget j hj]
      rw [e, Addr.add_lit] at c0 c1
      exact ⟨(q j).ad, (q j).cp, c0, c1, (hq j hj).2.1⟩
    · rw [hlen]
      rw [hd] at hb
      have h5 := Nat.le_trans (bulks.slice (H := H) _ _) hb
      simp only [List.length_map, List.length_range] at h5
      omega
    · obtain ⟨i, hi, rfl⟩ := List.mem_map.1 hs
      exact (hq i (List.mem_range.1 hi)).2.2
set_option maxHeartbeats 2000000 in
theorem texts_walk (ad : Option Addr) (ps : List (Bool × List Int)) (c : Nat) (w : World) (h : Stp w ad ps) (hd : SBd ps) (htab : PowT w.heap.size w) :
    Calls Tryd.prog 3 #[.slice ad ps.length c] w fun e w' => e = .returned (.bool true) ∧ Below w.heap.size w w' := by
  generalize hPP : (fun (e : Ending) (w' : World) => e = .returned (.bool true) ∧ Below w.heap.size w w') = PP
  have HPP : Hid (∀ w', Below w.heap.size w w' → PP (.returned (.bool true)) w') := fun w' h => by rw [← hPP]; exact ⟨rfl, h⟩
  clear hPP
  have HS : Hid (Calls Tryd.prog 5 #[.slice ad ps.length c] w fun e w' => ∃ aM cM, e = .returned (.slice aM ps.length cM) ∧ Stp w' aM ps ∧ Below w.heap.size w w') := steps_any ad ps c w h hd.len (fun s hs => (hd.each s hs).1)
  have HPO : Hid (∀ W, Below w.heap.size w W → PowT W.heap.size W) := fun W hb W2 hW2 => htab W2 (hb.trans (hW2.mono hb.size))
  have HT : Hid (∀ W aM cM, Stp W aM ps → Below w.heap.size w W → Calls Tryd.prog 6 #[.slice aM ps.length cM] W fun e w' => e = .returned (.string ⟨(txtS ps).toArray⟩) ∧ Stp w' aM ps ∧ Below w.heap.size w w') := fun W aM cM h1 h2 => (text_any aM ps cM W h1 hd (HPO.out W h2)).mono fun e w' hh => ⟨hh.1, h1.below hh.2, below_next h2 hh.2⟩
  have HR : Hid (∀ W aM, Stp W aM ps → Below w.heap.size w W → Calls Tryd.prog 7 #[.slice ad ps.length c] W fun e w' => e = .returned (.string ⟨(txtS ps).toArray⟩) ∧ Stp w' aM ps ∧ Below w.heap.size w w') := fun W aM h1 h2 => (rtext_any ad ps c W (h.below h2) hd).mono fun e w' hh => ⟨hh.1, h1.below hh.2, below_next h2 hh.2⟩
  have HA : Hid (∀ W aM cM, Stp W aM ps → Below w.heap.size w W → Calls Tryd.prog 8 #[.slice aM ps.length cM, .slice ad ps.length c] W fun e w' => e = .returned (.bool true) ∧ PP (.returned (.bool true)) w') := fun W aM cM h1 h2 => (alike_any aM ad ps cM c W h1 (h.below h2) hd.len (fun s hs => (hd.each s hs).1)).mono fun e w' hh => by
    obtain ⟨h3, m, rfl⟩ := hh
    exact ⟨h3, HPP.out _ ⟨h2.os, h2.tape, h2.output, h2.size, h2.block⟩⟩
  clear h hd htab
  generalize ps.length = n at *
  generalize hX : (⟨(txtS ps).toArray⟩ : ByteArray) = X at *
  clear hX
  go_enter Tryd.func3, Tryd.ntmps3
  go_wp2_with fail
  refine HS.out.mono ?_
  rintro e w1 ⟨aM, cM, rfl, hs1, hb1⟩
  have HS1 : Hid (Stp w1 aM ps ∧ Below w.heap.size w w1) := ⟨hs1, hb1⟩
  clear hs1 hb1
  go_wp2_with fail
  refine (HT.out w1 aM cM HS1.out.1 HS1.out.2).mono ?_
  rintro e w2 ⟨rfl, hs2, hb2⟩
  have HS2 : Hid (Stp w2 aM ps ∧ Below w.heap.size w w2) := ⟨hs2, hb2⟩
  clear hs2 hb2
  go_wp2_with fail
  refine (HR.out w2 aM HS2.out.1 HS2.out.2).mono ?_
  rintro e w3 ⟨rfl, hs3, hb3⟩
  have HS3 : Hid (Stp w3 aM ps ∧ Below w.heap.size w w3) := ⟨hs3, hb3⟩
  clear hs3 hb3
  go_wp2_with fail
  refine (HA.out w3 aM cM HS3.out.1 HS3.out.2).mono ?_
  rintro e w4 ⟨rfl, hs4⟩
  have HF : Hid (PP (.returned (.bool true)) w4) := hs4
  clear hs4
  go_wp2
  first | exact HF.out | (go_ret; exact HF.out)
end Go.Proofs.YtfpmacnbfbcjgaaDoor
