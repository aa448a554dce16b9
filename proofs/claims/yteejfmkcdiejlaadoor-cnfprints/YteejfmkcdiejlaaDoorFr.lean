import Derived.Test.YteejfmkcdiejlaaDoorRows
import Derived.Test.YteejfmkcdiejlaaDoorCards
import Derived.Test.YteejfmkcdiejlaaDoorTie
import Derived.Test.YteejfmkcdiejlaaDoorLend
import Derived.ProofKit
import Derived.LaidMore
import Derived.OpenShut
import Derived.ShutString
import Derived.SizedLaws
import Derived.ChangeOld
import Derived.Carry
import Derived.Stop.Joined
import Derived.Stop.LaidErr
import Derived.Lib.LaidTab
import Derived.SevenTiedAt
namespace Go.Proofs.YteejfmkcdiejlaaDoor
open Go.ChangeShapes Go.WideShapes Go.ChangeAt Go.RowKit Go.Cn

theorem own : ownKnob Tryd.prog.godebug = none := by kernel_rfl
theorem laidOut : laidOutB Tryd.prog = true := by kernel_rfl
theorem gPow : Tryd.prog.globalNamed "internal/strconv.uint64pow10" = some 1 := by kernel_rfl
theorem gLow : Tryd.prog.globalNamed "cadence/cnf.lowTrue" = some 0 := by kernel_rfl
theorem tPow : (Tryd.prog.globals[1]?).map (·.type) = some 93 := by kernel_rfl
theorem tLow : (Tryd.prog.globals[0]?).map (·.type) = some 76 := by kernel_rfl
theorem cellsU : Tryd.prog.cellsOf 50 = 1 := by kernel_rfl
theorem cellsPow : Tryd.prog.cellsOf 93 = 20 := by kernel_rfl
theorem cellsLow : Tryd.prog.cellsOf 76 = 6 := by kernel_rfl
theorem bytesI : Tryd.prog.bytesOf 3 = 8 := by kernel_rfl
def lowZ : List Int := [12297829382473034410, 14757395258967641292, 17361641481138401520, 18374966859414961920, 18446462603027742720, 18446744069414584320]
/-- what the listed variables give -/
theorem of_laid {W : World} (h : laidMetH Tryd.prog Rows.cnfPrintsRow.laid W) : LV W := by
  rw [MakeChecks.laidMetH_plain _ _ _ (by kernel_rfl)] at h
  have h2 := h.tail.tail
  have hp : Lib.TabIs Tryd.prog W "internal/strconv.uint64pow10" .u64 Lib.pow10Tab := Lib.tabIs_of_head gPow tPow Tryd.underlying93 Tryd.underlying50 cellsU cellsPow h2
  have hl : Lib.TabIs Tryd.prog W "cadence/cnf.lowTrue" .u64 lowZ := Lib.tabIs_of_head gLow tLow Tryd.underlying76 Tryd.underlying50 cellsU cellsLow h2.tail
  exact ⟨Lib.tabBelow_of_tabIs hp, hl.cell gLow 0 (by decide), hl.cell gLow 1 (by decide)⟩
set_option maxRecDepth 100000 in
/-- the door's own heap meets the condition -/
theorem door_met (os : Os) (args : Array Value) : laidMetH Tryd.prog Rows.cnfPrintsRow.laid ((World.doorLaid Tryd.prog 4000 os).forCall (fun _ _ => 0) ⟨#[], args, []⟩).memory :=
  laidMetH_of_parts3 (fuel := 8) (laidMet_of_run' 8 (by kernel_rfl) (by kernel_rfl)) (by kernel_rfl) (by kernel_rfl)
/-- an address that is read bears no spot -/
theorem addr_lit {w : World} {x : Addr} {v : Value} (h : w.cell? (x.add 0) = some v) : x = ⟨x.block, x.off, none⟩ := by
  obtain ⟨b, o, s⟩ := x
  cases s with
  | none => rfl
  | some k =>
    simp only [World.cell?, Addr.add, if_true] at h
    split at h
    · simp at h
    · cases h
theorem take_getD (zs : List Int) (n j : Nat) (h : j < n) : (zs.take n).getD j 0 = zs.getD j 0 := by
  rw [List.getD_eq_getElem?_getD, List.getElem?_take_of_lt h, List.getD_eq_getElem?_getD]
/-- a clause that came in -/
theorem open_clause {H : Type} {enc : TypeId × Value → H} {W : World} {base fuel : Nat} {a : Option Addr} {len cap : Nat} {x : DataW H × List MemPlace} (h : DataW.trod enc Tryd.prog W base (fun _ => true) true fuel 36 [.slice a len cap] = some x) :
    ∃ xs : List Int, xs.length = len ∧ Sl W a cap xs ∧ (cap = 0 ∨ ∃ elems spare, x.1 = .slice elems spare ∧ elems.length + spare.length = cap) := by
  rcases open_ints Tryd.underlying36 Tryd.underlying3 (by kernel_rfl) h with ⟨hcs, hd⟩ | ⟨ad, l, c, zs, hcs, hb, hl, hm, hz, hx, hcell, hwz⟩
  · cases hcs
    exact ⟨[], rfl, ⟨Nat.le_refl _, fun _ => rfl, fun h => absurd h (by simp)⟩, Or.inl rfl⟩
  · cases hcs
    simp only [if_true] at hz
    refine ⟨zs.take len, by simp; omega, ⟨by simp; omega, (fun e => by cases e), fun hp => ?_⟩, Or.inr ⟨lits .i64 (zs.take len), lits .i64 (zs.drop len), by rw [hx], by simp [lits]; omega⟩⟩
    have hl0 : 0 < len := by simp at hp; omega
    have h0 := hcell 0 (by omega)
    have e := addr_lit h0
    have hlt : ad.block < W.heap.size := by
      have := block_lt_of_cell h0
      rw [e] at this
      exact this
    refine ⟨ad.block, ad.off, by rw [← e], hlt, fun j hj => ?_⟩
    have hj' : j < len := by simp at hj; omega
    have hj2 := hcell j (by omega)
    rw [e, Addr.add_lit] at hj2
    rw [hj2, take_getD zs len j hj']
end Go.Proofs.YteejfmkcdiejlaaDoor
