import Derived.Test.YtnknbijbhidpnaaGreatDoorForm
import Derived.Laws.ResultCell
namespace Go.Proofs.YtnknbijbhidpnaaGreatDoor
open Go.ChangeShapes Go.WideShapes Go.ChangeAt Go.RowKit Go.Cn Go.Maps
open Go.Sort (HoldsK get_flatK)

theorem res_ct {P : Program} {fn : Func} {p u : Tmp} {ty : TypeId} (h : fn.results = #[.cell p ty, .tmp u]) (tmps : Array Value) (w : World) (g : Nat) (t : TypeId) (cs : Array Value) (fr : Nat × Nat) (d : TypeDesc)
    (hp : tmps.getD p undef = .pointer (some ⟨g, 0, none⟩)) (hg : w.heap[g]? = some (.cells cs t fr))
    (hu : P.underlying ty = some d) (hd : (match d with | .struct _ | .array _ _ => true | _ => false) = true) (hi : (P.info? ty).map (·.size) = some cs.size) :
    (results fn tmps).run P w = .ok (.tuple #[.agg cs, tmps.getD u undef]) w := by
  rw [results_cell_tmp h, hp]
  simp [asAddr, run_loadVar_row w g t ty cs fr d hg hu hd hi, Result.andThen]
theorem newG_any (w : World) :
    Calls Tryz.prog 48 #[] w fun e w' => ∃ G M, e = .returned (.pointer (some ⟨G, 0, none⟩)) ∧ Gath w' w.heap.size G M (.slice none 0 0) [] 0 false 0 (.map []) ∧ Below w.heap.size w w' := by
  have hmm := @run_makeMap Tryz.prog
  go_enter Tryz.func48, Tryz.ntmps48
  go_wp2
  go_ret
  refine ⟨w.heap.size + 1, w.heap.size, rfl, ⟨?_, World.ownsRow_nil _ _ _ _, ?_, by omega, Nat.le_refl _⟩, ((Below.refl _ _).alloc (Nat.le_refl _) _).alloc (by simp) _⟩
  · have h := heap_alloc_at (w.alloc (.map #[] 0)) (.cells #[.slice none 0 0, .map (some w.heap.size), .int .i64 0, .bool false] 100)
    simpa using h
  · exact (World.ownsMap_made w _ _ _).alloc _
theorem hsort_of {w : World} {B G M n : Nat} {v : Value} {pl : List Pl} {lits : Int} {over : Bool} {D : DataW Unit} (h : Gath w B G M v (pl.map slP) lits over n D) (hn : pl.length ≤ 1048576) (h0 : 0 < pl.length) (hr : pl.Pairwise fun a b => a.2.val < b.2.val) :
    ∀ W, Below w.heap.size w W → Calls Tryz.prog 60 #[v, .func (.func 61) #[] #[]] W fun e w' => e = .returned (.tuple #[]) ∧ Below W.heap.size W w' := by
  intro W hW
  have hr2 := row_below h.row hW
  simp only [List.length_map] at hr2
  rcases hr2.2 with ⟨e, e0⟩ | ⟨g, cap, cur, rfl, hb, hg, h1, h2, h3, h4⟩
  · omega
  · exact sortP_id g cap pl W (holds_pl hg h4) (Array.getElem?_eq_some_iff.1 hg).1 (by omega) hr
end Go.Proofs.YtnknbijbhidpnaaGreatDoor
