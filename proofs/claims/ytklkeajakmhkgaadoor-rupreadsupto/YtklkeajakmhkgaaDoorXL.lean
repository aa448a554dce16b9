import Derived.Test.YtklkeajakmhkgaaDoorXK
import Derived.Test.YtklkeajakmhkgaaDoorXE
import Derived.Laws.ResultCell
import Derived.Laws.Rows
namespace Go.Proofs.YtklkeajakmhkgaaDoor
open Go.ChangeShapes Go.WideShapes Go.ChangeAt Go.RowKit Go.Lib

theorem res_ct {P : Program} {fn : Func} {p u : Tmp} {ty : TypeId} (h : fn.results = #[.cell p ty, .tmp u]) (tmps : Array Value) (w : World) (g : Nat) (t : TypeId) (cs : Array Value) (fr : Nat × Nat) (d : TypeDesc)
    (hp : tmps.getD p undef = .pointer (some ⟨g, 0, none⟩)) (hg : w.heap[g]? = some (.cells cs t fr))
    (hu : P.underlying ty = some d) (hd : (match d with | .struct _ | .array _ _ => true | _ => false) = true) (hi : (P.info? ty).map (·.size) = some cs.size) :
    (results fn tmps).run P w = .ok (.tuple #[.agg cs, tmps.getD u undef]) w := by
  rw [results_cell_tmp h, hp]
  simp [asAddr, run_loadVar_row w g t ty cs fr d hg hu hd hi, Result.andThen]
theorem ext_data (s : ByteArray) (a b : Nat) : (s.extract a b).data.toList = (s.data.toList.take b).drop a := by
  rw [← Lib.toList_data, Lib.extract_toList, List.drop_take]
theorem bytes_of {s : ByteArray} {l : List UInt8} (h : s.data.toList = l) : s = ⟨l.toArray⟩ := by
  apply ByteArray.ext
  apply Array.ext'
  rw [h]
theorem bytes_is {s : ByteArray} {l : List UInt8} (h : s.data.toList ≠ l) : (s.toList == l) = false := by
  rw [Bool.eq_false_iff]
  intro e
  apply h
  have e2 : s.toList = l := by simpa using e
  rw [Lib.toList_data] at e2
  exact e2
/-- the first word of a row, in the words of lists -/
theorem cutW_any (s : ByteArray) (w : World) (hs : s.size ≤ 1099511627776) :
    Calls Tryd.prog 13 #[.string s] w fun e w' => ∃ W R : ByteArray, e = .returned (.tuple #[.string W, .string R]) ∧ W.data.toList = fW s.data.toList ∧ R.data.toList = fR s.data.toList ∧ ∃ m, w' = w.drewN m := by
  refine (cutWord_any s w hs).mono fun e w' hh => ⟨_, _, hh.1, ext_data _ _ _, ?_, hh.2⟩
  rw [ext_data]
  unfold fR
  rw [Lib.size_eq, List.take_length]
theorem fWR_len (l : List UInt8) : (fW l).length + (fR l).length ≤ l.length := by
  obtain ⟨e1, e2⟩ := fW_eq l
  rw [e1, e2, ← List.length_append, List.takeWhile_append_dropWhile]
  exact (List.dropWhile_sublist _).length_le
/-- the words that are left -/
def cwL (W R : List UInt8) : List (List UInt8) := if W = [] then [] else W :: wordsOf R
theorem cwL_step (l : List UInt8) : wordsOf l = cwL (fW l) (fR l) := words_step l
/-- a line on its way -/
structure PLS (w wr : World) (d : Bool) (v : Value) (acc : List Int) : Prop where
  r1 : wr.heap[w.heap.size]? = some (.cells #[.bool false, .slice none 0 0] 30 (0, 0))
  r2 : wr.heap[w.heap.size + 1]? = some (.cells #[.bool d, v] 30 (0, 0))
  row : wr.ownsRow w.heap.size 3 1 v acc.length (acc.map (Value.int .i64))
  bel : Below w.heap.size w wr
theorem PLS.size {w wr : World} {d : Bool} {v : Value} {acc : List Int} (h : PLS w wr d v acc) : w.heap.size + 2 ≤ wr.heap.size := by
  have := (Array.getElem?_eq_some_iff.1 h.r2).1
  omega
theorem PLS.over {w wr w' : World} {d : Bool} {v : Value} {acc : List Int} (h : PLS w wr d v acc) (hb : Below wr.heap.size wr w') : PLS w w' d v acc := by
  have hz := h.size
  exact ⟨(hb.block _ (by omega)).trans h.r1, (hb.block _ (by omega)).trans h.r2, own_below h.row hb, below_next h.bel hb⟩
theorem PLS.drewN {w wr : World} {d : Bool} {v : Value} {acc : List Int} (h : PLS w wr d v acc) (m : Nat) : PLS w (wr.drewN m) d v acc := ⟨h.r1, h.r2, rowO_same h.row (fun _ _ => rfl), ⟨h.bel.os, h.bel.tape, h.bel.output, h.bel.size, h.bel.block⟩⟩
/-- one literal more -/
theorem PLS.add {w wr w1 : World} {d : Bool} {v v' : Value} {acc : List Int} (h : PLS w wr d v acc) {x : Int} (ho : w1.ownsRow w.heap.size 3 1 v' (acc.length + 1) (acc.map (Value.int .i64) ++ [.int .i64 x])) (hg : (wr.alloc (.cells #[.int .i64 x] 3)).grownBy w1 v.ownBlock) :
    w1.heap[w.heap.size + 1]? = some (.cells #[.bool d, v] 30 (0, 0)) ∧ PLS w (w1.setCell ⟨w.heap.size + 1, 1, none⟩ v') d v' (acc ++ [x]) := by
  have hz := h.size
  have k1 : ∀ j o t fr, wr.heap[j]? = some (Obj.cells o t fr) → t ≠ 3 → w1.heap[j]? = wr.heap[j]? := fun j o t fr hj ht => by
    have hl := (Array.getElem?_eq_some_iff.1 hj).1
    rw [hg.block j (by simp; omega) (fun e => row_ne_blk h.row hj (fun e => ht e.symm) e.symm)]
    exact Below.heap_alloc _ _ j hl
  have e1 := (k1 _ _ _ _ h.r1 (by decide)).trans h.r1
  have e2 := (k1 _ _ _ _ h.r2 (by decide)).trans h.r2
  have hoth : ∀ j, j ≠ w.heap.size + 1 → (w1.setCell ⟨w.heap.size + 1, 1, none⟩ v').heap[j]? = w1.heap[j]? := fun j hj => heap_setCell_other _ _ _ _ hj
  refine ⟨e2, (hoth _ (by omega)).trans e1, ?_, ?_, ?_⟩
  · rw [heap_setCell_same _ (w.heap.size + 1) 1 _ _ _ e2]
    rfl
  · rw [List.length_append, List.map_append]
    exact rowO_same ho (fun j hj => hoth j (fun e => row_ne_blk ho e2 (by decide) (by rw [hj, e])))
  · refine ⟨hg.os.trans h.bel.os, hg.tape.trans h.bel.tape, hg.output.trans h.bel.output, ?_, fun j hj => ?_⟩
    · have := hg.size; have := h.bel.size; simp at this ⊢; simp at *; omega
    · rw [hoth j (by omega), hg.block j (by simp; omega) (fun e => by have := (h.row.lt j e.symm).1; omega)]
      exact (Below.heap_alloc _ _ j (by omega)).trans (h.bel.block j hj)
/-- what a row's reading answers -/
def PLP (w : World) (l : List UInt8) (e : Ending) (w' : World) : Prop := Below w.heap.size w w' ∧ match rowOf l with
  | none => e = .returned (.tuple #[.agg #[.bool false, .slice none 0 0], .int .i64 0])
  | some none => e = .returned (.tuple #[.agg #[.bool false, .slice none 0 0], .int .i64 1])
  | some (some (d, c)) => ∃ v, e = .returned (.tuple #[.agg #[.bool d, v], .int .i64 2]) ∧ w'.ownsRow w.heap.size 3 1 v c.length (c.map (Value.int .i64))
end Go.Proofs.YtklkeajakmhkgaaDoor
