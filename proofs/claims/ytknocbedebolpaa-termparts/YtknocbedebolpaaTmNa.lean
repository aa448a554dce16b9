import Derived.Test.YtknocbedebolpaaTmQ1
import Derived.Test.YtknocbedebolpaaTmU
import Derived.Laws.StructEq
import Derived.Laws.ResultCell
import Derived.Laws.Rows
namespace Go.Proofs.Ytknocbedebolpaa
open Go.ChangeShapes Go.WideShapes Go.ChangeAt Go.RowKit Go.Lib Go.Tm Go.Bw Go.Bn Go.WideMaps Go.Maps Go.ChangeMaps

theorem fieldsN : Try.prog.underlying 40 = some (.struct (Try.prog.fieldsOf 40)) := by kernel_rfl
theorem heldN : Try.prog.stoodInHeld 40 = false := by kernel_rfl
theorem eqIn_node (op u a b c num : Int) (nm : ByteArray) (w : World) : (Op.equalIn 10000 40 (.agg #[.int .i64 op, .int .i64 u, .int .i64 a, .int .i64 b, .int .i64 c, .int .u64 num, .string nm]) (.agg #[.int .i64 op, .int .i64 u, .int .i64 a, .int .i64 b, .int .i64 c, .int .u64 num, .string nm])).run Try.prog w = .ok true w := by
  rw [show (10000 : Nat) = 9999 + 1 from rfl, run_equalIn_struct w 9999 40 _ _ fieldsN heldN]
  obtain ⟨fs, hfs⟩ : ∃ fs, (Try.prog.fieldsOf 40).toList = fs := ⟨_, rfl⟩
  rw [hfs]
  have hu := Try.underlying40
  rw [fieldsN] at hu
  injection hu with hu
  injection hu with hu
  rw [hu] at hfs
  subst hfs
  simp [Op.eqFields, part, run_equalIn_int w 9998 3 .i64 .i64 _ _ Try.underlying3, run_equalIn_int w 9998 38 .u64 .u64 _ _ Try.underlying38, run_equalIn_string w 9998 9 _ _ Try.underlying9]
theorem eq_node (op u a b c num : Int) (nm : ByteArray) (w : World) : (binOp .eql 40 (.agg #[.int .i64 op, .int .i64 u, .int .i64 a, .int .i64 b, .int .i64 c, .int .u64 num, .string nm]) (.agg #[.int .i64 op, .int .i64 u, .int .i64 a, .int .i64 b, .int .i64 c, .int .u64 num, .string nm])).run Try.prog w = .ok (.bool true) w := by
  rw [run_eql_struct, eqIn_node]
  rfl
theorem neq_node (op u a b c num : Int) (nm : ByteArray) (w : World) : (binOp .neq 40 (.agg #[.int .i64 op, .int .i64 u, .int .i64 a, .int .i64 b, .int .i64 c, .int .u64 num, .string nm]) (.agg #[.int .i64 op, .int .i64 u, .int .i64 a, .int .i64 b, .int .i64 c, .int .u64 num, .string nm])).run Try.prog w = .ok (.bool false) w := by
  rw [run_neq_struct, eqIn_node]
  rfl
theorem res_row {P : Program} {fn : Func} {p u : Tmp} {ty : TypeId} (h : fn.results = #[.cell p ty, .tmp u]) (tmps : Array Value) (w : World) (g : Nat) (t : TypeId) (cs : Array Value) (fr : Nat × Nat) (d : TypeDesc) (x : Value)
    (hp : tmps.getD p undef = .pointer (some ⟨g, 0, none⟩)) (hg : w.heap[g]? = some (.cells cs t fr)) (hx : tmps.getD u undef = x)
    (hu : P.underlying ty = some d) (hd : (match d with | .struct _ | .array _ _ => true | _ => false) = true) (hi : (P.info? ty).map (·.size) = some cs.size) :
    (results fn tmps).run P w = .ok (.tuple #[.agg cs, x]) w := by
  rw [results_cell_tmp h, hp, hx]
  simp [asAddr, Result.andThen, run_loadVar_row w g t ty cs fr d hg hu hd hi]
theorem len_any (B0 B : Nat) (lim : Int) (L : List Nd) (v : Value) (M1 M2 : Option Nat) (w : World) (h : SM 72 w B0 B lim L v M1 M2) :
    Calls Try.prog 21 #[.pointer (some ⟨B, 0, none⟩)] w fun e w' => e = .returned (.int .i64 (L.length : Int)) ∧ w' = w := by
  obtain ⟨ad, c, rfl, hc, -⟩ := h.form
  have c1 : w.cell? ⟨B, 1, none⟩ = some (.slice ad L.length c) := blk_cell h.blk 1
  generalize L.length = n at *
  clear h
  go_enter Try.func21, Try.ntmps21
  go_wp2
  go_ret
  exact ⟨rfl, rfl⟩
set_option maxHeartbeats 4000000 in
theorem node_no (B0 B : Nat) (lim : Int) (L : List Nd) (v : Value) (M1 M2 : Option Nat) (t : Int) (w : World) (h : SM 72 w B0 B lim L v M1 M2) (hi : isT L t = false) :
    Calls Try.prog 11 #[.pointer (some ⟨B, 0, none⟩), .int .i64 t] w fun e w' => e = .returned (.tuple #[nodeV z0, .int .i64 70]) ∧ Below w.heap.size w w' := by
  have HC : Hid (∀ W, Below w.heap.size w W → Calls Try.prog 15 #[.pointer (some ⟨B, 0, none⟩), .int .i64 t] W fun e w' => e = .returned (.bool (isT L t)) ∧ w' = W) := fun W hb => has_any _ B0 B lim L v M1 M2 t W (h.below hb)
  rw [hi] at HC
  clear h hi
  go_enter Try.func11, Try.ntmps11
  go_wp2_with (go_at_call 15; refine (HC.out _ (bel1 _ _)).mono ?_; rintro e w' ⟨rfl, rfl⟩)
  refine bodyPost_ret (v := .tuple #[nodeV z0, .int .i64 70]) (res_row (p := 4) (u := 5) rfl _ _ w.heap.size 40 _ (0, 0) _ _ rfl (heap_alloc_new w _) rfl Try.underlying40 rfl (by kernel_rfl)) rfl ?_
  exact ⟨rfl, bel1 _ _⟩
set_option maxHeartbeats 4000000 in
theorem node_ok (B0 B : Nat) (lim : Int) (L : List Nd) (v : Value) (M1 M2 : Option Nat) (i : Nat) (w : World) (h : SM 72 w B0 B lim L v M1 M2) (hi : i < L.length) :
    Calls Try.prog 11 #[.pointer (some ⟨B, 0, none⟩), .int .i64 ((i : Int) + 1)] w fun e w' => e = .returned (.tuple #[nodeV (L.getD i z0), .int .i64 0]) ∧ Below w.heap.size w w' := by
  have HC : Hid (∀ W, Below w.heap.size w W → Calls Try.prog 15 #[.pointer (some ⟨B, 0, none⟩), .int .i64 ((i : Int) + 1)] W fun e w' => e = .returned (.bool (isT L ((i : Int) + 1))) ∧ w' = W) := fun W hb => has_any _ B0 B lim L v M1 M2 _ W (h.below hb)
  have ht : isT L ((i : Int) + 1) = true := decide_eq_true (by omega)
  rw [ht] at HC
  obtain ⟨ad, c, rfl, hc, hcell⟩ := h.form
  obtain ⟨g, rfl, hg⟩ := hcell (by omega)
  have c1 : w.cell? ⟨B, 1, none⟩ = some (.slice (some ⟨g, 0, none⟩) L.length c) := blk_cell h.blk 1
  have hlen := h.len
  have hBl : B < w.heap.size := h.lt (Or.inl rfl)
  have hgl : g < w.heap.size := h.lt (Or.inr (Or.inl rfl))
  have hgi := fun j hj => hg i j hi hj
  generalize L.getD i z0 = n at *
  obtain ⟨op, u, a, b, c', num, nm⟩ := n
  have d0 : w.cell? ⟨g, i * 7, none⟩ = some (.int .i64 op) := hgi 0 (by omega)
  have d1 : w.cell? ⟨g, i * 7 + 1, none⟩ = some (.int .i64 u) := hgi 1 (by omega)
  have d2 : w.cell? ⟨g, i * 7 + 2, none⟩ = some (.int .i64 a) := hgi 2 (by omega)
  have d3 : w.cell? ⟨g, i * 7 + 3, none⟩ = some (.int .i64 b) := hgi 3 (by omega)
  have d4 : w.cell? ⟨g, i * 7 + 4, none⟩ = some (.int .i64 c') := hgi 4 (by omega)
  have d5 : w.cell? ⟨g, i * 7 + 5, none⟩ = some (.int .u64 num) := hgi 5 (by omega)
  have d6 : w.cell? ⟨g, i * 7 + 6, none⟩ = some (.string nm) := hgi 6 (by omega)
  have q1 : (i : Int) < (L.length : Int) := by omega
  clear h hg hcell hgi ht
  generalize L.length = n at *
  go_enter Try.func11, Try.ntmps11
  go_wp2_with (go_at_call 15; refine (HC.out _ (bel1 _ _)).mono ?_; rintro e w' ⟨rfl, rfl⟩)
  refine bodyPost_ret (v := .tuple #[nodeV ⟨op, u, a, b, c', num, nm⟩, .int .i64 0]) (res_row (p := 4) (u := 5) rfl _ _ w.heap.size 40 _ (0, 0) _ _ rfl (heap_alloc_new w _) rfl Try.underlying40 rfl (by kernel_rfl)) rfl ?_
  exact ⟨rfl, bel1 _ _⟩
end Go.Proofs.Ytknocbedebolpaa
