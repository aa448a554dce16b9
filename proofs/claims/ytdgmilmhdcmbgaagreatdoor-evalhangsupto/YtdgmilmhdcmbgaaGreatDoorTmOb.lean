import Derived.Test.YtdgmilmhdcmbgaaGreatDoorTmQ1
import Derived.Test.YtdgmilmhdcmbgaaGreatDoorTmU
import Derived.Laws.StructEq
import Derived.Laws.ResultCell
import Derived.Laws.Rows
import Derived.Test.YtdgmilmhdcmbgaaGreatDoorTmPi
namespace Go.Proofs.YtdgmilmhdcmbgaaGreatDoor
open Go.ChangeShapes Go.WideShapes Go.ChangeAt Go.RowKit Go.Lib Go.Tm Go.Bw Go.Bn Go.WideMaps Go.Maps Go.ChangeMaps

theorem res_row {P : Program} {fn : Func} {p u : Tmp} {ty : TypeId} (h : fn.results = #[.cell p ty, .tmp u]) (tmps : Array Value) (w : World) (g : Nat) (t : TypeId) (cs : Array Value) (fr : Nat × Nat) (d : TypeDesc) (x : Value)
    (hp : tmps.getD p undef = .pointer (some ⟨g, 0, none⟩)) (hg : w.heap[g]? = some (.cells cs t fr)) (hx : tmps.getD u undef = x)
    (hu : P.underlying ty = some d) (hd : (match d with | .struct _ | .array _ _ => true | _ => false) = true) (hi : (P.info? ty).map (·.size) = some cs.size) :
    (results fn tmps).run P w = .ok (.tuple #[.agg cs, x]) w := by
  rw [results_cell_tmp h, hp, hx]
  simp [asAddr, Result.andThen, run_loadVar_row w g t ty cs fr d hg hu hd hi]
set_option maxHeartbeats 4000000 in
theorem node_ok (B0 B : Nat) (lim : Int) (L : List Nd) (v : Value) (M1 M2 : Option Nat) (i : Nat) (w : World) (h : SM 59 w B0 B lim L v M1 M2) (hi : i < L.length) :
    Calls Tryz.prog 44 #[.pointer (some ⟨B, 0, none⟩), .int .i64 ((i : Int) + 1)] w fun e w' => e = .returned (.tuple #[nodeV (L.getD i z0), .int .i64 0]) ∧ Below w.heap.size w w' := by
  have HC : Hid (∀ W, Below w.heap.size w W → Calls Tryz.prog 68 #[.pointer (some ⟨B, 0, none⟩), .int .i64 ((i : Int) + 1)] W fun e w' => e = .returned (.bool (isT L ((i : Int) + 1))) ∧ w' = W) := fun W hb => has_any _ B0 B lim L v M1 M2 _ W (h.below hb)
  have ht : isT L ((i : Int) + 1) = true := decide_eq_true (by omega)
  rw [ht] at HC
  obtain ⟨ad, c, rfl, hc, hcell⟩ := h.form
  obtain ⟨g, rfl, hg⟩ := hcell (by omega)
  have c1 : w.cell? ⟨B, 1, none⟩ = some (.slice (some ⟨g, 0, none⟩) L.length c) := blk_cell h.blk 1
  have hlen := h.len
  have hBl : B < w.heap.size := h.lt (Or.inl rfl)
  have hgl : g < w.heap.size := h.lt (Or.inr (Or.inl rfl))
  have hgi := fun j hj => hg i j hi hj
  generalize L.getD i z0 = n at *
  obtain ⟨op, u, a, b, c', num, nm⟩ := n
  have d0 : w.cell? ⟨g, i * 7, none⟩ = some (.int .i64 op) := hgi 0 (by omega)
  have d1 : w.cell? ⟨g, i * 7 + 1, none⟩ = some (.int .i64 u) := hgi 1 (by omega)
  have d2 : w.cell? ⟨g, i * 7 + 2, none⟩ = some (.int .i64 a) := hgi 2 (by omega)
  have d3 : w.cell? ⟨g, i * 7 + 3, none⟩ = some (.int .i64 b) := hgi 3 (by omega)
  have d4 : w.cell? ⟨g, i * 7 + 4, none⟩ = some (.int .i64 c') := hgi 4 (by omega)
  have d5 : w.cell? ⟨g, i * 7 + 5, none⟩ = some (.int .u64 num) := hgi 5 (by omega)
  have d6 : w.cell? ⟨g, i * 7 + 6, none⟩ = some (.string nm) := hgi 6 (by omega)
  have q1 : (i : Int) < (L.length : Int) := by omega
  clear h hg hcell hgi ht
  generalize L.length = n at *
  go_enter Tryz.func44, Tryz.ntmps44
  go_wp2_with (go_at_call 68; refine (HC.out _ (bel1 _ _)).mono ?_; rintro e w' ⟨rfl, rfl⟩)
  refine bodyPost_ret (v := .tuple #[nodeV ⟨op, u, a, b, c', num, nm⟩, .int .i64 0]) (res_row (p := 4) (u := 5) rfl _ _ w.heap.size 62 _ (0, 0) _ _ rfl (heap_alloc_new w _) rfl Tryz.underlying62 rfl (by kernel_rfl)) rfl ?_
  exact ⟨rfl, bel1 _ _⟩
end Go.Proofs.YtdgmilmhdcmbgaaGreatDoor
namespace Go.Proofs.YtdgmilmhdcmbgaaGreatDoor
open Go.ChangeShapes Go.WideShapes Go.ChangeAt Go.RowKit Go.Lib Go.Tm Go.Bw Go.Bn Go.WideMaps Go.Maps Go.ChangeMaps

/-- the program's store alone -/
def OS (w0 W : World) (B : Nat) (lim : Int) (L : List Nd) : Prop :=
  ∃ B0 v M1 M2, SM 59 W B0 B lim L v M1 M2 ∧ w0.heap.size ≤ B0 ∧ B0 ≤ W.heap.size ∧ Below w0.heap.size w0 W
theorem OS.below {w0 W : World} {B : Nat} {lim : Int} {L : List Nd} (h : OS w0 W B lim L) : Below w0.heap.size w0 W := by
  obtain ⟨B0, v, M1, M2, h1, h2, h3, h4⟩ := h
  exact h4
theorem OS.over {w0 W W' : World} {B : Nat} {lim : Int} {L : List Nd} (h : OS w0 W B lim L) (hb : Below W.heap.size W W') : OS w0 W' B lim L := by
  obtain ⟨B0, v, M1, M2, h1, h2, h3, h4⟩ := h
  exact ⟨B0, v, M1, M2, h1.below hb, h2, Nat.le_trans h3 hb.size, h4.trans (hb.mono h4.size)⟩
theorem OS.add {w0 W w' : World} {B B0 : Nat} {lim : Int} {L L' : List Nd} {v : Value} {M1 M2 : Option Nat} (h1 : SM 59 W B0 B lim L v M1 M2) (h2 : w0.heap.size ≤ B0) (h3 : B0 ≤ W.heap.size) (h4 : Below w0.heap.size w0 W) (hA : AddP 59 W B0 B lim L' v M1 M2 w') : OS w0 w' B lim L' := by
  obtain ⟨v', P1, P2, hs, hk, hown, hne⟩ := hA
  exact ⟨B0, v', P1, P2, hs, h2, Nat.le_trans h3 hk.size, hk.below h4 h4.size (fun k e => Nat.le_trans h2 (h1.ge e))⟩
theorem OS.node {w0 W : World} {B : Nat} {lim : Int} {L : List Nd} (h : OS w0 W B lim L) (i : Nat) (hi : i < L.length) : Calls Tryz.prog 44 #[.pointer (some ⟨B, 0, none⟩), .int .i64 ((i : Int) + 1)] W fun e w' => e = .returned (.tuple #[nodeV (L.getD i z0), .int .i64 0]) ∧ Below W.heap.size W w' := by
  obtain ⟨B0, v, M1, M2, h1, h2, h3, h4⟩ := h
  exact node_ok B0 B lim L v M1 M2 i W h1 hi
theorem OS.ok {w0 W : World} {B : Nat} {lim : Int} {L : List Nd} (h : OS w0 W B lim L) : ∀ n ∈ L, n.ok := by
  obtain ⟨B0, v, M1, M2, h1, h2, h3, h4⟩ := h
  exact h1.okL
theorem OS.var {w0 W : World} {B : Nat} {lim : Int} {L : List Nd} (h : OS w0 W B lim L) (s : ByteArray) (u : Int) (hs : s.size ≤ 140737488355328) (hu : I64 u) (hl : L.length < 1000000000000) :
    Calls Tryz.prog 7 #[.pointer (some ⟨B, 0, none⟩), .string s, .int .i64 u] W fun e w' => e = .returned (.tuple #[.int .i64 (mk lim L ⟨4, u, 0, 0, 0, 0, s⟩).2.1, .int .i64 (mk lim L ⟨4, u, 0, 0, 0, 0, s⟩).2.2]) ∧ OS w0 w' B lim (mk lim L ⟨4, u, 0, 0, 0, 0, s⟩).1 := by
  obtain ⟨B0, v, M1, M2, h1, h2, h3, h4⟩ := h
  refine (var_any B W _ s u hu hs (ask_mkc B0 B lim L v M1 M2 W h1 h3 hl)).mono fun e w' hA => ?_
  obtain ⟨t, er, rfl, rfl, rfl, hA⟩ := hA
  exact ⟨rfl, OS.add h1 h2 h3 h4 hA⟩
theorem OS.bin {w0 W : World} {B : Nat} {lim : Int} {L : List Nd} (h : OS w0 W B lim L) (op a b : Int) (ho : I64 op) (ha : I64 a) (hb : I64 b) (hp2 : pt op = 2) (hl : L.length < 1000000000000) :
    Calls Tryz.prog 9 #[.pointer (some ⟨B, 0, none⟩), .int .i64 op, .int .i64 a, .int .i64 b] W fun e w' => e = .returned (.tuple #[.int .i64 (mk lim L ⟨op, mw op (wd L a) (wd L b), a, b, 0, 0, ByteArray.empty⟩).2.1, .int .i64 (mk lim L ⟨op, mw op (wd L a) (wd L b), a, b, 0, 0, ByteArray.empty⟩).2.2]) ∧ OS w0 w' B lim (mk lim L ⟨op, mw op (wd L a) (wd L b), a, b, 0, 0, ByteArray.empty⟩).1 := by
  obtain ⟨B0, v, M1, M2, h1, h2, h3, h4⟩ := h
  refine (bin_any B W _ op a b ho ha hb hp2 59 B0 lim L v M1 M2 h1 (ask_mkc B0 B lim L v M1 M2 W h1 h3 hl)).mono fun e w' hA => ?_
  obtain ⟨t, er, rfl, rfl, rfl, hA⟩ := hA
  exact ⟨rfl, OS.add h1 h2 h3 h4 hA⟩
def nK : Nd := ⟨4, 8, 0, 0, 0, 0, ⟨#[107]⟩⟩
def nA : Nd := ⟨20, 8, 1, 1, 0, 0, ByteArray.empty⟩
theorem mk1 : mk 0 [] nK = ([nK], 1, 0) := by kernel_rfl
theorem mk2 : mk 0 [nK] nA = ([nK, nA], 2, 0) := by kernel_rfl
theorem mk3 : mk 0 [nK, nA] nA = ([nK, nA], 2, 0) := by kernel_rfl
theorem nA1 : (⟨20, mw 20 (wd [nK] 1) (wd [nK] 1), 1, 1, 0, 0, ByteArray.empty⟩ : Nd) = nA := by kernel_rfl
theorem nA2 : (⟨20, mw 20 (wd [nK, nA] 1) (wd [nK, nA] 1), 1, 1, 0, 0, ByteArray.empty⟩ : Nd) = nA := by kernel_rfl
theorem pt20 : pt 20 = 2 := by kernel_rfl
theorem OS.new {w w' : World} {B : Nat} {lim : Int} (hb : Below w.heap.size w w') (h : SM 59 w' w.heap.size B lim [] (.slice none 0 0) none none) : OS w w' B lim [] := ⟨_, _, _, _, h, Nat.le_refl _, hb.size, hb⟩
end Go.Proofs.YtdgmilmhdcmbgaaGreatDoor
