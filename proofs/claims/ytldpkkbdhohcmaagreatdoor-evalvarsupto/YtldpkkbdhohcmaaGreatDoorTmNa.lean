import Derived.Test.YtldpkkbdhohcmaaGreatDoorTmQ1
import Derived.Test.YtldpkkbdhohcmaaGreatDoorTmU
import Derived.Laws.StructEq
import Derived.Laws.ResultCell
import Derived.Laws.Rows
namespace Go.Proofs.YtldpkkbdhohcmaaGreatDoor
open Go.ChangeShapes Go.WideShapes Go.ChangeAt Go.RowKit Go.Lib Go.Tm Go.Bw Go.Bn Go.WideMaps Go.Maps Go.ChangeMaps

theorem res_row {P : Program} {fn : Func} {p u : Tmp} {ty : TypeId} (h : fn.results = #[.cell p ty,.tmp u]) (tmps : Array Value) (w : World) (g : Nat) (t : TypeId) (cs : Array Value) (fr : Nat × Nat) (d : TypeDesc) (x : Value)
    (hp : tmps.getD p undef = .pointer (some ⟨g,0,none⟩)) (hg : w.heap[g]? = some (.cells cs t fr)) (hx : tmps.getD u undef = x)
    (hu : P.underlying ty = some d) (hd : (match d with | .struct _ | .array _ _ => true | _ => false) = true) (hi : (P.info? ty).map (·.size) = some cs.size) :
    (results fn tmps).run P w = .ok (.tuple #[.agg cs,x]) w := by
  rw [results_cell_tmp h,hp,hx]
  simp [asAddr,Result.andThen,run_loadVar_row w g t ty cs fr d hg hu hd hi]
set_option maxHeartbeats 4000000 in
theorem node_ok (B0 B : Nat) (lim : Int) (L : List Nd) (v : Value) (M1 M2 : Option Nat) (i : Nat) (w : World) (h : SM 125 w B0 B lim L v M1 M2) (hi : i < L.length) :
    Calls Tryz.prog 38 #[.pointer (some ⟨B,0,none⟩),.int .i64 ((i : Int) + 1)] w fun e w' => e = .returned (.tuple #[nodeV (L.getD i z0),.int .i64 0]) /\ Below w.heap.size w w' := by
  have HC : Hid (∀ W,Below w.heap.size w W -> Calls Tryz.prog 63 #[.pointer (some ⟨B,0,none⟩),.int .i64 ((i : Int) + 1)] W fun e w' => e = .returned (.bool (isT L ((i : Int) + 1))) /\ w' = W) := fun W hb => has_any _ B0 B lim L v M1 M2 _ W (h.below hb)
  have ht : isT L ((i : Int) + 1) = true := decide_eq_true (by omega); rw [ht] at HC; obtain ⟨ad,c,rfl,hc,hcell⟩ := h.form; obtain ⟨g,rfl,hg⟩ := hcell (by omega); have c1 : w.cell? ⟨B,1,none⟩ = some (.slice (some ⟨g,0,none⟩) L.length c) := blk_cell h.blk 1; have hlen := h.len; have hBl : B < w.heap.size := h.lt (Or.inl rfl); have hgl : g < w.heap.size := h.lt (Or.inr (Or.inl rfl)); have hgi := fun j hj => hg i j hi hj
  generalize L.getD i z0 = n at *
  obtain ⟨op,u,a,b,c',num,nm⟩ := n; have d0 : w.cell? ⟨g,i * 7,none⟩ = some (.int .i64 op) := hgi 0 (by omega); have d1 : w.cell? ⟨g,i * 7 + 1,none⟩ = some (.int .i64 u) := hgi 1 (by omega); have d2 : w.cell? ⟨g,i * 7 + 2,none⟩ = some (.int .i64 a) := hgi 2 (by omega); have d3 : w.cell? ⟨g,i * 7 + 3,none⟩ = some (.int .i64 b) := hgi 3 (by omega); have d4 : w.cell? ⟨g,i * 7 + 4,none⟩ = some (.int .i64 c') := hgi 4 (by omega); have d5 : w.cell? ⟨g,i * 7 + 5,none⟩ = some (.int .u64 num) := hgi 5 (by omega); have d6 : w.cell? ⟨g,i * 7 + 6,none⟩ = some (.string nm) := hgi 6 (by omega); have q1 : (i : Int) < (L.length : Int) := by omega
  clear h hg hcell hgi ht
  generalize L.length = n at *
  go_enter Tryz.func38,Tryz.ntmps38
  go_wp2_with (go_at_call 63; refine (HC.out _ (bel1 _ _)).mono ?_; rintro e w' ⟨rfl,rfl⟩)
  refine bodyPost_ret (v := .tuple #[nodeV ⟨op,u,a,b,c',num,nm⟩,.int .i64 0]) (res_row (p := 4) (u := 5) rfl _ _ w.heap.size 64 _ (0,0) _ _ rfl (heap_alloc_new w _) rfl Tryz.underlying64 rfl (by kernel_rfl)) rfl ?_; exact ⟨rfl,bel1 _ _⟩
end Go.Proofs.YtldpkkbdhohcmaaGreatDoor
