import Derived.Test.YtkomadlmonhlhaaAgQc
namespace Go.Proofs.Ytkomadlmonhlhaa
open Go.ChangeShapes Go.WideShapes Go.ChangeAt Go.RowKit Go.Lib Go.Ag Go.WideMaps Go.Maps Go.ChangeMaps Go.Cn

theorem Nodes_any (w : World) {B R : Nat} {ns : Nds} {nb : Nat} {vb vg : Value} {M : Option Nat} {D : DataW Unit} (h : GM w B R ns nb vb vg M D) :
    Calls Try.prog 16 #[.pointer (some ⟨R, 0, none⟩)] w fun e w' => e = .returned (.int .i64 ((ns.length : Int) + 1)) ∧ w' = w := by
  have c0 : w.cell? ⟨R, 0, none⟩ = some (.int .i64 (ns.length : Int)) := ag_cell h.blk 0
  have h2 := h.len
  clear h
  generalize ns.length = nl at *
  go_enter Try.func16, Try.ntmps16
  go_wp2_with fail
  first | exact ⟨rfl, rfl⟩ | (go_ret; exact ⟨rfl, rfl⟩)
theorem res_cell3 {P : Program} {fn : Func} {p u v : Tmp} {ty : TypeId} (h : fn.results = #[.tmp u, .cell p ty, .tmp v]) (tmps : Array Value) (w : World) (g : Nat) (t : TypeId) (cs : Array Value) (fr : Nat × Nat) (d : TypeDesc) (x y : Value)
    (hp : tmps.getD p undef = .pointer (some ⟨g, 0, none⟩)) (hg : w.heap[g]? = some (.cells cs t fr)) (hx : tmps.getD u undef = x) (hy : tmps.getD v undef = y)
    (hu : P.underlying ty = some d) (hd : (match d with | .struct _ | .array _ _ => true | _ => false) = true) (hi : (P.info? ty).map (·.size) = some cs.size) :
    (results fn tmps).run P w = .ok (.tuple #[x, .agg cs, y]) w := by
  simp only [results, h]
  simp [Sem.run_bind, Result.andThen]
  rw [show tmps[p]?.getD undef = tmps.getD p undef by simp, show tmps[u]?.getD undef = tmps.getD u undef by simp, show tmps[v]?.getD undef = tmps.getD v undef by simp, hp, hx, hy]
  simp [asAddr, run_loadVar_row w g t ty cs fr d hg hu hd hi]
set_option maxHeartbeats 4000000 in
theorem Node_any (w : World) {B R : Nat} {ns : Nds} {nb : Nat} {vb vg : Value} {M : Option Nat} {D : DataW Unit} (h : GM w B R ns nb vb vg M D) (n : Nat) (hn : n ≤ ns.length) :
    Calls Try.prog 39 #[.pointer (some ⟨R, 0, none⟩), .int .i64 (n : Int)] w fun e w' => e = .returned (.tuple #[.int .i64 ((nodK ns n).1 : Int), .agg #[.int .u32 ((nodK ns n).2.1 : Int), .int .u32 ((nodK ns n).2.2 : Int)], .int .i64 0]) ∧ Below w.heap.size w w' := by
  obtain ⟨w1, hw1⟩ : ∃ w1, w.alloc (.cells #[.int .u32 0, .int .u32 0] 96) = w1 := ⟨_, rfl⟩
  have HB1 : Hid (Below w.heap.size w w1 ∧ w1.heap[w.heap.size]? = some (.cells #[.int .u32 0, .int .u32 0] 96 (0, 0))) := by
    rw [← hw1]; exact ⟨ag_bel1 _ _, heap_alloc_new _ _⟩
  have HN : Hid (Calls Try.prog 66 #[.pointer (some ⟨R, 0, none⟩), .int .i64 (n : Int)] w1 fun e w' => e = .returned (.tuple #[.int .i64 ((nodK ns n).1 : Int), .agg #[.int .u32 ((nodK ns n).2.1 : Int), .int .u32 ((nodK ns n).2.2 : Int)]]) ∧ Below w1.heap.size w1 w') := node_any w1 (h.over HB1.out.1) n hn
  have c0 : w1.cell? ⟨R, 0, none⟩ = some (.int .i64 (ns.length : Int)) := ag_cell (h.over HB1.out.1).blk 0
  have h2 := h.len
  have hs1 : w.heap.size < w1.heap.size := (Array.getElem?_eq_some_iff.1 HB1.out.2).1
  clear h
  generalize ns.length = nl at *
  generalize nodK ns n = NK at *
  obtain ⟨kd, a, b⟩ := NK
  have r1 : decide ((n : Int) < 0) = false := decide_eq_false (by omega)
  have r2 : decide ((nl : Int) < (n : Int)) = false := decide_eq_false (by omega)
  have r3 : decide (nl < n) = false := decide_eq_false (by omega)
  go_enter Try.func39, Try.ntmps39
  go_wp2_with fail
  refine HN.out.mono ?_
  rintro e w2 ⟨rfl, hb2⟩
  obtain ⟨Gb, hGb⟩ : ∃ G, w2.heap.size = G := ⟨_, rfl⟩
  have HB3 : Hid (Below w.heap.size w (w2.alloc (.cells #[.int .u32 (a : Int), .int .u32 (b : Int)] 96)) ∧ (w2.alloc (.cells #[.int .u32 (a : Int), .int .u32 (b : Int)] 96)).heap[w.heap.size]? = some (.cells #[.int .u32 0, .int .u32 0] 96 (0, 0)) ∧ (w2.alloc (.cells #[.int .u32 (a : Int), .int .u32 (b : Int)] 96)).heap[Gb]? = some (.cells #[.int .u32 (a : Int), .int .u32 (b : Int)] 96 (0, 0))) := by
    have h3 := (hb2.block _ hs1).trans HB1.out.2
    exact ⟨ag_next (ag_next HB1.out.1 hb2) (ag_bel1 _ _), (Below.heap_alloc _ _ _ (Array.getElem?_eq_some_iff.1 h3).1).trans h3, by rw [← hGb]; exact heap_alloc_new _ _⟩
  have hGn : ¬ w.heap.size = Gb := by have := hb2.size; omega
  go_wp2_with fail
  generalize w2.alloc (.cells #[.int .u32 (a : Int), .int .u32 (b : Int)] 96) = w3 at *
  have g0 : w3.cell? ⟨Gb, 0, none⟩ = some (.int .u32 (a : Int)) := ag_cell HB3.out.2.2 0
  have g1 : w3.cell? ⟨Gb, 1, none⟩ = some (.int .u32 (b : Int)) := ag_cell HB3.out.2.2 1
  have d0 : w3.cell? ⟨w.heap.size, 0, none⟩ = some (.int .u32 0) := ag_cell HB3.out.2.1 0
  have d1 : w3.cell? ⟨w.heap.size, 1, none⟩ = some (.int .u32 0) := ag_cell HB3.out.2.1 1
  have f0 : w3.frozen? ⟨w.heap.size, 0, none⟩ = false := ag_fz HB3.out.2.1 0
  have f1 : w3.frozen? ⟨w.heap.size, 1, none⟩ = false := ag_fz HB3.out.2.1 1
  go_region
  all_goals go_wp2_with fail
  all_goals
    (refine bodyPost_ret (v := .tuple #[.int .i64 (kd : Int), .agg #[.int .u32 (a : Int), .int .u32 (b : Int)], .int .i64 0]) (res_cell3 (u := 4) (p := 5) (v := 6) rfl _ _ w.heap.size 96 _ (0, 0) _ _ _ rfl (box_set (W := w3.drew) (x := .int .u32 (a : Int)) (y := .int .u32 (b : Int)) HB3.out.2.1) rfl rfl Try.underlying96 rfl (by kernel_rfl)) rfl ?_
     exact ⟨rfl, bel_set (bel_set (HB3.out.1.drew) 0 _) 1 _⟩)
end Go.Proofs.Ytkomadlmonhlhaa
