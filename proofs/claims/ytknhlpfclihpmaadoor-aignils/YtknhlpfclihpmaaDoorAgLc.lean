import Derived.Test.YtknhlpfclihpmaaDoorAgLb
namespace Go.Proofs.YtknhlpfclihpmaaDoor
open Go.ChangeShapes Go.WideShapes Go.ChangeAt Go.RowKit Go.Lib Go.Ag Go.WideMaps Go.Maps Go.ChangeMaps Go.Cn

theorem res_cell3 {P : Program} {fn : Func} {p u v : Tmp} {ty : TypeId} (h : fn.results = #[.tmp u, .cell p ty, .tmp v]) (tmps : Array Value) (w : World) (g : Nat) (t : TypeId) (cs : Array Value) (fr : Nat × Nat) (d : TypeDesc) (x y : Value)
    (hp : tmps.getD p undef = .pointer (some ⟨g, 0, none⟩)) (hg : w.heap[g]? = some (.cells cs t fr)) (hx : tmps.getD u undef = x) (hy : tmps.getD v undef = y)
    (hu : P.underlying ty = some d) (hd : (match d with | .struct _ | .array _ _ => true | _ => false) = true) (hi : (P.info? ty).map (·.size) = some cs.size) :
    (results fn tmps).run P w = .ok (.tuple #[x, .agg cs, y]) w := by
  simp only [results, h]
  simp [Sem.run_bind, Result.andThen]
  rw [show tmps[p]?.getD undef = tmps.getD p undef by simp, show tmps[u]?.getD undef = tmps.getD u undef by simp, show tmps[v]?.getD undef = tmps.getD v undef by simp, hp, hx, hy]
  simp [asAddr, run_loadVar_row w g t ty cs fr d hg hu hd hi]
theorem refusal_nil (w : World) (v : Value) : Calls Tryd.prog 24 #[.pointer none, v] w fun e w' => e = .returned (.int .i64 2) ∧ w' = w := by
  go_enter Tryd.func24, Tryd.ntmps24
  go_wp2_with fail
  first | exact ⟨rfl, rfl⟩ | (go_ret; exact ⟨rfl, rfl⟩)
theorem refusalOf_nil (w : World) (x : Int) (v : Value) : Calls Tryd.prog 35 #[.pointer none, .int .i64 x, v] w fun e w' => e = .returned (.int .i64 2) ∧ w' = w := by
  have HR : Hid (∀ W v, Calls Tryd.prog 24 #[.pointer none, v] W fun e w' => e = .returned (.int .i64 2) ∧ w' = W) := fun W v => refusal_nil W v
  go_enter Tryd.func35, Tryd.ntmps35
  go_wp2_with fail
  refine (HR.out _ _).mono ?_
  rintro e w1 ⟨rfl, hw1⟩; subst w1
  go_wp2_with fail
  first | exact ⟨rfl, rfl⟩ | (go_ret; exact ⟨rfl, rfl⟩)
set_option maxHeartbeats 2000000 in
theorem Input_nil (w : World) : Calls Tryd.prog 4 #[.pointer none] w fun e w' => ∃ v, e = .returned (.tuple #[v, .int .i64 2]) ∧ Below w.heap.size w w' := by
  have HR : Hid (∀ W v, Calls Tryd.prog 24 #[.pointer none, v] W fun e w' => e = .returned (.int .i64 2) ∧ w' = W) := fun W v => refusal_nil W v
  have HO : Hid (∀ W x v, Calls Tryd.prog 35 #[.pointer none, .int .i64 x, v] W fun e w' => e = .returned (.int .i64 2) ∧ w' = W) := fun W x v => refusalOf_nil W x v
  go_enter Tryd.func4, Tryd.ntmps4
  go_wp2_with (first | (go_at_call 24; refine (HR.out _ _).mono ?_; rintro e w1 ⟨rfl, hw1⟩; subst w1) | (go_at_call 35; refine (HO.out _ _ _).mono ?_; rintro e w1 ⟨rfl, hw1⟩; subst w1))
  first | exact ⟨_, rfl, Below.refl _ _⟩ | exact ⟨_, rfl, ag_bel1 _ _⟩ | (go_ret2; first | exact ⟨_, rfl, Below.refl _ _⟩ | exact ⟨_, rfl, ag_bel1 _ _⟩)
set_option maxHeartbeats 2000000 in
theorem And_nil (w : World) (a : Nat) : Calls Tryd.prog 5 #[.pointer none, .int .u32 (a : Int), .int .u32 (a : Int)] w fun e w' => ∃ v, e = .returned (.tuple #[v, .int .i64 2]) ∧ Below w.heap.size w w' := by
  have HR : Hid (∀ W v, Calls Tryd.prog 24 #[.pointer none, v] W fun e w' => e = .returned (.int .i64 2) ∧ w' = W) := fun W v => refusal_nil W v
  have HO : Hid (∀ W x v, Calls Tryd.prog 35 #[.pointer none, .int .i64 x, v] W fun e w' => e = .returned (.int .i64 2) ∧ w' = W) := fun W x v => refusalOf_nil W x v
  go_enter Tryd.func5, Tryd.ntmps5
  go_wp2_with (first | (go_at_call 24; refine (HR.out _ _).mono ?_; rintro e w1 ⟨rfl, hw1⟩; subst w1) | (go_at_call 35; refine (HO.out _ _ _).mono ?_; rintro e w1 ⟨rfl, hw1⟩; subst w1))
  first | exact ⟨_, rfl, Below.refl _ _⟩ | exact ⟨_, rfl, ag_bel1 _ _⟩ | (go_ret2; first | exact ⟨_, rfl, Below.refl _ _⟩ | exact ⟨_, rfl, ag_bel1 _ _⟩)
set_option maxHeartbeats 2000000 in
theorem Or_nil (w : World) (a : Nat) : Calls Tryd.prog 6 #[.pointer none, .int .u32 (a : Int), .int .u32 (a : Int)] w fun e w' => ∃ v, e = .returned (.tuple #[v, .int .i64 2]) ∧ Below w.heap.size w w' := by
  have HR : Hid (∀ W v, Calls Tryd.prog 24 #[.pointer none, v] W fun e w' => e = .returned (.int .i64 2) ∧ w' = W) := fun W v => refusal_nil W v
  have HO : Hid (∀ W x v, Calls Tryd.prog 35 #[.pointer none, .int .i64 x, v] W fun e w' => e = .returned (.int .i64 2) ∧ w' = W) := fun W x v => refusalOf_nil W x v
  go_enter Tryd.func6, Tryd.ntmps6
  go_wp2_with (first | (go_at_call 24; refine (HR.out _ _).mono ?_; rintro e w1 ⟨rfl, hw1⟩; subst w1) | (go_at_call 35; refine (HO.out _ _ _).mono ?_; rintro e w1 ⟨rfl, hw1⟩; subst w1))
  first | exact ⟨_, rfl, Below.refl _ _⟩ | exact ⟨_, rfl, ag_bel1 _ _⟩ | (go_ret2; first | exact ⟨_, rfl, Below.refl _ _⟩ | exact ⟨_, rfl, ag_bel1 _ _⟩)
set_option maxHeartbeats 2000000 in
theorem Xor_nil (w : World) (a : Nat) : Calls Tryd.prog 7 #[.pointer none, .int .u32 (a : Int), .int .u32 (a : Int)] w fun e w' => ∃ v, e = .returned (.tuple #[v, .int .i64 2]) ∧ Below w.heap.size w w' := by
  have HR : Hid (∀ W v, Calls Tryd.prog 24 #[.pointer none, v] W fun e w' => e = .returned (.int .i64 2) ∧ w' = W) := fun W v => refusal_nil W v
  have HO : Hid (∀ W x v, Calls Tryd.prog 35 #[.pointer none, .int .i64 x, v] W fun e w' => e = .returned (.int .i64 2) ∧ w' = W) := fun W x v => refusalOf_nil W x v
  go_enter Tryd.func7, Tryd.ntmps7
  go_wp2_with (first | (go_at_call 24; refine (HR.out _ _).mono ?_; rintro e w1 ⟨rfl, hw1⟩; subst w1) | (go_at_call 35; refine (HO.out _ _ _).mono ?_; rintro e w1 ⟨rfl, hw1⟩; subst w1))
  first | exact ⟨_, rfl, Below.refl _ _⟩ | exact ⟨_, rfl, ag_bel1 _ _⟩ | (go_ret2; first | exact ⟨_, rfl, Below.refl _ _⟩ | exact ⟨_, rfl, ag_bel1 _ _⟩)
set_option maxHeartbeats 2000000 in
theorem Mux_nil (w : World) (a : Nat) : Calls Tryd.prog 8 #[.pointer none, .int .u32 (a : Int), .int .u32 (a : Int), .int .u32 (a : Int)] w fun e w' => ∃ v, e = .returned (.tuple #[v, .int .i64 2]) ∧ Below w.heap.size w w' := by
  have HR : Hid (∀ W v, Calls Tryd.prog 24 #[.pointer none, v] W fun e w' => e = .returned (.int .i64 2) ∧ w' = W) := fun W v => refusal_nil W v
  have HO : Hid (∀ W x v, Calls Tryd.prog 35 #[.pointer none, .int .i64 x, v] W fun e w' => e = .returned (.int .i64 2) ∧ w' = W) := fun W x v => refusalOf_nil W x v
  go_enter Tryd.func8, Tryd.ntmps8
  go_wp2_with (first | (go_at_call 24; refine (HR.out _ _).mono ?_; rintro e w1 ⟨rfl, hw1⟩; subst w1) | (go_at_call 35; refine (HO.out _ _ _).mono ?_; rintro e w1 ⟨rfl, hw1⟩; subst w1))
  first | exact ⟨_, rfl, Below.refl _ _⟩ | exact ⟨_, rfl, ag_bel1 _ _⟩ | (go_ret2; first | exact ⟨_, rfl, Below.refl _ _⟩ | exact ⟨_, rfl, ag_bel1 _ _⟩)
set_option maxHeartbeats 2000000 in
theorem All_nil (w : World) (ad : Option Addr) (n c : Nat) : Calls Tryd.prog 9 #[.pointer none, .slice ad n c] w fun e w' => ∃ v, e = .returned (.tuple #[v, .int .i64 2]) ∧ Below w.heap.size w w' := by
  have HR : Hid (∀ W v, Calls Tryd.prog 24 #[.pointer none, v] W fun e w' => e = .returned (.int .i64 2) ∧ w' = W) := fun W v => refusal_nil W v
  have HO : Hid (∀ W x v, Calls Tryd.prog 35 #[.pointer none, .int .i64 x, v] W fun e w' => e = .returned (.int .i64 2) ∧ w' = W) := fun W x v => refusalOf_nil W x v
  go_enter Tryd.func9, Tryd.ntmps9
  go_wp2_with (first | (go_at_call 24; refine (HR.out _ _).mono ?_; rintro e w1 ⟨rfl, hw1⟩; subst w1) | (go_at_call 35; refine (HO.out _ _ _).mono ?_; rintro e w1 ⟨rfl, hw1⟩; subst w1))
  first | exact ⟨_, rfl, Below.refl _ _⟩ | exact ⟨_, rfl, ag_bel1 _ _⟩ | (go_ret2; first | exact ⟨_, rfl, Below.refl _ _⟩ | exact ⟨_, rfl, ag_bel1 _ _⟩)
set_option maxHeartbeats 2000000 in
theorem Cone_nil (w : World) (ad : Option Addr) (n c : Nat) : Calls Tryd.prog 11 #[.pointer none, .slice ad n c] w fun e w' => ∃ v, e = .returned (.tuple #[v, .int .i64 2]) ∧ Below w.heap.size w w' := by
  have HR : Hid (∀ W v, Calls Tryd.prog 24 #[.pointer none, v] W fun e w' => e = .returned (.int .i64 2) ∧ w' = W) := fun W v => refusal_nil W v
  have HO : Hid (∀ W x v, Calls Tryd.prog 35 #[.pointer none, .int .i64 x, v] W fun e w' => e = .returned (.int .i64 2) ∧ w' = W) := fun W x v => refusalOf_nil W x v
  go_enter Tryd.func11, Tryd.ntmps11
  go_wp2_with (first | (go_at_call 24; refine (HR.out _ _).mono ?_; rintro e w1 ⟨rfl, hw1⟩; subst w1) | (go_at_call 35; refine (HO.out _ _ _).mono ?_; rintro e w1 ⟨rfl, hw1⟩; subst w1))
  first | exact ⟨_, rfl, Below.refl _ _⟩ | exact ⟨_, rfl, ag_bel1 _ _⟩ | (go_ret2; first | exact ⟨_, rfl, Below.refl _ _⟩ | exact ⟨_, rfl, ag_bel1 _ _⟩)
set_option maxHeartbeats 2000000 in
theorem Depth_nil (w : World) (ad : Option Addr) (n c : Nat) : Calls Tryd.prog 12 #[.pointer none, .slice ad n c] w fun e w' => ∃ v, e = .returned (.tuple #[v, .int .i64 2]) ∧ Below w.heap.size w w' := by
  have HR : Hid (∀ W v, Calls Tryd.prog 24 #[.pointer none, v] W fun e w' => e = .returned (.int .i64 2) ∧ w' = W) := fun W v => refusal_nil W v
  have HO : Hid (∀ W x v, Calls Tryd.prog 35 #[.pointer none, .int .i64 x, v] W fun e w' => e = .returned (.int .i64 2) ∧ w' = W) := fun W x v => refusalOf_nil W x v
  go_enter Tryd.func12, Tryd.ntmps12
  go_wp2_with (first | (go_at_call 24; refine (HR.out _ _).mono ?_; rintro e w1 ⟨rfl, hw1⟩; subst w1) | (go_at_call 35; refine (HO.out _ _ _).mono ?_; rintro e w1 ⟨rfl, hw1⟩; subst w1))
  first | exact ⟨_, rfl, Below.refl _ _⟩ | exact ⟨_, rfl, ag_bel1 _ _⟩ | (go_ret2; first | exact ⟨_, rfl, Below.refl _ _⟩ | exact ⟨_, rfl, ag_bel1 _ _⟩)
set_option maxHeartbeats 2000000 in
theorem Print_nil (w : World) (ad : Option Addr) (n c : Nat) : Calls Tryd.prog 17 #[.pointer none, .slice ad n c] w fun e w' => ∃ v, e = .returned (.tuple #[v, .int .i64 2]) ∧ Below w.heap.size w w' := by
  have HR : Hid (∀ W v, Calls Tryd.prog 24 #[.pointer none, v] W fun e w' => e = .returned (.int .i64 2) ∧ w' = W) := fun W v => refusal_nil W v
  have HO : Hid (∀ W x v, Calls Tryd.prog 35 #[.pointer none, .int .i64 x, v] W fun e w' => e = .returned (.int .i64 2) ∧ w' = W) := fun W x v => refusalOf_nil W x v
  go_enter Tryd.func17, Tryd.ntmps17
  go_wp2_with (first | (go_at_call 24; refine (HR.out _ _).mono ?_; rintro e w1 ⟨rfl, hw1⟩; subst w1) | (go_at_call 35; refine (HO.out _ _ _).mono ?_; rintro e w1 ⟨rfl, hw1⟩; subst w1))
  first | exact ⟨_, rfl, Below.refl _ _⟩ | exact ⟨_, rfl, ag_bel1 _ _⟩ | (go_ret2; first | exact ⟨_, rfl, Below.refl _ _⟩ | exact ⟨_, rfl, ag_bel1 _ _⟩)
set_option maxHeartbeats 2000000 in
theorem Eval_nil (w : World) (ad : Option Addr) (n c : Nat) : Calls Tryd.prog 13 #[.pointer none, .slice none 0 0, .slice ad n c] w fun e w' => ∃ v, e = .returned (.tuple #[v, .int .i64 2]) ∧ Below w.heap.size w w' := by
  have HR : Hid (∀ W v, Calls Tryd.prog 24 #[.pointer none, v] W fun e w' => e = .returned (.int .i64 2) ∧ w' = W) := fun W v => refusal_nil W v
  have HO : Hid (∀ W x v, Calls Tryd.prog 35 #[.pointer none, .int .i64 x, v] W fun e w' => e = .returned (.int .i64 2) ∧ w' = W) := fun W x v => refusalOf_nil W x v
  go_enter Tryd.func13, Tryd.ntmps13
  go_wp2_with (first | (go_at_call 24; refine (HR.out _ _).mono ?_; rintro e w1 ⟨rfl, hw1⟩; subst w1) | (go_at_call 35; refine (HO.out _ _ _).mono ?_; rintro e w1 ⟨rfl, hw1⟩; subst w1))
  first | exact ⟨_, rfl, Below.refl _ _⟩ | exact ⟨_, rfl, ag_bel1 _ _⟩ | (go_ret2; first | exact ⟨_, rfl, Below.refl _ _⟩ | exact ⟨_, rfl, ag_bel1 _ _⟩)
set_option maxHeartbeats 2000000 in
theorem Sim_nil (w : World) (ad : Option Addr) (n c : Nat) : Calls Tryd.prog 14 #[.pointer none, .slice none 0 0, .slice ad n c] w fun e w' => ∃ v, e = .returned (.tuple #[v, .int .i64 2]) ∧ Below w.heap.size w w' := by
  have HR : Hid (∀ W v, Calls Tryd.prog 24 #[.pointer none, v] W fun e w' => e = .returned (.int .i64 2) ∧ w' = W) := fun W v => refusal_nil W v
  have HO : Hid (∀ W x v, Calls Tryd.prog 35 #[.pointer none, .int .i64 x, v] W fun e w' => e = .returned (.int .i64 2) ∧ w' = W) := fun W x v => refusalOf_nil W x v
  go_enter Tryd.func14, Tryd.ntmps14
  go_wp2_with (first | (go_at_call 24; refine (HR.out _ _).mono ?_; rintro e w1 ⟨rfl, hw1⟩; subst w1) | (go_at_call 35; refine (HO.out _ _ _).mono ?_; rintro e w1 ⟨rfl, hw1⟩; subst w1))
  first | exact ⟨_, rfl, Below.refl _ _⟩ | exact ⟨_, rfl, ag_bel1 _ _⟩ | (go_ret2; first | exact ⟨_, rfl, Below.refl _ _⟩ | exact ⟨_, rfl, ag_bel1 _ _⟩)
set_option maxHeartbeats 2000000 in
theorem Lay_nil (w : World) (v : Value) : Calls Tryd.prog 15 #[.pointer none, v, .slice none 0 0, .slice none 0 0] w fun e w' => ∃ v, e = .returned (.tuple #[v, .int .i64 2]) ∧ Below w.heap.size w w' := by
  have HR : Hid (∀ W v, Calls Tryd.prog 24 #[.pointer none, v] W fun e w' => e = .returned (.int .i64 2) ∧ w' = W) := fun W v => refusal_nil W v
  have HO : Hid (∀ W x v, Calls Tryd.prog 35 #[.pointer none, .int .i64 x, v] W fun e w' => e = .returned (.int .i64 2) ∧ w' = W) := fun W x v => refusalOf_nil W x v
  go_enter Tryd.func15, Tryd.ntmps15
  go_wp2_with (first | (go_at_call 24; refine (HR.out _ _).mono ?_; rintro e w1 ⟨rfl, hw1⟩; subst w1) | (go_at_call 35; refine (HO.out _ _ _).mono ?_; rintro e w1 ⟨rfl, hw1⟩; subst w1))
  first | exact ⟨_, rfl, Below.refl _ _⟩ | exact ⟨_, rfl, ag_bel1 _ _⟩ | (go_ret2; first | exact ⟨_, rfl, Below.refl _ _⟩ | exact ⟨_, rfl, ag_bel1 _ _⟩)
set_option maxHeartbeats 2000000 in
theorem Lay_nil2 (w : World) (R : Nat) : Calls Tryd.prog 15 #[.pointer (some ⟨R, 0, none⟩), .pointer none, .slice none 0 0, .slice none 0 0] w fun e w' => ∃ v, e = .returned (.tuple #[v, .int .i64 2]) ∧ Below w.heap.size w w' := by
  have HR : Hid (∀ W v, Calls Tryd.prog 24 #[.pointer none, v] W fun e w' => e = .returned (.int .i64 2) ∧ w' = W) := fun W v => refusal_nil W v
  have HO : Hid (∀ W x v, Calls Tryd.prog 35 #[.pointer none, .int .i64 x, v] W fun e w' => e = .returned (.int .i64 2) ∧ w' = W) := fun W x v => refusalOf_nil W x v
  go_enter Tryd.func15, Tryd.ntmps15
  go_wp2_with (first | (go_at_call 24; refine (HR.out _ _).mono ?_; rintro e w1 ⟨rfl, hw1⟩; subst w1) | (go_at_call 35; refine (HO.out _ _ _).mono ?_; rintro e w1 ⟨rfl, hw1⟩; subst w1))
  first | exact ⟨_, rfl, Below.refl _ _⟩ | exact ⟨_, rfl, ag_bel1 _ _⟩ | (go_ret2; first | exact ⟨_, rfl, Below.refl _ _⟩ | exact ⟨_, rfl, ag_bel1 _ _⟩)
set_option maxHeartbeats 2000000 in
theorem Node_nil (w : World) : Calls Tryd.prog 10 #[.pointer none, .int .i64 0] w fun e w' => e = .returned (.tuple #[.int .i64 0, .agg #[.int .u32 0, .int .u32 0], .int .i64 2]) ∧ Below w.heap.size w w' := by
  go_enter Tryd.func10, Tryd.ntmps10
  go_wp2_with fail
  refine bodyPost_ret (v := .tuple #[.int .i64 0, .agg #[.int .u32 0, .int .u32 0], .int .i64 2]) (res_cell3 (u := 4) (p := 5) (v := 6) rfl _ _ w.heap.size 32 _ (0, 0) _ _ _ rfl (heap_alloc_new w _) rfl rfl Tryd.underlying32 rfl (by kernel_rfl)) rfl ?_
  exact ⟨rfl, ag_bel1 _ _⟩
theorem Nodes_nil (w : World) : Calls Tryd.prog 19 #[.pointer none] w fun e w' => e = .returned (.int .i64 0) ∧ w' = w := by
  go_enter Tryd.func19, Tryd.ntmps19
  go_wp2_with fail
  first | exact ⟨rfl, rfl⟩ | (go_ret; exact ⟨rfl, rfl⟩)
theorem Inputs_nil (w : World) : Calls Tryd.prog 20 #[.pointer none] w fun e w' => e = .returned (.int .i64 0) ∧ w' = w := by
  go_enter Tryd.func20, Tryd.ntmps20
  go_wp2_with fail
  first | exact ⟨rfl, rfl⟩ | (go_ret; exact ⟨rfl, rfl⟩)
end Go.Proofs.YtknhlpfclihpmaaDoor
