import Derived.Test.YtopdbhkkmolllaaGreatDoorKnD
namespace Go.Proofs.YtopdbhkkmolllaaGreatDoor
open Go.ChangeShapes Go.WideShapes Go.ChangeAt Go.RowKit Go.Lib Go.Kn

theorem res1 {fn : Func} {p : Tmp} (h : fn.results = #[.cell p 24]) (tmps : Array Value) (w : World) (g : Nat) (t : TypeId) (cs : Array Value) (fr : Nat × Nat)
    (hp : tmps.getD p undef = .pointer (some ⟨g, 0, none⟩)) (hg : w.heap[g]? = some (.cells cs t fr)) (hi : cs.size = 5) :
    (results fn tmps).run Tryz.prog w = .ok (.agg cs) w := by
  have hi2 : (Tryz.prog.info? 24).map (·.size) = some cs.size := by rw [hi]; kernel_rfl
  simp only [results, h]
  simp [Sem.run_bind, Result.andThen]
  rw [show tmps[p]?.getD undef = tmps.getD p undef by simp, hp]
  simp [asAddr, run_loadVar_row w g t 24 cs fr _ hg Tryz.underlying24 rfl hi2]
theorem res2 {fn : Func} {p u : Tmp} (h : fn.results = #[.cell p 24, .tmp u]) (tmps : Array Value) (w : World) (g : Nat) (t : TypeId) (cs : Array Value) (fr : Nat × Nat) (x : Value)
    (hp : tmps.getD p undef = .pointer (some ⟨g, 0, none⟩)) (hg : w.heap[g]? = some (.cells cs t fr)) (hi : cs.size = 5) (hx : tmps.getD u undef = x) :
    (results fn tmps).run Tryz.prog w = .ok (.tuple #[.agg cs, x]) w := by
  have hi2 : (Tryz.prog.info? 24).map (·.size) = some cs.size := by rw [hi]; kernel_rfl
  rw [results_cell_tmp h, hp, hx]
  simp [asAddr, Result.andThen, run_loadVar_row w g t 24 cs fr _ hg Tryz.underlying24 rfl hi2]
theorem hp2 (w : World) (o1 o2 : Obj) : ((w.alloc o1).alloc o2).heap[w.heap.size + 1]? = some o2 := by
  have := heap_alloc_new (w.alloc o1) o2
  simpa using this
theorem hp2d (w : World) (o1 o2 : Obj) : ((w.alloc o1).alloc o2).drew.heap[w.heap.size + 1]? = some o2 := hp2 w o1 o2
theorem hp3 (w : World) (o1 o2 o3 : Obj) : (((w.alloc o1).alloc o2).alloc o3).heap[w.heap.size + 1 + 1]? = some o3 := by
  have := heap_alloc_new ((w.alloc o1).alloc o2) o3
  simpa using this
theorem hp3d (w : World) (o1 o2 o3 : Obj) : (((w.alloc o1).alloc o2).alloc o3).drew.heap[w.heap.size + 1 + 1]? = some o3 := hp3 w o1 o2 o3
theorem bel2 (w : World) (o1 o2 : Obj) : Below w.heap.size w ((w.alloc o1).alloc o2) := (bel1 w o1).alloc (by simp) _
theorem bel3 (w : World) (o1 o2 o3 : Obj) : Below w.heap.size w (((w.alloc o1).alloc o2).alloc o3) := (bel2 w o1 o2).alloc (by simp; omega) _
theorem ret_f {a : Int} {o z l t l' t' : Nat} (h1 : l = l') (h2 : t = t') : Ending.returned (.agg #[.int .i64 a, uV o, uV z, uV l, uV t]) = .returned (fV ⟨a, o, z, l', t'⟩) := by subst h1 h2; rfl
def noth (a : Int) : Fc := ⟨a, 0, 0, 0, mx a⟩
def alon (a : Int) (x : Nat) : Fc := ⟨a, x, mx a - x, x, x⟩
theorem nothing_any (a : Int) (w : World) (h1 : 0 ≤ a) (h2 : a ≤ 64) : Calls Tryz.prog 29 #[.int .i64 a] w fun e w' => e = .returned (fV (noth a)) ∧ Below w.heap.size w w' := by
  have HO : Hid (∀ W, Calls Tryz.prog 19 #[.int .i64 a] W fun e w' => e = .returned (uV (mx a)) ∧ w' = W) := fun W => ones_any a W h1 h2
  unfold noth
  generalize mx a = m at *
  go_enter Tryz.func29, Tryz.ntmps29
  go_wp2_with (go_at_call 19; refine (HO.out _).mono ?_; rintro e w' ⟨rfl, rfl⟩)
  refine bodyPost_ret (res1 rfl _ _ w.heap.size _ _ _ rfl (heap_alloc_new w _) rfl) rfl ?_
  exact ⟨rfl, bel1 _ _⟩
theorem sub_u (a b : Nat) (h : b ≤ a) (ha : a < 18446744073709551616) : IntKind.u64.wrap ((a : Int) - (b : Int)) = ((a - b : Nat) : Int) := by rw [IntKind.wrap_u64]; omega
theorem alone_any (a : Int) (x : Nat) (w : World) (h1 : 0 ≤ a) (h2 : a ≤ 64) (hx : x ≤ mx a) : Calls Tryz.prog 20 #[.int .i64 a, uV x] w fun e w' => e = .returned (fV (alon a x)) ∧ Below w.heap.size w w' := by
  have HO : Hid (∀ W, Calls Tryz.prog 19 #[.int .i64 a] W fun e w' => e = .returned (uV (mx a)) ∧ w' = W) := fun W => ones_any a W h1 h2
  have hs := sub_u (mx a) x hx (mx64 h2)
  unfold alon
  generalize mx a = m at *
  generalize m - x = z at *
  go_enter Tryz.func20, Tryz.ntmps20
  go_wp2_with (go_at_call 19; refine (HO.out _).mono ?_; rintro e w' ⟨rfl, rfl⟩)
  refine bodyPost_ret (res1 rfl _ _ w.heap.size _ _ _ rfl (heap_alloc_new w _) rfl) rfl ?_
  exact ⟨rfl, bel1 _ _⟩
theorem turned_any (f : Fc) (w : World) (h : f.may) : Calls Tryz.prog 25 #[fV f] w fun e w' => e = .returned (fV f.turned) ∧ Below w.heap.size w w' := by
  have HO : Hid (∀ W, Calls Tryz.prog 19 #[.int .i64 f.w] W fun e w' => e = .returned (uV (mx f.w)) ∧ w' = W) := fun W => ones_any f.w W h.1 h.2.1
  have hs := sub_u (mx f.w) f.top h.2.2.2.2.2 (mx64 h.2.1)
  have hs2 := sub_u (mx f.w) f.least h.2.2.2.2.1 (mx64 h.2.1)
  unfold Fc.turned
  clear h
  generalize mx f.w = m at *
  generalize m - f.top = z at *
  generalize m - f.least = z2 at *
  obtain ⟨fw, f1, f2, f3, f4⟩ := f
  dsimp only at *
  go_enter Tryz.func25, Tryz.ntmps25
  go_wp2_with fail
  go_region_held3 (fun W => W.cell? ⟨w.heap.size, 0, none⟩ = some (.int .i64 fw) ∧ W.cell? ⟨w.heap.size, 1, none⟩ = some (uV f1) ∧ W.cell? ⟨w.heap.size, 2, none⟩ = some (uV f2) ∧ W.cell? ⟨w.heap.size, 3, none⟩ = some (uV f3) ∧ W.cell? ⟨w.heap.size, 4, none⟩ = some (uV f4)) (go_keep) ((go_at_call 19; refine (HO.out _).mono ?_; rintro e w' ⟨rfl, hw⟩; obtain rfl := hw.symm))
  all_goals go_wp2_with fail
  all_goals refine bodyPost_ret (res1 rfl _ _ (w.heap.size + 1) _ _ _ rfl (hp2d _ _ _) rfl) rfl ?_
  all_goals exact ⟨rfl, (bel2 _ _ _).drew⟩
set_option maxHeartbeats 4000000 in
theorem overlap_any (f g : Fc) (w : World) (hf : F64 f) (hg : F64 g) : Calls Tryz.prog 16 #[fV f, fV g] w fun e w' => e = .returned (fV (ov f g)) ∧ Below w.heap.size w w' := by
  have q1 := or_u f.one g.one hf.one hg.one
  have q2 := or_u f.zero g.zero hf.zero hg.zero
  have q3 : max (f.least : Int) (g.least : Int) = ((max f.least g.least : Nat) : Int) := by omega
  have q4 : min (f.top : Int) (g.top : Int) = ((min f.top g.top : Nat) : Int) := by omega
  unfold ov
  generalize f.one ||| g.one = r1 at *
  generalize f.zero ||| g.zero = r2 at *
  clear hf hg
  obtain ⟨fw, f1, f2, f3, f4⟩ := f
  obtain ⟨gw, g1, g2, g3, g4⟩ := g
  dsimp only at *
  go_enter Tryz.func16, Tryz.ntmps16
  go_wp2_with fail
  all_goals refine bodyPost_ret (res1 rfl _ _ (w.heap.size + 1 + 1) _ _ _ rfl (hp3 _ _ _ _) rfl) rfl ?_
  all_goals exact ⟨ret_f (by omega) (by omega), bel3 _ _ _ _⟩
set_option maxHeartbeats 4000000 in
theorem join_any (f g : Fc) (w : World) (hf : F64 f) (hg : F64 g) : Calls Tryz.prog 14 #[fV f, fV g] w fun e w' => e = .returned (fV (jn f g)) ∧ Below w.heap.size w w' := by
  have q1 := and_u f.one g.one hf.one hg.one
  have q2 := and_u f.zero g.zero hf.zero hg.zero
  unfold jn
  generalize f.one &&& g.one = r1 at *
  generalize f.zero &&& g.zero = r2 at *
  clear hf hg
  obtain ⟨fw, f1, f2, f3, f4⟩ := f
  obtain ⟨gw, g1, g2, g3, g4⟩ := g
  dsimp only at *
  go_enter Tryz.func14, Tryz.ntmps14
  go_wp2_with fail
  all_goals refine bodyPost_ret (res1 rfl _ _ (w.heap.size + 1 + 1) _ _ _ rfl (hp3 _ _ _ _) rfl) rfl ?_
  all_goals exact ⟨ret_f (by omega) (by omega), bel3 _ _ _ _⟩
theorem hasOne_any (f : Fc) (w : World) : Calls Tryz.prog 30 #[fV f] w fun e w' => e = .returned (.bool (decide (f.least = f.top))) ∧ Below w.heap.size w w' := by
  obtain ⟨fw, f1, f2, f3, f4⟩ := f
  dsimp only
  have q : ((f3 : Int) == (f4 : Int)) = decide (f3 = f4) := by rw [Bool.eq_iff_iff]; simp; omega
  generalize decide (f3 = f4) = b at *
  go_enter Tryz.func30, Tryz.ntmps30
  go_wp2_with fail
  go_ret
  exact ⟨rfl, bel1 _ _⟩
theorem highest_any (a : Int) (w : World) (h1 : 0 ≤ a) (h2 : a ≤ 64) : Calls Tryz.prog 33 #[.int .i64 a] w fun e w' => e = .returned (uV (2 ^ (bw a - 1))) ∧ w' = w := by
  have HO : Hid (∀ W, Calls Tryz.prog 19 #[.int .i64 a] W fun e w' => e = .returned (uV (mx a)) ∧ w' = W) := fun W => ones_any a W h1 h2
  have hb := bw_pos a h1
  have hm := mx64 h2
  have e : mx a - mx a / 2 = 2 ^ (bw a - 1) := by
    unfold mx
    obtain ⟨k, hk⟩ : ∃ k, bw a = k + 1 := ⟨bw a - 1, by omega⟩
    rw [hk, Nat.pow_succ, Nat.add_sub_cancel]
    have := Nat.two_pow_pos k
    omega
  have q2 := sub_u (mx a) (mx a / 2) (by omega) hm
  rw [e] at q2
  have q1 : (mx a : Int) / 2 = ((mx a / 2 : Nat) : Int) := by omega
  generalize 2 ^ (bw a - 1) = r at *
  clear e
  generalize mx a = m at *
  generalize m / 2 = m2 at *
  clear hb h1 h2
  go_enter Tryz.func33, Tryz.ntmps33
  go_wp2_with (go_at_call 19; refine (HO.out _).mono ?_; rintro e w' ⟨rfl, rfl⟩)
  go_ret
  exact ⟨rfl, rfl⟩
end Go.Proofs.YtopdbhkkmolllaaGreatDoor
