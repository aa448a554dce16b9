import Derived.Test.YtbkkdoehggkecaaRows
import Derived.OrdersHeld
import Derived.OrdersIn
import Derived.Deep.RegionHeld
import Derived.RangeFuncNested
import Derived.Test.YtbkkdoehggkecaaTsVi
import Derived.Test.YtbkkdoehggkecaaTsO
import Derived.Test.YtbkkdoehggkecaaTrC
namespace Go.Proofs.Ytbkkdoehggkecaa

/-- no operation of the region defers -/
def noDefer (ops : Array Oper) : Bool := ops.all fun o => match o.op with
  | .defer _ => false
  | _ => true
theorem noDefer.at {ops : Array Oper} (h : noDefer ops = true) {i : Nat} {o : Oper} (ho : ops[i]? = some o) : ∀ c, o.op ≠ .defer c := fun c e => by
  have h1 := Array.all_eq_true.1 h i (Array.getElem?_eq_some_iff.1 ho).1
  rw [(Array.getElem?_eq_some_iff.1 ho).2, e] at h1
  cases h1
section
variable {P : Program} {ops : Array Oper} {Q : Exit → Act → World → Prop}
theorem rows_round {row : String} {args : Array Value} {w : World} {R : Value → World → Prop} {n lp : Nat} (h : Rows P row args w R) : RowsIn (Fence.wide.inRound lp) n P row args w R := fun c cs _ => by
  obtain ⟨v, w', r, s⟩ := h c cs
  exact ⟨v, w', r, stepsIn_wide.2 s⟩
/-- what an operation does outside a round it does within one -/
theorem upon_round {o : Oper} {a : Act} {next next' : Act → World → Prop} {n lp : Nat} (hn : ∀ a w, next a w → next' a w) {r : Result Next} (h : o.upon P a next Q r) : o.uponIn (Fence.wide.inRound lp) n P a next' Q r := by
  cases r with
  | ok x w' =>
    cases x with
    | value v => exact hn _ _ h
    | skip => exact hn _ _ h
    | defer d => exact hn _ _ h
    | enter f args =>
      refine ⟨fun h => (by cases h), ?_⟩
      have h2 : Calls P f args w' _ := h
      refine CallsIn.inRound lp (callsIn_wide.2 (h2.mono ?_))
      intro e w'' he
      cases e with
      | returned v => exact hn _ _ he
      | panicked c => exact he
      | outgrown => exact he
    | row row args =>
      refine ⟨fun h => (by cases h), rows_round ?_⟩
      have h2 : Rows P row args w' _ := h
      exact h2.mono (fun v w'' he => hn _ _ he)
    | _ => exact (h : False).elim
  | halt x w' =>
    cases x with
    | panic v => exact h
    | _ => exact (h : False).elim
theorem ops_round {n lp : Nat} (hd : noDefer ops = true) (hQ : ¬ LetsOut Q) : ∀ (l : List Nat) (a : Act) (w : World), wpOps P ops Q l a w → wpOpsIn (Fence.wide.inRound lp) n P ops Q l a w := by
  intro l
  induction l with
  | nil => exact fun a w h => h
  | cons i rest ih =>
    intro a w h
    simp only [wpOps] at h
    simp only [wpOpsIn]
    cases ho : ops[i]? with
    | none =>
      rw [ho] at h
      exact ih a w h
    | some o =>
      rw [ho] at h
      simp only [] at h ⊢
      by_cases hw : Region.wanted o (yielded ops a.tmps) = true
      · rw [if_pos hw] at h ⊢
        rcases h with h | h
        · refine ⟨fun f _ => trivial, ?_⟩
          rw [Fence.inRound_round, Oper.semAt_eq (some lp) a.eval o (noDefer.at hd ho)]
          exact upon_round ih h
        · exact absurd h.2 hQ
      · rw [if_neg hw] at h ⊢
        exact ⟨fun f _ => trivial, ih _ _ h⟩
/-- a region that draws, within a round -/
theorem region_round {id n lp : Nat} {a : Act} {w : World} {S : World → Prop} (hm : P.follows .mixedOrders = true) (hd : noDefer ops = true) (hQ : ¬ LetsOut Q) (hS : S w.drew)
    (h : S w.drew → wpAnyH P .any ops Q S ops.size (Array.replicate ops.size false) a w.drew) : (Code.region id ops true).wpIn (Fence.wide.inRound lp) n P Q a w :=
  wpIn_region_draw fun t => by
    simp only [Region.schedule, hm, Bool.true_or, if_true]
    exact ops_round hd hQ _ _ _ (wpAny_sound ops.size t _ a _ (wpAny_of_held _ _ _ _ (h hS)))
end
end Go.Proofs.Ytbkkdoehggkecaa
namespace Go.Proofs.Ytbkkdoehggkecaa
open Go.ChangeShapes Go.WideShapes Go.ChangeAt Go.RowKit Go.Lib Go.Ag Go.WideMaps Go.Maps Go.ChangeMaps Go.Cn Go.Shelf
attribute [local go_sem] Oper.semAt_some

/-- what has been read so far stands in the row -/
def LR (W : World) (Ib q : Nat) (ns : Nds) (cn : List Nat) (ms : List Int) (pre : List (IX1 cn.length cn)) : Prop := ∃ A, W.heap[Ib]? = some (.cells A 4 (0, 0)) ∧ A.size = q ∧ (∀ j, j < q → ∃ b, A[j]? = some (.bool b)) ∧ ∀ x ∈ pre, ∀ j, nodK ns x.1.2 = (1, (j, 0)) → A[j]? = some (.bool (decide (ms.getD x.1.1 0 = 1)))
/-- the boxes of Lift, and the row of inputs -/
structure LB (w W : World) (R B8 Ib q c : Nat) (aM : Option Addr) (cM : Nat) : Prop where
  b3 : W.heap[w.heap.size]? = some (.cells #[.pointer (some ⟨R, 0, none⟩)] 25 (0, 0))
  b5 : W.heap[w.heap.size + 1]? = some (.cells #[.slice aM c cM] 24 (0, 0))
  b6 : W.heap[w.heap.size + 1 + 1]? = some (.cells #[.slice none 0 0] 42 (0, 0))
  b7 : W.heap[w.heap.size + 1 + 1 + 1]? = some (.cells #[.int .i64 0] 35 (0, 0))
  b8 : W.heap[B8]? = some (.cells #[.slice (some ⟨Ib, 0, none⟩) q q] 42 (0, 0))
  bel : Below w.heap.size w W
  lo : w.heap.size ≤ Ib
theorem LB.keep {w W W' : World} {R B8 Ib q c : Nat} {aM : Option Addr} {cM : Nat} (h : LB w W R B8 Ib q c aM cM) (hk : ∀ (j : Nat) (cs : Array Value) (t : TypeId) (fr : Nat × Nat), W.heap[j]? = some (Obj.cells cs t fr) → t ≠ 4 → W'.heap[j]? = W.heap[j]?) (hb : Below w.heap.size w W') : LB w W' R B8 Ib q c aM cM :=
  ⟨(hk _ _ _ _ h.b3 (by decide)).trans h.b3, (hk _ _ _ _ h.b5 (by decide)).trans h.b5, (hk _ _ _ _ h.b6 (by decide)).trans h.b6, (hk _ _ _ _ h.b7 (by decide)).trans h.b7, (hk _ _ _ _ h.b8 (by decide)).trans h.b8, hb, h.lo⟩
theorem LB.over {w W W' : World} {R B8 Ib q c : Nat} {aM : Option Addr} {cM : Nat} (h : LB w W R B8 Ib q c aM cM) (hb : Below W.heap.size W W') : LB w W' R B8 Ib q c aM cM := h.keep (fun j _ _ _ hj _ => hb.block j (Array.getElem?_eq_some_iff.1 hj).1) (h.bel.trans (hb.mono h.bel.size))
theorem LR.keep {W W' : World} {Ib q : Nat} {ns : Nds} {cn : List Nat} {ms : List Int} {pre : List (IX1 cn.length cn)} (h : LR W Ib q ns cn ms pre) (hk : W'.heap[Ib]? = W.heap[Ib]?) : LR W' Ib q ns cn ms pre := by
  obtain ⟨A, hA, h1⟩ := h
  exact ⟨A, hk.trans hA, h1⟩
theorem LR.lt {W : World} {Ib q : Nat} {ns : Nds} {cn : List Nat} {ms : List Int} {pre : List (IX1 cn.length cn)} (h : LR W Ib q ns cn ms pre) : Ib < W.heap.size := by
  obtain ⟨A, hA, h1⟩ := h
  exact (Array.getElem?_eq_some_iff.1 hA).1
/-- a node that is no input -/
theorem LR.skip {W : World} {Ib q : Nat} {ns : Nds} {cn : List Nat} {ms : List Int} {pre : List (IX1 cn.length cn)} (h : LR W Ib q ns cn ms pre) (x : IX1 cn.length cn) (hx : (nodK ns x.1.2).1 ≠ 1) : LR W Ib q ns cn ms (pre ++ [x]) := by
  obtain ⟨A, hA, h1, h2, h3⟩ := h
  refine ⟨A, hA, h1, h2, fun y hy j hk => ?_⟩
  rcases List.mem_append.1 hy with e | e
  · exact h3 y e j hk
  · rw [List.mem_singleton] at e
    rw [e] at hk
    rw [hk] at hx
    exact absurd rfl hx
/-- an input -/
theorem LR.put {W : World} {Ib q : Nat} {ns : Nds} {cn : List Nat} (hbd : ∀ n ∈ cn, 0 < n ∧ n ≤ ns.length) (hnd : cn.Nodup) {ms : List Int} {pre : List (IX1 cn.length cn)} (h : LR W Ib q ns cn ms pre) (x : IX1 cn.length cn) (hc : 0 < cn.length) {j : Nat} (hj : j < q) (hx : nodK ns x.1.2 = (1, (j, 0))) : LR (W.setCell ⟨Ib, j, none⟩ (.bool (decide (ms.getD x.1.1 0 = 1)))) Ib q ns cn ms (pre ++ [x]) := by
  obtain ⟨A, hA, h1, h2, h3⟩ := h
  refine ⟨A.setIfInBounds j (.bool (decide (ms.getD x.1.1 0 = 1))), heap_setCell_same _ Ib j _ _ _ hA, by simpa using h1, fun k hk => ?_, fun y hy k hk => ?_⟩
  · rw [Array.getElem?_setIfInBounds]
    by_cases e : j = k
    · rw [if_pos e, if_pos (by omega)]
      exact ⟨_, rfl⟩
    · rw [if_neg e]
      exact h2 k hk
  · rw [Array.getElem?_setIfInBounds]
    by_cases e : j = k
    · subst e
      rw [if_pos rfl, if_pos (by omega)]
      have ex := x.2 hc
      have ey := y.2 hc
      have e2 := inp_once (hbd _ (List.mem_of_getElem? ex)) (hbd _ (List.mem_of_getElem? ey)) hx hk
      rw [← e2] at ey
      have e3 : x.1.1 = y.1.1 := by
        have hx1 := (List.getElem?_eq_some_iff.1 ex)
        have hy1 := (List.getElem?_eq_some_iff.1 ey)
        obtain ⟨hx2, hx3⟩ := hx1
        obtain ⟨hy2, hy3⟩ := hy1
        rcases Nat.lt_trichotomy x.1.1 y.1.1 with h4 | h4 | h4
        · exact absurd (hx3.trans hy3.symm) (List.pairwise_iff_getElem.1 hnd _ _ hx2 hy2 h4)
        · exact h4
        · exact absurd (hy3.trans hx3.symm) (List.pairwise_iff_getElem.1 hnd _ _ hy2 hx2 h4)
      rw [e3]
    · rw [if_neg e]
      rcases List.mem_append.1 hy with e2 | e2
      · exact h3 y e2 k hk
      · rw [List.mem_singleton] at e2
        rw [e2, hx] at hk
        cases hk
        exact absurd rfl e
/-- what stands between two rounds -/
structure LJ (w : World) (H R B8 Ib q c : Nat) (aM : Option Addr) (cM : Nat) (ns : Nds) (cn : List Nat) (ms : List Int) (pre : List (IX1 cn.length cn)) (W : World) : Prop where
  lb : LB w W R B8 Ib q c aM cM
  lr : LR W Ib q ns cn ms pre
  hs : H ≤ W.heap.size
theorem LJ.own {w : World} {H R B8 Ib q c : Nat} {aM : Option Addr} {cM : Nat} {ns : Nds} {cn : List Nat} {ms : List Int} (hH : w.heap.size ≤ H) : OwnFrom H (fun s W => LJ w H R B8 Ib q c aM cM ns cn ms s W) := fun s W W' row hs hg hr => by
  have hk : ∀ (j : Nat) (cs : Array Value) (t : TypeId) (fr : Nat × Nat), W.heap[j]? = some (.cells cs t fr) → W'.heap[j]? = W.heap[j]? := fun j cs t fr hj => hg.block j (Array.getElem?_eq_some_iff.1 hj).1 (fun e => by
    obtain ⟨_, o, ho, hc⟩ := hr j e.symm
    rw [hj] at ho
    cases ho
    cases hc)
  obtain ⟨A, hA, _⟩ := hs.lr
  exact ⟨hs.lb.keep (fun j cs t fr hj _ => hk j cs t fr hj) ((ownFrom_below (β := Unit) (Nat.le_refl _) hH) () W W' row hs.lb.bel hg hr), hs.lr.keep (hk _ _ _ _ hA), Nat.le_trans hs.hs hg.size⟩
theorem res_cc {P : Program} {fn : Func} {p u : Tmp} {ty tu : TypeId} (h : fn.results = #[.cell p ty, .cell u tu]) (tmps : Array Value) (w : World) (a b : Addr) (x y : Value)
    (hp : tmps.getD p undef = .pointer (some a)) (hq : tmps.getD u undef = .pointer (some b)) (hx : (loadVar ty a).run P w = .ok x w) (hy : (loadVar tu b).run P w = .ok y w) :
    (results fn tmps).run P w = .ok (.tuple #[x, y]) w := by
  simp only [results, h]
  simp [Sem.run_bind, Result.andThen]
  rw [show tmps[p]?.getD undef = tmps.getD p undef by simp, show tmps[u]?.getD undef = tmps.getD u undef by simp, hp, hq]
  simp [asAddr, hx, hy]
set_option maxRecDepth 100000 in
set_option maxHeartbeats 16000000 in
theorem Lift_ok (w : World) {B R : Nat} {ns : Nds} {nb : Nat} {vb vg : Value} {Mg : Option Nat} {D : DataW Unit} (h : GM w B R ns nb vb vg Mg D) (aC : Option Addr) (cn : List Nat) (cC : Nat) (hC : Nts w aC cn) (hbd : ∀ n ∈ cn, 0 < n ∧ n ≤ ns.length) (hcn : cn.length ≤ 1048576) (hnd : cn.Nodup)
    (aM : Option Addr) (ms : List Int) (cM : Nat) (hM : I8s w aM ms) (hg : gM ms) (hl : ms.length = cn.length) :
    Calls Try.prog 12 #[.pointer (some ⟨R, 0, none⟩), .slice aC cn.length cC, .slice aM ms.length cM] w fun e w' => ∃ Ib bs, e = .returned (.tuple #[.slice (some ⟨Ib, 0, none⟩) (inN ns) (inN ns), .int .i64 0]) ∧ Below w.heap.size w w' ∧ bs.length = inN ns ∧ Bls w' (some ⟨Ib, 0, none⟩) bs ∧ ∀ i n j, cn[i]? = some n → nodK ns n = (1, (j, 0)) → bs.getD j false = decide (ms.getD i 0 = 1) := by
  have hlen := h.len
  have hin : inN ns ≤ 1073741823 := Nat.le_trans (Nat.sub_le _ _) h.len
  have HGM : Hid (GM w B R ns nb vb vg Mg D) := h
  have HIn : Hid (∀ W, Below w.heap.size w W → Calls Try.prog 27 #[.pointer (some ⟨R, 0, none⟩)] W fun e w' => e = .returned (.int .i64 (inN ns : Int)) ∧ Below W.heap.size W w') := fun W hW => (Inputs_any W (h.over hW)).mono (by
    rintro e w' ⟨rfl, d, rfl⟩
    exact ⟨rfl, drw_bel _ _⟩)
  have HC : Hid (Nts w aC cn) := hC
  have HM : Hid (I8s w aM ms) := hM
  clear h hC hM
  rw [hl]
  generalize hq : inN ns = q at *
  obtain ⟨c, hc⟩ : ∃ c, cn.length = c := ⟨_, rfl⟩
  have HL : Hid (cn.length = c ∧ ms.length = c) := ⟨hc, hl.trans hc⟩
  rw [hc] at hcn
  rw [hc]
  clear hl hc
  obtain ⟨i2, hi2, hz2, hs2, hb2⟩ := info_parts (P := Try.prog) (e := 4) (z := .bool false) (size := 1) (bytes := 1) (by kernel_rfl)
  have eB : ∀ W : World, (Instr.makeSlice 42 (.int .i64 (q : Int)) (.int .i64 (q : Int))).run Try.prog W = .ok (.slice (some ⟨W.heap.size, 0, none⟩) q q) (W.alloc (.cells (madeCells (Value.bool false).cells (q * 1)) 4)) := fun W => by
    have := run_make (P := Try.prog) (w := W) 42 4 i2 (.bool false) Try.underlying42 hi2 hz2 .i64 .i64 (q : Int) (q : Int) (by omega) (by omega) (by rw [hb2]; omega) (by omega)
    rw [this, hs2, show ((q : Int)).toNat = q by omega]
  clear hi2 hz2 hs2 hb2
  refine (callsIn_wide (n := 9)).1 ?_
  refine callsIn_of_wp_marks Try.func12 rfl trivial ?_ rfl
  simp only [Try.ntmps12, List.size_toArray, List.length_cons, List.length_nil, Nat.reduceAdd, Nat.reduceSub, Array.replicate_succ, Array.replicate_zero, List.push_toArray, List.append_toArray, List.nil_append, List.cons_append]
  obtain ⟨w4, hw4⟩ : ∃ w4, (((w.alloc (.cells #[.pointer (some ⟨R, 0, none⟩)] 25)).alloc (.cells #[.slice aM c cM] 24)).alloc (.cells #[.slice none 0 0] 42)).alloc (.cells #[.int .i64 0] 35) = w4 := ⟨_, rfl⟩
  have HB4 : Hid (Below w.heap.size w w4 ∧ w4.heap[w.heap.size]? = some (.cells #[.pointer (some ⟨R, 0, none⟩)] 25 (0, 0)) ∧ w4.heap[w.heap.size + 1]? = some (.cells #[.slice aM c cM] 24 (0, 0)) ∧ w4.heap[w.heap.size + 1 + 1]? = some (.cells #[.slice none 0 0] 42 (0, 0)) ∧ w4.heap[w.heap.size + 1 + 1 + 1]? = some (.cells #[.int .i64 0] 35 (0, 0))) := by
    have b1 := ag_bel1 w (.cells #[.pointer (some ⟨R, 0, none⟩)] 25)
    have n1 := heap_alloc_new w (.cells #[.pointer (some ⟨R, 0, none⟩)] 25)
    have s1 : (w.alloc (.cells #[.pointer (some ⟨R, 0, none⟩)] 25)).heap.size = w.heap.size + 1 := by simp
    generalize w.alloc (.cells #[.pointer (some ⟨R, 0, none⟩)] 25) = x1 at *
    have b2 := ag_bel1 x1 (.cells #[.slice aM c cM] 24)
    have n2 := heap_alloc_new x1 (.cells #[.slice aM c cM] 24)
    have s2 : (x1.alloc (.cells #[.slice aM c cM] 24)).heap.size = x1.heap.size + 1 := by simp
    generalize x1.alloc (.cells #[.slice aM c cM] 24) = x2 at *
    have b3 := ag_bel1 x2 (.cells #[.slice none 0 0] 42)
    have n3 := heap_alloc_new x2 (.cells #[.slice none 0 0] 42)
    have s3 : (x2.alloc (.cells #[.slice none 0 0] 42)).heap.size = x2.heap.size + 1 := by simp
    generalize x2.alloc (.cells #[.slice none 0 0] 42) = x3 at *
    have b4 := ag_bel1 x3 (.cells #[.int .i64 0] 35)
    have n4 := heap_alloc_new x3 (.cells #[.int .i64 0] 35)
    rw [hw4] at b4 n4
    rw [s1] at n2
    rw [s2, s1] at n3
    rw [s3, s2, s1] at n4
    have e1 := (b4.block _ (by omega)).trans ((b3.block _ (by omega)).trans ((b2.block _ (by omega)).trans n1))
    have e2 := (b4.block _ (by omega)).trans ((b3.block _ (by omega)).trans n2)
    have e3 := (b4.block _ (by omega)).trans n3
    exact ⟨ag_next (ag_next (ag_next b1 b2) b3) b4, e1, e2, e3, n4⟩
  have HW4e : Hid ((((w.alloc (.cells #[.pointer (some ⟨R, 0, none⟩)] 25)).alloc (.cells #[.slice aM c cM] 24)).alloc (.cells #[.slice none 0 0] 42)).alloc (.cells #[.int .i64 0] 35) = w4) := hw4
  clear hw4
  gi_wp2_with fail
  rw [HW4e.out]
  clear HW4e
  refine ⟨trivial, (callsIn_wide.2 (HIn.out w4 HB4.out.1)).mono ?_⟩
  rintro e w5 ⟨rfl, hb5⟩
  gi_wp2_with fail
  obtain ⟨w7, hw7⟩ : ∃ w7, (w5.alloc (.cells (madeCells #[Value.bool false] q) 4)).alloc (.cells #[.slice (some ⟨w5.heap.size, 0, none⟩) q q] 42) = w7 := ⟨_, rfl⟩
  have HJ7 : Hid (LB w w7 R (w5.heap.size + 1) w5.heap.size q c aM cM ∧ LR w7 w5.heap.size q ns cn ms []) := by
    have b1 := ag_bel1 w5 (.cells (madeCells #[Value.bool false] q) 4)
    have n1 := heap_alloc_new w5 (.cells (madeCells #[Value.bool false] q) 4)
    have s1 : (w5.alloc (.cells (madeCells #[Value.bool false] q) 4)).heap.size = w5.heap.size + 1 := by simp
    generalize w5.alloc (.cells (madeCells #[Value.bool false] q) 4) = x1 at *
    have b2 := ag_bel1 x1 (.cells #[.slice (some ⟨w5.heap.size, 0, none⟩) q q] 42)
    have n2 := heap_alloc_new x1 (.cells #[.slice (some ⟨w5.heap.size, 0, none⟩) q q] 42)
    rw [hw7] at b2 n2
    rw [s1] at n2
    have hb7 : Below w4.heap.size w4 w7 := ag_next (ag_next hb5 b1) b2
    have k4 : ∀ (j : Nat) (o : Obj), w4.heap[j]? = some o → w7.heap[j]? = some o := fun j o hj => (hb7.block _ (Array.getElem?_eq_some_iff.1 hj).1).trans hj
    refine ⟨⟨k4 _ _ HB4.out.2.1, k4 _ _ HB4.out.2.2.1, k4 _ _ HB4.out.2.2.2.1, k4 _ _ HB4.out.2.2.2.2, n2, ag_next HB4.out.1 hb7, Nat.le_trans HB4.out.1.size hb5.size⟩, ⟨_, (b2.block _ (by omega)).trans n1, by rw [size_madeCells], fun j hj => ⟨false, ?_⟩, fun x hx => (List.not_mem_nil hx).elim⟩⟩
    have h9 := made_at (.bool false) q hj rfl
    rw [Nat.mul_one] at h9
    exact h9
  have HW7e : Hid ((w5.alloc (.cells (madeCells #[Value.bool false] q) 4)).alloc (.cells #[.slice (some ⟨w5.heap.size, 0, none⟩) q q] 42) = w7) := hw7
  clear hw7 HB4 hb5 eB HIn
  rw [HW7e.out]
  clear HW7e
  generalize w5.heap.size = Ib at *
  refine ⟨trivial, (bwi_in _ _ trivial rfl _ _ _ _).mono ?_⟩
  rintro e w' ⟨rfl, hw'⟩
  subst hw'
  gi_wp2_with fail
  obtain ⟨W0, hW0⟩ : ∃ W0, w7.alloc (.cells #[.slice aC c cC] 23) = W0 := ⟨_, rfl⟩
  obtain ⟨H, hH⟩ : ∃ H, W0.heap.size = H := ⟨_, rfl⟩
  have HB0 : Hid (Below w7.heap.size w7 W0 ∧ W0.heap[w7.heap.size]? = some (.cells #[.slice aC c cC] 23 (0, 0))) := by rw [← hW0]; exact ⟨ag_bel1 _ _, heap_alloc_new _ _⟩
  have HJ0 : Hid (LJ w H R (Ib + 1) Ib q c aM cM ns cn ms [] W0) := ⟨HJ7.out.1.over HB0.out.1, HJ7.out.2.keep (HB0.out.1.block _ HJ7.out.2.lt), by omega⟩
  have hwH : w.heap.size ≤ H := by rw [← hH]; exact HJ0.out.lb.bel.size
  have HL1 : Hid (w.heap.size ≤ Ib ∧ Ib < w7.heap.size) := ⟨HJ7.out.1.lo, HJ7.out.2.lt⟩
  have HNode : Hid (∀ W (n : Nat), Below w.heap.size w W → n ≤ ns.length → Calls Try.prog 29 #[.pointer (some ⟨R, 0, none⟩), .int .i64 (n : Int)] W fun e w' => e = .returned (.tuple #[.int .i64 ((nodK ns n).1 : Int), .agg #[.int .u32 ((nodK ns n).2.1 : Int), .int .u32 ((nodK ns n).2.2 : Int)], .int .i64 0]) ∧ Below W.heap.size W w') := fun W n hW hn => Node_any W (HGM.out.over hW) n hn
  have HOf : Hid (∀ W (i : Nat), Below w.heap.size w W → i < c → Calls Try.prog 30 #[.slice aM c cM, .int .i64 ((i : Int) + 1)] W fun e w' => e = .returned (.int .i8 (ms.getD i 0)) ∧ w' = W) := fun W i hW hi => by
    have h5 := cof_ok aM ms cM i W (HM.out.below hW) hg (by rw [HL.out.2]; exact hi) (by rw [HL.out.2]; exact hcn)
    rw [HL.out.2] at h5
    exact h5
  rw [hW0]
  clear hW0 HJ7
  have hclen := HL.out.1
  refine wpIn_rangeFunc_ownH (F := Fence.wide) rfl (by omega) (gf := 54) (lb := #[.pointer (some ⟨w7.heap.size, 0, none⟩)]) rfl trivial (enters_of Try.func54 (by kernel_rfl) rfl)
    (bwi_stops Fence.wide _ trivial rfl (by omega) w7.heap.size Ib aC cn cC (by omega) W0 ⟨(Array.getElem?_eq_some_iff.1 HB0.out.2).1, by have := HL1.out.2; omega⟩ (HC.out.below HJ0.out.lb.bel) ?hne (by rw [hclen]; exact ag_cell HB0.out.2 0)) (fun h1 h2 => h1.t h2) (fun W l o o' h1 h2 h3 h4 => KB.b W l o o' h1 h2 h3 h4) (Below.refl _ _) (fun _ => rfl)
    (fun pre W => LJ w H R (Ib + 1) Ib q c aM cM ns cn ms pre W) (fun _ _ _ => False) (by rw [hH]; exact LJ.own hwH) (fun _ _ _ _ _ hs _ _ => hs)
    HJ0.out
    (fun x a' _ => a' = { tmps := #[.pointer (some ⟨R, 0, none⟩), .slice aC c cC, .slice aM c cM, .pointer (some ⟨w.heap.size, 0, none⟩), undef, .pointer (some ⟨w.heap.size + 1, 0, none⟩), .pointer (some ⟨w.heap.size + 1 + 1, 0, none⟩), .pointer (some ⟨w.heap.size + 1 + 1 + 1, 0, none⟩), .pointer (some ⟨Ib + 1, 0, none⟩), .int .i64 (x.1.1 : Int), .int .i64 (x.1.2 : Int), undef, undef, undef, .pointer (some ⟨R, 0, none⟩), .bool false, .pointer (some ⟨R, 0, none⟩), .int .i64 (q : Int), .slice (some ⟨Ib, 0, none⟩) q q, .slice aC c cC, .func (.func 54) #[] #[.pointer (some ⟨w7.heap.size, 0, none⟩)], .int .i64 (x.1.1 : Int), .int .i64 (x.1.2 : Int), undef, undef, undef, undef, undef, undef, undef, undef, undef, undef, undef, undef, undef, undef, undef, undef, undef, undef, undef, undef, undef, undef], defers := [] })
    ?hax ?assign ?body ?done ?stop
  case hne =>
    intro h0 b off e1 e2
    obtain ⟨b', off', e3, hb', _⟩ := HC.out h0
    rw [e1] at e3
    cases e3
    have := HL1.out.1
    omega
  case hax =>
    rintro x a' _ X Y row h1 hg2 hr
    exact h1
  case assign =>
    rintro l pre x W K hi hK
    obtain ⟨⟨xi, xn⟩, hok⟩ := x
    simp only [encJ]
    gi_wp2
    exact hK _ _ ⟨Nat.le_refl _, fun k o _ hk _ => hk⟩ (fun _ _ _ => rfl) hi rfl
  case body =>
    rintro l pre x a' W hl _ hI rfl hlt
    have HI : Hid (LJ w H R (Ib + 1) Ib q c aM cM ns cn ms pre W) := hI
    have hxe := x.2 (by omega)
    have hxi : x.1.1 < c := by have := (List.getElem?_eq_some_iff.1 hxe).1; omega
    have hxb := hbd _ (List.mem_of_getElem? hxe)
    have f0 : W.cell? ⟨w.heap.size, 0, none⟩ = some (.pointer (some ⟨R, 0, none⟩)) := ag_cell hI.lb.b3 0
    have hNo := HNode.out W x.1.2 hI.lb.bel hxb.2
    have HNo : Hid (Calls Try.prog 29 #[.pointer (some ⟨R, 0, none⟩), .int .i64 (x.1.2 : Int)] W fun e w' => e = .returned (.tuple #[.int .i64 ((nodK ns x.1.2).1 : Int), .agg #[.int .u32 ((nodK ns x.1.2).2.1 : Int), .int .u32 ((nodK ns x.1.2).2.2 : Int)], .int .i64 0]) ∧ Below W.heap.size W w') := hNo
    clear hNo hI
    have HHe : Hid (W0.heap.size = H) := hH
    gi_wp2_with fail
    refine ⟨trivial, (CallsIn.inRound l (callsIn_wide.2 HNo.out)).mono ?_⟩
    rintro e Wa ⟨rfl, hba⟩
    obtain ⟨Wb, hWb⟩ : ∃ Wb, Wa.alloc (.cells #[.int .u32 ((nodK ns x.1.2).2.1 : Int), .int .u32 ((nodK ns x.1.2).2.2 : Int)] 77) = Wb := ⟨_, rfl⟩
    have HJb : Hid (LJ w H R (Ib + 1) Ib q c aM cM ns cn ms pre Wb ∧ Wb.heap[Wa.heap.size]? = some (.cells #[.int .u32 ((nodK ns x.1.2).2.1 : Int), .int .u32 ((nodK ns x.1.2).2.2 : Int)] 77 (0, 0)) ∧ Below W.heap.size W Wb) := by
      have hb : Below W.heap.size W Wb := by rw [← hWb]; exact ag_next hba (ag_bel1 _ _)
      exact ⟨⟨HI.out.lb.over hb, HI.out.lr.keep (hb.block _ HI.out.lr.lt), Nat.le_trans HI.out.hs hb.size⟩, by rw [← hWb]; exact heap_alloc_new _ _, hb⟩
    have HWbe : Hid (Wa.alloc (.cells #[.int .u32 ((nodK ns x.1.2).2.1 : Int), .int .u32 ((nodK ns x.1.2).2.2 : Int)] 77) = Wb) := hWb
    clear hba hWb HNo f0
    by_cases hk1 : (nodK ns x.1.2).1 = 1
    · obtain ⟨j, hkj⟩ : ∃ j, nodK ns x.1.2 = (1, (j, 0)) ∧ j < q := by
        rcases nodK_at hxb.1 hxb.2 with ⟨h1, h2⟩ | ⟨g, h1, h2⟩
        · exact ⟨_, h2, by rw [← hq]; exact inN_at h1⟩
        · rw [h2] at hk1; cases hk1
      have HF : Hid (KeepsFrom H W (Wb.setCell ⟨Ib, j, none⟩ (.bool (decide (ms.getD x.1.1 0 = 1)))) ∧ KB H Ib W (Wb.setCell ⟨Ib, j, none⟩ (.bool (decide (ms.getD x.1.1 0 = 1)))) ∧ LJ w H R (Ib + 1) Ib q c aM cM ns cn ms (pre ++ [x]) (Wb.setCell ⟨Ib, j, none⟩ (.bool (decide (ms.getD x.1.1 0 = 1))))) := by
        have hp := HJb.out.1.lr.put hbd hnd x (by omega) hkj.2 hkj.1
        obtain ⟨A, hA, _⟩ := HJb.out.1.lr
        refine ⟨⟨by have := HJb.out.2.2.size; simp; omega, fun k o _ hk ho => ?_⟩, fun k hk hn => ?_, ⟨HJb.out.1.lb.keep (fun k cs t fr hk ht => heap_setCell_other _ _ _ _ (fun e => ?_)) ?_, hp, by have := HJb.out.1.hs; simp; omega⟩⟩
        · have hk2 := (HJb.out.2.2.block k (Array.getElem?_eq_some_iff.1 hk).1).trans hk
          refine (heap_setCell_other _ _ _ _ (fun e => ?_)).trans hk2
          have e' : k = Ib := e
          rw [e', hA] at hk2
          cases hk2
          cases ho
        · exact (heap_setCell_other _ _ _ _ hn).trans (HJb.out.2.2.block k (Nat.lt_of_lt_of_le hk HI.out.hs))
        · have e' : k = Ib := e
          rw [e', hA] at hk
          cases hk
          exact ht rfl
        · exact OB.below HJb.out.1.lb.bel HJb.out.1.lb.bel.size (OB.set _ _ _ _) HJb.out.1.lb.lo
      have g8 : Wb.cell? ⟨Ib + 1, 0, none⟩ = some (.slice (some ⟨Ib, 0, none⟩) q q) := ag_cell HJb.out.1.lb.b8 0
      have g5 : Wb.cell? ⟨w.heap.size + 1, 0, none⟩ = some (.slice aM c cM) := ag_cell HJb.out.1.lb.b5 0
      have gn : Wb.cell? ⟨Wa.heap.size, 0, none⟩ = some (.int .u32 (j : Int)) := by rw [ag_cell HJb.out.2.1, hkj.1]; rfl
      obtain ⟨bj, hbj⟩ : ∃ b, Wb.cell? ⟨Ib, j, none⟩ = some (.bool b) := by
        obtain ⟨A, hA, _, h2, _⟩ := HJb.out.1.lr
        obtain ⟨b, hb⟩ := h2 j hkj.2
        exact ⟨b, by rw [ag_cell hA]; exact hb⟩
      have zj : Wb.frozen? ⟨Ib, j, none⟩ = false := by
        obtain ⟨A, hA, _⟩ := HJb.out.1.lr
        exact ag_fz hA j
      have HOfx : Hid (Calls Try.prog 30 #[.slice aM c cM, .int .i64 ((x.1.1 : Int) + 1)] Wb.drew fun e w' => e = .returned (.int .i8 (ms.getD x.1.1 0)) ∧ w' = Wb.drew) := HOf.out Wb.drew x.1.1 ⟨HJb.out.1.lb.bel.os, HJb.out.1.lb.bel.tape, HJb.out.1.lb.bel.output, HJb.out.1.lb.bel.size, HJb.out.1.lb.bel.block⟩ hxi
      have hj2 : (j : Int) < (q : Int) := by have := hkj.2; omega
      have hwr : IntKind.i64.wrap ((x.1.1 : Int) + 1) = (x.1.1 : Int) + 1 := by rw [IntKind.wrap_i64]; omega
      clear hkj hxe hxb
      rw [hk1]
      generalize hAA : (nodK ns x.1.2).2.1 = AA at *
      generalize hBB : (nodK ns x.1.2).2.2 = BB at *
      clear hAA hBB hk1
      gi_wp2_with fail
      rw [HWbe.out]
      clear HWbe
      generalize hmx : ms.getD x.1.1 0 = mx at *
      have HFd : Hid (KeepsFrom H W (Wb.setCell ⟨Ib, j, none⟩ (.bool (mx == 1))).drew ∧ KB H Ib W (Wb.setCell ⟨Ib, j, none⟩ (.bool (mx == 1))).drew ∧ LJ w H R (Ib + 1) Ib q c aM cM ns cn ms (pre ++ [x]) (Wb.setCell ⟨Ib, j, none⟩ (.bool (mx == 1))).drew) := by
        obtain ⟨h1, h2, h3⟩ := HF.out
        exact ⟨⟨h1.1, h1.2⟩, h2, ⟨⟨h3.lb.b3, h3.lb.b5, h3.lb.b6, h3.lb.b7, h3.lb.b8, ⟨h3.lb.bel.os, h3.lb.bel.tape, h3.lb.bel.output, h3.lb.bel.size, h3.lb.bel.block⟩, h3.lb.lo⟩, h3.lr, h3.hs⟩⟩
      clear HF
      have n5 : w.heap.size + 1 ≠ Ib := fun e => by
        obtain ⟨A, hA, _⟩ := HJb.out.1.lr
        have h5 := HJb.out.1.lb.b5
        rw [e, hA] at h5
        cases h5
      have n9 : Wa.heap.size ≠ Ib := fun e => by
        obtain ⟨A, hA, _⟩ := HJb.out.1.lr
        have h5 := HJb.out.2.1
        rw [e, hA] at h5
        cases h5
      refine region_round (S := (fun W => W.cell? ⟨Ib + 1, 0, none⟩ = some (.slice (some ⟨Ib, 0, none⟩) q q) ∧ W.cell? ⟨w.heap.size + 1, 0, none⟩ = some (.slice aM c cM) ∧ W.cell? ⟨Wa.heap.size, 0, none⟩ = some (.int .u32 (j : Int)) ∧ Wb.heap.size ≤ W.heap.size)) (by kernel_rfl) (by kernel_rfl) (by rintro ⟨_, _, h⟩; exact h) ⟨g8, g5, gn, Nat.le_refl _⟩ (fun hHeld => ?_)
      refine wpAnyH_take (i := 0) (oi := { dst := some 35, op := Op.load 42 (Operand.tmp 8), type := 42, pos := "tseitin.go:59", after := #[], guard := none }) (v := ?v0) rfl (by kernel_rfl) (by kernel_rfl) (by kernel_rfl) (fun _ _ _ h => h) (Or.inl ⟨by kernel_rfl, ?h0⟩) (by assumption) ?r0
      case h0 => (intro w hSw; (try dsimp only at hSw); go_simp <;> with_reducible rfl)
      try simp only [Act.put, List.setIfInBounds_toArray, List.set_cons_zero, List.set_cons_succ]
      refine wpAnyH_take (i := 1) (oi := { dst := some 36, op := Op.fieldAddr 77 (Operand.tmp 12) 0, type := 0, pos := "tseitin.go:59", after := #[], guard := none }) (v := ?v1) rfl (by kernel_rfl) (by kernel_rfl) (by kernel_rfl) (fun _ _ _ h => h) (Or.inl ⟨by kernel_rfl, ?h1⟩) (by assumption) ?r1
      case h1 => (intro w hSw; (try dsimp only at hSw); go_simp <;> with_reducible rfl)
      try simp only [Act.put, List.setIfInBounds_toArray, List.set_cons_zero, List.set_cons_succ]
      refine wpAnyH_take (i := 2) (oi := { dst := some 37, op := Op.load 53 (Operand.tmp 36), type := 53, pos := "tseitin.go:59", after := #[{ on := 1, ground := Ground.data }], guard := none }) (v := ?v2) rfl (by kernel_rfl) (by kernel_rfl) (by kernel_rfl) (fun _ _ _ h => h) (Or.inl ⟨by kernel_rfl, ?h2⟩) (by assumption) ?r2
      case h2 => (intro w hSw; (try dsimp only at hSw); go_simp <;> with_reducible rfl)
      try simp only [Act.put, List.setIfInBounds_toArray, List.set_cons_zero, List.set_cons_succ]
      refine wpAnyH_take (i := 3) (oi := { dst := some 38, op := Op.load 24 (Operand.tmp 5), type := 24, pos := "tseitin.go:59", after := #[], guard := none }) (v := ?v3) rfl (by kernel_rfl) (by kernel_rfl) (by kernel_rfl) (fun _ _ _ h => h) (Or.inl ⟨by kernel_rfl, ?h3⟩) (by assumption) ?r3
      case h3 => (intro w hSw; (try dsimp only at hSw); go_simp <;> with_reducible rfl)
      try simp only [Act.put, List.setIfInBounds_toArray, List.set_cons_zero, List.set_cons_succ]
      refine wpAnyH_take (i := 4) (oi := { dst := some 39, op := Op.move (Operand.tmp 9), type := 3, pos := "tseitin.go:59", after := #[], guard := none }) (v := ?v4) rfl (by kernel_rfl) (by kernel_rfl) (by kernel_rfl) (fun _ _ _ h => h) (Or.inl ⟨by kernel_rfl, ?h4⟩) (by assumption) ?r4
      case h4 => (intro w hSw; (try dsimp only at hSw); go_simp <;> with_reducible rfl)
      try simp only [Act.put, List.setIfInBounds_toArray, List.set_cons_zero, List.set_cons_succ]
      refine wpAnyH_take (i := 5) (oi := { dst := some 40, op := Op.binOp BinOp.add 3 (Operand.tmp 39) (Operand.const (Value.int IntKind.i64 1)) 3, type := 3, pos := "tseitin.go:59", after := #[{ on := 4, ground := Ground.data }], guard := none }) (v := ?v5) rfl (by kernel_rfl) (by kernel_rfl) (by kernel_rfl) (fun _ _ _ h => h) (Or.inl ⟨by kernel_rfl, ?h5⟩) (by assumption) ?r5
      case h5 => (intro w hSw; (try dsimp only at hSw); go_simp <;> with_reducible rfl)
      try simp only [Act.put, List.setIfInBounds_toArray, List.set_cons_zero, List.set_cons_succ]
      refine wpAnyH_ready (rs := [6]) (by kernel_rfl) (by simp) ?_
      refine AllReadyH.cons (o := { dst := some 41, op := Op.call { callee := Callee.value (Operand.func 30), args := #[Operand.tmp 38, Operand.tmp 40], argTypes := #[24, 3] }, type := 40, pos := "tseitin.go:59", after := #[{ on := 3, ground := Ground.data }, { on := 5, ground := Ground.data }], guard := none }) rfl (fun K hK => ?_) AllReadyH.nil
      go_simp
      go_at_call 30; refine HOfx.out.mono ?_; rintro e w9 ⟨rfl, hw⟩; obtain rfl := hw.symm
      refine hK.out _ _ hHeld (fun _ => ?_)
      clear hK K
      try simp only [Act.put, List.setIfInBounds_toArray, List.set_cons_zero, List.set_cons_succ]
      refine wpAnyH_take (i := 7) (oi := { dst := some 42, op := Op.binOp BinOp.eql 40 (Operand.tmp 41) (Operand.const (Value.int IntKind.i8 1)) 40, type := 4, pos := "tseitin.go:59", after := #[{ on := 6, ground := Ground.data }], guard := none }) (v := ?v7) rfl (by kernel_rfl) (by kernel_rfl) (by kernel_rfl) (fun _ _ _ h => h) (Or.inl ⟨by kernel_rfl, ?h7⟩) (by assumption) ?r7
      case h7 => (intro w hSw; (try dsimp only at hSw); go_simp <;> with_reducible rfl)
      try simp only [Act.put, List.setIfInBounds_toArray, List.set_cons_zero, List.set_cons_succ]
      refine wpAnyH_take (i := 8) (oi := { dst := some 43, op := Op.indexAddr 42 (Operand.tmp 35) (Operand.tmp 37), type := 0, pos := "tseitin.go:59", after := #[{ on := 0, ground := Ground.data }, { on := 2, ground := Ground.data }, { on := 0, ground := Ground.phase }, { on := 1, ground := Ground.phase }, { on := 2, ground := Ground.phase }, { on := 3, ground := Ground.phase }, { on := 4, ground := Ground.phase }, { on := 5, ground := Ground.phase }, { on := 6, ground := Ground.phase }, { on := 7, ground := Ground.phase }], guard := none }) (v := ?v8) rfl (by kernel_rfl) (by kernel_rfl) (by kernel_rfl) (fun _ _ _ h => h) (Or.inl ⟨by kernel_rfl, ?h8⟩) (by assumption) ?r8
      case h8 => (intro w hSw; (try dsimp only at hSw); go_simp <;> with_reducible rfl)
      try simp only [Act.put, List.setIfInBounds_toArray, List.set_cons_zero, List.set_cons_succ]
      refine wpAnyH_ready (rs := [9]) (by kernel_rfl) (by simp) ?_
      refine AllReadyH.cons (o := { dst := none, op := Op.store 4 (Operand.tmp 43) (Operand.tmp 42), type := 0, pos := "tseitin.go:59", after := #[{ on := 8, ground := Ground.data }, { on := 7, ground := Ground.data }, { on := 6, ground := Ground.chain }, { on := 0, ground := Ground.phase }, { on := 1, ground := Ground.phase }, { on := 2, ground := Ground.phase }, { on := 3, ground := Ground.phase }, { on := 4, ground := Ground.phase }, { on := 5, ground := Ground.phase }, { on := 6, ground := Ground.phase }, { on := 7, ground := Ground.phase }], guard := none }) rfl (fun K hK => ?_) AllReadyH.nil
      go_simp
      refine hK.out _ _ ⟨(World.cell?_of_block (a := ⟨Ib + 1, 0, none⟩) (heap_setCell_other _ _ _ _ (by show Ib + 1 ≠ Ib; omega))).trans g8, (World.cell?_of_block (a := ⟨w.heap.size + 1, 0, none⟩) (heap_setCell_other _ _ _ _ n5)).trans g5, (World.cell?_of_block (a := ⟨Wa.heap.size, 0, none⟩) (heap_setCell_other _ _ _ _ n9)).trans gn, by show Wb.heap.size ≤ (Wb.setCell _ _).heap.size; simp⟩ (fun _ => ?_)
      clear hK K
      try simp only [Act.put, List.setIfInBounds_toArray, List.set_cons_zero, List.set_cons_succ]
      refine wpAnyH_done (by kernel_rfl) ?_ _
      gi_wp2_with fail
      exact HFd.out
    · have q5 : (((nodK ns x.1.2).1 : Int) == 1) = false := by simp; omega
      have HZ : Hid (KeepsFrom H W Wb ∧ KB H Ib W Wb ∧ LJ w H R (Ib + 1) Ib q c aM cM ns cn ms (pre ++ [x]) Wb) := ⟨⟨HJb.out.2.2.size, fun k o _ hk _ => (HJb.out.2.2.block k (Array.getElem?_eq_some_iff.1 hk).1).trans hk⟩, fun k hk _ => HJb.out.2.2.block k (Nat.lt_of_lt_of_le hk HI.out.hs), ⟨HJb.out.1.lb, HJb.out.1.lr.skip x hk1, HJb.out.1.hs⟩⟩
      generalize (nodK ns x.1.2).1 = kd at *
      gi_wp2_with fail
      rw [HWbe.out]
      exact (show KeepsFrom W0.heap.size W _ ∧ KB W0.heap.size Ib W _ ∧ LJ w H R (Ib + 1) Ib q c aM cM ns cn ms _ _ from by rw [HHe.out]; exact HZ.out)
  case done =>
    rintro D xs W hD hS hI hK
    have HI : Hid (LJ w H R (Ib + 1) Ib q c aM cM ns cn ms xs W) := hI
    have g8 : W.cell? ⟨Ib + 1, 0, none⟩ = some (.slice (some ⟨Ib, 0, none⟩) q q) := ag_cell hI.lb.b8 0
    have g6 : W.cell? ⟨w.heap.size + 1 + 1, 0, none⟩ = some (.slice none 0 0) := ag_cell hI.lb.b6 0
    have g7 : W.cell? ⟨w.heap.size + 1 + 1 + 1, 0, none⟩ = some (.int .i64 0) := ag_cell hI.lb.b7 0
    have z6 : W.frozen? ⟨w.heap.size + 1 + 1, 0, none⟩ = false := ag_fz hI.lb.b6 0
    have z7 : W.frozen? ⟨w.heap.size + 1 + 1 + 1, 0, none⟩ = false := ag_fz hI.lb.b7 0
    clear hI
    gi_wp2_with fail
    have nD : ∀ (k : Nat) (cs : Array Value) (t : TypeId) (fr : Nat × Nat), W.heap[k]? = some (.cells cs t fr) → D ≠ k := fun k cs t fr hk e => by
      rw [← e, hK] at hk
      cases hk
    obtain ⟨A, hA, hAs, hAb, hAr⟩ := HI.out.lr
    have n6 := nD _ _ _ _ HI.out.lb.b6
    have n7 := nD _ _ _ _ HI.out.lb.b7
    have nI := nD _ _ _ _ hA
    have i6 : w.heap.size + 1 + 1 ≠ Ib := fun e => by
      have h5 := HI.out.lb.b6
      rw [e, hA] at h5
      cases h5
    have i7 : w.heap.size + 1 + 1 + 1 ≠ Ib := fun e => by
      have h5 := HI.out.lb.b7
      rw [e, hA] at h5
      cases h5
    have hk2 : ((W.setCell ⟨w.heap.size + 1 + 1, 0, none⟩ (.slice (some ⟨Ib, 0, none⟩) q q)).setCell ⟨w.heap.size + 1 + 1 + 1, 0, none⟩ (.int .i64 0)).heap[D]? = some (.deferred (some [])) := (heap_setCell_other _ _ _ _ n7).trans ((heap_setCell_other _ _ _ _ n6).trans hK)
    refine ⟨by simp, .inl ⟨_, _, rfl, run_takeDeferred hk2, ?_⟩⟩
    have x6 : (((W.setCell ⟨w.heap.size + 1 + 1, 0, none⟩ (.slice (some ⟨Ib, 0, none⟩) q q)).setCell ⟨w.heap.size + 1 + 1 + 1, 0, none⟩ (.int .i64 0)).putObj D (.deferred none)).heap[w.heap.size + 1 + 1]? = some (.cells #[.slice (some ⟨Ib, 0, none⟩) q q] 42 (0, 0)) :=
      (World.putObj_heap_other (Ne.symm n6)).trans ((heap_setCell_other _ _ _ _ (by show w.heap.size + 1 + 1 ≠ w.heap.size + 1 + 1 + 1; omega)).trans (heap_setCell_same _ _ 0 _ _ _ HI.out.lb.b6))
    have x7 : (((W.setCell ⟨w.heap.size + 1 + 1, 0, none⟩ (.slice (some ⟨Ib, 0, none⟩) q q)).setCell ⟨w.heap.size + 1 + 1 + 1, 0, none⟩ (.int .i64 0)).putObj D (.deferred none)).heap[w.heap.size + 1 + 1 + 1]? = some (.cells #[.int .i64 0] 35 (0, 0)) :=
      (World.putObj_heap_other (Ne.symm n7)).trans (heap_setCell_same _ _ 0 _ _ _ ((heap_setCell_other _ _ _ _ (by show w.heap.size + 1 + 1 + 1 ≠ w.heap.size + 1 + 1; omega)).trans HI.out.lb.b7))
    have xI : (((W.setCell ⟨w.heap.size + 1 + 1, 0, none⟩ (.slice (some ⟨Ib, 0, none⟩) q q)).setCell ⟨w.heap.size + 1 + 1 + 1, 0, none⟩ (.int .i64 0)).putObj D (.deferred none)).heap[Ib]? = some (.cells A 4 (0, 0)) :=
      (World.putObj_heap_other (Ne.symm nI)).trans ((heap_setCell_other _ _ _ _ (Ne.symm i7)).trans ((heap_setCell_other _ _ _ _ (Ne.symm i6)).trans hA))
    have xb : Below w.heap.size w (((W.setCell ⟨w.heap.size + 1 + 1, 0, none⟩ (.slice (some ⟨Ib, 0, none⟩) q q)).setCell ⟨w.heap.size + 1 + 1 + 1, 0, none⟩ (.int .i64 0)).putObj D (.deferred none)) :=
      ((HI.out.lb.bel.setCell (by show w.heap.size ≤ w.heap.size + 1 + 1; omega) _).setCell (by show w.heap.size ≤ w.heap.size + 1 + 1 + 1; omega) _).trans (belowK_b (w := w) (Nat.le_refl _) _ D _ _ (by omega) hk2 rfl rfl)
    generalize ((W.setCell ⟨w.heap.size + 1 + 1, 0, none⟩ (.slice (some ⟨Ib, 0, none⟩) q q)).setCell ⟨w.heap.size + 1 + 1 + 1, 0, none⟩ (.int .i64 0)).putObj D (.deferred none) = X at *
    have c6 : X.cell? ⟨w.heap.size + 1 + 1, 0, none⟩ = some (.slice (some ⟨Ib, 0, none⟩) q q) := ag_cell x6 0
    have c7 : X.cell? ⟨w.heap.size + 1 + 1 + 1, 0, none⟩ = some (.int .i64 0) := ag_cell x7 0
    refine ⟨_, res_cc (p := 6) (u := 7) rfl _ _ ⟨w.heap.size + 1 + 1, 0, none⟩ ⟨w.heap.size + 1 + 1 + 1, 0, none⟩ (.slice (some ⟨Ib, 0, none⟩) q q) (.int .i64 0) rfl rfl ?hx ?hy, ?_⟩
    case hx => simp [loadVar, go_sem, c6]
    case hy => simp [loadVar, go_sem, c7]
    obtain ⟨Bf, hBf⟩ : ∃ Bf : Nat → Bool, ∀ k, k < q → A[k]? = some (.bool (Bf k)) := ⟨fun k => if h : k < q then Classical.choose (hAb k h) else false, fun k hk => by
      simp only [dif_pos hk]
      exact Classical.choose_spec (hAb k hk)⟩
    have hAt : ∀ k, k < q → ∀ b, A[k]? = some (.bool b) → ((List.range q).map Bf).getD k false = b := fun k hk b hb => by
      rw [List.getD_eq_getElem?_getD, List.getElem?_map, List.getElem?_range hk]
      have h9 := (hBf k hk).symm.trans hb
      cases h9
      rfl
    refine ⟨Ib, (List.range q).map Bf, rfl, xb, by simp, fun _ => ⟨Ib, 0, rfl, (Array.getElem?_eq_some_iff.1 xI).1, fun j hj => ?_⟩, fun i n j h1 h2 => ?_⟩
    · have hj : j < q := by simpa using hj
      obtain ⟨b, hb⟩ := hAb j hj
      rw [hAt j hj b hb, Nat.zero_add, ag_cell xI]
      exact hb
    · obtain ⟨y, hy, hy2⟩ := elJ_all h1
      have h5 := hAr y (by rw [hS]; exact hy) j (by rw [hy2]; exact h2)
      rw [hy2] at h5
      have hj : j < q := by rw [← hAs]; exact (Array.getElem?_eq_some_iff.1 h5).1
      exact hAt j hj _ h5
  case stop =>
    rintro D c pre W _ _ h _
    exact h.elim
end Go.Proofs.Ytbkkdoehggkecaa
