import Derived.Test.YtkomadlmonhlhaaAgQ
import Derived.BigQuiet
namespace Go.Proofs.Ytkomadlmonhlhaa
open Go.ChangeShapes Go.WideShapes Go.ChangeAt Go.RowKit Go.Lib Go.Ag Go.WideMaps Go.Maps Go.ChangeMaps Go.Cn

/-- what a node is -/
def nodK (ns : Nds) (n : Nat) : Nat × (Nat × Nat) := if n = 0 then (0, (0, 0)) else match ns.getD (n - 1) none with
  | none => (1, (n - 1 - cntG ns (n - 1), 0))
  | some g => (2, g)
theorem and_u64 (a b : Nat) (ha : a < 18446744073709551616) (hb : b < 18446744073709551616) : bits .and .u64 (a : Int) (b : Int) = ((a &&& b : Nat) : Int) := by
  have hx : a &&& b < 18446744073709551616 := Nat.lt_of_le_of_lt Nat.and_le_left ha
  have e1 : ∀ c : Nat, c < 18446744073709551616 → (BitVec.ofInt 64 (c : Int)).toNat = c := fun c hc => by rw [BitVec.toNat_ofInt]; omega
  show IntKind.u64.wrap ((BitVec.ofInt 64 (a : Int) &&& BitVec.ofInt 64 (b : Int)).toNat : Int) = _
  rw [BitVec.toNat_and, e1 a ha, e1 b hb, IntKind.wrap_u64]
  omega
theorem and_pow (a r : Nat) : a &&& 2 ^ r = if a.testBit r then 2 ^ r else 0 := by
  apply Nat.eq_of_testBit_eq
  intro i
  rw [Nat.testBit_and, Nat.testBit_two_pow]
  by_cases e : r = i
  · subst e
    cases h : a.testBit r <;> simp
  · rw [decide_eq_false e, Bool.and_false]
    split
    · rw [Nat.testBit_two_pow, decide_eq_false e]
    · simp
theorem gatesC_at : ∀ (gs : List (Nat × Nat)) (i : Nat) (g : Nat × Nat), gs[i]? = some g → (gatesC gs)[i * 2]? = some (.int .u32 (g.1 : Int)) ∧ (gatesC gs)[i * 2 + 1]? = some (.int .u32 (g.2 : Int))
  | [], i, g, h => by simp at h
  | x :: gs, 0, g, h => by
    have e : x = g := by simpa using h
    subst e
    exact ⟨rfl, rfl⟩
  | x :: gs, i + 1, g, h => by
    have h2 := gatesC_at gs i g (by simpa using h)
    have e : gatesC (x :: gs) = gateC x ++ gatesC gs := rfl
    rw [e, List.getElem?_append_right (by simp [gateC]; omega), List.getElem?_append_right (by simp [gateC]; omega)]
    have e1 : (i + 1) * 2 - (gateC x).length = i * 2 := by simp [gateC]; omega
    have e2 : (i + 1) * 2 + 1 - (gateC x).length = i * 2 + 1 := by simp [gateC]; omega
    rw [e1, e2]
    exact h2
theorem box_set {W : World} {g : Nat} {t : TypeId} {u v x y : Value} (h : W.heap[g]? = some (.cells #[u, v] t (0, 0))) : ((W.setCell ⟨g, 0, none⟩ x).setCell ⟨g, 1, none⟩ y).heap[g]? = some (.cells #[x, y] t (0, 0)) := by
  have h1 : (W.setCell ⟨g, 0, none⟩ x).heap[g]? = some (.cells #[x, v] t (0, 0)) := by rw [heap_setCell_same _ g 0 _ _ _ h]; rfl
  rw [heap_setCell_same _ g 1 _ _ _ h1]
  rfl
theorem bel_set {w W : World} (h : Below w.heap.size w W) (i : Nat) (v : Value) : Below w.heap.size w (W.setCell ⟨w.heap.size, i, none⟩ v) :=
  ⟨h.os, h.tape, h.output, by have := h.size; simp; omega, fun k hk => (heap_setCell_other _ _ _ _ (fun e => by have e' : k = w.heap.size := e; omega)).trans (h.block k hk)⟩
theorem bel_drewN {w W : World} {n : Nat} (h : Below n w W) (k : Nat) : Below n w (W.drewN k) := ⟨h.os, h.tape, h.output, h.size, h.block⟩
theorem res_cell {P : Program} {fn : Func} {p u : Tmp} {ty : TypeId} (h : fn.results = #[.tmp u, .cell p ty]) (tmps : Array Value) (w : World) (g : Nat) (t : TypeId) (cs : Array Value) (fr : Nat × Nat) (d : TypeDesc) (x : Value)
    (hp : tmps.getD p undef = .pointer (some ⟨g, 0, none⟩)) (hg : w.heap[g]? = some (.cells cs t fr)) (hx : tmps.getD u undef = x)
    (hu : P.underlying ty = some d) (hd : (match d with | .struct _ | .array _ _ => true | _ => false) = true) (hi : (P.info? ty).map (·.size) = some cs.size) :
    (results fn tmps).run P w = .ok (.tuple #[x, .agg cs]) w := by
  simp only [results, h]
  simp [Sem.run_bind, Result.andThen]
  rw [show tmps[p]?.getD undef = tmps.getD p undef by simp, show tmps[u]?.getD undef = tmps.getD u undef by simp, hp, hx]
  simp [asAddr, run_loadVar_row w g t ty cs fr d hg hu hd hi]
theorem ag_bel1 (w : World) (o : Obj) : Below w.heap.size w (w.alloc o) := (Below.refl _ _).alloc (Nat.le_refl _) _
set_option maxHeartbeats 4000000 in
set_option maxRecDepth 100000 in
theorem node_any (w : World) {B R : Nat} {ns : Nds} {nb : Nat} {vb vg : Value} {M : Option Nat} {D : DataW Unit} (h : GM w B R ns nb vb vg M D) (n : Nat) (hn : n ≤ ns.length) :
    Calls Try.prog 66 #[.pointer (some ⟨R, 0, none⟩), .int .i64 (n : Int)] w fun e w' => e = .returned (.tuple #[.int .i64 ((nodK ns n).1 : Int), .agg #[.int .u32 ((nodK ns n).2.1 : Int), .int .u32 ((nodK ns n).2.2 : Int)]]) ∧ Below w.heap.size w w' := by
  have hlen := h.len
  have HH : Hid (GM w B R ns nb vb vg M D) := h
  obtain ⟨adb, capb, rfl, hadb⟩ := ag_form h.rb
  obtain ⟨adg, capg, rfl, hadg⟩ := ag_form h.rg
  have c1 : w.cell? ⟨R, 1, none⟩ = some (.slice adb nb capb) := ag_cell h.blk 1
  have c2 : w.cell? ⟨R, 2, none⟩ = some (.slice adg (gatesL ns).length capg) := ag_cell h.blk 2
  have hR : R < w.heap.size := (Array.getElem?_eq_some_iff.1 h.blk).1
  clear h
  by_cases hn0 : n = 0
  · subst hn0
    go_enter Try.func66, Try.ntmps66
    go_wp2_with fail
    refine bodyPost_ret (v := .tuple #[.int .i64 0, .agg #[.int .u32 0, .int .u32 0]]) (res_cell (p := 5) (u := 4) rfl _ _ w.heap.size 96 _ (0, 0) _ _ rfl (heap_alloc_new w _) rfl Try.underlying96 rfl (by kernel_rfl)) rfl ?_
    exact ⟨rfl, ag_bel1 _ _⟩
  have q0 : ((n : Int) == 0) = false := by simp; omega
  obtain ⟨p, rfl⟩ : ∃ p, n = p + 1 := ⟨n - 1, by omega⟩
  have hp : ((p + 1 : Nat) : Int) - 1 = (p : Int) := by omega
  obtain ⟨q, hq⟩ : ∃ q, p / 64 = q := ⟨_, rfl⟩
  have hdv : (p : Int) / 64 = (q : Int) := by omega
  have HQ : Hid (p / 64 = q) := hq
  clear hq
  obtain ⟨gl, hgl⟩ : ∃ gl, (gatesL ns).length = gl := ⟨_, rfl⟩
  have HGL : Hid ((gatesL ns).length = gl) := hgl
  rw [hgl] at c2
  clear hgl
  have hxx : nodK ns (p + 1) = match ns.getD p none with
    | none => (1, (p - cntG ns p, 0))
    | some g => (2, g) := rfl
  by_cases hc : nb ≤ q
  · have q1 : (nb : Int) ≤ (q : Int) := by omega
    have hz : ns.getD p none = none := HH.out.cov p (by have := HQ.out; omega)
    have hcg : cntG ns p = gl := by rw [cntG_cov ns p (fun p' hp' => HH.out.cov p' (by have := HQ.out; omega)), HGL.out]
    rw [hz, hcg] at hxx
    have hgp : gl ≤ p := by
      rw [← hcg]
      exact Nat.le_trans (gatesL_le _) (by rw [List.length_take]; omega)
    have hw1 : IntKind.i64.wrap ((p : Int) - (gl : Int)) = ((p - gl : Nat) : Int) := by rw [IntKind.wrap_i64]; omega
    have hw2 : IntKind.u32.wrap ((p - gl : Nat) : Int) = ((p - gl : Nat) : Int) := by rw [IntKind.wrap_u32]; omega
    rw [hxx]
    clear hcg hz
    generalize p - gl = pg at *
    go_enter Try.func66, Try.ntmps66
    go_wp2_with fail
    go_region
    go_wp2_with fail
    refine bodyPost_ret (v := .tuple #[.int .i64 1, .agg #[.int .u32 (pg : Int), .int .u32 0]]) (res_cell (p := 5) (u := 4) rfl _ _ w.heap.size 96 _ (0, 0) _ _ rfl (show (w.alloc (.cells #[.int .u32 (pg : Int), .int .u32 0] 96)).heap[w.heap.size]? = _ from heap_alloc_new w _) rfl Try.underlying96 rfl (by kernel_rfl)) rfl ?_
    exact ⟨rfl, (ag_bel1 _ _).drew⟩
  have q1 : ¬ (nb : Int) ≤ (q : Int) := by omega
  have hqn : q < nb := by omega
  obtain ⟨bb, rfl⟩ : ∃ b, adb = some ⟨b, 0, none⟩ := hadb (by omega)
  obtain ⟨BB, hBB⟩ : ∃ BB, bitsB ns q 64 = BB := ⟨_, rfl⟩
  obtain ⟨AH, hAH⟩ : ∃ AH, cntG ns (64 * q) = AH := ⟨_, rfl⟩
  have HBA : Hid (bitsB ns q 64 = BB ∧ cntG ns (64 * q) = AH ∧ BB < 18446744073709551616) := ⟨hBB, hAH, by rw [← hBB]; exact bitsB_lt ns q 64⟩
  have hg2 : ∀ i, i < 2 → (blksC ns nb)[q * 2 + i]? = (blkC ns q)[i]? := by
    intro i hi
    have e1 : ∀ m, q < m → (blksC ns m)[q * 2 + i]? = (blkC ns q)[i]? := by
      intro m hm
      induction m with
      | zero => omega
      | succ m ih =>
        rw [blksC_succ]
        by_cases e : q = m
        · subst e
          rw [List.getElem?_append_right (by rw [blksC_len]; omega), blksC_len]
          congr 1
          omega
        · rw [List.getElem?_append_left (by rw [blksC_len]; omega)]
          exact ih (by omega)
    exact e1 nb hqn
  have b0 : w.cell? ⟨bb, q * 2, none⟩ = some (.int .u64 (BB : Int)) := by
    have := HH.out.rb.cellAt (q * 2 + 0) (by omega)
    rw [hg2 0 (by omega)] at this
    rw [← hBB]
    exact this
  have b1 : w.cell? ⟨bb, q * 2 + 1, none⟩ = some (.int .i64 (AH : Int)) := by
    rw [HH.out.rb.cellAt (q * 2 + 1) (by omega), hg2 1 (by omega), ← hAH]
    rfl
  have hbb : bb < w.heap.size := (HH.out.rb.lt bb rfl).2
  clear hBB hAH hg2
  obtain ⟨rm, hrm2⟩ : ∃ rm, p % 64 = rm := ⟨_, rfl⟩
  have hrm : (p : Int) % 64 = (rm : Int) := by omega
  have hrl : rm < 64 := by omega
  have HRM : Hid (p % 64 = rm) := hrm2
  clear hrm2
  obtain ⟨P2, hP2⟩ : ∃ P2, 2 ^ rm = P2 := ⟨_, rfl⟩
  have HP2 : Hid (2 ^ rm = P2 ∧ 0 < P2 ∧ P2 < 18446744073709551616) := ⟨hP2, by rw [← hP2]; exact Nat.pow_pos (by decide), by rw [← hP2]; exact Nat.lt_of_lt_of_le (Nat.pow_lt_pow_right (by decide) hrl) (by decide)⟩
  have hsh : IntKind.u64.wrap ((2 : Int) ^ rm) = (P2 : Int) := by
    have e1 : ((2 : Int) ^ rm) = ((2 ^ rm : Nat) : Int) := by simp
    rw [e1, hP2, IntKind.wrap_u64]
    have := HP2.out
    omega
  have hs1 : IntKind.u64.wrap ((P2 : Int) - 1) = ((P2 - 1 : Nat) : Int) := by
    have := HP2.out
    rw [IntKind.wrap_u64]
    omega
  clear hP2
  obtain ⟨P3, hP3⟩ : ∃ P3, P2 - 1 = P3 := ⟨_, rfl⟩
  rw [hP3] at hs1
  have HP3 : Hid (P2 - 1 = P3) := hP3
  clear hP3
  have hpq : 64 * q + rm = p := by have := HQ.out; have := HRM.out; omega
  have hand : bits .and .u64 (BB : Int) (P3 : Int) = ((BB &&& P3 : Nat) : Int) := and_u64 _ _ HBA.out.2.2 (by have := HP3.out; have := HP2.out; omega)
  have hand2 : bits .and .u64 (BB : Int) (P2 : Int) = ((BB &&& P2 : Nat) : Int) := and_u64 _ _ HBA.out.2.2 HP2.out.2.2
  obtain ⟨G, hG⟩ : ∃ G, cntG ns p = G := ⟨_, rfl⟩
  have HSM : Hid (AH + pc 64 (BB &&& P3) = G) := by
    have h5 := ones_block ns q rm (by omega)
    rw [hpq, HBA.out.1, HBA.out.2.1, HP2.out.1, HP3.out, hG] at h5
    exact h5
  have hGp : G ≤ p := by
    rw [← hG]
    exact Nat.le_trans (gatesL_le _) (by rw [List.length_take]; omega)
  have HTB : Hid (BB &&& P2 = if (ns.getD p none).isSome then P2 else 0) := by
    have h6 := bitsB_bit ns q 64 rm hrl
    rw [hpq, HBA.out.1] at h6
    rw [← HP2.out.1]
    show _ = _
    rw [and_pow, h6]
  obtain ⟨r3, hr3⟩ : ∃ r3, BB &&& P3 = r3 := ⟨_, rfl⟩
  obtain ⟨r4, hr4⟩ : ∃ r4, BB &&& P2 = r4 := ⟨_, rfl⟩
  rw [hr3] at hand HSM
  rw [hr4] at hand2 HTB
  obtain ⟨PC, hPC⟩ : ∃ PC, pc 64 r3 = PC := ⟨_, rfl⟩
  rw [hPC] at HSM
  have HON : Hid (∀ W, Calls Try.prog 82 #[.int .u64 (r3 : Int)] W fun e w' => e = .returned (.int .i64 (PC : Int)) ∧ w' = W) := fun W => by
    have h7 := ones_any r3 (by rw [← hr3]; exact Nat.lt_of_le_of_lt Nat.and_le_left HBA.out.2.2) W
    rw [hPC] at h7
    exact h7
  have hsum : IntKind.i64.wrap ((AH : Int) + (PC : Int)) = (G : Int) := by
    have := HSM.out
    rw [IntKind.wrap_i64]
    omega
  have hw1 : IntKind.i64.wrap ((p : Int) - (G : Int)) = ((p - G : Nat) : Int) := by rw [IntKind.wrap_i64]; omega
  have hw2 : IntKind.u32.wrap ((p - G : Nat) : Int) = ((p - G : Nat) : Int) := by rw [IntKind.wrap_u32]; omega
  have HG : Hid (cntG ns p = G) := hG
  have HPQ : Hid (64 * q + rm = p) := hpq
  clear hr3 hr4 hPC hG hpq
  go_enter Try.func66, Try.ntmps66
  go_wp2_with fail
  go_region
  go_wp2_with fail
  have HB2 : Hid (Below w.heap.size w (((w.alloc (.cells #[.int .u32 0, .int .u32 0] 96)).alloc (.cells #[.int .u64 (BB : Int), .int .i64 (AH : Int)] 153)).drew) ∧ (((w.alloc (.cells #[.int .u32 0, .int .u32 0] 96)).alloc (.cells #[.int .u64 (BB : Int), .int .i64 (AH : Int)] 153)).drew).heap[w.heap.size]? = some (.cells #[.int .u32 0, .int .u32 0] 96 (0, 0)) ∧ (((w.alloc (.cells #[.int .u32 0, .int .u32 0] 96)).alloc (.cells #[.int .u64 (BB : Int), .int .i64 (AH : Int)] 153)).drew).heap[w.heap.size + 1]? = some (.cells #[.int .u64 (BB : Int), .int .i64 (AH : Int)] 153 (0, 0))) := by
    refine ⟨((ag_bel1 w _).alloc (by simp) _).drew, ?_, ?_⟩
    · exact (Below.heap_alloc _ _ _ (by simp)).trans (heap_alloc_new w _)
    · have := heap_alloc_new (w.alloc (.cells #[.int .u32 0, .int .u32 0] 96)) (.cells #[.int .u64 (BB : Int), .int .i64 (AH : Int)] 153)
      have e9 : (w.alloc (.cells #[.int .u32 0, .int .u32 0] 96)).heap.size = w.heap.size + 1 := by simp
      rw [e9] at this
      exact this
  generalize ((w.alloc (.cells #[.int .u32 0, .int .u32 0] 96)).alloc (.cells #[.int .u64 (BB : Int), .int .i64 (AH : Int)] 153)).drew = W2 at *
  have k0 : W2.cell? ⟨w.heap.size + 1, 0, none⟩ = some (.int .u64 (BB : Int)) := ag_cell HB2.out.2.2 0
  have k1 : W2.cell? ⟨w.heap.size + 1, 1, none⟩ = some (.int .i64 (AH : Int)) := ag_cell HB2.out.2.2 1
  have c2' : W2.cell? ⟨R, 2, none⟩ = some (.slice adg gl capg) := (World.cell?_of_block (w := w) (HB2.out.1.block R hR)).trans c2
  have g0 : W2.cell? ⟨w.heap.size, 0, none⟩ = some (.int .u32 0) := ag_cell HB2.out.2.1 0
  have g1 : W2.cell? ⟨w.heap.size, 1, none⟩ = some (.int .u32 0) := ag_cell HB2.out.2.1 1
  have z0 : W2.frozen? ⟨w.heap.size, 0, none⟩ = false := ag_fz HB2.out.2.1 0
  have z1 : W2.frozen? ⟨w.heap.size, 1, none⟩ = false := ag_fz HB2.out.2.1 1
  go_big_quiet ((go_at_call 82; exact Calls.quiet_of_same (HON.out _)))
  cases hgt : ns.getD p none with
  | none =>
    rw [hgt] at hxx HTB
    rw [HG.out] at hxx
    have hz4 : r4 = 0 := HTB.out
    subst hz4
    generalize p - G = pg at *
    have HXX : Hid (nodK ns (p + 1) = (1, (pg, 0))) := hxx
    clear hxx
    go_wp2_with fail
    all_goals
      (refine bodyPost_ret (v := .tuple #[.int .i64 1, .agg #[.int .u32 (pg : Int), .int .u32 0]]) (res_cell (p := 5) (u := 4) rfl _ _ w.heap.size 96 _ (0, 0) _ _ rfl (box_set (W := W2.drewN _) (x := .int .u32 (pg : Int)) (y := .int .u32 0) HB2.out.2.1) rfl Try.underlying96 rfl (by kernel_rfl)) rfl ?_
       exact ⟨by rw [HXX.out]; rfl, bel_set (bel_set (bel_drewN HB2.out.1 _) 0 _) 1 _⟩)
  | some g =>
    rw [hgt] at hxx HTB
    obtain ⟨g1', g2'⟩ := g
    have hz4 : r4 = P2 := HTB.out
    have q4 : ((r4 : Int) == 0) = false := by have := HP2.out; simp; omega
    have hga : (gatesL ns)[G]? = some (g1', g2') := by
      have h8 := gate_at ns p (g1', g2') (by omega) (by
        rw [List.getD_eq_getElem?_getD, List.getElem?_eq_getElem (by omega)] at hgt
        exact hgt)
      rw [HG.out] at h8
      exact h8
    have hGl : G < gl := by
      rw [← HGL.out]
      exact (List.getElem?_eq_some_iff.1 hga).1
    obtain ⟨gb, rfl⟩ : ∃ b, adg = some ⟨b, 0, none⟩ := hadg (by rw [HGL.out]; omega)
    have hrg := HH.out.rg
    have hgbl : gb < w.heap.size := (hrg.lt gb rfl).2
    have hgc := gatesC_at _ _ _ hga
    have m0 : W2.cell? ⟨gb, G * 2, none⟩ = some (.int .u32 (g1' : Int)) := (World.cell?_of_block (w := w) (HB2.out.1.block gb hgbl)).trans ((hrg.cellAt (G * 2) (by rw [HGL.out]; omega)).trans hgc.1)
    have m1 : W2.cell? ⟨gb, G * 2 + 1, none⟩ = some (.int .u32 (g2' : Int)) := (World.cell?_of_block (w := w) (HB2.out.1.block gb hgbl)).trans ((hrg.cellAt (G * 2 + 1) (by rw [HGL.out]; omega)).trans hgc.2)
    have qG : (G : Int) < (gl : Int) := by omega
    have HXX : Hid (nodK ns (p + 1) = (2, (g1', g2'))) := hxx
    clear hxx hgt hga hrg hgc hz4
    go_wp2_with fail
    go_region
    go_wp2_with fail
    all_goals
      (refine bodyPost_ret (v := .tuple #[.int .i64 2, .agg #[.int .u32 (g1' : Int), .int .u32 (g2' : Int)]]) (res_cell (p := 5) (u := 4) rfl _ _ w.heap.size 96 _ (0, 0) _ _ rfl (box_set (W := W2.drewN _) (x := .int .u32 (g1' : Int)) (y := .int .u32 (g2' : Int)) HB2.out.2.1) rfl Try.underlying96 rfl (by kernel_rfl)) rfl ?_
       exact ⟨by rw [HXX.out]; rfl, bel_set (bel_set (bel_drewN HB2.out.1 _) 0 _) 1 _⟩)
end Go.Proofs.Ytkomadlmonhlhaa
