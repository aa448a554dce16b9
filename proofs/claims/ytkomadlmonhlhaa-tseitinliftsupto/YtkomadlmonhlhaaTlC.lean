import Derived.RangeFuncNested
import Derived.RangeFuncBound
import Derived.RangeFuncCalls
import Derived.RangeFuncLeaves
import Derived.Shelf.Abstract
import Derived.Shelf.RegionOpen
import Derived.WalkKit
import Derived.OwnWalkIn
import Derived.TacticsInMore
import Derived.LoopNIn
import Derived.LoopIn
import Derived.Test.YtkomadlmonhlhaaTsV
import Derived.Test.YtkomadlmonhlhaaTsP
import Derived.Test.YtkomadlmonhlhaaTsX
import Derived.Test.YtkomadlmonhlhaaTgL
import Derived.Test.YtkomadlmonhlhaaRows
import Derived.OrdersHeld
import Derived.OrdersIn
import Derived.Deep.RegionHeld
namespace Go.Proofs.Ytkomadlmonhlhaa
open Go.ChangeShapes Go.WideShapes Go.ChangeAt Go.RowKit Go.Lib Go.Ag Go.WideMaps Go.Maps Go.ChangeMaps Go.Cn Go.Shelf
attribute [local go_sem] Oper.semAt_some

/-- a gate as it is handed to a round: its place, and that it may be -/
abbrev IY1 (N : Nat) (m : List Int) := { p : Nat × Int // 0 < N → m[p.1]? = some p.2 }
def encY {N : Nat} {m : List Int} (x : IY1 N m) : Array Value := #[.int .i64 (x.1.1 : Int), .int .i64 x.1.2]
/-- what has come when k rounds are over -/
def bwY {N : Nat} {m : List Int} (el : Nat → IY1 N m) (k : Nat) : List (IY1 N m) := (List.range k).map el
theorem bwY_succ {N : Nat} {m : List Int} (el : Nat → IY1 N m) (k : Nat) : bwY el (k + 1) = bwY el k ++ [el k] := by simp [bwY, List.range_succ]
theorem bwY_len {N : Nat} {m : List Int} (el : Nat → IY1 N m) (k : Nat) : (bwY el k).length = k := by simp [bwY]
set_option maxRecDepth 100000 in
set_option maxHeartbeats 4000000 in
theorem bwy1_in (F : Fence) (n : Nat) (h7 : F.fn 65) (hro : F.round = none) (hn : 1 ≤ n) (l Bs H Mb b off len cap : Nat) {N : Nat} {m : List Int} (el : Nat → IY1 N m) (hreach : len ≤ 1000000000) (hb : b < H ∧ b ≠ Mb) (hBs : Bs < H ∧ Bs ≠ Mb) (J Jx : List (IY1 N m) → World → Prop)
    (hY : ∀ pre x W, J pre W → pre.length < len → YieldAt F (n - 1) Try.prog l (encY x) W fun e W' =>
      (e = .returned (.bool true) ∧ J (pre ++ [x]) W' ∧ KB H Mb W W') ∨ (e = .returned (.bool false) ∧ Jx (pre ++ [x]) W'))
    (W : World) (hc0 : W.cell? ⟨Bs, 0, none⟩ = some (.slice (some ⟨b, off, none⟩) len cap)) (hel : ∀ j, j < len → (el j).1.1 = len - 1 - j)
    (hc : ∀ j, j < len → W.cell? ⟨b, off + (len - 1 - j), none⟩ = some (.int .i64 (el j).1.2)) (h0 : J [] W) :
    CallsIn F n Try.prog 65 #[.func (.yield l) #[] #[], .pointer (some ⟨Bs, 0, none⟩)] W fun e W' => (∃ v, e = .returned v) ∧
      ((∃ ys, ys = bwY el len ∧ J ys W') ∨ (∃ pre, (∃ k, k ≤ len ∧ pre = bwY el k) ∧ Jx pre W')) := by
  refine callsIn_of_wp Try.func65 rfl h7 ?_ hro
  simp only [Try.ntmps65, List.size_toArray, List.length_cons, List.length_nil, Nat.reduceAdd, Nat.reduceSub, Array.replicate_succ, Array.replicate_zero, List.push_toArray, List.append_toArray, List.nil_append, List.cons_append]
  gi_wp2
  gi_loopw [3] (fun i wr => ∃ k : Nat, k ≤ len ∧ i = .int .i64 ((len : Int) - 1 - k) ∧ J (bwY el k) wr ∧ KB H Mb W wr)
    (fun i _ => (intOf i + 1).toNat)
  case atStart => exact ⟨0, Nat.zero_le _, by simp, h0, fun _ _ _ => rfl⟩
  case round =>
    obtain ⟨k, hk, rfl, hJs, hnx⟩ := hrel
    by_cases hlt : k < len
    · have q0 : (0 : Int) ≤ (len : Int) - 1 - k := by omega
      obtain ⟨p, hp⟩ : ∃ p, len - 1 - k = p := ⟨_, rfl⟩
      have hpi : (len : Int) - 1 - k = (p : Int) := by omega
      have hcx := hc k hlt
      rw [hp] at hcx
      have kc : ∀ i, W.cell? ⟨b, i, none⟩ = wr.cell? ⟨b, i, none⟩ := fun i => (World.cell?_of_block (w := W) (w' := wr) (a := ⟨b, i, none⟩) (hnx b hb.1 hb.2)).symm
      rw [kc] at hcx
      have hs0 : wr.cell? ⟨Bs, 0, none⟩ = some (.slice (some ⟨b, off, none⟩) len cap) := (World.cell?_of_block (w := W) (w' := wr) (a := ⟨Bs, 0, none⟩) (hnx Bs hBs.1 hBs.2)).trans hc0
      obtain ⟨fn, tmps, assign, body, hy, hR⟩ := hY _ (el k) wr hJs (by rw [bwY_len]; exact hlt)
      have he1 := hel k hlt
      rw [hp] at he1
      unfold encY at hy
      rw [he1] at hy
      rw [hpi]
      have hpl : p < len := by omega
      gi_wp2
      refine hR.mono ?_
      rintro e W3 (⟨rfl, hJ3, hk3⟩ | ⟨rfl, hJx3⟩)
      · gi_wp2
        go_roundw
        case rel => exact ⟨k + 1, by omega, by first | (simp; omega) | simp, by rw [bwY_succ]; exact hJ3, hnx.t hk3⟩
        case measure => first | (simp [intOf]; omega) | simp [intOf]
      · gi_wp2
        refine bodyPost_ret (results_none rfl _ _ _) rfl ?_
        exact ⟨⟨_, rfl⟩, .inr ⟨_, ⟨k + 1, by omega, (bwY_succ _ _).symm⟩, hJx3⟩⟩
    · obtain rfl : k = len := by omega
      have q0 : ¬ (0 : Int) ≤ (k : Int) - 1 - k := by omega
      gi_wp2
      go_end0
      exact ⟨⟨_, rfl⟩, .inl hJs⟩
set_option maxRecDepth 100000 in
set_option maxHeartbeats 4000000 in
theorem bwy1_nil (F : Fence) (n : Nat) (h7 : F.fn 65) (hro : F.round = none) (l Bs cap : Nat) (ad : Option Addr) {N : Nat} {m : List Int} (J : List (IY1 N m) → World → Prop) (W : World) (hc0 : W.cell? ⟨Bs, 0, none⟩ = some (.slice ad 0 cap)) (h0 : J [] W) :
    CallsIn F n Try.prog 65 #[.func (.yield l) #[] #[], .pointer (some ⟨Bs, 0, none⟩)] W fun e W' => (∃ v, e = .returned v) ∧ J [] W' := by
  refine callsIn_of_wp Try.func65 rfl h7 ?_ hro
  simp only [Try.ntmps65, List.size_toArray, List.length_cons, List.length_nil, Nat.reduceAdd, Nat.reduceSub, Array.replicate_succ, Array.replicate_zero, List.push_toArray, List.append_toArray, List.nil_append, List.cons_append]
  gi_wp2
  gi_loopw [3] (fun i wr => i = .int .i64 (-1) ∧ J [] wr) (fun _ _ => 0)
  case atStart => exact ⟨by simp, h0⟩
  case round =>
    obtain ⟨rfl, hJs⟩ := hrel
    gi_wp2
    go_end0
    exact ⟨⟨_, rfl⟩, hJs⟩
theorem bwy_in (F : Fence) (n : Nat) (h5 : F.fn 38) (hro : F.round = none) (a : Option Addr) (len cap : Nat) (w : World) :
    CallsIn F n Try.prog 38 #[.slice a len cap] w fun e w' => e = .returned (.func (.func 65) #[] #[.pointer (some ⟨w.heap.size, 0, none⟩)]) ∧ w' = w.alloc (.cells #[.slice a len cap] 23) := by
  refine callsIn_of_wp Try.func38 rfl h5 ?_ hro
  simp only [Try.ntmps38, List.size_toArray, List.length_cons, List.length_nil, Nat.reduceAdd, Nat.reduceSub, Array.replicate_succ, Array.replicate_zero, List.push_toArray, List.append_toArray, List.nil_append, List.cons_append]
  gi_wp2
  go_ret
  exact ⟨rfl, rfl⟩
/-- the nodes, the last one first -/
def elY (gs : List Int) (j : Nat) : IY1 gs.length gs := ⟨(gs.length - 1 - j, gs.getD (gs.length - 1 - j) 0), fun h => by
  rw [List.getD_eq_getElem?_getD, List.getElem?_eq_getElem (by show gs.length - 1 - j < gs.length; omega)]
  rfl⟩
theorem elY_all {gs : List Int} {i : Nat} {n : Int} (h : gs[i]? = some n) : ∃ x ∈ bwY (elY gs) gs.length, x.1 = (i, n) := by
  have hi := (List.getElem?_eq_some_iff.1 h).1
  refine ⟨elY gs (gs.length - 1 - i), List.mem_map.2 ⟨gs.length - 1 - i, List.mem_range.2 (by omega), rfl⟩, ?_⟩
  show (gs.length - 1 - (gs.length - 1 - i), gs.getD (gs.length - 1 - (gs.length - 1 - i)) 0) = (i, n)
  rw [show gs.length - 1 - (gs.length - 1 - i) = i by omega, List.getD_eq_getElem?_getD, h]
  rfl
/-- slices.Backward's value: all gates, the last one first -/
theorem bwy_stops (F : Fence) (n : Nat) (h7 : F.fn 65) (hro : F.round = none) (hn : 1 ≤ n) (Bs Mb : Nat) (aG : Option Addr) (gs : List Int) (cG : Nat) (hlen : gs.length ≤ 1000000000) (w : World) (hBs : Bs < w.heap.size ∧ Bs ≠ Mb) (hG : Is w aG gs) (hne : 0 < gs.length → ∀ b off, aG = some ⟨b, off, none⟩ → b ≠ Mb) (hc : w.cell? ⟨Bs, 0, none⟩ = some (.slice aG gs.length cG)) :
    SeqStopsK F n Try.prog 65 #[.pointer (some ⟨Bs, 0, none⟩)] (encY (N := gs.length) (m := gs)) (KB w.heap.size Mb) (fun ys => ys = bwY (elY gs) gs.length) (fun _ => True) gs.length w := fun l J Jx W hW _ _ hY h0 => by
  have hc' := (hW.cell (p := ⟨Bs, 0, none⟩) hBs.1).trans hc
  by_cases h0l : 0 < gs.length
  · obtain ⟨b, off, rfl, hb, hcc⟩ := hG h0l
    refine (bwy1_in F n h7 hro hn l Bs w.heap.size Mb b off gs.length cG (elY gs) hlen ⟨hb, hne h0l b off rfl⟩ hBs J Jx hY W hc' (fun j _ => rfl) (fun j hj => ?_) h0).mono ?_
    · exact (hW.cell (p := ⟨b, _, none⟩) hb).trans (hcc (gs.length - 1 - j) (by omega))
    · rintro e W' ⟨he, ⟨ys, rfl, hj⟩ | ⟨pre, _, hj⟩⟩
      · exact ⟨he, .inl ⟨_, rfl, hj⟩⟩
      · exact ⟨he, .inr ⟨pre, trivial, hj⟩⟩
  · have e0 : gs.length = 0 := by omega
    rw [e0] at hc'
    refine (bwy1_nil F n h7 hro l Bs cG aG J W hc' h0).mono ?_
    rintro e W' ⟨he, hj⟩
    refine ⟨he, .inl ⟨_, rfl, ?_⟩⟩
    have e9 : bwY (elY gs) gs.length = [] := List.eq_nil_of_length_eq_zero (by rw [bwY_len]; exact e0)
    rw [e9]
    exact hj
end Go.Proofs.Ytkomadlmonhlhaa
namespace Go.Proofs.Ytkomadlmonhlhaa
open Go.ChangeShapes Go.WideShapes Go.ChangeAt Go.RowKit Go.Lib Go.Ag Go.WideMaps Go.Maps Go.ChangeMaps Go.Cn

theorem clit_ok (l : Int) (w : World) (h : l ≠ 0 ∧ -1048576 ≤ l ∧ l ≤ 1048576) : Calls Try.prog 67 #[.int .i64 l] w fun e w' => e = .returned (.bool true) ∧ w' = w := by
  obtain ⟨h0, h1, h2⟩ := h
  have q0 : (l != 0) = true := by simp; omega
  have q1 : decide ((-1048576 : Int) ≤ l) = true := by simp; omega
  have q2 : decide (l ≤ (1048576 : Int)) = true := by simp; omega
  go_enter Try.func67, Try.ntmps67
  go_wp2_with fail
  first | exact ⟨rfl, rfl⟩ | (go_ret; exact ⟨rfl, rfl⟩)
theorem cvar_ok (q : Nat) (w : World) (h : q < 1048576) : Calls Try.prog 68 #[.int .i64 ((q : Int) + 1)] w fun e w' => e = .returned (.int .i64 ((q : Int) + 1)) ∧ w' = w := by
  have q1 : ¬ (q : Int) + 1 < 0 := by omega
  go_enter Try.func68, Try.ntmps68
  go_wp2_with fail
  first | exact ⟨rfl, rfl⟩ | (go_ret; exact ⟨rfl, rfl⟩)
/-- what an assignment says of a variable -/
def ofV (ms : List Int) (i : Nat) : Int := if i < ms.length ∧ (ms.getD i 0 = 1 ∨ ms.getD i 0 = -1) then ms.getD i 0 else 0
def ofB (ms : List Int) (i : Nat) : Bool := decide (i < ms.length ∧ ms.getD i 0 = 1)
theorem ofV_eq (ms : List Int) (i : Nat) : (ofV ms i == 1) = ofB ms i := by
  unfold ofV ofB
  by_cases h : i < ms.length
  · by_cases h1 : ms.getD i 0 = 1
    · rw [if_pos ⟨h, Or.inl h1⟩, h1]; simp [h]
    · by_cases h2 : ms.getD i 0 = -1
      · rw [if_pos ⟨h, Or.inr h2⟩, h2]; simp
      · rw [if_neg (by rintro ⟨_, h3 | h3⟩ <;> contradiction), decide_eq_false (by rintro ⟨_, h3⟩; exact h1 h3)]; rfl
  · rw [if_neg (by rintro ⟨h3, _⟩; exact h h3), decide_eq_false (by rintro ⟨h3, _⟩; exact h h3)]; rfl
theorem cof_any (ad : Option Addr) (ms : List Int) (c q : Nat) (w : World) (h : I8s w ad ms) (hq : q < 1048576) :
    Calls Try.prog 40 #[.slice ad ms.length c, .int .i64 ((q : Int) + 1)] w fun e w' => e = .returned (.int .i8 (ofV ms q)) ∧ w' = w := by
  have HLi : Hid (∀ W, Calls Try.prog 67 #[.int .i64 ((q : Int) + 1)] W fun e w' => e = .returned (.bool true) ∧ w' = W) := fun W => clit_ok _ W (by omega)
  have HVa : Hid (∀ W, Calls Try.prog 68 #[.int .i64 ((q : Int) + 1)] W fun e w' => e = .returned (.int .i64 ((q : Int) + 1)) ∧ w' = W) := fun W => cvar_ok q W (by omega)
  have q8 : IntKind.i64.wrap ((q : Int) + 1 - 1) = (q : Int) := by rw [IntKind.wrap_i64]; omega
  have q9 : ¬ (q : Int) + 1 < 0 := by omega
  have q6 : (q : Int) + 1 - 1 = (q : Int) := by omega
  by_cases hqn : q < ms.length
  · obtain ⟨b, off, rfl, hb, hc⟩ := h (by omega)
    have hcq := hc q hqn
    unfold ofV
    generalize ms.getD q 0 = x at *
    clear hc h
    generalize ms.length = n at *
    have q7 : (q : Int) < (n : Int) := by omega
    have hd : decide ((n : Int) < (q : Int) + 1) = false := by simp; omega
    have q5 : ¬ (n : Int) < (q : Int) + 1 := by omega
    by_cases hx : x = 1 ∨ x = -1
    · rw [if_pos ⟨hqn, hx⟩]
      rcases hx with rfl | rfl
      all_goals (
        go_enter Try.func40, Try.ntmps40
        go_wp2_with fail
        refine (HLi.out _).mono ?_
        rintro e w' ⟨rfl, hw⟩
        obtain rfl := hw.symm
        go_wp2_with fail
        refine (HVa.out _).mono ?_
        rintro e w' ⟨rfl, hw⟩
        obtain rfl := hw.symm
        go_wp2_with fail
        go_ret
        exact ⟨rfl, rfl⟩)
    · rw [if_neg (fun h => hx h.2)]
      have x1 : (x != 1) = true := by simp; exact fun e => hx (Or.inl e)
      have x2 : (x != -1) = true := by simp; exact fun e => hx (Or.inr e)
      clear hx
      go_enter Try.func40, Try.ntmps40
      go_wp2_with fail
      refine (HLi.out _).mono ?_
      rintro e w' ⟨rfl, hw⟩
      obtain rfl := hw.symm
      go_wp2_with fail
      refine (HVa.out _).mono ?_
      rintro e w' ⟨rfl, hw⟩
      obtain rfl := hw.symm
      go_wp2_with fail
      go_ret
      exact ⟨rfl, rfl⟩
  · have hv : ofV ms q = 0 := by unfold ofV; rw [if_neg (by rintro ⟨h3, _⟩; exact hqn h3)]
    rw [hv]
    generalize ms.length = n at *
    have hd : decide ((n : Int) < (q : Int) + 1) = true := by simp; omega
    have q5 : (n : Int) < (q : Int) + 1 := by omega
    clear hv h
    go_enter Try.func40, Try.ntmps40
    go_wp2_with fail
    refine (HLi.out _).mono ?_
    rintro e w' ⟨rfl, hw⟩
    obtain rfl := hw.symm
    go_wp2_with fail
    refine (HVa.out _).mono ?_
    rintro e w' ⟨rfl, hw⟩
    obtain rfl := hw.symm
    go_wp2_with fail
    go_ret
    exact ⟨rfl, rfl⟩
/-- a number that is no node's -/
theorem Node_no (w : World) {B R : Nat} {ns : Nds} {nb : Nat} {vb vg : Value} {M : Option Nat} {D : DataW Unit} (h : GM w B R ns nb vb vg M D) (n : Int) (hn : n < 0 ∨ (ns.length : Int) < n) :
    Calls Try.prog 39 #[.pointer (some ⟨R, 0, none⟩), .int .i64 n] w fun e w' => e = .returned (.tuple #[.int .i64 0, .agg #[.int .u32 0, .int .u32 0], .int .i64 100]) ∧ Below w.heap.size w w' := by
  obtain ⟨w1, hw1⟩ : ∃ w1, w.alloc (.cells #[.int .u32 0, .int .u32 0] 96) = w1 := ⟨_, rfl⟩
  have HB1 : Hid (Below w.heap.size w w1 ∧ w1.heap[w.heap.size]? = some (.cells #[.int .u32 0, .int .u32 0] 96 (0, 0))) := by
    rw [← hw1]; exact ⟨ag_bel1 _ _, heap_alloc_new _ _⟩
  have c0 : w1.cell? ⟨R, 0, none⟩ = some (.int .i64 (ns.length : Int)) := ag_cell (h.over HB1.out.1).blk 0
  clear h
  generalize ns.length = nl at *
  have d0 : w1.cell? ⟨w.heap.size, 0, none⟩ = some (.int .u32 0) := ag_cell HB1.out.2 0
  have d1 : w1.cell? ⟨w.heap.size, 1, none⟩ = some (.int .u32 0) := ag_cell HB1.out.2 1
  have f0 : w1.frozen? ⟨w.heap.size, 0, none⟩ = false := ag_fz HB1.out.2 0
  have f1 : w1.frozen? ⟨w.heap.size, 1, none⟩ = false := ag_fz HB1.out.2 1
  by_cases hx0 : n < 0
  · have r1 : decide (n < 0) = true := by simp; omega
    go_enter Try.func39, Try.ntmps39
    go_wp2_with fail
    refine bodyPost_ret (v := .tuple #[.int .i64 0, .agg #[.int .u32 0, .int .u32 0], .int .i64 100]) (res_cell3 (u := 4) (p := 5) (v := 6) rfl _ _ w.heap.size 96 _ (0, 0) _ _ _ rfl (box_set (x := .int .u32 0) (y := .int .u32 0) HB1.out.2) rfl rfl Try.underlying96 rfl (by kernel_rfl)) rfl ?_
    exact ⟨rfl, bel_set (bel_set HB1.out.1 0 _) 1 _⟩
  · have r1 : decide (n < 0) = false := by simp; omega
    have r2 : decide ((nl : Int) < n) = true := by simp; omega
    go_enter Try.func39, Try.ntmps39
    go_wp2_with fail
    refine bodyPost_ret (v := .tuple #[.int .i64 0, .agg #[.int .u32 0, .int .u32 0], .int .i64 100]) (res_cell3 (u := 4) (p := 5) (v := 6) rfl _ _ w.heap.size 96 _ (0, 0) _ _ _ rfl (box_set (x := .int .u32 0) (y := .int .u32 0) HB1.out.2) rfl rfl Try.underlying96 rfl (by kernel_rfl)) rfl ?_
    exact ⟨rfl, bel_set (bel_set HB1.out.1 0 _) 1 _⟩
end Go.Proofs.Ytkomadlmonhlhaa
namespace Go.Proofs.Ytkomadlmonhlhaa

/-- no operation of the region defers -/
def noDefer (ops : Array Oper) : Bool := ops.all fun o => match o.op with
  | .defer _ => false
  | _ => true
theorem noDefer.at {ops : Array Oper} (h : noDefer ops = true) {i : Nat} {o : Oper} (ho : ops[i]? = some o) : ∀ c, o.op ≠ .defer c := fun c e => by
  have h1 := Array.all_eq_true.1 h i (Array.getElem?_eq_some_iff.1 ho).1
  rw [(Array.getElem?_eq_some_iff.1 ho).2, e] at h1
  cases h1
section
variable {P : Program} {ops : Array Oper} {Q : Exit → Act → World → Prop}
theorem rows_round {row : String} {args : Array Value} {w : World} {R : Value → World → Prop} {n lp : Nat} (h : Rows P row args w R) : RowsIn (Fence.wide.inRound lp) n P row args w R := fun c cs _ => by
  obtain ⟨v, w', r, s⟩ := h c cs
  exact ⟨v, w', r, stepsIn_wide.2 s⟩
/-- what an operation does outside a round it does within one -/
theorem upon_round {o : Oper} {a : Act} {next next' : Act → World → Prop} {n lp : Nat} (hn : ∀ a w, next a w → next' a w) {r : Result Next} (h : o.upon P a next Q r) : o.uponIn (Fence.wide.inRound lp) n P a next' Q r := by
  cases r with
  | ok x w' =>
    cases x with
    | value v => exact hn _ _ h
    | skip => exact hn _ _ h
    | defer d => exact hn _ _ h
    | enter f args =>
      refine ⟨fun h => (by cases h), ?_⟩
      have h2 : Calls P f args w' _ := h
      refine CallsIn.inRound lp (callsIn_wide.2 (h2.mono ?_))
      intro e w'' he
      cases e with
      | returned v => exact hn _ _ he
      | panicked c => exact he
      | outgrown => exact he
    | row row args =>
      refine ⟨fun h => (by cases h), rows_round ?_⟩
      have h2 : Rows P row args w' _ := h
      exact h2.mono (fun v w'' he => hn _ _ he)
    | _ => exact (h : False).elim
  | halt x w' =>
    cases x with
    | panic v => exact h
    | _ => exact (h : False).elim
theorem ops_round {n lp : Nat} (hd : noDefer ops = true) (hQ : ¬ LetsOut Q) : ∀ (l : List Nat) (a : Act) (w : World), wpOps P ops Q l a w → wpOpsIn (Fence.wide.inRound lp) n P ops Q l a w := by
  intro l
  induction l with
  | nil => exact fun a w h => h
  | cons i rest ih =>
    intro a w h
    simp only [wpOps] at h
    simp only [wpOpsIn]
    cases ho : ops[i]? with
    | none =>
      rw [ho] at h
      exact ih a w h
    | some o =>
      rw [ho] at h
      simp only [] at h ⊢
      by_cases hw : Region.wanted o (yielded ops a.tmps) = true
      · rw [if_pos hw] at h ⊢
        rcases h with h | h
        · refine ⟨fun f _ => trivial, ?_⟩
          rw [Fence.inRound_round, Oper.semAt_eq (some lp) a.eval o (noDefer.at hd ho)]
          exact upon_round ih h
        · exact absurd h.2 hQ
      · rw [if_neg hw] at h ⊢
        exact ⟨fun f _ => trivial, ih _ _ h⟩
/-- a region that draws, within a round -/
theorem region_round {id n lp : Nat} {a : Act} {w : World} {S : World → Prop} (hm : P.follows .mixedOrders = true) (hd : noDefer ops = true) (hQ : ¬ LetsOut Q) (hS : S w.drew)
    (h : S w.drew → wpAnyH P .any ops Q S ops.size (Array.replicate ops.size false) a w.drew) : (Code.region id ops true).wpIn (Fence.wide.inRound lp) n P Q a w :=
  wpIn_region_draw fun t => by
    simp only [Region.schedule, hm, Bool.true_or, if_true]
    exact ops_round hd hQ _ _ _ (wpAny_sound ops.size t _ a _ (wpAny_of_held _ _ _ _ (h hS)))
end
end Go.Proofs.Ytkomadlmonhlhaa
namespace Go.Proofs.Ytkomadlmonhlhaa
open Go.ChangeShapes Go.WideShapes Go.ChangeAt Go.RowKit Go.Lib Go.Ag Go.WideMaps Go.Maps Go.ChangeMaps Go.Cn Go.Shelf
attribute [local go_sem] Oper.semAt_some

/-- what has been read of an input -/
def lfp (ns : Nds) (ms : List Int) {N : Nat} {m : List Int} (pre : List (IY1 N m)) (j : Nat) : Bool := pre.foldl (fun b x => if nodK ns x.1.2.toNat = (1, (j, 0)) then ofB ms x.1.1 else b) false
theorem lfp_snoc (ns : Nds) (ms : List Int) {N : Nat} {m : List Int} (pre : List (IY1 N m)) (x : IY1 N m) (j : Nat) : lfp ns ms (pre ++ [x]) j = if nodK ns x.1.2.toNat = (1, (j, 0)) then ofB ms x.1.1 else lfp ns ms pre j := by
  unfold lfp
  rw [List.foldl_append]
  rfl
/-- what is read of a cone -/
def lftN (ns : Nds) (ms : List Int) (cn : List Int) : List Bool := (List.range (inN ns)).map (lfp ns ms (bwY (elY cn) cn.length))
theorem lftN_len (ns : Nds) (ms : List Int) (cn : List Int) : (lftN ns ms cn).length = inN ns := by simp [lftN]
theorem lftN_get (ns : Nds) (ms : List Int) (cn : List Int) {j : Nat} (h : j < inN ns) : (lftN ns ms cn).getD j false = lfp ns ms (bwY (elY cn) cn.length) j := by
  unfold lftN
  rw [List.getD_eq_getElem?_getD, List.getElem?_map, List.getElem?_range h]
  rfl
/-- the nodes of a cone that may be -/
def okC (ns : Nds) (cn : List Int) : Prop := ∀ n ∈ cn, 0 ≤ n ∧ n ≤ (ns.length : Int)
/-- what has been read so far stands in the row -/
def LR (W : World) (Ib q : Nat) (ns : Nds) (cn : List Int) (ms : List Int) (pre : List (IY1 cn.length cn)) : Prop := ∃ A, W.heap[Ib]? = some (.cells A 4 (0, 0)) ∧ A.size = q ∧ ∀ j, j < q → A[j]? = some (.bool (lfp ns ms pre j))
/-- the boxes of Lift, and the row of inputs -/
structure LB (w W : World) (R B8 Ib q c : Nat) (aM : Option Addr) (cM : Nat) : Prop where
  b3 : W.heap[w.heap.size]? = some (.cells #[.pointer (some ⟨R, 0, none⟩)] 25 (0, 0))
  b5 : W.heap[w.heap.size + 1]? = some (.cells #[.slice aM c cM] 48 (0, 0))
  b6 : W.heap[w.heap.size + 1 + 1]? = some (.cells #[.slice none 0 0] 49 (0, 0))
  b7 : W.heap[w.heap.size + 1 + 1 + 1]? = some (.cells #[.int .i64 0] 34 (0, 0))
  b8 : W.heap[B8]? = some (.cells #[.slice (some ⟨Ib, 0, none⟩) q q] 49 (0, 0))
  bel : Below w.heap.size w W
  lo : w.heap.size ≤ Ib
theorem LB.keep {w W W' : World} {R B8 Ib q c : Nat} {aM : Option Addr} {cM : Nat} (h : LB w W R B8 Ib q c aM cM) (hk : ∀ (j : Nat) (cs : Array Value) (t : TypeId) (fr : Nat × Nat), W.heap[j]? = some (Obj.cells cs t fr) → t ≠ 4 → W'.heap[j]? = W.heap[j]?) (hb : Below w.heap.size w W') : LB w W' R B8 Ib q c aM cM :=
  ⟨(hk _ _ _ _ h.b3 (by decide)).trans h.b3, (hk _ _ _ _ h.b5 (by decide)).trans h.b5, (hk _ _ _ _ h.b6 (by decide)).trans h.b6, (hk _ _ _ _ h.b7 (by decide)).trans h.b7, (hk _ _ _ _ h.b8 (by decide)).trans h.b8, hb, h.lo⟩
theorem LB.over {w W W' : World} {R B8 Ib q c : Nat} {aM : Option Addr} {cM : Nat} (h : LB w W R B8 Ib q c aM cM) (hb : Below W.heap.size W W') : LB w W' R B8 Ib q c aM cM := h.keep (fun j _ _ _ hj _ => hb.block j (Array.getElem?_eq_some_iff.1 hj).1) (h.bel.trans (hb.mono h.bel.size))
theorem LR.keep {W W' : World} {Ib q : Nat} {ns : Nds} {cn : List Int} {ms : List Int} {pre : List (IY1 cn.length cn)} (h : LR W Ib q ns cn ms pre) (hk : W'.heap[Ib]? = W.heap[Ib]?) : LR W' Ib q ns cn ms pre := by
  obtain ⟨A, hA, h1⟩ := h
  exact ⟨A, hk.trans hA, h1⟩
theorem LR.lt {W : World} {Ib q : Nat} {ns : Nds} {cn : List Int} {ms : List Int} {pre : List (IY1 cn.length cn)} (h : LR W Ib q ns cn ms pre) : Ib < W.heap.size := by
  obtain ⟨A, hA, h1⟩ := h
  exact (Array.getElem?_eq_some_iff.1 hA).1
/-- a node that is no input -/
theorem LR.skip {W : World} {Ib q : Nat} {ns : Nds} {cn : List Int} {ms : List Int} {pre : List (IY1 cn.length cn)} (h : LR W Ib q ns cn ms pre) (x : IY1 cn.length cn) (hx : (nodK ns x.1.2.toNat).1 ≠ 1) : LR W Ib q ns cn ms (pre ++ [x]) := by
  obtain ⟨A, hA, h1, h2⟩ := h
  refine ⟨A, hA, h1, fun j hj => ?_⟩
  rw [lfp_snoc, if_neg (fun e => hx (by rw [e])), h2 j hj]
/-- an input -/
theorem LR.put {W : World} {Ib q : Nat} {ns : Nds} {cn : List Int} {ms : List Int} {pre : List (IY1 cn.length cn)} (h : LR W Ib q ns cn ms pre) (x : IY1 cn.length cn) {j : Nat} (hj : j < q) (hx : nodK ns x.1.2.toNat = (1, (j, 0))) : LR (W.setCell ⟨Ib, j, none⟩ (.bool (ofV ms x.1.1 == 1))) Ib q ns cn ms (pre ++ [x]) := by
  obtain ⟨A, hA, h1, h2⟩ := h
  refine ⟨A.setIfInBounds j (.bool (ofV ms x.1.1 == 1)), heap_setCell_same _ Ib j _ _ _ hA, by simpa using h1, fun k hk => ?_⟩
  rw [Array.getElem?_setIfInBounds, lfp_snoc, hx]
  by_cases e : j = k
  · subst e
    rw [if_pos rfl, if_pos (by omega), if_pos rfl, ofV_eq]
  · rw [if_neg e, if_neg (fun e2 => by cases e2; exact e rfl)]
    exact h2 k hk
/-- what stands between two rounds -/
structure LJ (w : World) (H R B8 Ib q c : Nat) (aM : Option Addr) (cM : Nat) (ns : Nds) (cn : List Int) (ms : List Int) (pre : List (IY1 cn.length cn)) (W : World) : Prop where
  lb : LB w W R B8 Ib q c aM cM
  lr : LR W Ib q ns cn ms pre
  hs : H ≤ W.heap.size
  ok : ∀ x ∈ pre, 0 ≤ x.1.2 ∧ x.1.2 ≤ (ns.length : Int)
theorem LJ.own {w : World} {H R B8 Ib q c : Nat} {aM : Option Addr} {cM : Nat} {ns : Nds} {cn : List Int} {ms : List Int} (hH : w.heap.size ≤ H) : OwnFrom H (fun s W => LJ w H R B8 Ib q c aM cM ns cn ms s W) := fun s W W' row hs hg hr => by
  have hk : ∀ (j : Nat) (cs : Array Value) (t : TypeId) (fr : Nat × Nat), W.heap[j]? = some (.cells cs t fr) → W'.heap[j]? = W.heap[j]? := fun j cs t fr hj => hg.block j (Array.getElem?_eq_some_iff.1 hj).1 (fun e => by
    obtain ⟨_, o, ho, hc⟩ := hr j e.symm
    rw [hj] at ho
    cases ho
    cases hc)
  obtain ⟨A, hA, _⟩ := hs.lr
  exact ⟨hs.lb.keep (fun j cs t fr hj _ => hk j cs t fr hj) ((ownFrom_below (β := Unit) (Nat.le_refl _) hH) () W W' row hs.lb.bel hg hr), hs.lr.keep (hk _ _ _ _ hA), Nat.le_trans hs.hs hg.size, hs.ok⟩
/-- what stands behind a round that gave up -/
structure LX (w : World) (ns : Nds) (cn : List Int) (cd : Code) (W : World) : Prop where
  cd : cd = .ret
  b6 : W.heap[w.heap.size + 1 + 1]? = some (.cells #[.slice none 0 0] 49 (0, 0))
  b7 : W.heap[w.heap.size + 1 + 1 + 1]? = some (.cells #[.int .i64 100] 34 (0, 0))
  bel : Below w.heap.size w W
  bad : ¬ okC ns cn
theorem LX.own {β : Type} {w : World} {H : Nat} {ns : Nds} {cn : List Int} {cd : Code} (hH : w.heap.size ≤ H) : OwnFrom H (fun (_ : β) W => LX w ns cn cd W) := fun s W W' row hs hg hr => by
  have hk : ∀ (j : Nat) (cs : Array Value) (t : TypeId) (fr : Nat × Nat), W.heap[j]? = some (.cells cs t fr) → W'.heap[j]? = W.heap[j]? := fun j cs t fr hj => hg.block j (Array.getElem?_eq_some_iff.1 hj).1 (fun e => by
    obtain ⟨_, o, ho, hc⟩ := hr j e.symm
    rw [hj] at ho
    cases ho
    cases hc)
  exact ⟨hs.cd, (hk _ _ _ _ hs.b6).trans hs.b6, (hk _ _ _ _ hs.b7).trans hs.b7, (ownFrom_below (β := Unit) (Nat.le_refl _) hH) () W W' row hs.bel hg hr, hs.bad⟩
theorem res_cc {P : Program} {fn : Func} {p u : Tmp} {ty tu : TypeId} (h : fn.results = #[.cell p ty, .cell u tu]) (tmps : Array Value) (w : World) (a b : Addr) (x y : Value)
    (hp : tmps.getD p undef = .pointer (some a)) (hq : tmps.getD u undef = .pointer (some b)) (hx : (loadVar ty a).run P w = .ok x w) (hy : (loadVar tu b).run P w = .ok y w) :
    (results fn tmps).run P w = .ok (.tuple #[x, y]) w := by
  simp only [results, h]
  simp [Sem.run_bind, Result.andThen]
  rw [show tmps[p]?.getD undef = tmps.getD p undef by simp, show tmps[u]?.getD undef = tmps.getD u undef by simp, hp, hq]
  simp [asAddr, hx, hy]
set_option maxRecDepth 100000 in
set_option maxHeartbeats 16000000 in
theorem Lift_any (w : World) {B R : Nat} {ns : Nds} {nb : Nat} {vb vg : Value} {Mg : Option Nat} {D : DataW Unit} (h : GM w B R ns nb vb vg Mg D) (aC : Option Addr) (cn : List Int) (cC : Nat) (hC : Is w aC cn) (hcn : cn.length ≤ 1048576)
    (aM : Option Addr) (ms : List Int) (cM : Nat) (hM : I8s w aM ms) :
    Calls Try.prog 17 #[.pointer (some ⟨R, 0, none⟩), .slice aC cn.length cC, .slice aM ms.length cM] w fun e w' => Below w.heap.size w w' ∧ ((okC ns cn ∧ ∃ Ib, e = .returned (.tuple #[.slice (some ⟨Ib, 0, none⟩) (inN ns) (inN ns), .int .i64 0]) ∧ Bls w' (some ⟨Ib, 0, none⟩) (lftN ns ms cn)) ∨ (¬ okC ns cn ∧ e = .returned (.tuple #[.slice none 0 0, .int .i64 100]))) := by
  have hlen := h.len
  have hin : inN ns ≤ 1073741823 := Nat.le_trans (Nat.sub_le _ _) h.len
  have HGM : Hid (GM w B R ns nb vb vg Mg D) := h
  have HIn : Hid (∀ W, Below w.heap.size w W → Calls Try.prog 37 #[.pointer (some ⟨R, 0, none⟩)] W fun e w' => e = .returned (.int .i64 (inN ns : Int)) ∧ Below W.heap.size W w') := fun W hW => (Inputs_any W (h.over hW)).mono (by
    rintro e w' ⟨rfl, d, rfl⟩
    exact ⟨rfl, drw_bel _ _⟩)
  have HC : Hid (Is w aC cn) := hC
  have HM : Hid (I8s w aM ms) := hM
  clear h hC hM
  have HLf : Hid ((lftN ns ms cn).length = inN ns ∧ ∀ j, j < inN ns → (lftN ns ms cn).getD j false = lfp ns ms (bwY (elY cn) cn.length) j) := ⟨lftN_len ns ms cn, fun j hj => lftN_get ns ms cn hj⟩
  generalize hq : inN ns = q at *
  generalize lftN ns ms cn = LF at *
  obtain ⟨c, hc⟩ : ∃ c, cn.length = c := ⟨_, rfl⟩
  obtain ⟨mL, hmL⟩ : ∃ mL, ms.length = mL := ⟨_, rfl⟩
  have HL : Hid (cn.length = c ∧ ms.length = mL) := ⟨hc, hmL⟩
  rw [hc] at hcn
  rw [hc, hmL]
  clear hc hmL
  obtain ⟨i2, hi2, hz2, hs2, hb2⟩ := info_parts (P := Try.prog) (e := 4) (z := .bool false) (size := 1) (bytes := 1) (by kernel_rfl)
  have eB : ∀ W : World, (Instr.makeSlice 49 (.int .i64 (q : Int)) (.int .i64 (q : Int))).run Try.prog W = .ok (.slice (some ⟨W.heap.size, 0, none⟩) q q) (W.alloc (.cells (madeCells (Value.bool false).cells (q * 1)) 4)) := fun W => by
    have := run_make (P := Try.prog) (w := W) 49 4 i2 (.bool false) Try.underlying49 hi2 hz2 .i64 .i64 (q : Int) (q : Int) (by omega) (by omega) (by rw [hb2]; omega) (by omega)
    rw [this, hs2, show ((q : Int)).toNat = q by omega]
  clear hi2 hz2 hs2 hb2
  refine (callsIn_wide (n := 9)).1 ?_
  refine callsIn_of_wp_marks Try.func17 rfl trivial ?_ rfl
  simp only [Try.ntmps17, List.size_toArray, List.length_cons, List.length_nil, Nat.reduceAdd, Nat.reduceSub, Array.replicate_succ, Array.replicate_zero, List.push_toArray, List.append_toArray, List.nil_append, List.cons_append]
  obtain ⟨w4, hw4⟩ : ∃ w4, (((w.alloc (.cells #[.pointer (some ⟨R, 0, none⟩)] 25)).alloc (.cells #[.slice aM mL cM] 48)).alloc (.cells #[.slice none 0 0] 49)).alloc (.cells #[.int .i64 0] 34) = w4 := ⟨_, rfl⟩
  have HB4 : Hid (Below w.heap.size w w4 ∧ w4.heap[w.heap.size]? = some (.cells #[.pointer (some ⟨R, 0, none⟩)] 25 (0, 0)) ∧ w4.heap[w.heap.size + 1]? = some (.cells #[.slice aM mL cM] 48 (0, 0)) ∧ w4.heap[w.heap.size + 1 + 1]? = some (.cells #[.slice none 0 0] 49 (0, 0)) ∧ w4.heap[w.heap.size + 1 + 1 + 1]? = some (.cells #[.int .i64 0] 34 (0, 0))) := by
    have b1 := ag_bel1 w (.cells #[.pointer (some ⟨R, 0, none⟩)] 25)
    have n1 := heap_alloc_new w (.cells #[.pointer (some ⟨R, 0, none⟩)] 25)
    have s1 : (w.alloc (.cells #[.pointer (some ⟨R, 0, none⟩)] 25)).heap.size = w.heap.size + 1 := by simp
    generalize w.alloc (.cells #[.pointer (some ⟨R, 0, none⟩)] 25) = x1 at *
    have b2 := ag_bel1 x1 (.cells #[.slice aM mL cM] 48)
    have n2 := heap_alloc_new x1 (.cells #[.slice aM mL cM] 48)
    have s2 : (x1.alloc (.cells #[.slice aM mL cM] 48)).heap.size = x1.heap.size + 1 := by simp
    generalize x1.alloc (.cells #[.slice aM mL cM] 48) = x2 at *
    have b3 := ag_bel1 x2 (.cells #[.slice none 0 0] 49)
    have n3 := heap_alloc_new x2 (.cells #[.slice none 0 0] 49)
    have s3 : (x2.alloc (.cells #[.slice none 0 0] 49)).heap.size = x2.heap.size + 1 := by simp
    generalize x2.alloc (.cells #[.slice none 0 0] 49) = x3 at *
    have b4 := ag_bel1 x3 (.cells #[.int .i64 0] 34)
    have n4 := heap_alloc_new x3 (.cells #[.int .i64 0] 34)
    rw [hw4] at b4 n4
    rw [s1] at n2
    rw [s2, s1] at n3
    rw [s3, s2, s1] at n4
    have e1 := (b4.block _ (by omega)).trans ((b3.block _ (by omega)).trans ((b2.block _ (by omega)).trans n1))
    have e2 := (b4.block _ (by omega)).trans ((b3.block _ (by omega)).trans n2)
    have e3 := (b4.block _ (by omega)).trans n3
    exact ⟨ag_next (ag_next (ag_next b1 b2) b3) b4, e1, e2, e3, n4⟩
  have HW4e : Hid ((((w.alloc (.cells #[.pointer (some ⟨R, 0, none⟩)] 25)).alloc (.cells #[.slice aM mL cM] 48)).alloc (.cells #[.slice none 0 0] 49)).alloc (.cells #[.int .i64 0] 34) = w4) := hw4
  clear hw4
  gi_wp2_with fail
  rw [HW4e.out]
  clear HW4e
  refine ⟨trivial, (callsIn_wide.2 (HIn.out w4 HB4.out.1)).mono ?_⟩
  rintro e w5 ⟨rfl, hb5⟩
  gi_wp2_with fail
  obtain ⟨w7, hw7⟩ : ∃ w7, (w5.alloc (.cells (madeCells #[Value.bool false] q) 4)).alloc (.cells #[.slice (some ⟨w5.heap.size, 0, none⟩) q q] 49) = w7 := ⟨_, rfl⟩
  have HJ7 : Hid (LB w w7 R (w5.heap.size + 1) w5.heap.size q mL aM cM ∧ LR w7 w5.heap.size q ns cn ms []) := by
    have b1 := ag_bel1 w5 (.cells (madeCells #[Value.bool false] q) 4)
    have n1 := heap_alloc_new w5 (.cells (madeCells #[Value.bool false] q) 4)
    have s1 : (w5.alloc (.cells (madeCells #[Value.bool false] q) 4)).heap.size = w5.heap.size + 1 := by simp
    generalize w5.alloc (.cells (madeCells #[Value.bool false] q) 4) = x1 at *
    have b2 := ag_bel1 x1 (.cells #[.slice (some ⟨w5.heap.size, 0, none⟩) q q] 49)
    have n2 := heap_alloc_new x1 (.cells #[.slice (some ⟨w5.heap.size, 0, none⟩) q q] 49)
    rw [hw7] at b2 n2
    rw [s1] at n2
    have hb7 : Below w4.heap.size w4 w7 := ag_next (ag_next hb5 b1) b2
    have k4 : ∀ (j : Nat) (o : Obj), w4.heap[j]? = some o → w7.heap[j]? = some o := fun j o hj => (hb7.block _ (Array.getElem?_eq_some_iff.1 hj).1).trans hj
    refine ⟨⟨k4 _ _ HB4.out.2.1, k4 _ _ HB4.out.2.2.1, k4 _ _ HB4.out.2.2.2.1, k4 _ _ HB4.out.2.2.2.2, n2, ag_next HB4.out.1 hb7, Nat.le_trans HB4.out.1.size hb5.size⟩, ⟨_, (b2.block _ (by omega)).trans n1, by rw [size_madeCells], fun j hj => ?_⟩⟩
    have h9 := made_at (.bool false) q hj rfl
    rw [Nat.mul_one] at h9
    exact h9
  have HW7e : Hid ((w5.alloc (.cells (madeCells #[Value.bool false] q) 4)).alloc (.cells #[.slice (some ⟨w5.heap.size, 0, none⟩) q q] 49) = w7) := hw7
  clear hw7 HB4 hb5 eB HIn
  rw [HW7e.out]
  clear HW7e
  generalize w5.heap.size = Ib at *
  refine ⟨trivial, (bwy_in _ _ trivial rfl _ _ _ _).mono ?_⟩
  rintro e w' ⟨rfl, hw'⟩
  subst hw'
  gi_wp2_with fail
  obtain ⟨W0, hW0⟩ : ∃ W0, w7.alloc (.cells #[.slice aC c cC] 23) = W0 := ⟨_, rfl⟩
  obtain ⟨H, hH⟩ : ∃ H, W0.heap.size = H := ⟨_, rfl⟩
  have HB0 : Hid (Below w7.heap.size w7 W0 ∧ W0.heap[w7.heap.size]? = some (.cells #[.slice aC c cC] 23 (0, 0))) := by rw [← hW0]; exact ⟨ag_bel1 _ _, heap_alloc_new _ _⟩
  have HJ0 : Hid (LJ w H R (Ib + 1) Ib q mL aM cM ns cn ms [] W0) := ⟨HJ7.out.1.over HB0.out.1, HJ7.out.2.keep (HB0.out.1.block _ HJ7.out.2.lt), by omega, fun x hx => (List.not_mem_nil hx).elim⟩
  have hwH : w.heap.size ≤ H := by rw [← hH]; exact HJ0.out.lb.bel.size
  have HL1 : Hid (w.heap.size ≤ Ib ∧ Ib < w7.heap.size) := ⟨HJ7.out.1.lo, HJ7.out.2.lt⟩
  have HNode : Hid (∀ W (n : Nat), Below w.heap.size w W → n ≤ ns.length → Calls Try.prog 39 #[.pointer (some ⟨R, 0, none⟩), .int .i64 (n : Int)] W fun e w' => e = .returned (.tuple #[.int .i64 ((nodK ns n).1 : Int), .agg #[.int .u32 ((nodK ns n).2.1 : Int), .int .u32 ((nodK ns n).2.2 : Int)], .int .i64 0]) ∧ Below W.heap.size W w') := fun W n hW hn => Node_any W (HGM.out.over hW) n hn
  have HNodeN : Hid (∀ W (n : Int), Below w.heap.size w W → (n < 0 ∨ (ns.length : Int) < n) → Calls Try.prog 39 #[.pointer (some ⟨R, 0, none⟩), .int .i64 n] W fun e w' => e = .returned (.tuple #[.int .i64 0, .agg #[.int .u32 0, .int .u32 0], .int .i64 100]) ∧ Below W.heap.size W w') := fun W n hW hn => Node_no W (HGM.out.over hW) n hn
  have HOf : Hid (∀ W (i : Nat), Below w.heap.size w W → i < c → Calls Try.prog 40 #[.slice aM mL cM, .int .i64 ((i : Int) + 1)] W fun e w' => e = .returned (.int .i8 (ofV ms i)) ∧ w' = W) := fun W i hW hi => by
    have h5 := cof_any aM ms cM i W (HM.out.below hW) (by omega)
    rw [HL.out.2] at h5
    exact h5
  rw [hW0]
  clear hW0 HJ7
  have hclen := HL.out.1
  refine wpIn_rangeFunc_ownH (F := Fence.wide) rfl (by omega) (gf := 65) (lb := #[.pointer (some ⟨w7.heap.size, 0, none⟩)]) rfl trivial (enters_of Try.func65 (by kernel_rfl) rfl)
    (bwy_stops Fence.wide _ trivial rfl (by omega) w7.heap.size Ib aC cn cC (by omega) W0 ⟨(Array.getElem?_eq_some_iff.1 HB0.out.2).1, by have := HL1.out.2; omega⟩ (HC.out.below HJ0.out.lb.bel) ?hne (by rw [hclen]; exact ag_cell HB0.out.2 0)) (fun h1 h2 => h1.t h2) (fun W l o o' h1 h2 h3 h4 => KB.b W l o o' h1 h2 h3 h4) (Below.refl _ _) (fun _ => rfl)
    (fun pre W => LJ w H R (Ib + 1) Ib q mL aM cM ns cn ms pre W) (fun cd _ W => LX w ns cn cd W) (by rw [hH]; exact LJ.own hwH) (fun cd => by rw [hH]; exact LX.own hwH)
    HJ0.out
    (fun x a' _ => a' = { tmps := #[.pointer (some ⟨R, 0, none⟩), .slice aC c cC, .slice aM mL cM, .pointer (some ⟨w.heap.size, 0, none⟩), undef, .pointer (some ⟨w.heap.size + 1, 0, none⟩), .pointer (some ⟨w.heap.size + 1 + 1, 0, none⟩), .pointer (some ⟨w.heap.size + 1 + 1 + 1, 0, none⟩), .pointer (some ⟨Ib + 1, 0, none⟩), .int .i64 (x.1.1 : Int), .int .i64 x.1.2, undef, undef, undef, .pointer (some ⟨R, 0, none⟩), .bool false, .pointer (some ⟨R, 0, none⟩), .int .i64 (q : Int), .slice (some ⟨Ib, 0, none⟩) q q, .slice aC c cC, .func (.func 65) #[] #[.pointer (some ⟨w7.heap.size, 0, none⟩)], .int .i64 (x.1.1 : Int), .int .i64 x.1.2, undef, undef, undef, undef, undef, undef, undef, undef, undef, undef, undef, undef, undef, undef, undef, undef, undef, undef, undef, undef, undef, undef], defers := [] })
    ?hax ?assign ?body ?done ?stop
  case hne =>
    intro h0 b off e1 e2
    obtain ⟨b', off', e3, hb', _⟩ := HC.out h0
    rw [e1] at e3
    cases e3
    have := HL1.out.1
    omega
  case hax =>
    rintro x a' _ X Y row h1 hg2 hr
    exact h1
  case assign =>
    rintro l pre x W K hi hK
    obtain ⟨⟨xi, xn⟩, hok⟩ := x
    simp only [encY]
    gi_wp2
    exact hK _ _ ⟨Nat.le_refl _, fun k o _ hk _ => hk⟩ (fun _ _ _ => rfl) hi rfl
  case body =>
    rintro l pre x a' W hl _ hI rfl hlt
    have HI : Hid (LJ w H R (Ib + 1) Ib q mL aM cM ns cn ms pre W) := hI
    have hxe := x.2 (by omega)
    have hxi : x.1.1 < c := by have := (List.getElem?_eq_some_iff.1 hxe).1; omega
    by_cases hxb2 : 0 ≤ x.1.2 ∧ x.1.2 ≤ (ns.length : Int)
    · obtain ⟨xn, hxn⟩ : ∃ xn : Nat, x.1.2 = (xn : Int) := ⟨x.1.2.toNat, by omega⟩
      have HXn : Hid (x.1.2.toNat = xn) := by show _ = _; omega
      have hxb : xn ≤ ns.length := by omega
      have HOk : Hid (∀ y ∈ pre ++ [x], 0 ≤ y.1.2 ∧ y.1.2 ≤ (ns.length : Int)) := fun y hy => by
        rcases List.mem_append.1 hy with e | e
        · exact hI.ok y e
        · rw [List.mem_singleton] at e
          rw [e]
          exact hxb2
      rw [hxn]
      clear hxn hxb2
      have f0 : W.cell? ⟨w.heap.size, 0, none⟩ = some (.pointer (some ⟨R, 0, none⟩)) := ag_cell hI.lb.b3 0
      have hNo := HNode.out W xn hI.lb.bel hxb
      have HNo : Hid (Calls Try.prog 39 #[.pointer (some ⟨R, 0, none⟩), .int .i64 (xn : Int)] W fun e w' => e = .returned (.tuple #[.int .i64 ((nodK ns xn).1 : Int), .agg #[.int .u32 ((nodK ns xn).2.1 : Int), .int .u32 ((nodK ns xn).2.2 : Int)], .int .i64 0]) ∧ Below W.heap.size W w') := hNo
      clear hNo hI
      have HHe : Hid (W0.heap.size = H) := hH
      gi_wp2_with fail
      refine ⟨trivial, (CallsIn.inRound l (callsIn_wide.2 HNo.out)).mono ?_⟩
      rintro e Wa ⟨rfl, hba⟩
      obtain ⟨Wb, hWb⟩ : ∃ Wb, Wa.alloc (.cells #[.int .u32 ((nodK ns xn).2.1 : Int), .int .u32 ((nodK ns xn).2.2 : Int)] 96) = Wb := ⟨_, rfl⟩
      have HJb : Hid (LJ w H R (Ib + 1) Ib q mL aM cM ns cn ms pre Wb ∧ Wb.heap[Wa.heap.size]? = some (.cells #[.int .u32 ((nodK ns xn).2.1 : Int), .int .u32 ((nodK ns xn).2.2 : Int)] 96 (0, 0)) ∧ Below W.heap.size W Wb) := by
        have hb : Below W.heap.size W Wb := by rw [← hWb]; exact ag_next hba (ag_bel1 _ _)
        exact ⟨⟨HI.out.lb.over hb, HI.out.lr.keep (hb.block _ HI.out.lr.lt), Nat.le_trans HI.out.hs hb.size, HI.out.ok⟩, by rw [← hWb]; exact heap_alloc_new _ _, hb⟩
      have HWbe : Hid (Wa.alloc (.cells #[.int .u32 ((nodK ns xn).2.1 : Int), .int .u32 ((nodK ns xn).2.2 : Int)] 96) = Wb) := hWb
      clear hba hWb HNo f0
      by_cases hk1 : (nodK ns xn).1 = 1
      · obtain ⟨j, hkj⟩ : ∃ j, nodK ns xn = (1, (j, 0)) ∧ j < q := by
          have hx0 : 0 < xn := by
            rcases Nat.eq_zero_or_pos xn with e | e
            · rw [e] at hk1; cases hk1
            · exact e
          rcases nodK_at hx0 hxb with ⟨h1, h2⟩ | ⟨g, h1, h2⟩
          · exact ⟨_, h2, by rw [← hq]; exact inN_at h1⟩
          · rw [h2] at hk1; cases hk1
        have HF : Hid (KeepsFrom H W (Wb.setCell ⟨Ib, j, none⟩ (.bool (ofV ms x.1.1 == 1))) ∧ KB H Ib W (Wb.setCell ⟨Ib, j, none⟩ (.bool (ofV ms x.1.1 == 1))) ∧ LJ w H R (Ib + 1) Ib q mL aM cM ns cn ms (pre ++ [x]) (Wb.setCell ⟨Ib, j, none⟩ (.bool (ofV ms x.1.1 == 1)))) := by
          have hp := HJb.out.1.lr.put x hkj.2 (by rw [HXn.out]; exact hkj.1)
          obtain ⟨A, hA, _⟩ := HJb.out.1.lr
          refine ⟨⟨by have := HJb.out.2.2.size; simp; omega, fun k o _ hk ho => ?_⟩, fun k hk hn => ?_, ⟨HJb.out.1.lb.keep (fun k cs t fr hk ht => heap_setCell_other _ _ _ _ (fun e => ?_)) ?_, hp, by have := HJb.out.1.hs; simp; omega, HOk.out⟩⟩
          · have hk2 := (HJb.out.2.2.block k (Array.getElem?_eq_some_iff.1 hk).1).trans hk
            refine (heap_setCell_other _ _ _ _ (fun e => ?_)).trans hk2
            have e' : k = Ib := e
            rw [e', hA] at hk2
            cases hk2
            cases ho
          · exact (heap_setCell_other _ _ _ _ hn).trans (HJb.out.2.2.block k (Nat.lt_of_lt_of_le hk HI.out.hs))
          · have e' : k = Ib := e
            rw [e', hA] at hk
            cases hk
            exact ht rfl
          · exact OB.below HJb.out.1.lb.bel HJb.out.1.lb.bel.size (OB.set _ _ _ _) HJb.out.1.lb.lo
        have g8 : Wb.cell? ⟨Ib + 1, 0, none⟩ = some (.slice (some ⟨Ib, 0, none⟩) q q) := ag_cell HJb.out.1.lb.b8 0
        have g5 : Wb.cell? ⟨w.heap.size + 1, 0, none⟩ = some (.slice aM mL cM) := ag_cell HJb.out.1.lb.b5 0
        have gn : Wb.cell? ⟨Wa.heap.size, 0, none⟩ = some (.int .u32 (j : Int)) := by rw [ag_cell HJb.out.2.1, hkj.1]; rfl
        obtain ⟨bj, hbj⟩ : ∃ b, Wb.cell? ⟨Ib, j, none⟩ = some (.bool b) := by
          obtain ⟨A, hA, _, h2⟩ := HJb.out.1.lr
          exact ⟨_, by rw [ag_cell hA]; exact h2 j hkj.2⟩
        have zj : Wb.frozen? ⟨Ib, j, none⟩ = false := by
          obtain ⟨A, hA, _⟩ := HJb.out.1.lr
          exact ag_fz hA j
        have HOfx : Hid (Calls Try.prog 40 #[.slice aM mL cM, .int .i64 ((x.1.1 : Int) + 1)] Wb.drew fun e w' => e = .returned (.int .i8 (ofV ms x.1.1)) ∧ w' = Wb.drew) := HOf.out Wb.drew x.1.1 ⟨HJb.out.1.lb.bel.os, HJb.out.1.lb.bel.tape, HJb.out.1.lb.bel.output, HJb.out.1.lb.bel.size, HJb.out.1.lb.bel.block⟩ hxi
        have hj2 : (j : Int) < (q : Int) := by have := hkj.2; omega
        have hwr : IntKind.i64.wrap ((x.1.1 : Int) + 1) = (x.1.1 : Int) + 1 := by rw [IntKind.wrap_i64]; omega
        clear hkj hxe hxb HXn HOk
        rw [hk1]
        generalize hAA : (nodK ns xn).2.1 = AA at *
        generalize hBB : (nodK ns xn).2.2 = BB at *
        clear hAA hBB hk1
        gi_wp2_with fail
        rw [HWbe.out]
        clear HWbe
        generalize ofV ms x.1.1 = mx at *
        have HFd : Hid (KeepsFrom H W (Wb.setCell ⟨Ib, j, none⟩ (.bool (mx == 1))).drew ∧ KB H Ib W (Wb.setCell ⟨Ib, j, none⟩ (.bool (mx == 1))).drew ∧ LJ w H R (Ib + 1) Ib q mL aM cM ns cn ms (pre ++ [x]) (Wb.setCell ⟨Ib, j, none⟩ (.bool (mx == 1))).drew) := by
          obtain ⟨h1, h2, h3⟩ := HF.out
          exact ⟨⟨h1.1, h1.2⟩, h2, ⟨⟨h3.lb.b3, h3.lb.b5, h3.lb.b6, h3.lb.b7, h3.lb.b8, ⟨h3.lb.bel.os, h3.lb.bel.tape, h3.lb.bel.output, h3.lb.bel.size, h3.lb.bel.block⟩, h3.lb.lo⟩, h3.lr, h3.hs, h3.ok⟩⟩
        clear HF
        have n5 : w.heap.size + 1 ≠ Ib := fun e => by
          obtain ⟨A, hA, _⟩ := HJb.out.1.lr
          have h5 := HJb.out.1.lb.b5
          rw [e, hA] at h5
          cases h5
        have n9 : Wa.heap.size ≠ Ib := fun e => by
          obtain ⟨A, hA, _⟩ := HJb.out.1.lr
          have h5 := HJb.out.2.1
          rw [e, hA] at h5
          cases h5
        refine region_round (S := (fun W => W.cell? ⟨Ib + 1, 0, none⟩ = some (.slice (some ⟨Ib, 0, none⟩) q q) ∧ W.cell? ⟨w.heap.size + 1, 0, none⟩ = some (.slice aM mL cM) ∧ W.cell? ⟨Wa.heap.size, 0, none⟩ = some (.int .u32 (j : Int)) ∧ Wb.heap.size ≤ W.heap.size)) (by kernel_rfl) (by kernel_rfl) (by rintro ⟨_, _, h⟩; exact h) ⟨g8, g5, gn, Nat.le_refl _⟩ (fun hHeld => ?_)
        refine wpAnyH_take (i := 0) (oi := { dst := some 35, op := Op.load 49 (Operand.tmp 8), type := 49, pos := "tseitin.go:59", after := #[], guard := none }) (v := ?v0) rfl (by kernel_rfl) (by kernel_rfl) (by kernel_rfl) (fun _ _ _ h => h) (Or.inl ⟨by kernel_rfl, ?h0⟩) (by assumption) ?r0
        case h0 => (intro w hSw; (try dsimp only at hSw); go_simp <;> with_reducible rfl)
        try simp only [Act.put, List.setIfInBounds_toArray, List.set_cons_zero, List.set_cons_succ]
        refine wpAnyH_take (i := 1) (oi := { dst := some 36, op := Op.fieldAddr 96 (Operand.tmp 12) 0, type := 0, pos := "tseitin.go:59", after := #[], guard := none }) (v := ?v1) rfl (by kernel_rfl) (by kernel_rfl) (by kernel_rfl) (fun _ _ _ h => h) (Or.inl ⟨by kernel_rfl, ?h1⟩) (by assumption) ?r1
        case h1 => (intro w hSw; (try dsimp only at hSw); go_simp <;> with_reducible rfl)
        try simp only [Act.put, List.setIfInBounds_toArray, List.set_cons_zero, List.set_cons_succ]
        refine wpAnyH_take (i := 2) (oi := { dst := some 37, op := Op.load 42 (Operand.tmp 36), type := 42, pos := "tseitin.go:59", after := #[{ on := 1, ground := Ground.data }], guard := none }) (v := ?v2) rfl (by kernel_rfl) (by kernel_rfl) (by kernel_rfl) (fun _ _ _ h => h) (Or.inl ⟨by kernel_rfl, ?h2⟩) (by assumption) ?r2
        case h2 => (intro w hSw; (try dsimp only at hSw); go_simp <;> with_reducible rfl)
        try simp only [Act.put, List.setIfInBounds_toArray, List.set_cons_zero, List.set_cons_succ]
        refine wpAnyH_take (i := 3) (oi := { dst := some 38, op := Op.load 48 (Operand.tmp 5), type := 48, pos := "tseitin.go:59", after := #[], guard := none }) (v := ?v3) rfl (by kernel_rfl) (by kernel_rfl) (by kernel_rfl) (fun _ _ _ h => h) (Or.inl ⟨by kernel_rfl, ?h3⟩) (by assumption) ?r3
        case h3 => (intro w hSw; (try dsimp only at hSw); go_simp <;> with_reducible rfl)
        try simp only [Act.put, List.setIfInBounds_toArray, List.set_cons_zero, List.set_cons_succ]
        refine wpAnyH_take (i := 4) (oi := { dst := some 39, op := Op.move (Operand.tmp 9), type := 3, pos := "tseitin.go:59", after := #[], guard := none }) (v := ?v4) rfl (by kernel_rfl) (by kernel_rfl) (by kernel_rfl) (fun _ _ _ h => h) (Or.inl ⟨by kernel_rfl, ?h4⟩) (by assumption) ?r4
        case h4 => (intro w hSw; (try dsimp only at hSw); go_simp <;> with_reducible rfl)
        try simp only [Act.put, List.setIfInBounds_toArray, List.set_cons_zero, List.set_cons_succ]
        refine wpAnyH_take (i := 5) (oi := { dst := some 40, op := Op.binOp BinOp.add 3 (Operand.tmp 39) (Operand.const (Value.int IntKind.i64 1)) 3, type := 3, pos := "tseitin.go:59", after := #[{ on := 4, ground := Ground.data }], guard := none }) (v := ?v5) rfl (by kernel_rfl) (by kernel_rfl) (by kernel_rfl) (fun _ _ _ h => h) (Or.inl ⟨by kernel_rfl, ?h5⟩) (by assumption) ?r5
        case h5 => (intro w hSw; (try dsimp only at hSw); go_simp <;> with_reducible rfl)
        try simp only [Act.put, List.setIfInBounds_toArray, List.set_cons_zero, List.set_cons_succ]
        refine wpAnyH_ready (rs := [6]) (by kernel_rfl) (by simp) ?_
        refine AllReadyH.cons (o := { dst := some 41, op := Op.call { callee := Callee.value (Operand.func 40), args := #[Operand.tmp 38, Operand.tmp 40], argTypes := #[48, 3] }, type := 76, pos := "tseitin.go:59", after := #[{ on := 3, ground := Ground.data }, { on := 5, ground := Ground.data }], guard := none }) rfl (fun K hK => ?_) AllReadyH.nil
        go_simp
        go_at_call 40; refine HOfx.out.mono ?_; rintro e w9 ⟨rfl, hw⟩; obtain rfl := hw.symm
        refine hK.out _ _ hHeld (fun _ => ?_)
        clear hK K
        try simp only [Act.put, List.setIfInBounds_toArray, List.set_cons_zero, List.set_cons_succ]
        refine wpAnyH_take (i := 7) (oi := { dst := some 42, op := Op.binOp BinOp.eql 76 (Operand.tmp 41) (Operand.const (Value.int IntKind.i8 1)) 76, type := 4, pos := "tseitin.go:59", after := #[{ on := 6, ground := Ground.data }], guard := none }) (v := ?v7) rfl (by kernel_rfl) (by kernel_rfl) (by kernel_rfl) (fun _ _ _ h => h) (Or.inl ⟨by kernel_rfl, ?h7⟩) (by assumption) ?r7
        case h7 => (intro w hSw; (try dsimp only at hSw); go_simp <;> with_reducible rfl)
        try simp only [Act.put, List.setIfInBounds_toArray, List.set_cons_zero, List.set_cons_succ]
        refine wpAnyH_take (i := 8) (oi := { dst := some 43, op := Op.indexAddr 49 (Operand.tmp 35) (Operand.tmp 37), type := 0, pos := "tseitin.go:59", after := #[{ on := 0, ground := Ground.data }, { on := 2, ground := Ground.data }, { on := 0, ground := Ground.phase }, { on := 1, ground := Ground.phase }, { on := 2, ground := Ground.phase }, { on := 3, ground := Ground.phase }, { on := 4, ground := Ground.phase }, { on := 5, ground := Ground.phase }, { on := 6, ground := Ground.phase }, { on := 7, ground := Ground.phase }], guard := none }) (v := ?v8) rfl (by kernel_rfl) (by kernel_rfl) (by kernel_rfl) (fun _ _ _ h => h) (Or.inl ⟨by kernel_rfl, ?h8⟩) (by assumption) ?r8
        case h8 => (intro w hSw; (try dsimp only at hSw); go_simp <;> with_reducible rfl)
        try simp only [Act.put, List.setIfInBounds_toArray, List.set_cons_zero, List.set_cons_succ]
        refine wpAnyH_ready (rs := [9]) (by kernel_rfl) (by simp) ?_
        refine AllReadyH.cons (o := { dst := none, op := Op.store 4 (Operand.tmp 43) (Operand.tmp 42), type := 0, pos := "tseitin.go:59", after := #[{ on := 8, ground := Ground.data }, { on := 7, ground := Ground.data }, { on := 6, ground := Ground.chain }, { on := 0, ground := Ground.phase }, { on := 1, ground := Ground.phase }, { on := 2, ground := Ground.phase }, { on := 3, ground := Ground.phase }, { on := 4, ground := Ground.phase }, { on := 5, ground := Ground.phase }, { on := 6, ground := Ground.phase }, { on := 7, ground := Ground.phase }], guard := none }) rfl (fun K hK => ?_) AllReadyH.nil
        go_simp
        refine hK.out _ _ ⟨(World.cell?_of_block (a := ⟨Ib + 1, 0, none⟩) (heap_setCell_other _ _ _ _ (by show Ib + 1 ≠ Ib; omega))).trans g8, (World.cell?_of_block (a := ⟨w.heap.size + 1, 0, none⟩) (heap_setCell_other _ _ _ _ n5)).trans g5, (World.cell?_of_block (a := ⟨Wa.heap.size, 0, none⟩) (heap_setCell_other _ _ _ _ n9)).trans gn, by show Wb.heap.size ≤ (Wb.setCell _ _).heap.size; simp⟩ (fun _ => ?_)
        clear hK K
        try simp only [Act.put, List.setIfInBounds_toArray, List.set_cons_zero, List.set_cons_succ]
        refine wpAnyH_done (by kernel_rfl) ?_ _
        gi_wp2_with fail
        exact HFd.out
      · have q5 : (((nodK ns xn).1 : Int) == 1) = false := by simp; omega
        have HZ : Hid (KeepsFrom H W Wb ∧ KB H Ib W Wb ∧ LJ w H R (Ib + 1) Ib q mL aM cM ns cn ms (pre ++ [x]) Wb) := ⟨⟨HJb.out.2.2.size, fun k o _ hk _ => (HJb.out.2.2.block k (Array.getElem?_eq_some_iff.1 hk).1).trans hk⟩, fun k hk _ => HJb.out.2.2.block k (Nat.lt_of_lt_of_le hk HI.out.hs), ⟨HJb.out.1.lb, HJb.out.1.lr.skip x (by rw [HXn.out]; exact hk1), HJb.out.1.hs, HOk.out⟩⟩
        generalize (nodK ns xn).1 = kd at *
        gi_wp2_with fail
        rw [HWbe.out]
        exact (show KeepsFrom W0.heap.size W _ ∧ KB W0.heap.size Ib W _ ∧ LJ w H R (Ib + 1) Ib q mL aM cM ns cn ms _ _ from by rw [HHe.out]; exact HZ.out)
    · have HBad : Hid (¬ okC ns cn) := fun h5 => hxb2 (h5 _ (List.mem_of_getElem? hxe))
      have hNo := HNodeN.out W x.1.2 hI.lb.bel (by omega)
      have f0 : W.cell? ⟨w.heap.size, 0, none⟩ = some (.pointer (some ⟨R, 0, none⟩)) := ag_cell hI.lb.b3 0
      have HNo : Hid (Calls Try.prog 39 #[.pointer (some ⟨R, 0, none⟩), .int .i64 x.1.2] W fun e w' => e = .returned (.tuple #[.int .i64 0, .agg #[.int .u32 0, .int .u32 0], .int .i64 100]) ∧ Below W.heap.size W w') := hNo
      clear hNo hI hxb2
      generalize x.1.2 = xz at *
      gi_wp2_with fail
      refine ⟨trivial, (CallsIn.inRound l (callsIn_wide.2 HNo.out)).mono ?_⟩
      rintro e Wa ⟨rfl, hba⟩
      have HJb : Hid (Below W.heap.size W (Wa.alloc (.cells #[.int .u32 0, .int .u32 0] 96)) ∧ Below w.heap.size w (Wa.alloc (.cells #[.int .u32 0, .int .u32 0] 96)) ∧ (Wa.alloc (.cells #[.int .u32 0, .int .u32 0] 96)).heap[w.heap.size + 1 + 1]? = some (.cells #[.slice none 0 0] 49 (0, 0)) ∧ (Wa.alloc (.cells #[.int .u32 0, .int .u32 0] 96)).heap[w.heap.size + 1 + 1 + 1]? = some (.cells #[.int .i64 0] 34 (0, 0))) := by
        have hb : Below W.heap.size W (Wa.alloc (.cells #[.int .u32 0, .int .u32 0] 96)) := ag_next hba (ag_bel1 _ _)
        have h5 := HI.out.lb.over hb
        exact ⟨hb, h5.bel, h5.b6, h5.b7⟩
      clear hba HNo f0
      have g6 : (Wa.alloc (.cells #[.int .u32 0, .int .u32 0] 96)).cell? ⟨w.heap.size + 1 + 1, 0, none⟩ = some (.slice none 0 0) := ag_cell HJb.out.2.2.1 0
      have g7 : (Wa.alloc (.cells #[.int .u32 0, .int .u32 0] 96)).cell? ⟨w.heap.size + 1 + 1 + 1, 0, none⟩ = some (.int .i64 0) := ag_cell HJb.out.2.2.2 0
      have z6 : (Wa.alloc (.cells #[.int .u32 0, .int .u32 0] 96)).frozen? ⟨w.heap.size + 1 + 1, 0, none⟩ = false := ag_fz HJb.out.2.2.1 0
      have z7 : (Wa.alloc (.cells #[.int .u32 0, .int .u32 0] 96)).frozen? ⟨w.heap.size + 1 + 1 + 1, 0, none⟩ = false := ag_fz HJb.out.2.2.2 0
      have HZ : Hid (KeepsFrom H W (((Wa.alloc (.cells #[.int .u32 0, .int .u32 0] 96)).setCell ⟨w.heap.size + 1 + 1, 0, none⟩ (.slice none 0 0)).setCell ⟨w.heap.size + 1 + 1 + 1, 0, none⟩ (.int .i64 100)) ∧ LX w ns cn .ret (((Wa.alloc (.cells #[.int .u32 0, .int .u32 0] 96)).setCell ⟨w.heap.size + 1 + 1, 0, none⟩ (.slice none 0 0)).setCell ⟨w.heap.size + 1 + 1 + 1, 0, none⟩ (.int .i64 100))) := by
        have k1 := heap_setCell_same (Wa.alloc (.cells #[.int .u32 0, .int .u32 0] 96)) _ 0 _ _ (.slice none 0 0) HJb.out.2.2.1
        have k2 := (heap_setCell_other (Wa.alloc (.cells #[.int .u32 0, .int .u32 0] 96)) ⟨w.heap.size + 1 + 1, 0, none⟩ (w.heap.size + 1 + 1 + 1) (.slice none 0 0) (by show w.heap.size + 1 + 1 + 1 ≠ w.heap.size + 1 + 1; omega)).trans HJb.out.2.2.2
        have k3 := heap_setCell_same _ _ 0 _ _ (.int .i64 100) k2
        refine ⟨⟨Nat.le_trans HJb.out.1.size (by simp), fun k o _ hk ho => ?_⟩, ⟨rfl, (heap_setCell_other _ _ _ _ (by show w.heap.size + 1 + 1 ≠ w.heap.size + 1 + 1 + 1; omega)).trans k1, k3, (HJb.out.2.1.setCell (p := ⟨w.heap.size + 1 + 1, 0, none⟩) (by show w.heap.size ≤ w.heap.size + 1 + 1; omega) _).setCell (p := ⟨w.heap.size + 1 + 1 + 1, 0, none⟩) (by show w.heap.size ≤ w.heap.size + 1 + 1 + 1; omega) _, HBad.out⟩⟩
        have hk2 := (HJb.out.1.block k (Array.getElem?_eq_some_iff.1 hk).1).trans hk
        refine (heap_setCell_other _ _ _ _ (fun e => ?_)).trans ((heap_setCell_other _ _ _ _ (fun e => ?_)).trans hk2)
        · have e' : k = w.heap.size + 1 + 1 + 1 := e
          rw [e', HJb.out.2.2.2] at hk2
          cases hk2
          cases ho
        · have e' : k = w.heap.size + 1 + 1 := e
          rw [e', HJb.out.2.2.1] at hk2
          cases hk2
          cases ho
      have HHe : Hid (W0.heap.size = H) := hH
      gi_wp2_with fail
      exact (show KeepsFrom W0.heap.size W _ ∧ LX w ns cn .ret _ from by rw [HHe.out]; exact HZ.out)
  case done =>
    rintro D xs W hD hS hI hK
    have HI : Hid (LJ w H R (Ib + 1) Ib q mL aM cM ns cn ms xs W) := hI
    have g8 : W.cell? ⟨Ib + 1, 0, none⟩ = some (.slice (some ⟨Ib, 0, none⟩) q q) := ag_cell hI.lb.b8 0
    have g6 : W.cell? ⟨w.heap.size + 1 + 1, 0, none⟩ = some (.slice none 0 0) := ag_cell hI.lb.b6 0
    have g7 : W.cell? ⟨w.heap.size + 1 + 1 + 1, 0, none⟩ = some (.int .i64 0) := ag_cell hI.lb.b7 0
    have z6 : W.frozen? ⟨w.heap.size + 1 + 1, 0, none⟩ = false := ag_fz hI.lb.b6 0
    have z7 : W.frozen? ⟨w.heap.size + 1 + 1 + 1, 0, none⟩ = false := ag_fz hI.lb.b7 0
    clear hI
    gi_wp2_with fail
    have nD : ∀ (k : Nat) (cs : Array Value) (t : TypeId) (fr : Nat × Nat), W.heap[k]? = some (.cells cs t fr) → D ≠ k := fun k cs t fr hk e => by
      rw [← e, hK] at hk
      cases hk
    obtain ⟨A, hA, hAs, hAb⟩ := HI.out.lr
    have n6 := nD _ _ _ _ HI.out.lb.b6
    have n7 := nD _ _ _ _ HI.out.lb.b7
    have nI := nD _ _ _ _ hA
    have i6 : w.heap.size + 1 + 1 ≠ Ib := fun e => by
      have h5 := HI.out.lb.b6
      rw [e, hA] at h5
      cases h5
    have i7 : w.heap.size + 1 + 1 + 1 ≠ Ib := fun e => by
      have h5 := HI.out.lb.b7
      rw [e, hA] at h5
      cases h5
    have hk2 : ((W.setCell ⟨w.heap.size + 1 + 1, 0, none⟩ (.slice (some ⟨Ib, 0, none⟩) q q)).setCell ⟨w.heap.size + 1 + 1 + 1, 0, none⟩ (.int .i64 0)).heap[D]? = some (.deferred (some [])) := (heap_setCell_other _ _ _ _ n7).trans ((heap_setCell_other _ _ _ _ n6).trans hK)
    refine ⟨by simp, .inl ⟨_, _, rfl, run_takeDeferred hk2, ?_⟩⟩
    have x6 : (((W.setCell ⟨w.heap.size + 1 + 1, 0, none⟩ (.slice (some ⟨Ib, 0, none⟩) q q)).setCell ⟨w.heap.size + 1 + 1 + 1, 0, none⟩ (.int .i64 0)).putObj D (.deferred none)).heap[w.heap.size + 1 + 1]? = some (.cells #[.slice (some ⟨Ib, 0, none⟩) q q] 49 (0, 0)) :=
      (World.putObj_heap_other (Ne.symm n6)).trans ((heap_setCell_other _ _ _ _ (by show w.heap.size + 1 + 1 ≠ w.heap.size + 1 + 1 + 1; omega)).trans (heap_setCell_same _ _ 0 _ _ _ HI.out.lb.b6))
    have x7 : (((W.setCell ⟨w.heap.size + 1 + 1, 0, none⟩ (.slice (some ⟨Ib, 0, none⟩) q q)).setCell ⟨w.heap.size + 1 + 1 + 1, 0, none⟩ (.int .i64 0)).putObj D (.deferred none)).heap[w.heap.size + 1 + 1 + 1]? = some (.cells #[.int .i64 0] 34 (0, 0)) :=
      (World.putObj_heap_other (Ne.symm n7)).trans (heap_setCell_same _ _ 0 _ _ _ ((heap_setCell_other _ _ _ _ (by show w.heap.size + 1 + 1 + 1 ≠ w.heap.size + 1 + 1; omega)).trans HI.out.lb.b7))
    have xI : (((W.setCell ⟨w.heap.size + 1 + 1, 0, none⟩ (.slice (some ⟨Ib, 0, none⟩) q q)).setCell ⟨w.heap.size + 1 + 1 + 1, 0, none⟩ (.int .i64 0)).putObj D (.deferred none)).heap[Ib]? = some (.cells A 4 (0, 0)) :=
      (World.putObj_heap_other (Ne.symm nI)).trans ((heap_setCell_other _ _ _ _ (Ne.symm i7)).trans ((heap_setCell_other _ _ _ _ (Ne.symm i6)).trans hA))
    have xb : Below w.heap.size w (((W.setCell ⟨w.heap.size + 1 + 1, 0, none⟩ (.slice (some ⟨Ib, 0, none⟩) q q)).setCell ⟨w.heap.size + 1 + 1 + 1, 0, none⟩ (.int .i64 0)).putObj D (.deferred none)) :=
      ((HI.out.lb.bel.setCell (by show w.heap.size ≤ w.heap.size + 1 + 1; omega) _).setCell (by show w.heap.size ≤ w.heap.size + 1 + 1 + 1; omega) _).trans (belowK_b (w := w) (Nat.le_refl _) _ D _ _ (by omega) hk2 rfl rfl)
    generalize ((W.setCell ⟨w.heap.size + 1 + 1, 0, none⟩ (.slice (some ⟨Ib, 0, none⟩) q q)).setCell ⟨w.heap.size + 1 + 1 + 1, 0, none⟩ (.int .i64 0)).putObj D (.deferred none) = X at *
    have c6 : X.cell? ⟨w.heap.size + 1 + 1, 0, none⟩ = some (.slice (some ⟨Ib, 0, none⟩) q q) := ag_cell x6 0
    have c7 : X.cell? ⟨w.heap.size + 1 + 1 + 1, 0, none⟩ = some (.int .i64 0) := ag_cell x7 0
    refine ⟨_, res_cc (p := 6) (u := 7) rfl _ _ ⟨w.heap.size + 1 + 1, 0, none⟩ ⟨w.heap.size + 1 + 1 + 1, 0, none⟩ (.slice (some ⟨Ib, 0, none⟩) q q) (.int .i64 0) rfl rfl ?hx ?hy, ?_⟩
    case hx => simp [loadVar, go_sem, c6]
    case hy => simp [loadVar, go_sem, c7]
    refine ⟨xb, .inl ⟨fun n hn => ?_, Ib, rfl, fun _ => ⟨Ib, 0, rfl, (Array.getElem?_eq_some_iff.1 xI).1, fun j hj => ?_⟩⟩⟩
    · obtain ⟨i, hi, e⟩ := List.getElem_of_mem hn
      obtain ⟨y, hy, hy2⟩ := elY_all (gs := cn) (i := i) (n := n) (by rw [List.getElem?_eq_getElem hi, e])
      have h5 := HI.out.ok y (by rw [hS]; exact hy)
      rw [hy2] at h5
      exact h5
    · rw [HLf.out.1] at hj
      rw [HLf.out.2 j hj, Nat.zero_add, ag_cell xI, hAb j hj, hS]
  case stop =>
    rintro D c2 pre W hD _ h hK
    obtain rfl := h.cd
    have HI : Hid (LX w ns cn .ret W) := h
    clear h
    gi_wp2_with fail
    have nD : ∀ (k : Nat) (cs : Array Value) (t : TypeId) (fr : Nat × Nat), W.heap[k]? = some (.cells cs t fr) → D ≠ k := fun k cs t fr hk e => by
      rw [← e, hK] at hk
      cases hk
    have n6 := nD _ _ _ _ HI.out.b6
    have n7 := nD _ _ _ _ HI.out.b7
    refine ⟨by simp, .inl ⟨_, _, rfl, run_takeDeferred hK, ?_⟩⟩
    have x6 : (W.putObj D (.deferred none)).heap[w.heap.size + 1 + 1]? = some (.cells #[.slice none 0 0] 49 (0, 0)) := (World.putObj_heap_other (Ne.symm n6)).trans HI.out.b6
    have x7 : (W.putObj D (.deferred none)).heap[w.heap.size + 1 + 1 + 1]? = some (.cells #[.int .i64 100] 34 (0, 0)) := (World.putObj_heap_other (Ne.symm n7)).trans HI.out.b7
    have xb : Below w.heap.size w (W.putObj D (.deferred none)) := HI.out.bel.trans (belowK_b (w := w) (Nat.le_refl _) _ D _ _ (by omega) hK rfl rfl)
    generalize W.putObj D (.deferred none) = X at *
    have c6 : X.cell? ⟨w.heap.size + 1 + 1, 0, none⟩ = some (.slice none 0 0) := ag_cell x6 0
    have c7 : X.cell? ⟨w.heap.size + 1 + 1 + 1, 0, none⟩ = some (.int .i64 100) := ag_cell x7 0
    refine ⟨_, res_cc (p := 6) (u := 7) rfl _ _ ⟨w.heap.size + 1 + 1, 0, none⟩ ⟨w.heap.size + 1 + 1 + 1, 0, none⟩ (.slice none 0 0) (.int .i64 100) rfl rfl ?hx ?hy, ?_⟩
    case hx => simp [loadVar, go_sem, c6]
    case hy => simp [loadVar, go_sem, c7]
    exact ⟨xb, .inr ⟨HI.out.bad, rfl⟩⟩
end Go.Proofs.Ytkomadlmonhlhaa
