import Derived.RangeFuncNested
import Derived.RangeFuncBound
import Derived.RangeFuncCalls
import Derived.RangeFuncLeaves
import Derived.Shelf.Abstract
import Derived.Shelf.RegionOpen
import Derived.WalkKit
import Derived.OwnWalkIn
import Derived.TacticsInMore
import Derived.LoopNIn
import Derived.LoopIn
import Derived.Test.YtbkkdoehggkecaaTsV
import Derived.Test.YtbkkdoehggkecaaTsP
namespace Go.Proofs.Ytbkkdoehggkecaa
open Go.ChangeShapes Go.WideShapes Go.ChangeAt Go.RowKit Go.Lib Go.Ag Go.WideMaps Go.Maps Go.ChangeMaps Go.Cn Go.Shelf
attribute [local go_sem] Oper.semAt_some

/-- a gate as it is handed to a round: its place, and that it may be -/
abbrev IX1 (N : Nat) (m : List Nat) := { p : Nat × Nat // 0 < N → m[p.1]? = some p.2 }
def encJ {N : Nat} {m : List Nat} (x : IX1 N m) : Array Value := #[.int .i64 (x.1.1 : Int), .int .i64 (x.1.2 : Int)]
/-- what has come when k rounds are over -/
def bwJ {N : Nat} {m : List Nat} (el : Nat → IX1 N m) (k : Nat) : List (IX1 N m) := (List.range k).map el
theorem bwJ_succ {N : Nat} {m : List Nat} (el : Nat → IX1 N m) (k : Nat) : bwJ el (k + 1) = bwJ el k ++ [el k] := by simp [bwJ, List.range_succ]
theorem bwJ_len {N : Nat} {m : List Nat} (el : Nat → IX1 N m) (k : Nat) : (bwJ el k).length = k := by simp [bwJ]
set_option maxRecDepth 100000 in
set_option maxHeartbeats 4000000 in
theorem bwi1_in (F : Fence) (n : Nat) (h7 : F.fn 54) (hro : F.round = none) (hn : 1 ≤ n) (l Bs H Mb b off len cap : Nat) {N : Nat} {m : List Nat} (el : Nat → IX1 N m) (hreach : len ≤ 1000000000) (hb : b < H ∧ b ≠ Mb) (hBs : Bs < H ∧ Bs ≠ Mb) (J Jx : List (IX1 N m) → World → Prop)
    (hY : ∀ pre x W, J pre W → pre.length < len → YieldAt F (n - 1) Try.prog l (encJ x) W fun e W' =>
      (e = .returned (.bool true) ∧ J (pre ++ [x]) W' ∧ KB H Mb W W') ∨ (e = .returned (.bool false) ∧ Jx (pre ++ [x]) W'))
    (W : World) (hc0 : W.cell? ⟨Bs, 0, none⟩ = some (.slice (some ⟨b, off, none⟩) len cap)) (hel : ∀ j, j < len → (el j).1.1 = len - 1 - j)
    (hc : ∀ j, j < len → W.cell? ⟨b, off + (len - 1 - j), none⟩ = some (.int .i64 ((el j).1.2 : Int))) (h0 : J [] W) :
    CallsIn F n Try.prog 54 #[.func (.yield l) #[] #[], .pointer (some ⟨Bs, 0, none⟩)] W fun e W' => (∃ v, e = .returned v) ∧
      ((∃ ys, ys = bwJ el len ∧ J ys W') ∨ (∃ pre, (∃ k, k ≤ len ∧ pre = bwJ el k) ∧ Jx pre W')) := by
  refine callsIn_of_wp Try.func54 rfl h7 ?_ hro
  simp only [Try.ntmps54, List.size_toArray, List.length_cons, List.length_nil, Nat.reduceAdd, Nat.reduceSub, Array.replicate_succ, Array.replicate_zero, List.push_toArray, List.append_toArray, List.nil_append, List.cons_append]
  gi_wp2
  gi_loopw [3] (fun i wr => ∃ k : Nat, k ≤ len ∧ i = .int .i64 ((len : Int) - 1 - k) ∧ J (bwJ el k) wr ∧ KB H Mb W wr)
    (fun i _ => (intOf i + 1).toNat)
  case atStart => exact ⟨0, Nat.zero_le _, by simp, h0, fun _ _ _ => rfl⟩
  case round =>
    obtain ⟨k, hk, rfl, hJs, hnx⟩ := hrel
    by_cases hlt : k < len
    · have q0 : (0 : Int) ≤ (len : Int) - 1 - k := by omega
      obtain ⟨p, hp⟩ : ∃ p, len - 1 - k = p := ⟨_, rfl⟩
      have hpi : (len : Int) - 1 - k = (p : Int) := by omega
      have hcx := hc k hlt
      rw [hp] at hcx
      have kc : ∀ i, W.cell? ⟨b, i, none⟩ = wr.cell? ⟨b, i, none⟩ := fun i => (World.cell?_of_block (w := W) (w' := wr) (a := ⟨b, i, none⟩) (hnx b hb.1 hb.2)).symm
      rw [kc] at hcx
      have hs0 : wr.cell? ⟨Bs, 0, none⟩ = some (.slice (some ⟨b, off, none⟩) len cap) := (World.cell?_of_block (w := W) (w' := wr) (a := ⟨Bs, 0, none⟩) (hnx Bs hBs.1 hBs.2)).trans hc0
      obtain ⟨fn, tmps, assign, body, hy, hR⟩ := hY _ (el k) wr hJs (by rw [bwJ_len]; exact hlt)
      have he1 := hel k hlt
      rw [hp] at he1
      unfold encJ at hy
      rw [he1] at hy
      rw [hpi]
      have hpl : p < len := by omega
      gi_wp2
      refine hR.mono ?_
      rintro e W3 (⟨rfl, hJ3, hk3⟩ | ⟨rfl, hJx3⟩)
      · gi_wp2
        go_roundw
        case rel => exact ⟨k + 1, by omega, by first | (simp; omega) | simp, by rw [bwJ_succ]; exact hJ3, hnx.t hk3⟩
        case measure => first | (simp [intOf]; omega) | simp [intOf]
      · gi_wp2
        refine bodyPost_ret (results_none rfl _ _ _) rfl ?_
        exact ⟨⟨_, rfl⟩, .inr ⟨_, ⟨k + 1, by omega, (bwJ_succ _ _).symm⟩, hJx3⟩⟩
    · obtain rfl : k = len := by omega
      have q0 : ¬ (0 : Int) ≤ (k : Int) - 1 - k := by omega
      gi_wp2
      go_end0
      exact ⟨⟨_, rfl⟩, .inl hJs⟩
set_option maxRecDepth 100000 in
set_option maxHeartbeats 4000000 in
theorem bwi1_nil (F : Fence) (n : Nat) (h7 : F.fn 54) (hro : F.round = none) (l Bs cap : Nat) (ad : Option Addr) {N : Nat} {m : List Nat} (J : List (IX1 N m) → World → Prop) (W : World) (hc0 : W.cell? ⟨Bs, 0, none⟩ = some (.slice ad 0 cap)) (h0 : J [] W) :
    CallsIn F n Try.prog 54 #[.func (.yield l) #[] #[], .pointer (some ⟨Bs, 0, none⟩)] W fun e W' => (∃ v, e = .returned v) ∧ J [] W' := by
  refine callsIn_of_wp Try.func54 rfl h7 ?_ hro
  simp only [Try.ntmps54, List.size_toArray, List.length_cons, List.length_nil, Nat.reduceAdd, Nat.reduceSub, Array.replicate_succ, Array.replicate_zero, List.push_toArray, List.append_toArray, List.nil_append, List.cons_append]
  gi_wp2
  gi_loopw [3] (fun i wr => i = .int .i64 (-1) ∧ J [] wr) (fun _ _ => 0)
  case atStart => exact ⟨by simp, h0⟩
  case round =>
    obtain ⟨rfl, hJs⟩ := hrel
    gi_wp2
    go_end0
    exact ⟨⟨_, rfl⟩, hJs⟩
theorem bwi_in (F : Fence) (n : Nat) (h5 : F.fn 28) (hro : F.round = none) (a : Option Addr) (len cap : Nat) (w : World) :
    CallsIn F n Try.prog 28 #[.slice a len cap] w fun e w' => e = .returned (.func (.func 54) #[] #[.pointer (some ⟨w.heap.size, 0, none⟩)]) ∧ w' = w.alloc (.cells #[.slice a len cap] 23) := by
  refine callsIn_of_wp Try.func28 rfl h5 ?_ hro
  simp only [Try.ntmps28, List.size_toArray, List.length_cons, List.length_nil, Nat.reduceAdd, Nat.reduceSub, Array.replicate_succ, Array.replicate_zero, List.push_toArray, List.append_toArray, List.nil_append, List.cons_append]
  gi_wp2
  go_ret
  exact ⟨rfl, rfl⟩
/-- the nodes, the last one first -/
def elJ (gs : List Nat) (j : Nat) : IX1 gs.length gs := ⟨(gs.length - 1 - j, gs.getD (gs.length - 1 - j) 0), fun h => by
  rw [List.getD_eq_getElem?_getD, List.getElem?_eq_getElem (by show gs.length - 1 - j < gs.length; omega)]
  rfl⟩
theorem elJ_all {gs : List Nat} {i n : Nat} (h : gs[i]? = some n) : ∃ x ∈ bwJ (elJ gs) gs.length, x.1 = (i, n) := by
  have hi := (List.getElem?_eq_some_iff.1 h).1
  refine ⟨elJ gs (gs.length - 1 - i), List.mem_map.2 ⟨gs.length - 1 - i, List.mem_range.2 (by omega), rfl⟩, ?_⟩
  show (gs.length - 1 - (gs.length - 1 - i), gs.getD (gs.length - 1 - (gs.length - 1 - i)) 0) = (i, n)
  rw [show gs.length - 1 - (gs.length - 1 - i) = i by omega, List.getD_eq_getElem?_getD, h]
  rfl
/-- slices.Backward's value: all gates, the last one first -/
theorem bwi_stops (F : Fence) (n : Nat) (h7 : F.fn 54) (hro : F.round = none) (hn : 1 ≤ n) (Bs Mb : Nat) (aG : Option Addr) (gs : List Nat) (cG : Nat) (hlen : gs.length ≤ 1000000000) (w : World) (hBs : Bs < w.heap.size ∧ Bs ≠ Mb) (hG : Nts w aG gs) (hne : 0 < gs.length → ∀ b off, aG = some ⟨b, off, none⟩ → b ≠ Mb) (hc : w.cell? ⟨Bs, 0, none⟩ = some (.slice aG gs.length cG)) :
    SeqStopsK F n Try.prog 54 #[.pointer (some ⟨Bs, 0, none⟩)] (encJ (N := gs.length) (m := gs)) (KB w.heap.size Mb) (fun ys => ys = bwJ (elJ gs) gs.length) (fun _ => True) gs.length w := fun l J Jx W hW _ _ hY h0 => by
  have hc' := (hW.cell (p := ⟨Bs, 0, none⟩) hBs.1).trans hc
  by_cases h0l : 0 < gs.length
  · obtain ⟨b, off, rfl, hb, hcc⟩ := hG h0l
    refine (bwi1_in F n h7 hro hn l Bs w.heap.size Mb b off gs.length cG (elJ gs) hlen ⟨hb, hne h0l b off rfl⟩ hBs J Jx hY W hc' (fun j _ => rfl) (fun j hj => ?_) h0).mono ?_
    · exact (hW.cell (p := ⟨b, _, none⟩) hb).trans (hcc (gs.length - 1 - j) (by omega))
    · rintro e W' ⟨he, ⟨ys, rfl, hj⟩ | ⟨pre, _, hj⟩⟩
      · exact ⟨he, .inl ⟨_, rfl, hj⟩⟩
      · exact ⟨he, .inr ⟨pre, trivial, hj⟩⟩
  · have e0 : gs.length = 0 := by omega
    rw [e0] at hc'
    refine (bwi1_nil F n h7 hro l Bs cG aG J W hc' h0).mono ?_
    rintro e W' ⟨he, hj⟩
    refine ⟨he, .inl ⟨_, rfl, ?_⟩⟩
    have e9 : bwJ (elJ gs) gs.length = [] := List.eq_nil_of_length_eq_zero (by rw [bwJ_len]; exact e0)
    rw [e9]
    exact hj
end Go.Proofs.Ytbkkdoehggkecaa
