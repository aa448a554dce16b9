import Derived.RangeFuncNested
import Derived.RangeFuncBound
import Derived.RangeFuncCalls
import Derived.RangeFuncLeaves
import Derived.Shelf.Abstract
import Derived.Shelf.RegionOpen
import Derived.WalkKit
import Derived.OwnWalkIn
import Derived.TacticsInMore
import Derived.LoopNIn
import Derived.LoopIn
import Derived.Test.YtkomadlmonhlhaaTsE
namespace Go.Proofs.Ytkomadlmonhlhaa
open Go.ChangeShapes Go.WideShapes Go.ChangeAt Go.RowKit Go.Lib Go.Ag Go.WideMaps Go.Maps Go.ChangeMaps Go.Cn Go.Shelf
attribute [local go_sem] Oper.semAt_some

/-- a gate as it is handed to a round: its place, and that it may be -/
abbrev GX1 (N m : Nat) := Nat × { g : GT // 0 < N → OKG m g }
def encG {N m : Nat} (x : GX1 N m) : Array Value := #[.int .i64 (x.1 : Int), .agg #[.int .i64 x.2.1.1, .int .i64 x.2.1.2.1, .int .i64 x.2.1.2.2]]
/-- what stands below, but for one block -/
def KB (H Mb : Nat) (W W' : World) : Prop := ∀ j, j < H → j ≠ Mb → W'.heap[j]? = W.heap[j]?
theorem KB.t {H Mb : Nat} {A B C : World} (h : KB H Mb A B) (h2 : KB H Mb B C) : KB H Mb A C := fun j hj hn => (h2 j hj hn).trans (h j hj hn)
theorem KB.b {H Mb : Nat} (W : World) (l : Nat) (o o' : Obj) (hl : H ≤ l) (_h : W.heap[l]? = some o) (_h2 : o.isCells = false) (_h3 : o.isWalk = false) : KB H Mb W (W.putObj l o') := fun j hj _ => World.putObj_heap_other (by omega)
/-- what has come when k rounds are over -/
def bwL {N m : Nat} (el : Nat → GX1 N m) (k : Nat) : List (GX1 N m) := (List.range k).map el
theorem bwL_succ {N m : Nat} (el : Nat → GX1 N m) (k : Nat) : bwL el (k + 1) = bwL el k ++ [el k] := by simp [bwL, List.range_succ]
theorem bwL_len {N m : Nat} (el : Nat → GX1 N m) (k : Nat) : (bwL el k).length = k := by simp [bwL]
set_option maxRecDepth 100000 in
set_option maxHeartbeats 4000000 in
theorem bw1_in (F : Fence) (n : Nat) (h7 : F.fn 81) (hro : F.round = none) (hn : 1 ≤ n) (l Bs H Mb b off len cap : Nat) {N m : Nat} (el : Nat → GX1 N m) (hreach : len ≤ 1000000000) (hb : b < H ∧ b ≠ Mb) (hBs : Bs < H ∧ Bs ≠ Mb) (J Jx : List (GX1 N m) → World → Prop)
    (hY : ∀ pre x W, J pre W → pre.length < len → YieldAt F (n - 1) Try.prog l (encG x) W fun e W' =>
      (e = .returned (.bool true) ∧ J (pre ++ [x]) W' ∧ KB H Mb W W') ∨ (e = .returned (.bool false) ∧ Jx (pre ++ [x]) W'))
    (W : World) (hc0 : W.cell? ⟨Bs, 0, none⟩ = some (.slice (some ⟨b, off, none⟩) len cap)) (hel : ∀ j, j < len → (el j).1 = len - 1 - j)
    (hc : ∀ j, j < len → W.cell? ⟨b, off + (len - 1 - j) * 3, none⟩ = some (.int .i64 (el j).2.1.1) ∧ W.cell? ⟨b, off + (len - 1 - j) * 3 + 1, none⟩ = some (.int .i64 (el j).2.1.2.1) ∧ W.cell? ⟨b, off + (len - 1 - j) * 3 + 2, none⟩ = some (.int .i64 (el j).2.1.2.2)) (h0 : J [] W) :
    CallsIn F n Try.prog 81 #[.func (.yield l) #[] #[], .pointer (some ⟨Bs, 0, none⟩)] W fun e W' => (∃ v, e = .returned v) ∧
      ((∃ ys, ys = bwL el len ∧ J ys W') ∨ (∃ pre, (∃ k, k ≤ len ∧ pre = bwL el k) ∧ Jx pre W')) := by
  refine callsIn_of_wp Try.func81 rfl h7 ?_ hro
  simp only [Try.ntmps81, List.size_toArray, List.length_cons, List.length_nil, Nat.reduceAdd, Nat.reduceSub, Array.replicate_succ, Array.replicate_zero, List.push_toArray, List.append_toArray, List.nil_append, List.cons_append]
  gi_wp2
  gi_loopw [3] (fun i wr => ∃ k : Nat, k ≤ len ∧ i = .int .i64 ((len : Int) - 1 - k) ∧ J (bwL el k) wr ∧ KB H Mb W wr)
    (fun i _ => (intOf i + 1).toNat)
  case atStart => exact ⟨0, Nat.zero_le _, by simp, h0, fun _ _ _ => rfl⟩
  case round =>
    obtain ⟨k, hk, rfl, hJs, hnx⟩ := hrel
    by_cases hlt : k < len
    · have q0 : (0 : Int) ≤ (len : Int) - 1 - k := by omega
      obtain ⟨p, hp⟩ : ∃ p, len - 1 - k = p := ⟨_, rfl⟩
      have hpi : (len : Int) - 1 - k = (p : Int) := by omega
      have hcx := hc k hlt
      rw [hp] at hcx
      have kc : ∀ i, W.cell? ⟨b, i, none⟩ = wr.cell? ⟨b, i, none⟩ := fun i => (World.cell?_of_block (w := W) (w' := wr) (a := ⟨b, i, none⟩) (hnx b hb.1 hb.2)).symm
      rw [kc, kc, kc] at hcx
      obtain ⟨x0, x1, x2⟩ := hcx
      have hs0 : wr.cell? ⟨Bs, 0, none⟩ = some (.slice (some ⟨b, off, none⟩) len cap) := (World.cell?_of_block (w := W) (w' := wr) (a := ⟨Bs, 0, none⟩) (hnx Bs hBs.1 hBs.2)).trans hc0
      obtain ⟨fn, tmps, assign, body, hy, hR⟩ := hY _ (el k) wr hJs (by rw [bwL_len]; exact hlt)
      have he1 := hel k hlt
      rw [hp] at he1
      unfold encG at hy
      rw [he1] at hy
      rw [hpi]
      have hpl : p < len := by omega
      gi_wp2
      refine hR.mono ?_
      rintro e W3 (⟨rfl, hJ3, hk3⟩ | ⟨rfl, hJx3⟩)
      · gi_wp2
        go_roundw
        case rel => exact ⟨k + 1, by omega, by first | (simp; omega) | simp, by rw [bwL_succ]; exact hJ3, hnx.t hk3⟩
        case measure => first | (simp [intOf]; omega) | simp [intOf]
      · gi_wp2
        refine bodyPost_ret (results_none rfl _ _ _) rfl ?_
        exact ⟨⟨_, rfl⟩, .inr ⟨_, ⟨k + 1, by omega, (bwL_succ _ _).symm⟩, hJx3⟩⟩
    · obtain rfl : k = len := by omega
      have q0 : ¬ (0 : Int) ≤ (k : Int) - 1 - k := by omega
      gi_wp2
      go_end0
      exact ⟨⟨_, rfl⟩, .inl hJs⟩
set_option maxRecDepth 100000 in
set_option maxHeartbeats 4000000 in
theorem bw1_nil (F : Fence) (n : Nat) (h7 : F.fn 81) (hro : F.round = none) (l Bs cap : Nat) (ad : Option Addr) {N m : Nat} (J : List (GX1 N m) → World → Prop) (W : World) (hc0 : W.cell? ⟨Bs, 0, none⟩ = some (.slice ad 0 cap)) (h0 : J [] W) :
    CallsIn F n Try.prog 81 #[.func (.yield l) #[] #[], .pointer (some ⟨Bs, 0, none⟩)] W fun e W' => (∃ v, e = .returned v) ∧ J [] W' := by
  refine callsIn_of_wp Try.func81 rfl h7 ?_ hro
  simp only [Try.ntmps81, List.size_toArray, List.length_cons, List.length_nil, Nat.reduceAdd, Nat.reduceSub, Array.replicate_succ, Array.replicate_zero, List.push_toArray, List.append_toArray, List.nil_append, List.cons_append]
  gi_wp2
  gi_loopw [3] (fun i wr => i = .int .i64 (-1) ∧ J [] wr) (fun _ _ => 0)
  case atStart => exact ⟨by simp, h0⟩
  case round =>
    obtain ⟨rfl, hJs⟩ := hrel
    gi_wp2
    go_end0
    exact ⟨⟨_, rfl⟩, hJs⟩
theorem bw_in (F : Fence) (n : Nat) (h5 : F.fn 63) (hro : F.round = none) (a : Option Addr) (len cap : Nat) (w : World) :
    CallsIn F n Try.prog 63 #[.slice a len cap] w fun e w' => e = .returned (.func (.func 81) #[] #[.pointer (some ⟨w.heap.size, 0, none⟩)]) ∧ w' = w.alloc (.cells #[.slice a len cap] 81) := by
  refine callsIn_of_wp Try.func63 rfl h5 ?_ hro
  simp only [Try.ntmps63, List.size_toArray, List.length_cons, List.length_nil, Nat.reduceAdd, Nat.reduceSub, Array.replicate_succ, Array.replicate_zero, List.push_toArray, List.append_toArray, List.nil_append, List.cons_append]
  gi_wp2
  go_ret
  exact ⟨rfl, rfl⟩
/-- the gates, the last one first -/
def elG (m : Nat) (gs : List GT) (hok : ∀ x ∈ gs, OKG m x) (j : Nat) : GX1 gs.length m := (gs.length - 1 - j, if h : gs.length - 1 - j < gs.length then ⟨gs[gs.length - 1 - j], fun _ => hok _ (List.getElem_mem h)⟩ else ⟨(0, 0, 0), fun h0 => absurd h0 (by omega)⟩)
theorem elG_at {m : Nat} {gs : List GT} {hok : ∀ x ∈ gs, OKG m x} {j : Nat} (hj : j < gs.length) : (elG m gs hok j).2.1 = gs.getD (gs.length - 1 - j) (0, 0, 0) := by
  unfold elG
  have h : gs.length - 1 - j < gs.length := by omega
  rw [dif_pos h, List.getD_eq_getElem?_getD, List.getElem?_eq_getElem h]
  rfl
theorem elG_all {m : Nat} {gs : List GT} {hok : ∀ x ∈ gs, OKG m x} : (bwL (elG m gs hok) gs.length).map (fun x => x.2.1) = gs.reverse := by
  apply List.ext_getElem
  · simp [bwL]
  · intro i h1 h2
    have hi : i < gs.length := by simpa [bwL] using h1
    have e1 : ((bwL (elG m gs hok) gs.length).map (fun x => x.2.1))[i] = (elG m gs hok i).2.1 := by simp [bwL]
    rw [e1, elG_at hi, List.getElem_reverse, List.getD_eq_getElem?_getD, List.getElem?_eq_getElem (by omega)]
    rfl
/-- slices.Backward's value: all gates, the last one first -/
theorem bw_stops (F : Fence) (n : Nat) (h7 : F.fn 81) (hro : F.round = none) (hn : 1 ≤ n) (Bs Mb : Nat) (aG : Option Addr) (gs : List GT) (cG m : Nat) (hok : ∀ x ∈ gs, OKG m x) (hlen : gs.length ≤ 1000000000) (w : World) (hBs : Bs < w.heap.size ∧ Bs ≠ Mb) (hG : Gts w aG gs) (hne : 0 < gs.length → ∀ b off, aG = some ⟨b, off, none⟩ → b ≠ Mb) (hc : w.cell? ⟨Bs, 0, none⟩ = some (.slice aG gs.length cG)) :
    SeqStopsK F n Try.prog 81 #[.pointer (some ⟨Bs, 0, none⟩)] (encG (N := gs.length) (m := m)) (KB w.heap.size Mb) (fun ys => ys = bwL (elG m gs hok) gs.length) (fun _ => True) gs.length w := fun l J Jx W hW _ _ hY h0 => by
  have hc' := (hW.cell (p := ⟨Bs, 0, none⟩) hBs.1).trans hc
  by_cases h0l : 0 < gs.length
  · obtain ⟨b, off, rfl, hb, hcc⟩ := hG h0l
    refine (bw1_in F n h7 hro hn l Bs w.heap.size Mb b off gs.length cG (elG m gs hok) hlen ⟨hb, hne h0l b off rfl⟩ hBs J Jx hY W hc' (fun j _ => rfl) (fun j hj => ?_) h0).mono ?_
    · rw [elG_at hj]
      have h5 := hcc (gs.length - 1 - j) (by omega)
      exact ⟨(hW.cell (p := ⟨b, _, none⟩) hb).trans h5.1, (hW.cell (p := ⟨b, _, none⟩) hb).trans h5.2.1, (hW.cell (p := ⟨b, _, none⟩) hb).trans h5.2.2⟩
    · rintro e W' ⟨he, ⟨ys, rfl, hj⟩ | ⟨pre, _, hj⟩⟩
      · exact ⟨he, .inl ⟨_, rfl, hj⟩⟩
      · exact ⟨he, .inr ⟨pre, trivial, hj⟩⟩
  · have e0 : gs.length = 0 := by omega
    rw [e0] at hc'
    refine (bw1_nil F n h7 hro l Bs cG aG J W hc' h0).mono ?_
    rintro e W' ⟨he, hj⟩
    refine ⟨he, .inl ⟨_, rfl, ?_⟩⟩
    have e9 : bwL (elG m gs hok) gs.length = [] := List.eq_nil_of_length_eq_zero (by rw [bwL_len]; exact e0)
    rw [e9]
    exact hj
end Go.Proofs.Ytkomadlmonhlhaa
