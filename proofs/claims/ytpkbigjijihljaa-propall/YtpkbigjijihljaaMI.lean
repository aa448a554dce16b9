import Derived.Test.YtpkbigjijihljaaLI
import Derived.Test.YtpkbigjijihljaaLK
import Derived.Test.YtpkbigjijihljaaRows
import Derived.WalkKit
import Derived.ProofKit
import Derived.OpenShut
import Derived.SizedLaws
import Derived.Carry
import Derived.Deep.Slices
import Derived.Deep.Strs
namespace Go.Proofs.Ytpkbigjijihljaa
open Go.ChangeShapes Go.WideShapes Go.ChangeAt Go.RowKit
open Go.Pr
theorem step_any {w : World} {g r B : Nat} {O1 O2 : Nat → Prop} {S : ES} {R : RS} {p : Nat → Value} {pA pT : Value} {q : Nat → Value} (h : TWO w g r B O1 O2 S R p pA pT q) (hr : REL S R) (K N : Int) (hN : N ≤ 9223372036854775807) {ad : Option Addr} {cp : Nat} {xs : List Int} (hx : RdB w B ad xs) (hxl : xs.length ≤ 17592186044416) :
    Calls Try.prog 11 #[.pointer (some ⟨g, 0, none⟩), .pointer (some ⟨r, 0, none⟩), .agg #[.int .i64 K, .int .i64 N, .slice ad xs.length cp]] w fun e w' => e = .returned (.bool true) ∧ Stp w g r B w' := by
  by_cases h0 : K < 1 ∨ 6 < K
  · exact step0 h hr K N ad xs.length cp h0
  · have : K = 1 ∨ K = 2 ∨ K = 3 ∨ K = 4 ∨ K = 5 ∨ K = 6 := by omega
    rcases this with rfl | rfl | rfl | rfl | rfl | rfl
    · exact step1 h hr N hx hxl
    · exact step2 h hr N ad xs.length cp
    · exact step3 h hr N ad xs.length cp
    · exact step4 h hr N ad xs.length cp
    · exact step5 h hr N hN ad xs.length cp
    · exact step6 h hr N ad xs.length cp
theorem both_no (vars : Int) (h : vars < 0 ∨ 1048576 < vars) (w : World) :
    Calls Try.prog 10 #[.int .i64 vars] w fun e w' => e = .returned (.tuple #[.pointer none, .pointer none, .bool true]) ∧ Below w.heap.size w w' := by
  have HA : Hid (∀ W, Calls Try.prog 21 #[.int .i64 vars] W fun e w' => e = .returned (.tuple #[.pointer none, .int .i64 21]) ∧ w' = W) := fun W => new_no vars h W
  have HB : Hid (∀ W, Calls Try.prog 22 #[.int .i64 vars] W fun e w' => e = .returned (.tuple #[.pointer none, .int .i64 21]) ∧ w' = W) := fun W => rnew_no vars h W
  go_enter Try.func10, Try.ntmps10
  go_wp2_with fail
  refine (HA.out _).mono ?_
  rintro e w' ⟨rfl, hw⟩
  obtain rfl := hw.symm
  go_wp2_with fail
  refine (HB.out _).mono ?_
  rintro e w' ⟨rfl, hw⟩
  obtain rfl := hw.symm
  go_wp2
  go_ret3
  exact ⟨rfl, Below.refl _ _⟩
theorem both_ok (n : Nat) (h : n ≤ 1048576) (w : World) :
    Calls Try.prog 10 #[.int .i64 (n : Int)] w fun e w' => ∃ g r, e = .returned (.tuple #[.pointer (some ⟨g, 0, none⟩), .pointer (some ⟨r, 0, none⟩), .bool true]) ∧ Stp w g r w.heap.size w' := by
  have HA : Hid (∀ W, Calls Try.prog 21 #[.int .i64 (n : Int)] W fun e w' => ∃ g O p, e = .returned (.tuple #[.pointer (some ⟨g, 0, none⟩), .int .i64 0]) ∧ Mem w' g O (es0 n) p ∧ (∀ k, O k → W.heap.size ≤ k) ∧ Below W.heap.size W w') := fun W => new_mem n h W
  have HB : Hid (∀ W, Calls Try.prog 22 #[.int .i64 (n : Int)] W fun e w' => ∃ r O pA pT q, e = .returned (.tuple #[.pointer (some ⟨r, 0, none⟩), .int .i64 0]) ∧ RM w' r O (rs0 n) pA pT q ∧ (∀ k, O k → W.heap.size ≤ k) ∧ Below W.heap.size W w') := fun W => rnew_mem n h W
  have HZ : Hid (REL (es0 n) (rs0 n)) := REL.zero h
  go_enter Try.func10, Try.ntmps10
  go_wp2_with fail
  refine (HA.out _).mono ?_
  rintro e w1 ⟨g, O1, p, rfl, hg⟩
  have HG : Hid (Mem w1 g O1 (es0 n) p ∧ (∀ k, O1 k → w.heap.size ≤ k) ∧ Below w.heap.size w w1) := hg
  clear hg
  go_wp2_with fail
  refine (HB.out _).mono ?_
  rintro e w2 ⟨r, O2, pA, pT, q, rfl, hr⟩
  have HRr : Hid (RM w2 r O2 (rs0 n) pA pT q ∧ (∀ k, O2 k → w1.heap.size ≤ k) ∧ Below w1.heap.size w1 w2) := hr
  clear hr
  go_wp2
  go_ret3
  obtain ⟨m1, a1, b1⟩ := HG.out
  obtain ⟨m2, a2, b2⟩ := HRr.out
  have hs1 := b1.size
  exact ⟨g, r, rfl, es0 n, rs0 n, O1, O2, p, pA, pT, q, HZ.out, ⟨m1.kept b2.size (fun k hk => b2.block k (m1.osz k hk)), m2, fun k h1 h2 => by have := m1.osz k h1; have := a2 k h2; omega, a1, fun k hk => by have := a2 k hk; omega⟩, ⟨b2.os.trans b1.os, b2.tape.trans b1.tape, b2.output.trans b1.output, Nat.le_trans b1.size b2.size, fun k hk => (b2.block k (by omega)).trans (b1.block k hk)⟩⟩
/-- a script's call -/
structure OP where
  k : Int
  n : Int
  ad : Option Addr
  cp : Nat
  xs : List Int
def OP.ok (w : World) (B : Nat) (x : OP) : Prop := x.n ≤ 9223372036854775807 ∧ -9223372036854775808 ≤ x.n ∧ RdB w B x.ad x.xs ∧ x.xs.length ≤ 17592186044416 ∧ ∀ y ∈ x.xs, y ≤ 9223372036854775807
def op0 : OP := ⟨0, 0, none, 0, []⟩
/-- a script that lies below -/
def SCR (w : World) (B : Nat) (ad : Option Addr) (sc : List OP) : Prop :=
  0 < sc.length → ∃ b o, ad = some ⟨b, o, none⟩ ∧ b < B ∧ ∀ j, j < sc.length → w.cell? ⟨b, o + j * 3, none⟩ = some (.int .i64 (sc.getD j op0).k) ∧ w.cell? ⟨b, o + j * 3 + 1, none⟩ = some (.int .i64 (sc.getD j op0).n) ∧ w.cell? ⟨b, o + j * 3 + 2, none⟩ = some (.slice (sc.getD j op0).ad (sc.getD j op0).xs.length (sc.getD j op0).cp) ∧ (sc.getD j op0).ok w B
theorem SCR.below {w W : World} {B : Nat} {ad : Option Addr} {sc : List OP} (h : SCR w B ad sc) (hb : Below B w W) : SCR W B ad sc := fun h0 => by
  obtain ⟨b, o, h1, h2, h3⟩ := h h0
  refine ⟨b, o, h1, h2, fun j hj => ?_⟩
  obtain ⟨k1, k2, k3, k4⟩ := h3 j hj
  have hc : ∀ m, W.cell? ⟨b, m, none⟩ = w.cell? ⟨b, m, none⟩ := fun m => World.cell?_of_block (w' := W) (w := w) (a := ⟨b, m, none⟩) (hb.block b h2)
  exact ⟨(hc _).trans k1, (hc _).trans k2, (hc _).trans k3, k4.1, k4.2.1, k4.2.2.1.below hb, k4.2.2.2⟩
theorem Stp.step {w W : World} {g r B : Nat} (h : Stp w g r B W) (x : OP) (hx : x.ok w B) :
    Calls Try.prog 11 #[.pointer (some ⟨g, 0, none⟩), .pointer (some ⟨r, 0, none⟩), .agg #[.int .i64 x.k, .int .i64 x.n, .slice x.ad x.xs.length x.cp]] W fun e w' => e = .returned (.bool true) ∧ Stp w g r B w' := by
  obtain ⟨S, R, O1, O2, p, pA, pT, q, hr, t, hb⟩ := h
  refine (step_any t hr x.k x.n hx.1 (hx.2.2.1.below hb) hx.2.2.2.1).mono fun e w' hh => ⟨hh.1, ?_⟩
  obtain ⟨S', R', O1', O2', p', pA', pT', q', hr', t', hb'⟩ := hh.2
  exact ⟨S', R', O1', O2', p', pA', pT', q', hr', t', hb.trans hb'⟩
theorem Stp.drewN {w W : World} {g r B m : Nat} (h : Stp w g r B W) : Stp w g r B (W.drewN m) := by
  obtain ⟨S, R, O1, O2, p, pA, pT, q, hr, t, hb⟩ := h
  exact ⟨S, R, O1, O2, p, pA, pT, q, hr, t.drewN, ⟨hb.os, hb.tape, hb.output, hb.size, hb.block⟩⟩
theorem Stp.drew {w W : World} {g r B : Nat} (h : Stp w g r B W) : Stp w g r B W.drew := h.drewN (m := 1)
theorem Stp.below {w W : World} {g r B : Nat} (h : Stp w g r B W) : Below B w W := by
  obtain ⟨S, R, O1, O2, p, pA, pT, q, hr, t, hb⟩ := h
  exact hb
end Go.Proofs.Ytpkbigjijihljaa
namespace Go.Proofs.Ytpkbigjijihljaa
open Go.ChangeShapes Go.WideShapes Go.ChangeAt Go.RowKit
open Go.Pr
theorem own : ownKnob Try.prog.godebug = none := by kernel_rfl
theorem laidOut : laidOutB Try.prog = true := by kernel_rfl
theorem cellsI : Try.prog.cellsOf 3 = 1 := by kernel_rfl
theorem cellsL : Try.prog.cellsOf 30 = 1 := by kernel_rfl
theorem cellsO : Try.prog.cellsOf 32 = 3 := by kernel_rfl
theorem bytesI : Try.prog.bytesOf 3 = 8 := by kernel_rfl
theorem bytesO : Try.prog.bytesOf 32 = 40 := by kernel_rfl
theorem addr_lit {w : World} {x : Addr} {v : Value} (h : w.cell? (x.add 0) = some v) : x = ⟨x.block, x.off, none⟩ := by
  obtain ⟨b, o, s⟩ := x
  cases s with
  | none => rfl
  | some k =>
    simp only [World.cell?, Addr.add, if_true] at h
    split at h
    · simp at h
    · cases h
theorem take_getD (zs : List Int) (n j : Nat) (h : j < n) : (zs.take n).getD j 0 = zs.getD j 0 := by
  rw [List.getD_eq_getElem?_getD, List.getElem?_take_of_lt h, List.getD_eq_getElem?_getD]
theorem weightsAll_mem {H : Type} {P : Program} {e : TypeId} : ∀ {l : List (DataW H)} {d : DataW H}, d ∈ l → ∀ n ∈ d.weights P e, n ∈ DataW.weightsAll P e l
  | d' :: r, d, hd, n, hn => by
    simp only [DataW.weightsAll, List.mem_append]
    rcases List.mem_cons.1 hd with rfl | h
    · exact Or.inl hn
    · exact Or.inr (weightsAll_mem h n hn)
theorem sized_part {H : Type} {P : Program} {ts : List TypeId} {ds : List (DataW H)} (h : (DataW.weightsEach P ts ds).all (· ≤ reachBytes) = true) {j : Nat} {t : TypeId} {d : DataW H} (ht : ts[j]? = some t) (hd : ds[j]? = some d) {z : Nat} (hz : z ∈ d.weights P t) : z ≤ reachBytes :=
  of_decide_eq_true (List.all_eq_true.1 h _ (DataW.weights_mem_each ht hd _ hz))
/-- a call's literals that came in -/
theorem open_lits {H : Type} {enc : TypeId × Value → H} {W : World} {base fuel : Nat} {v : Value} {x : DataW H × List MemPlace} (h : DataW.trod enc Try.prog W base (fun _ => true) true fuel 30 [v] = some x) (hw : ∀ z ∈ x.1.weights Try.prog 30, z ≤ reachBytes) :
    ∃ (ad : Option Addr) (cp : Nat) (xs : List Int), v = .slice ad xs.length cp ∧ RdB W W.heap.size ad xs ∧ xs.length ≤ 17592186044416 ∧ ∀ y ∈ xs, y ≤ 9223372036854775807 := by
  rcases open_ints Try.underlying30 Try.underlying3 cellsI h with ⟨hcs, hd⟩ | ⟨ad, l, c, zs, hcs, hb, hl, hm, hz, hx, hcell, hwz⟩
  · cases hcs
    exact ⟨none, 0, [], rfl, fun h => absurd h (by simp), by simp, by simp⟩
  · cases hcs
    simp only [if_true] at hz
    have hlen : (zs.take l).length = l := by simp; omega
    refine ⟨some ad, c, zs.take l, by rw [hlen], fun hp => ?_, ?_, fun y hy => (bounds_i64 (hwz y (List.mem_of_mem_take hy))).2⟩
    · rw [hlen] at hp
      have h0 := hcell 0 (by omega)
      have e := addr_lit h0
      have hlt : ad.block < W.heap.size := by
        have := block_lt_of_cell h0
        rw [e] at this
        exact this
      refine ⟨ad.block, ad.off, by rw [← e], hlt, fun j hj => ?_⟩
      rw [hlen] at hj
      have hj2 := hcell j (by omega)
      rw [e, Addr.add_lit] at hj2
      rw [hj2, take_getD zs l j hj]
    · rw [hlen]
      have := hw (c * 8) (by
        rw [hx]
        simp only [DataW.weights, Try.underlying30, bytesI, lits, List.length_map, List.length_take, List.length_drop]
        rw [show min l zs.length + (zs.length - l) = c by omega]
        exact List.mem_cons_self)
      unfold reachBytes at this
      omega
set_option maxRecDepth 100000 in
/-- one call that came in -/
theorem open_op {H : Type} {enc : TypeId × Value → H} {W : World} {base fuel : Nat} {cs : List Value} {x : DataW H × List MemPlace} (h : DataW.trod enc Try.prog W base (fun _ => true) true fuel 32 cs = some x) (hw : ∀ z ∈ x.1.weights Try.prog 32, z ≤ reachBytes) :
    ∃ o : OP, cs = [.int .i64 o.k, .int .i64 o.n, .slice o.ad o.xs.length o.cp] ∧ o.ok W W.heap.size := by
  obtain ⟨y0, y1, y2, n, hx, hlen, h0, h1, h2⟩ := Go.Deep.trod_struct3 Try.underlying32 h
  rw [cellsO] at hlen
  obtain ⟨v0, v1, v2, rfl⟩ : ∃ v0 v1 v2, cs = [v0, v1, v2] := by
    match cs, hlen with
    | [v0, v1, v2], _ => exact ⟨v0, v1, v2, rfl⟩
  simp [cellsI, cellsL] at h0 h1 h2
  obtain ⟨k0, e0, _, _⟩ := DataW.trod_int Try.underlying3 h0
  obtain ⟨k1, e1, _, w1⟩ := DataW.trod_int Try.underlying3 h1
  cases e0
  cases e1
  obtain ⟨ad, cp, xs, rfl, hr, hl, hbd⟩ := open_lits h2 (fun z hz => hw z (by
    rw [hx]
    simp only [DataW.weights, Try.underlying32]
    simp [DataW.weightsEach]
    exact Or.inr (Or.inr hz)))
  exact ⟨⟨k0, k1, ad, cp, xs⟩, rfl, (bounds_i64 w1).2, (bounds_i64 w1).1, hr, hl, hbd⟩
set_option maxRecDepth 100000 in
/-- a script that came in -/
theorem open_script {H : Type} {enc : TypeId × Value → H} {W : World} {base b2 : Nat} {v : Value} {d : DataW H} {p : List MemPlace} (hv : Value.okWide Try.prog W .any base 22 v)
    (h : DataW.Trod enc Try.prog W b2 (fun _ => true) true 22 v d p) (hw : ∀ z ∈ d.weights Try.prog 22, z ≤ reachBytes) :
    ∃ (ad : Option Addr) (cap : Nat) (sc : List OP), v = .slice ad sc.length cap ∧ SCR W W.heap.size ad sc ∧ sc.length ≤ 17592186044416 := by
  obtain ⟨a', len, cap', rfl⟩ := okWide_slice Try.underlying22 hv
  obtain ⟨fuel, hf⟩ := h
  have hf' : DataW.trod enc Try.prog W b2 (fun _ => true) true fuel 22 [.slice a' len cap'] = some (d, p) := hf
  rcases Go.Deep.open_slice Try.underlying22 hf' with ⟨hcs, hx⟩ | ⟨a, len2, cap, m, n, D, Pl, hcs, _, hl, hm, hmm, hx, hel⟩
  · cases hcs
    exact ⟨none, 0, [], rfl, fun h => absurd h (by simp), by simp⟩
  · cases hcs
    simp only [if_true] at hmm
    subst hmm
    rw [cellsO] at hel
    have hd : d = .slice ((List.range len).map D) ((List.range (m - len)).map fun j => D (len + j)) := congrArg Prod.fst hx
    have each : ∀ i, i < len → ∃ o : OP, W.cells? b2 (a.add (i * 3)) 3 = some [.int .i64 o.k, .int .i64 o.n, .slice o.ad o.xs.length o.cp] ∧ o.ok W W.heap.size := fun i hi => by
      obtain ⟨cs', h1, h2⟩ := hel i (by omega)
      obtain ⟨o, rfl, ho⟩ := open_op h2 (fun z hz => hw z (by
        rw [hd]
        simp only [DataW.weights, Try.underlying22, List.mem_cons, List.mem_append]
        exact Or.inr (Or.inl (weightsAll_mem (List.mem_map.2 ⟨i, List.mem_range.2 hi, rfl⟩) _ hz))))
      exact ⟨o, h1, ho⟩
    obtain ⟨q, hq⟩ : ∃ q : Nat → OP, ∀ i, i < len → W.cells? b2 (a.add (i * 3)) 3 = some [.int .i64 (q i).k, .int .i64 (q i).n, .slice (q i).ad (q i).xs.length (q i).cp] ∧ (q i).ok W W.heap.size := by
      refine ⟨fun i => if hi : i < len then Classical.choose (each i hi) else op0, fun i hi => ?_⟩
      simp only [dif_pos hi]
      exact Classical.choose_spec (each i hi)
    have hlen : ((List.range len).map q).length = len := by simp
    have hget : ∀ j, j < len → ((List.range len).map q).getD j op0 = q j := fun j hj => by
      rw [List.getD_eq_getElem?_getD, List.getElem?_map, List.getElem?_range hj]
      rfl
    refine ⟨some a, m, (List.range len).map q, by rw [hlen], fun hp => ?_, ?_⟩
    · rw [hlen] at hp
      have hc : ∀ i, i < len → W.cell? (a.add (i * 3 + 0)) = some (.int .i64 (q i).k) ∧ W.cell? (a.add (i * 3 + 1)) = some (.int .i64 (q i).n) ∧ W.cell? (a.add (i * 3 + 2)) = some (.slice (q i).ad (q i).xs.length (q i).cp) := fun i hi => by
        obtain ⟨_, _, hcell⟩ := World.cells?_some (hq i hi).1
        have e0 := hcell 0 (by omega)
        have e1 := hcell 1 (by omega)
        have e2 := hcell 2 (by omega)
        rw [Go.Deep.add_add] at e0 e1 e2
        exact ⟨by simpa using e0, by simpa using e1, by simpa using e2⟩
      have h0 := (hc 0 hp).1
      have e := addr_lit (by simpa using h0)
      have hlt : a.block < W.heap.size := by
        have := block_lt_of_cell h0
        rw [e] at this
        exact this
      refine ⟨a.block, a.off, by rw [← e], hlt, fun j hj => ?_⟩
      rw [hlen] at hj
      obtain ⟨c0, c1, c2⟩ := hc j hj
      rw [hget j hj]
      rw [e, Addr.add_lit] at c0 c1 c2
      exact ⟨c0, c1, c2, (hq j hj).2⟩
    · rw [hlen]
      have := hw (m * 40) (by
        rw [hd]
        simp only [DataW.weights, Try.underlying22, bytesO, List.length_map, List.length_range]
        rw [show len + (m - len) = m by omega]
        exact List.mem_cons_self)
      unfold reachBytes at this
      omega
end Go.Proofs.Ytpkbigjijihljaa
namespace Go.Proofs.Ytpkbigjijihljaa
open Go.ChangeShapes Go.WideShapes Go.ChangeAt Go.RowKit
open Go.Pr
set_option maxHeartbeats 4000000 in
/-- a row of codes told as literals: a new row -/
theorem literalsOf_any {ad : Option Addr} {cp : Nat} {cs : List Nat} (w : World) (hc : 0 < cs.length → ∃ b, ad = some ⟨b, 0, none⟩ ∧ b < w.heap.size ∧ ∀ j, j < cs.length → w.cell? ⟨b, j, none⟩ = some (.int .i32 (cs.getD j 0 : Int))) (hb : ∀ c ∈ cs, c ≤ 2097153) (hl : cs.length ≤ 1048576) :
    Calls Try.prog 37 #[.slice ad cs.length cp] w fun e w' => ∃ g, e = .returned (.slice (some ⟨g, 0, none⟩) cs.length cs.length) ∧ Below w.heap.size w w' := by
  generalize hPP : (fun (e : Ending) (w' : World) => ∃ g, e = .returned (.slice (some ⟨g, 0, none⟩) cs.length cs.length) ∧ Below w.heap.size w w') = PP
  have HPP : Hid (∀ g w', Below w.heap.size w w' → PP (.returned (.slice (some ⟨g, 0, none⟩) cs.length cs.length)) w') := fun g w' h => by rw [← hPP]; exact ⟨g, rfl, h⟩
  clear hPP
  have HC : Hid (0 < cs.length → ∃ b, ad = some ⟨b, 0, none⟩ ∧ b < w.heap.size ∧ ∀ j, j < cs.length → w.cell? ⟨b, j, none⟩ = some (.int .i32 (cs.getD j 0 : Int))) := hc
  have HB : Hid (∀ c ∈ cs, c ≤ 2097153) := hb
  clear hc hb
  obtain ⟨k, hk⟩ : ∃ k, cs.length = k := ⟨_, rfl⟩
  have HK : Hid (cs.length = k) := hk
  rw [hk] at hl HPP ⊢
  clear hk
  obtain ⟨i1, hi1, hz1, hs1, hb1⟩ := info_parts (P := Try.prog) (e := 3) (z := .int .i64 0) (size := 1) (bytes := 8) (by kernel_rfl)
  have e1 : ∀ W : World, (Instr.makeSlice 30 (.int .i64 (k : Int)) (.int .i64 (k : Int))).run Try.prog W = .ok (.slice (some ⟨W.heap.size, 0, none⟩) k k) (W.alloc (.cells (madeCells (Value.int .i64 0).cells (k * 1)) 3)) := fun W => by
    have := run_make (P := Try.prog) (w := W) 30 3 i1 (.int .i64 0) Try.underlying30 hi1 hz1 .i64 .i64 (k : Int) (k : Int) (by omega) (by omega) (by rw [hb1]; omega) (by omega)
    rw [this, hs1, show ((k : Int)).toNat = k by omega]
  have HA : Hid ((madeCells (Value.int .i64 0).cells (k * 1)).size = k) := by show _ = _; rw [size_madeCells]; simp
  generalize madeCells (Value.int .i64 0).cells (k * 1) = A at *
  clear hi1 hz1 hs1 hb1
  go_enter Try.func37, Try.ntmps37
  go_wp2_with fail
  go_loopg [11] k (fun gk s11 wr => ∃ i : Nat, s11 = .int .i64 (i : Int) ∧ i + gk = k ∧ Aside (Below w.heap.size w wr ∧ ∃ A', wr.heap[w.heap.size]? = some (.cells A' 3 (0, 0)) ∧ A'.size = k))
  case atStart => exact ⟨0, rfl, by omega, ⟨(Below.refl _ _).alloc (Nat.le_refl _) _, A, heap_alloc_new _ _, HA.out⟩⟩
  case round =>
    obtain ⟨i, rfl, hi2, HJ⟩ := hrel
    by_cases hlt : i < k
    · obtain ⟨b, rfl, hbl, hcel⟩ := HC.out (by rw [HK.out]; omega)
      have c0 : wr.cell? ⟨b, i, none⟩ = some (.int .i32 (cs.getD i 0 : Int)) := (World.cell?_of_block (w' := wr) (w := w) (a := ⟨b, i, none⟩) (HJ.out.1.block b hbl)).trans (hcel i (by rw [HK.out]; exact hlt))
      have hcb : cs.getD i 0 ≤ 2097153 := by rw [getD_of _ _ _ (by rw [HK.out]; exact hlt)]; exact HB.out _ (List.getElem_mem _)
      have HL : Hid (Calls Try.prog 51 #[.int .i32 (cs.getD i 0 : Int)] wr fun e w' => e = .returned (.int .i64 (ltI (cs.getD i 0))) ∧ w' = wr) := literalOf_any _ wr hcb
      obtain ⟨A', hA', hAs⟩ := HJ.out.2
      have z0 : ∃ z, wr.cell? ⟨w.heap.size, i, none⟩ = some z := ⟨A'[i], by rw [blk_cell hA', Array.getElem?_eq_getElem]⟩
      obtain ⟨z, cz⟩ := z0
      have fz : wr.frozen? ⟨w.heap.size, i, none⟩ = false := by simp [World.frozen?, hA']
      have HN : Aside (∀ u, Below w.heap.size w (wr.setCell ⟨w.heap.size, i, none⟩ u) ∧ ∃ A', (wr.setCell ⟨w.heap.size, i, none⟩ u).heap[w.heap.size]? = some (.cells A' 3 (0, 0)) ∧ A'.size = k) := fun u =>
        ⟨⟨HJ.out.1.os, HJ.out.1.tape, HJ.out.1.output, by simpa using HJ.out.1.size, fun x hx => (heap_setCell_other _ _ _ _ (by show x ≠ w.heap.size; omega)).trans (HJ.out.1.block x hx)⟩, _, heap_setCell_same _ _ _ _ _ _ hA', by simpa using hAs⟩
      have q1 : (i : Int) < (k : Int) := by omega
      clear hcel hA' hAs hcb
      generalize cs.getD i 0 = c at *
      generalize ltI c = y at *
      go_wp2_with fail
      refine HL.out.mono ?_
      rintro e w' ⟨rfl, hw'⟩
      obtain rfl := hw'.symm
      go_wp2
      go_roundg (gk - 1)
      case measure => omega
      case rel => exact ⟨i + 1, by simp, by omega, HN.out _⟩
    · have hji : i = k := by omega
      subst hji
      go_wp2
      first | exact HPP.out _ _ HJ.out.1 | (go_ret2; exact HPP.out _ _ HJ.out.1) | (go_ret; exact HPP.out _ _ HJ.out.1)
end Go.Proofs.Ytpkbigjijihljaa
namespace Go.Proofs.Ytpkbigjijihljaa
open Go.ChangeShapes Go.WideShapes Go.ChangeAt Go.RowKit
open Go.Pr
theorem sub_len : ∀ (a b : List Int), a.Pairwise (fun x y => x ≠ y) → (∀ x ∈ a, x ∈ b) → a.length ≤ b.length
  | [], b, _, _ => Nat.zero_le _
  | x :: t, b, hn, hs => by
    have h1 := List.pairwise_cons.1 hn
    have hx := hs x List.mem_cons_self
    have h2 := sub_len t (b.erase x) h1.2 (fun y hy => (List.mem_erase_of_ne (fun e => h1.1 y hy e.symm)).2 (hs y (List.mem_cons_of_mem _ hy)))
    rw [List.length_erase_of_mem hx] at h2
    have : 0 < b.length := List.length_pos_of_mem hx
    rw [List.length_cons]
    omega
/-- where there is no conflict both tell equally many literals -/
theorem REL.len {S : ES} {R : RS} (h : REL S R) (hb : R.bad = false) : S.trail.length = R.tr.length := by
  have hw := h.full.inv.wf
  have n1 : (fst R.tr).Pairwise (fun x y => x ≠ y) := List.Pairwise.imp (fun h => h.1) h.once
  have n2 : (S.trail.map litI).Pairwise (fun x y => x ≠ y) := by
    have h5 := List.pairwise_map.1 (List.nodup_iff_pairwise_ne.1 hw.trd)
    refine List.pairwise_map.2 (List.Pairwise.imp (fun {a b} hne e => hne ?_) h5)
    unfold litI at e
    split at e <;> split at e <;> omega
  have hm : ∀ x, x ∈ fst R.tr ↔ x ∈ S.trail.map litI := fun x => by
    rw [h.mem hb x]
    unfold tl
    rw [List.mem_reverse]
  have l1 := sub_len _ _ n1 (fun x hx => (hm x).1 hx)
  have l2 := sub_len _ _ n2 (fun x hx => (hm x).2 hx)
  have e1 : (fst R.tr).length = R.tr.length := List.length_map _
  rw [List.length_map] at l1 l2
  omega
theorem trail_mem {w : World} {g : Nat} {O : Nat → Prop} {S : ES} {p : Nat → Value} (h : Mem w g O S p) (hw : WF S) :
    Calls Try.prog 13 #[.pointer (some ⟨g, 0, none⟩)] w fun e w' => ∃ a, e = .returned (.slice (some ⟨a, 0, none⟩) S.trail.length S.trail.length) ∧ Below w.heap.size w w' := by
  obtain ⟨a6, c6, hp6, _⟩ := h.slice (i := 6) (by unfold used; omega)
  have k6 : w.cell? ⟨g, 6, none⟩ = some (.slice a6 S.trail.length c6) := (h.gcell 6).trans (congrArg some hp6)
  have hn := hw.n
  have HL : Hid (Calls Try.prog 37 #[.slice a6 S.trail.length c6] w fun e w' => ∃ a, e = .returned (.slice (some ⟨a, 0, none⟩) S.trail.length S.trail.length) ∧ Below w.heap.size w w') := by
    refine literalsOf_any w (fun h0 => ?_) (fun c hc => by have := hw.tr c hc; omega) (by have := hw.trail_len; omega)
    obtain ⟨b, c, e1, _, e2, _⟩ := h.form (i := 6) (by unfold used; omega) h0
    have hO := h.own 6 (by unfold used; omega) b (by rw [e1]; rfl)
    rw [hp6] at e1
    injection e1 with e3 _ _
    refine ⟨b, e3, h.osz b hO, fun j hj => ?_⟩
    rw [e2 j (by show j < S.trail.length * 1; omega)]
    show (codesV S.trail)[j]? = _
    unfold codesV
    rw [List.getElem?_map, List.getElem?_eq_getElem hj, getD_of _ _ _ hj]
    rfl
  clear h hw hp6
  go_enter Try.func13, Try.ntmps13
  go_wp2_with fail
  refine HL.out.mono ?_
  rintro e w1 ⟨a, rfl, hb⟩
  have HB : Hid (Below w.heap.size w w1) := hb
  clear hb
  go_wp2
  first | exact ⟨a, rfl, HB.out⟩ | (go_ret; exact ⟨a, rfl, HB.out⟩) | (go_ret2; exact ⟨a, rfl, HB.out⟩)
/-- the trail, of both in one memory -/
theorem Stp.trail {w W : World} {g r B : Nat} (h : Stp w g r B W) :
    ∃ (bad : Bool) (n : Nat) (aT : Option Addr) (cT : Nat), W.cell? ⟨r, 5, none⟩ = some (.bool bad) ∧ W.cell? ⟨r, 4, none⟩ = some (.slice aT n cT) ∧
      (bad = false → ∀ m, Calls Try.prog 13 #[.pointer (some ⟨g, 0, none⟩)] (W.drewN m) fun e w' => ∃ a, e = .returned (.slice (some ⟨a, 0, none⟩) n n) ∧ Stp w g r B w' ∧ w'.cell? ⟨r, 4, none⟩ = some (.slice aT n cT)) := by
  obtain ⟨S, R, O1, O2, p, pA, pT, q, hr, t, hb⟩ := h
  obtain ⟨aT, cT, eT, _, _⟩ := t.rm.formT
  refine ⟨R.bad, R.tr.length, aT, cT, t.rm.cell 5, (t.rm.cell 4).trans (congrArg some eT), fun hbad m => ?_⟩
  have hl := hr.len hbad
  refine (trail_mem (t.m.drewN (m := m)) hr.full.inv.wf).mono fun e w' hh => ?_
  obtain ⟨a, he, hb2⟩ := hh
  rw [hl] at he
  have hk1 : ∀ k, O1 k → w'.heap[k]? = W.heap[k]? := fun k hk => hb2.block k (t.m.osz k hk)
  have hk2 : ∀ k, O2 k → w'.heap[k]? = W.heap[k]? := fun k hk => hb2.block k (t.rm.osz k hk)
  have hrm := t.rm.kept hb2.size hk2
  exact ⟨a, he, ⟨S, R, O1, O2, p, pA, pT, q, hr, ⟨t.m.kept hb2.size hk1, hrm, t.dj, t.b1, t.b2⟩, hb.trans ⟨hb2.os, hb2.tape, hb2.output, hb2.size, fun k hk => hb2.block k (Nat.lt_of_lt_of_le hk t.bsz)⟩⟩, (hrm.cell 4).trans (congrArg some eT)⟩
end Go.Proofs.Ytpkbigjijihljaa
namespace Go.Proofs.Ytpkbigjijihljaa
open Go.ChangeShapes Go.WideShapes Go.ChangeAt Go.RowKit
open Go.Pr
theorem TWO.over {w W : World} {g r B : Nat} {O1 O2 : Nat → Prop} {S : ES} {R : RS} {p : Nat → Value} {pA pT : Value} {q : Nat → Value} (h : TWO w g r B O1 O2 S R p pA pT q) (hb : Below w.heap.size w W) : TWO W g r B O1 O2 S R p pA pT q :=
  ⟨h.m.kept hb.size (fun k hk => hb.block k (h.m.osz k hk)), h.rm.kept hb.size (fun k hk => hb.block k (h.rm.osz k hk)), h.dj, h.b1, h.b2⟩
/-- all that stood stands -/
theorem below_up {w W V : World} (h : Below w.heap.size w W) (h2 : Below W.heap.size W V) : Below w.heap.size w V :=
  ⟨h2.os.trans h.os, h2.tape.trans h.tape, h2.output.trans h.output, Nat.le_trans h.size h2.size, fun k hk => (h2.block k (Nat.lt_of_lt_of_le hk h.size)).trans (h.block k hk)⟩
theorem below_alloc (w : World) (o : Obj) (m : Nat) : Below w.heap.size w ((w.alloc o).drewN m) := by
  have h := (Below.refl w.heap.size w).alloc (Nat.le_refl _) o
  exact ⟨h.os, h.tape, h.output, h.size, h.block⟩
set_option maxHeartbeats 4000000 in
theorem step5w {w : World} {g r B : Nat} {O1 O2 : Nat → Prop} {S : ES} {R : RS} {p : Nat → Value} {pA pT : Value} {q : Nat → Value} (h : TWO w g r B O1 O2 S R p pA pT q) (hr : REL S R) (N : Int) (hN : N ≤ 9223372036854775807) (ad : Option Addr) (n cp : Nat) :
    Calls Try.prog 11 #[.pointer (some ⟨g, 0, none⟩), .pointer (some ⟨r, 0, none⟩), .agg #[.int .i64 5, .int .i64 N, .slice ad n cp]] w fun e w' => e = .returned (.bool true) ∧ Below w.heap.size w w' := by
  generalize hPP : (fun (e : Ending) (w' : World) => e = .returned (.bool true) ∧ Below w.heap.size w w') = PP
  have HPP : Hid (∀ w', Below w.heap.size w w' → PP (.returned (.bool true)) w') := fun w' h => by rw [← hPP]; exact ⟨rfl, h⟩
  clear hPP
  have HS : Hid (∀ m, Below w.heap.size w ((w.alloc (.cells #[.int .i64 5, .int .i64 N, .slice ad n cp] 32)).drewN m)) := fun m => below_alloc _ _ _
  have o1 : (w.alloc (.cells #[.int .i64 5, .int .i64 N, .slice ad n cp] 32)).cell? ⟨w.heap.size, 1, none⟩ = some (.int .i64 N) := (ST.start (oc := #[.int .i64 5, .int .i64 N, .slice ad n cp]) h).cell 1
  obtain ⟨l1, c5⟩ := st_looks (ST.start (oc := #[.int .i64 5, .int .i64 N, .slice ad n cp]) h) hr N hN
  clear h hr hN
  cases hb : R.bad with
  | true =>
    rw [hb] at c5
    clear l1 hb
    go_enter Try.func11, Try.ntmps11
    go_wp2
    generalize (w.alloc (.cells #[.int .i64 5, .int .i64 N, .slice ad n cp] 32)) = W at *
    first
    | exact HPP.out _ (HS.out 0)
    | (go_ret2; exact HPP.out _ (HS.out 0))
    | (go_quiet (fail); go_wp2; first | exact HPP.out _ (HS.out _) | (go_ret2; exact HPP.out _ (HS.out _)))
  | false =>
    rw [hb] at c5
    obtain ⟨l1, l2, l3, l4⟩ := l1 hb
    have H1 : Hid (∀ m, Calls Try.prog 30 #[.pointer (some ⟨g, 0, none⟩), .int .i64 N] ((w.alloc (.cells #[.int .i64 5, .int .i64 N, .slice ad n cp] 32)).drewN m) fun e w' => e = .returned (.int .i64 (valE S N)) ∧ ∃ m', w' = ((w.alloc (.cells #[.int .i64 5, .int .i64 N, .slice ad n cp] 32)).drewN m).drewN m') := l1
    have H2 : Hid (∀ m, Calls Try.prog 32 #[.pointer (some ⟨g, 0, none⟩), .int .i64 N] ((w.alloc (.cells #[.int .i64 5, .int .i64 N, .slice ad n cp] 32)).drewN m) fun e w' => e = .returned (.int .i64 (levE S N)) ∧ ∃ m', w' = ((w.alloc (.cells #[.int .i64 5, .int .i64 N, .slice ad n cp] 32)).drewN m).drewN m') := l2
    have H3 : Hid (∀ m, Calls Try.prog 31 #[.pointer (some ⟨r, 0, none⟩), .int .i64 N] ((w.alloc (.cells #[.int .i64 5, .int .i64 N, .slice ad n cp] 32)).drewN m) fun e w' => e = .returned (.int .i64 (valE S N)) ∧ w' = (w.alloc (.cells #[.int .i64 5, .int .i64 N, .slice ad n cp] 32)).drewN m) := l3
    have H4 : Hid (∀ m, Calls Try.prog 33 #[.pointer (some ⟨r, 0, none⟩), .int .i64 N] ((w.alloc (.cells #[.int .i64 5, .int .i64 N, .slice ad n cp] 32)).drewN m) fun e w' => e = .returned (.int .i64 (levE S N)) ∧ w' = (w.alloc (.cells #[.int .i64 5, .int .i64 N, .slice ad n cp] 32)).drewN m) := l4
    clear l1 l2 l3 l4 hb
    go_enter Try.func11, Try.ntmps11
    go_wp2
    generalize valE S N = x1 at *
    generalize levE S N = x2 at *
    generalize w.heap.size = b0 at *
    generalize (w.alloc (.cells #[.int .i64 5, .int .i64 N, .slice ad n cp] 32)) = W at *
    go_quiet (first | (go_at_call 30; exact Calls.quiet_of (H1.out _)) | (go_at_call 32; exact Calls.quiet_of (H2.out _)) | (go_at_call 31; exact Calls.quiet_of_same (H3.out _)) | (go_at_call 33; exact Calls.quiet_of_same (H4.out _)))
    go_wp2
    first | exact HPP.out _ (HS.out _) | (go_ret2; exact HPP.out _ (HS.out _)) | (go_ret; exact HPP.out _ (HS.out _))
end Go.Proofs.Ytpkbigjijihljaa
namespace Go.Proofs.Ytpkbigjijihljaa
open Go.ChangeShapes Go.WideShapes Go.ChangeAt Go.RowKit
open Go.Pr
theorem wrap_le (y : Int) : wrap64 y ≤ 9223372036854775807 := by
  unfold wrap64
  omega
set_option maxHeartbeats 4000000 in
theorem named_ok {w : World} {g r B : Nat} {O1 O2 : Nat → Prop} {S : ES} {R : RS} {p : Nat → Value} {pA pT : Value} {q : Nat → Value} (h : TWO w g r B O1 O2 S R p pA pT q) (hr : REL S R) (x : OP) (hx : x.ok w B) :
    Calls Try.prog 12 #[.pointer (some ⟨g, 0, none⟩), .pointer (some ⟨r, 0, none⟩), .agg #[.int .i64 x.k, .int .i64 x.n, .slice x.ad x.xs.length x.cp]] w fun e w' => e = .returned (.bool true) ∧ Below w.heap.size w w' := by
  obtain ⟨xk, xn, xa, xc, xs⟩ := x
  obtain ⟨hn1, hn2, hrd, hxl, hbd⟩ := hx
  have hBs : B ≤ w.heap.size := h.bsz
  generalize hPP : (fun (e : Ending) (w' : World) => e = .returned (.bool true) ∧ Below w.heap.size w w') = PP
  have HPP : Hid (∀ w', Below w.heap.size w w' → PP (.returned (.bool true)) w') := fun w' h => by rw [← hPP]; exact ⟨rfl, h⟩
  clear hPP
  have HS : Hid (∀ W N, Below w.heap.size w W → N ≤ 9223372036854775807 → Calls Try.prog 11 #[.pointer (some ⟨g, 0, none⟩), .pointer (some ⟨r, 0, none⟩), .agg #[.int .i64 5, .int .i64 N, .slice none 0 0]] W fun e w' => e = .returned (.bool true) ∧ Below W.heap.size W w') := fun W N hb hN => step5w (h.over hb) hr N hN none 0 0
  have HR : Hid (0 < xs.length → ∃ b o, xa = some ⟨b, o, none⟩ ∧ b < B ∧ ∀ j, j < xs.length → w.cell? ⟨b, o + j, none⟩ = some (.int .i64 (xs.getD j 0))) := hrd
  have HBD : Hid (∀ i, i < xs.length → xs.getD i 0 ≤ 9223372036854775807) := fun i hi => hbd _ (by rw [getD_of _ _ _ hi]; exact List.getElem_mem _)
  have H0 : Hid (Below (w.alloc (.cells #[.int .i64 xk, .int .i64 xn, .slice xa xs.length xc] 32)).heap.size (w.alloc (.cells #[.int .i64 xk, .int .i64 xn, .slice xa xs.length xc] 32)) (w.alloc (.cells #[.int .i64 xk, .int .i64 xn, .slice xa xs.length xc] 32))) := Below.refl _ _
  have HW : Hid (Below w.heap.size w (w.alloc (.cells #[.int .i64 xk, .int .i64 xn, .slice xa xs.length xc] 32))) := (Below.refl w.heap.size w).alloc (Nat.le_refl _) _
  have o1 : (w.alloc (.cells #[.int .i64 xk, .int .i64 xn, .slice xa xs.length xc] 32)).heap[w.heap.size]? = some (.cells #[.int .i64 xk, .int .i64 xn, .slice xa xs.length xc] 32 (0, 0)) := heap_alloc_new _ _
  have hsz : w.heap.size < (w.alloc (.cells #[.int .i64 xk, .int .i64 xn, .slice xa xs.length xc] 32)).heap.size := by simp
  clear h hr hrd hbd
  obtain ⟨k, hk⟩ : ∃ k, xs.length = k := ⟨_, rfl⟩
  simp only [hk] at *
  clear hk
  have HO : Hid (∀ W, Below (w.alloc (.cells #[.int .i64 xk, .int .i64 xn, .slice xa k xc] 32)).heap.size (w.alloc (.cells #[.int .i64 xk, .int .i64 xn, .slice xa k xc] 32)) W → W.cell? ⟨w.heap.size, 1, none⟩ = some (.int .i64 xn) ∧ W.cell? ⟨w.heap.size, 2, none⟩ = some (.slice xa k xc)) := fun W hb => by
    have := (hb.block w.heap.size hsz).trans o1
    exact ⟨blk_cell this 1, blk_cell this 2⟩
  clear hsz o1
  have HU : Hid (∀ W V, Below (w.alloc (.cells #[.int .i64 xk, .int .i64 xn, .slice xa k xc] 32)).heap.size (w.alloc (.cells #[.int .i64 xk, .int .i64 xn, .slice xa k xc] 32)) W → Below W.heap.size W V → Below (w.alloc (.cells #[.int .i64 xk, .int .i64 xn, .slice xa k xc] 32)).heap.size (w.alloc (.cells #[.int .i64 xk, .int .i64 xn, .slice xa k xc] 32)) V) := fun W V h1 h2 => below_up h1 h2
  have HV : Hid (∀ W, Below (w.alloc (.cells #[.int .i64 xk, .int .i64 xn, .slice xa k xc] 32)).heap.size (w.alloc (.cells #[.int .i64 xk, .int .i64 xn, .slice xa k xc] 32)) W → Below w.heap.size w W) := fun W h1 => below_up HW.out h1
  have HC : Hid (∀ W, Below w.heap.size w W → ∀ i, i < k → ∃ b o, xa = some ⟨b, o, none⟩ ∧ W.cell? ⟨b, o + i, none⟩ = some (.int .i64 (xs.getD i 0)) ∧ xs.getD i 0 ≤ 9223372036854775807) := fun W hb i hi => by
    obtain ⟨b, o, e1, e2, e3⟩ := HR.out (by omega)
    exact ⟨b, o, e1, (World.cell?_of_block (w' := W) (w := w) (a := ⟨b, o + i, none⟩) (hb.block b (by omega))).trans (e3 i hi), HBD.out i hi⟩
  clear HR HBD
  have c0 := HO.out _ H0.out
  obtain ⟨c1, c2⟩ := c0
  go_enter Try.func12, Try.ntmps12
  go_wp2_with fail
  generalize w.alloc (.cells #[.int .i64 xk, .int .i64 xn, .slice xa k xc] 32) = W0 at *
  refine (HS.out _ _ HW.out hn1).mono ?_
  rintro e w1 ⟨rfl, hb1⟩
  have HB1 : Hid (Below W0.heap.size W0 w1) := hb1
  obtain ⟨d1, d2⟩ := HO.out _ hb1
  clear hb1 c1 c2
  go_wp2_with fail
  refine (HS.out _ _ (HV.out _ HB1.out) (by first | exact wrap_le _ | omega)).mono ?_
  rintro e w2 ⟨rfl, hb2⟩
  have HB2 : Hid (Below W0.heap.size W0 w2) := HU.out _ _ HB1.out hb2
  obtain ⟨f1, f2⟩ := HO.out _ HB2.out
  clear hb2 d1 d2 HB1
  go_wp2_with fail
  go_loopg [7, 8] k (fun gk s7 s8 wr => s7 = .bool true ∧ ∃ i : Nat, s8 = .int .i64 (i : Int) ∧ i + gk = k ∧ i ≤ 64 ∧ Aside (Below W0.heap.size W0 wr))
  case atStart => exact ⟨rfl, 0, rfl, by omega, by omega, HB2.out⟩
  case round =>
    obtain ⟨rfl, i, rfl, hi, h64, HJ⟩ := hrel
    obtain ⟨g1, g2⟩ := HO.out _ HJ.out
    clear f1 f2
    by_cases hlt : i < k
    · have q1 : (i : Int) < (k : Int) := by omega
      by_cases h6 : i < 64
      · have q2 : (i : Int) < 64 := by omega
        obtain ⟨b, o, rfl, e3, e4⟩ := HC.out _ (HV.out _ HJ.out) i hlt
        have HCx : Hid (∀ W, Below w.heap.size w W → W.cell? ⟨b, o + i, none⟩ = some (.int .i64 (xs.getD i 0))) := fun W hb => by
          obtain ⟨b', o', e1, e2, _⟩ := HC.out W hb i hlt
          cases e1
          exact e2
        generalize xs.getD i 0 = x at *
        go_wp2_with fail
        refine (HS.out _ _ (HV.out _ HJ.out) e4).mono ?_
        rintro e w3 ⟨rfl, hb3⟩
        have HB3 : Hid (Below W0.heap.size W0 w3) := HU.out _ _ HJ.out hb3
        obtain ⟨m1, m2⟩ := HO.out _ HB3.out
        have e5 := HCx.out _ (HV.out _ HB3.out)
        clear hb3 g1 g2 e3
        go_wp2_with fail
        refine (HS.out _ _ (HV.out _ HB3.out) (by first | exact wrap_le _ | omega)).mono ?_
        rintro e w4 ⟨rfl, hb4⟩
        have HB4 : Aside (Below W0.heap.size W0 w4) := HU.out _ _ HB3.out hb4
        clear hb4 m1 m2 e5 HB3
        go_wp2
        go_roundg (gk - 1)
        case measure => omega
        case rel => exact ⟨rfl, i + 1, by simp, by omega, by omega, HB4⟩
      · have q2 : decide ((i : Int) < 64) = false := decide_eq_false (by omega)
        have HP2 : Hid (PP (.returned (.bool true)) wr) := HPP.out _ (HV.out _ HJ.out)
        go_wp2
        first | exact HP2.out | (go_ret; exact HP2.out) | (go_ret2; exact HP2.out)
    · have q1 : decide ((i : Int) < (k : Int)) = false := decide_eq_false (by omega)
      have HP2 : Hid (PP (.returned (.bool true)) wr) := HPP.out _ (HV.out _ HJ.out)
      go_wp2
      first | exact HP2.out | (go_ret; exact HP2.out) | (go_ret2; exact HP2.out)
end Go.Proofs.Ytpkbigjijihljaa
namespace Go.Proofs.Ytpkbigjijihljaa
open Go.ChangeShapes Go.WideShapes Go.ChangeAt Go.RowKit
open Go.Pr
theorem Stp.named {w W : World} {g r B : Nat} (h : Stp w g r B W) (x : OP) (hx : x.ok w B) :
    Calls Try.prog 12 #[.pointer (some ⟨g, 0, none⟩), .pointer (some ⟨r, 0, none⟩), .agg #[.int .i64 x.k, .int .i64 x.n, .slice x.ad x.xs.length x.cp]] W fun e w' => e = .returned (.bool true) ∧ Stp w g r B w' := by
  obtain ⟨S, R, O1, O2, p, pA, pT, q, hr, t, hb⟩ := h
  refine (named_ok t hr x ⟨hx.1, hx.2.1, hx.2.2.1.below hb, hx.2.2.2⟩).mono fun e w' hh => ⟨hh.1, S, R, O1, O2, p, pA, pT, q, hr, t.over hh.2, hb.trans ⟨hh.2.os, hh.2.tape, hh.2.output, hh.2.size, fun k hk => hh.2.block k (Nat.lt_of_lt_of_le hk t.bsz)⟩⟩
theorem Stp.six {w W : World} {g r B : Nat} (h : Stp w g r B W) :
    Calls Try.prog 11 #[.pointer (some ⟨g, 0, none⟩), .pointer (some ⟨r, 0, none⟩), .agg #[.int .i64 6, .int .i64 0, .slice none 0 0]] W fun e w' => e = .returned (.bool true) ∧ Stp w g r B w' := by
  obtain ⟨S, R, O1, O2, p, pA, pT, q, hr, t, hb⟩ := h
  refine (step6 t hr 0 none 0 0).mono fun e w' hh => ⟨hh.1, ?_⟩
  obtain ⟨S', R', O1', O2', p', pA', pT', q', hr', t', hb'⟩ := hh.2
  exact ⟨S', R', O1', O2', p', pA', pT', q', hr', t', hb.trans hb'⟩
set_option maxHeartbeats 4000000 in
theorem all_walk (vars : Int) {ad : Option Addr} {cp : Nat} {sc : List OP} (w : World) (hs : SCR w w.heap.size ad sc) (hl : sc.length ≤ 17592186044416) :
    Calls Try.prog 7 #[.int .i64 vars, .slice ad sc.length cp] w fun e w' => e = .returned (.bool true) ∧ Below w.heap.size w w' := by
  by_cases h : vars < 0 ∨ 1048576 < vars
  · clear hs hl
    generalize sc.length = n
    go_enter Try.func7, Try.ntmps7
    go_wp2_with fail
    refine (both_no vars h w).mono ?_
    rintro e w1 ⟨rfl, hb⟩
    go_wp2
    go_ret
    exact ⟨rfl, hb⟩
  · obtain ⟨n, rfl⟩ : ∃ n : Nat, vars = n := ⟨vars.toNat, by omega⟩
    have HBo : Hid (Calls Try.prog 10 #[.int .i64 (n : Int)] w fun e w' => ∃ g r, e = .returned (.tuple #[.pointer (some ⟨g, 0, none⟩), .pointer (some ⟨r, 0, none⟩), .bool true]) ∧ Stp w g r w.heap.size w') := both_ok n (by omega) w
    generalize hPP : (fun (e : Ending) (w' : World) => e = .returned (.bool true) ∧ Below w.heap.size w w') = PP
    have HPP : Hid (∀ g r w', Stp w g r w.heap.size w' → PP (.returned (.bool true)) w') := fun g r w' h => by rw [← hPP]; exact ⟨rfl, h.below⟩
    have HSC : Hid (∀ g r W i, Stp w g r w.heap.size W → i < sc.length → ∃ b o xk xn xa xl xc, ad = some ⟨b, o, none⟩ ∧ W.cell? ⟨b, o + i * 3, none⟩ = some (.int .i64 xk) ∧ W.cell? ⟨b, o + i * 3 + 1, none⟩ = some (.int .i64 xn) ∧ W.cell? ⟨b, o + i * 3 + 2, none⟩ = some (.slice xa xl xc) ∧
        (∀ V, Stp w g r w.heap.size V → Calls Try.prog 11 #[.pointer (some ⟨g, 0, none⟩), .pointer (some ⟨r, 0, none⟩), .agg #[.int .i64 xk, .int .i64 xn, .slice xa xl xc]] V fun e w' => e = .returned (.bool true) ∧ Stp w g r w.heap.size w') ∧
        (∀ V, Stp w g r w.heap.size V → Calls Try.prog 12 #[.pointer (some ⟨g, 0, none⟩), .pointer (some ⟨r, 0, none⟩), .agg #[.int .i64 xk, .int .i64 xn, .slice xa xl xc]] V fun e w' => e = .returned (.bool true) ∧ Stp w g r w.heap.size w')) := fun g r W i hst hi => by
      obtain ⟨b, o, e1, e2, e3⟩ := (hs.below hst.below) (by omega)
      obtain ⟨b', o', e1', _, e4⟩ := hs (by omega)
      obtain ⟨c0, c1, c2, _⟩ := e3 i hi
      have ok := (e4 i hi).2.2.2
      exact ⟨b, o, _, _, _, _, _, e1, c0, c1, c2, fun V hV => hV.step _ ok, fun V hV => hV.named _ ok⟩
    have H6 : Hid (∀ g r W, Stp w g r w.heap.size W → Calls Try.prog 11 #[.pointer (some ⟨g, 0, none⟩), .pointer (some ⟨r, 0, none⟩), .agg #[.int .i64 6, .int .i64 0, .slice none 0 0]] W fun e w' => e = .returned (.bool true) ∧ Stp w g r w.heap.size w') := fun g r W h => h.six
    have HT : Hid (∀ g r W, Stp w g r w.heap.size W → ∃ (bad : Bool) (n : Nat) (aT : Option Addr) (cT : Nat), W.cell? ⟨r, 5, none⟩ = some (.bool bad) ∧ W.cell? ⟨r, 4, none⟩ = some (.slice aT n cT) ∧ (bad = false → ∀ m, Calls Try.prog 13 #[.pointer (some ⟨g, 0, none⟩)] (W.drewN m) fun e w' => ∃ a, e = .returned (.slice (some ⟨a, 0, none⟩) n n) ∧ Stp w g r w.heap.size w' ∧ w'.cell? ⟨r, 4, none⟩ = some (.slice aT n cT))) := fun g r W h => h.trail
    clear hPP h hs
    generalize sc.length = k at *
    go_enter Try.func7, Try.ntmps7
    go_wp2_with fail
    refine HBo.out.mono ?_
    rintro e w1 ⟨g, r, rfl, h1⟩
    have H1 : Hid (Stp w g r w.heap.size w1) := h1
    clear h1
    go_wp2_with fail
    go_loopg [8, 9] k (fun gk s8 s9 wr => ∃ i : Nat, s8 = .int .i64 (i : Int) ∧ i + gk = k ∧ Aside (Stp w g r w.heap.size wr))
    case atStart => exact ⟨0, rfl, by omega, H1.out⟩
    case round =>
      obtain ⟨i, rfl, hi2, HJ⟩ := hrel
      by_cases hlt : i < k
      · obtain ⟨b, o, xk, xn, xa, xl, xc, rfl, c0, c1, c2, hstep, _⟩ := HSC.out g r wr i HJ.out hlt
        have HST : Hid (∀ V, Stp w g r w.heap.size V → Calls Try.prog 11 #[.pointer (some ⟨g, 0, none⟩), .pointer (some ⟨r, 0, none⟩), .agg #[.int .i64 xk, .int .i64 xn, .slice xa xl xc]] V fun e w' => e = .returned (.bool true) ∧ Stp w g r w.heap.size w') := hstep
        have q1 : (i : Int) < (k : Int) := by omega
        clear hstep
        go_wp2_with fail
        refine (HST.out _ HJ.out).mono ?_
        rintro e w2 ⟨rfl, h2⟩
        have H2 : Hid (Stp w g r w.heap.size w2) := h2
        clear h2 c0 c1 c2 HST
        go_wp2_with fail
        refine (H6.out _ _ _ H2.out).mono ?_
        rintro e w3 ⟨rfl, h3⟩
        have H3 : Hid (Stp w g r w.heap.size w3) := h3
        clear h3 H2 H1
        go_wp2_with fail
        go_loopg [9] (i + 1) (fun gk2 s9 wr2 => ∃ j : Nat, s9 = .int .i64 (j : Int) ∧ j + gk2 = i + 1 ∧ Aside (Stp w g r w.heap.size wr2))
        case atStart => exact ⟨0, rfl, by omega, H3.out⟩
        case round =>
          obtain ⟨j, rfl, hj2, HJ2⟩ := hrel
          by_cases hlt2 : j ≤ i
          · obtain ⟨b', o', yk, yn, ya, yl, yc, e1, d0, d1, d2, _, hnam⟩ := HSC.out g r wr j HJ2.out (by omega)
            cases e1
            have HNA : Hid (∀ V, Stp w g r w.heap.size V → Calls Try.prog 12 #[.pointer (some ⟨g, 0, none⟩), .pointer (some ⟨r, 0, none⟩), .agg #[.int .i64 yk, .int .i64 yn, .slice ya yl yc]] V fun e w' => e = .returned (.bool true) ∧ Stp w g r w.heap.size w') := hnam
            have q2 : (j : Int) ≤ (i : Int) := by omega
            have q3 : (j : Int) < (k : Int) := by omega
            clear hnam
            go_wp2_with fail
            refine (HNA.out _ HJ2.out).mono ?_
            rintro e w4 ⟨rfl, h4⟩
            have H4 : Aside (Stp w g r w.heap.size w4) := h4
            clear h4 d0 d1 d2 HNA
            go_wp2
            go_roundg (gk - 1)
            case measure => omega
            case rel => exact ⟨j + 1, by simp, by omega, H4⟩
          · have q2 : ¬ (j : Int) ≤ (i : Int) := by omega
            obtain ⟨bad, nT, aT, cT, t5, t4, htr⟩ := HT.out _ _ _ HJ2.out
            cases bad with
            | true =>
              clear htr
              have HN : Aside (∀ m, Stp w g r w.heap.size (wr.drewN m)) := fun m => HJ2.out.drewN
              go_wp2_with fail
              go_quiet (fail)
              go_wp2
              go_roundg (k - (i + 1))
              case measure => omega
              case rel => exact ⟨i + 1, by simp, by omega, HN.out _⟩
            | false =>
              have HTR : Hid (∀ m, Calls Try.prog 13 #[.pointer (some ⟨g, 0, none⟩)] (wr.drewN m) fun e w' => ∃ a, e = .returned (.slice (some ⟨a, 0, none⟩) nT nT) ∧ Stp w g r w.heap.size w' ∧ w'.cell? ⟨r, 4, none⟩ = some (.slice aT nT cT)) := htr rfl
              clear htr
              go_wp2_with fail
              first | (go_region_with (first | (go_at_call 13; refine (HTR.out 1).mono ?_; rintro e w5 ⟨a5, rfl, h5, k5⟩; have H5 : Aside (Stp w g r w.heap.size w5) := h5; clear h5))) | fail
              all_goals
                go_wp2
                go_roundg (k - (i + 1))
                case measure => omega
                case rel => exact ⟨i + 1, by simp, by omega, H5⟩
      · have hji : i = k := by omega
        subst hji
        go_wp2
        first | exact HPP.out _ _ _ HJ.out | (go_ret2; exact HPP.out _ _ _ HJ.out) | (go_ret; exact HPP.out _ _ _ HJ.out)
end Go.Proofs.Ytpkbigjijihljaa
