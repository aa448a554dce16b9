import Derived.Test.YtpkbigjijihljaaLI
import Derived.Test.YtpkbigjijihljaaLK
import Derived.Test.YtpkbigjijihljaaRows
import Derived.WalkKit
import Derived.ProofKit
import Derived.OpenShut
import Derived.SizedLaws
import Derived.Carry
import Derived.Deep.Slices
import Derived.Deep.Strs
namespace Go.Proofs.Ytpkbigjijihljaa
open Go.ChangeShapes Go.WideShapes Go.ChangeAt Go.RowKit
open Go.Pr
theorem step_any {w : World} {g r B : Nat} {O1 O2 : Nat → Prop} {S : ES} {R : RS} {p : Nat → Value} {pA pT : Value} {q : Nat → Value} (h : TWO w g r B O1 O2 S R p pA pT q) (hr : REL S R) (K N : Int) (hN : N ≤ 9223372036854775807) {ad : Option Addr} {cp : Nat} {xs : List Int} (hx : RdB w B ad xs) (hxl : xs.length ≤ 17592186044416) :
    Calls Try.prog 11 #[.pointer (some ⟨g, 0, none⟩), .pointer (some ⟨r, 0, none⟩), .agg #[.int .i64 K, .int .i64 N, .slice ad xs.length cp]] w fun e w' => e = .returned (.bool true) ∧ Stp w g r B w' := by
  by_cases h0 : K < 1 ∨ 6 < K
  · exact step0 h hr K N ad xs.length cp h0
  · have : K = 1 ∨ K = 2 ∨ K = 3 ∨ K = 4 ∨ K = 5 ∨ K = 6 := by omega
    rcases this with rfl | rfl | rfl | rfl | rfl | rfl
    · exact step1 h hr N hx hxl
    · exact step2 h hr N ad xs.length cp
    · exact step3 h hr N ad xs.length cp
    · exact step4 h hr N ad xs.length cp
    · exact step5 h hr N hN ad xs.length cp
    · exact step6 h hr N ad xs.length cp
theorem both_no (vars : Int) (h : vars < 0 ∨ 1048576 < vars) (w : World) :
    Calls Try.prog 10 #[.int .i64 vars] w fun e w' => e = .returned (.tuple #[.pointer none, .pointer none, .bool true]) ∧ Below w.heap.size w w' := by
  have HA : Hid (∀ W, Calls Try.prog 21 #[.int .i64 vars] W fun e w' => e = .returned (.tuple #[.pointer none, .int .i64 21]) ∧ w' = W) := fun W => new_no vars h W
  have HB : Hid (∀ W, Calls Try.prog 22 #[.int .i64 vars] W fun e w' => e = .returned (.tuple #[.pointer none, .int .i64 21]) ∧ w' = W) := fun W => rnew_no vars h W
  go_enter Try.func10, Try.ntmps10
  go_wp2_with fail
  refine (HA.out _).mono ?_
  rintro e w' ⟨rfl, hw⟩
  obtain rfl := hw.symm
  go_wp2_with fail
  refine (HB.out _).mono ?_
  rintro e w' ⟨rfl, hw⟩
  obtain rfl := hw.symm
  go_wp2
  go_ret3
  exact ⟨rfl, Below.refl _ _⟩
theorem both_ok (n : Nat) (h : n ≤ 1048576) (w : World) :
    Calls Try.prog 10 #[.int .i64 (n : Int)] w fun e w' => ∃ g r, e = .returned (.tuple #[.pointer (some ⟨g, 0, none⟩), .pointer (some ⟨r, 0, none⟩), .bool true]) ∧ Stp w g r w.heap.size w' := by
  have HA : Hid (∀ W, Calls Try.prog 21 #[.int .i64 (n : Int)] W fun e w' => ∃ g O p, e = .returned (.tuple #[.pointer (some ⟨g, 0, none⟩), .int .i64 0]) ∧ Mem w' g O (es0 n) p ∧ (∀ k, O k → W.heap.size ≤ k) ∧ Below W.heap.size W w') := fun W => new_mem n h W
  have HB : Hid (∀ W, Calls Try.prog 22 #[.int .i64 (n : Int)] W fun e w' => ∃ r O pA pT q, e = .returned (.tuple #[.pointer (some ⟨r, 0, none⟩), .int .i64 0]) ∧ RM w' r O (rs0 n) pA pT q ∧ (∀ k, O k → W.heap.size ≤ k) ∧ Below W.heap.size W w') := fun W => rnew_mem n h W
  have HZ : Hid (REL (es0 n) (rs0 n)) := REL.zero h
  go_enter Try.func10, Try.ntmps10
  go_wp2_with fail
  refine (HA.out _).mono ?_
  rintro e w1 ⟨g, O1, p, rfl, hg⟩
  have HG : Hid (Mem w1 g O1 (es0 n) p ∧ (∀ k, O1 k → w.heap.size ≤ k) ∧ Below w.heap.size w w1) := hg
  clear hg
  go_wp2_with fail
  refine (HB.out _).mono ?_
  rintro e w2 ⟨r, O2, pA, pT, q, rfl, hr⟩
  have HRr : Hid (RM w2 r O2 (rs0 n) pA pT q ∧ (∀ k, O2 k → w1.heap.size ≤ k) ∧ Below w1.heap.size w1 w2) := hr
  clear hr
  go_wp2
  go_ret3
  obtain ⟨m1, a1, b1⟩ := HG.out
  obtain ⟨m2, a2, b2⟩ := HRr.out
  have hs1 := b1.size
  exact ⟨g, r, rfl, es0 n, rs0 n, O1, O2, p, pA, pT, q, HZ.out, ⟨m1.kept b2.size (fun k hk => b2.block k (m1.osz k hk)), m2, fun k h1 h2 => by have := m1.osz k h1; have := a2 k h2; omega, a1, fun k hk => by have := a2 k hk; omega⟩, ⟨b2.os.trans b1.os, b2.tape.trans b1.tape, b2.output.trans b1.output, Nat.le_trans b1.size b2.size, fun k hk => (b2.block k (by omega)).trans (b1.block k hk)⟩⟩
/-- a script's call -/
structure OP where
  k : Int
  n : Int
  ad : Option Addr
  cp : Nat
  xs : List Int
def OP.ok (w : World) (B : Nat) (x : OP) : Prop := x.n ≤ 9223372036854775807 ∧ -9223372036854775808 ≤ x.n ∧ RdB w B x.ad x.xs ∧ x.xs.length ≤ 17592186044416
def op0 : OP := ⟨0, 0, none, 0, []⟩
/-- a script that lies below -/
def SCR (w : World) (B : Nat) (ad : Option Addr) (sc : List OP) : Prop :=
  0 < sc.length → ∃ b o, ad = some ⟨b, o, none⟩ ∧ b < B ∧ ∀ j, j < sc.length → w.cell? ⟨b, o + j * 3, none⟩ = some (.int .i64 (sc.getD j op0).k) ∧ w.cell? ⟨b, o + j * 3 + 1, none⟩ = some (.int .i64 (sc.getD j op0).n) ∧ w.cell? ⟨b, o + j * 3 + 2, none⟩ = some (.slice (sc.getD j op0).ad (sc.getD j op0).xs.length (sc.getD j op0).cp) ∧ (sc.getD j op0).ok w B
theorem SCR.below {w W : World} {B : Nat} {ad : Option Addr} {sc : List OP} (h : SCR w B ad sc) (hb : Below B w W) : SCR W B ad sc := fun h0 => by
  obtain ⟨b, o, h1, h2, h3⟩ := h h0
  refine ⟨b, o, h1, h2, fun j hj => ?_⟩
  obtain ⟨k1, k2, k3, k4⟩ := h3 j hj
  have hc : ∀ m, W.cell? ⟨b, m, none⟩ = w.cell? ⟨b, m, none⟩ := fun m => World.cell?_of_block (w' := W) (w := w) (a := ⟨b, m, none⟩) (hb.block b h2)
  exact ⟨(hc _).trans k1, (hc _).trans k2, (hc _).trans k3, k4.1, k4.2.1, k4.2.2.1.below hb, k4.2.2.2⟩
theorem Stp.step {w W : World} {g r B : Nat} (h : Stp w g r B W) (x : OP) (hx : x.ok w B) :
    Calls Try.prog 11 #[.pointer (some ⟨g, 0, none⟩), .pointer (some ⟨r, 0, none⟩), .agg #[.int .i64 x.k, .int .i64 x.n, .slice x.ad x.xs.length x.cp]] W fun e w' => e = .returned (.bool true) ∧ Stp w g r B w' := by
  obtain ⟨S, R, O1, O2, p, pA, pT, q, hr, t, hb⟩ := h
  refine (step_any t hr x.k x.n hx.1 (hx.2.2.1.below hb) hx.2.2.2).mono fun e w' hh => ⟨hh.1, ?_⟩
  obtain ⟨S', R', O1', O2', p', pA', pT', q', hr', t', hb'⟩ := hh.2
  exact ⟨S', R', O1', O2', p', pA', pT', q', hr', t', hb.trans hb'⟩
theorem Stp.drewN {w W : World} {g r B m : Nat} (h : Stp w g r B W) : Stp w g r B (W.drewN m) := by
  obtain ⟨S, R, O1, O2, p, pA, pT, q, hr, t, hb⟩ := h
  exact ⟨S, R, O1, O2, p, pA, pT, q, hr, t.drewN, ⟨hb.os, hb.tape, hb.output, hb.size, hb.block⟩⟩
theorem Stp.drew {w W : World} {g r B : Nat} (h : Stp w g r B W) : Stp w g r B W.drew := h.drewN (m := 1)
theorem Stp.below {w W : World} {g r B : Nat} (h : Stp w g r B W) : Below B w W := by
  obtain ⟨S, R, O1, O2, p, pA, pT, q, hr, t, hb⟩ := h
  exact hb
end Go.Proofs.Ytpkbigjijihljaa
namespace Go.Proofs.Ytpkbigjijihljaa
open Go.ChangeShapes Go.WideShapes Go.ChangeAt Go.RowKit
open Go.Pr
set_option maxHeartbeats 4000000 in
theorem play_ok (vars lo hi : Int) {ad : Option Addr} {cp : Nat} {sc : List OP} (w : World) (hs : SCR w w.heap.size ad sc) (hl : sc.length ≤ 17592186044416) :
    Calls Try.prog 9 #[.int .i64 vars, .slice ad sc.length cp, .int .i64 lo, .int .i64 hi] w fun e w' => e = .returned (.bool true) ∧ Below w.heap.size w w' := by
  by_cases h : vars < 0 ∨ 1048576 < vars
  · clear hs hl
    generalize sc.length = n
    go_enter Try.func9, Try.ntmps9
    go_wp2_with fail
    refine (both_no vars h w).mono ?_
    rintro e w1 ⟨rfl, hb⟩
    go_wp2
    go_ret
    exact ⟨rfl, hb⟩
  · obtain ⟨n, rfl⟩ : ∃ n : Nat, vars = n := ⟨vars.toNat, by omega⟩
    have HBo : Hid (Calls Try.prog 10 #[.int .i64 (n : Int)] w fun e w' => ∃ g r, e = .returned (.tuple #[.pointer (some ⟨g, 0, none⟩), .pointer (some ⟨r, 0, none⟩), .bool true]) ∧ Stp w g r w.heap.size w') := both_ok n (by omega) w
    have HSC : Hid (SCR w w.heap.size ad sc) := hs
    generalize hPP : (fun (e : Ending) (w' : World) => e = .returned (.bool true) ∧ Below w.heap.size w w') = PP
    have HPP : Hid (∀ g r w', Stp w g r w.heap.size w' → PP (.returned (.bool true)) w') := fun g r w' h => by rw [← hPP]; exact ⟨rfl, h.below⟩
    have HST : Hid (∀ g r W x, Stp w g r w.heap.size W → OP.ok w w.heap.size x → Calls Try.prog 11 #[.pointer (some ⟨g, 0, none⟩), .pointer (some ⟨r, 0, none⟩), .agg #[.int .i64 x.k, .int .i64 x.n, .slice x.ad x.xs.length x.cp]] W fun e w' => e = .returned (.bool true) ∧ Stp w g r w.heap.size w') := fun g r W x h hx => h.step x hx
    clear hPP h hs
    obtain ⟨k, hk⟩ : ∃ k, sc.length = k := ⟨_, rfl⟩
    have HK : Hid (sc.length = k) := hk
    rw [hk] at hl ⊢
    clear hk
    go_enter Try.func9, Try.ntmps9
    go_wp2_with fail
    refine HBo.out.mono ?_
    rintro e w1 ⟨g, r, rfl, h1⟩
    have H1 : Hid (Stp w g r w.heap.size w1) := h1
    clear h1
    go_wp2_with fail
    go_loopg [12] k (fun gk s12 wr => ∃ i : Nat, s12 = .int .i64 (i : Int) ∧ i + gk = k ∧ Aside (Stp w g r w.heap.size wr))
    case atStart => exact ⟨0, rfl, by omega, H1.out⟩
    case round =>
      obtain ⟨i, rfl, hi2, HJ⟩ := hrel
      by_cases hlt : i < k
      · obtain ⟨b, o, rfl, hbB, hsc⟩ := (HSC.out.below HJ.out.below) (by rw [HK.out]; omega)
        obtain ⟨c0, c1, c2, _⟩ := hsc i (by rw [HK.out]; exact hlt)
        obtain ⟨b', o', e', hbB', hsc'⟩ := HSC.out (by rw [HK.out]; omega)
        have HO := HST.out g r wr (sc.getD i op0) HJ.out (hsc' i (by rw [HK.out]; exact hlt)).2.2.2
        clear hsc hsc' e'
        have q1 : (i : Int) < (k : Int) := by omega
        generalize (sc.getD i op0).xs.length = xl at *
        generalize (sc.getD i op0).ad = xa at *
        generalize (sc.getD i op0).cp = xc at *
        generalize (sc.getD i op0).k = xk at *
        generalize (sc.getD i op0).n = xn at *
        have HO' : Hid (Calls Try.prog 11 #[.pointer (some ⟨g, 0, none⟩), .pointer (some ⟨r, 0, none⟩), .agg #[.int .i64 xk, .int .i64 xn, .slice xa xl xc]] wr fun e w' => e = .returned (.bool true) ∧ Stp w g r w.heap.size w') := HO
        clear HO
        go_wp2_with fail
        refine HO'.out.mono ?_
        rintro e w2 ⟨rfl, hs2⟩
        have HS2 : Aside (Stp w g r w.heap.size w2) := hs2
        clear hs2 c0 c1 c2
        go_wp2
        first
        | (go_roundg (gk - 1)
           case measure => omega
           case rel => exact ⟨i + 1, by simp, by omega, HS2⟩)
        | (go_quiet (fail)
           go_wp2
           go_roundg (gk - 1)
           case measure => omega
           case rel => exact ⟨i + 1, by simp, by omega, HS2.out.drewN⟩)
      · have hji : i = k := by omega
        subst hji
        go_wp2
        first | exact HPP.out _ _ _ HJ.out | (go_ret2; exact HPP.out _ _ _ HJ.out) | (go_ret; exact HPP.out _ _ _ HJ.out)
end Go.Proofs.Ytpkbigjijihljaa
namespace Go.Proofs.Ytpkbigjijihljaa
open Go.ChangeShapes Go.WideShapes Go.ChangeAt Go.RowKit
open Go.Pr
theorem own : ownKnob Try.prog.godebug = none := by kernel_rfl
theorem laidOut : laidOutB Try.prog = true := by kernel_rfl
theorem cellsI : Try.prog.cellsOf 3 = 1 := by kernel_rfl
theorem cellsL : Try.prog.cellsOf 30 = 1 := by kernel_rfl
theorem cellsO : Try.prog.cellsOf 32 = 3 := by kernel_rfl
theorem bytesI : Try.prog.bytesOf 3 = 8 := by kernel_rfl
theorem bytesO : Try.prog.bytesOf 32 = 40 := by kernel_rfl
theorem addr_lit {w : World} {x : Addr} {v : Value} (h : w.cell? (x.add 0) = some v) : x = ⟨x.block, x.off, none⟩ := by
  obtain ⟨b, o, s⟩ := x
  cases s with
  | none => rfl
  | some k =>
    simp only [World.cell?, Addr.add, if_true] at h
    split at h
    · simp at h
    · cases h
theorem take_getD (zs : List Int) (n j : Nat) (h : j < n) : (zs.take n).getD j 0 = zs.getD j 0 := by
  rw [List.getD_eq_getElem?_getD, List.getElem?_take_of_lt h, List.getD_eq_getElem?_getD]
theorem weightsAll_mem {H : Type} {P : Program} {e : TypeId} : ∀ {l : List (DataW H)} {d : DataW H}, d ∈ l → ∀ n ∈ d.weights P e, n ∈ DataW.weightsAll P e l
  | d' :: r, d, hd, n, hn => by
    simp only [DataW.weightsAll, List.mem_append]
    rcases List.mem_cons.1 hd with rfl | h
    · exact Or.inl hn
    · exact Or.inr (weightsAll_mem h n hn)
theorem sized_part {H : Type} {P : Program} {ts : List TypeId} {ds : List (DataW H)} (h : (DataW.weightsEach P ts ds).all (· ≤ reachBytes) = true) {j : Nat} {t : TypeId} {d : DataW H} (ht : ts[j]? = some t) (hd : ds[j]? = some d) {z : Nat} (hz : z ∈ d.weights P t) : z ≤ reachBytes :=
  of_decide_eq_true (List.all_eq_true.1 h _ (DataW.weights_mem_each ht hd _ hz))
/-- a call's literals that came in -/
theorem open_lits {H : Type} {enc : TypeId × Value → H} {W : World} {base fuel : Nat} {v : Value} {x : DataW H × List MemPlace} (h : DataW.trod enc Try.prog W base (fun _ => true) true fuel 30 [v] = some x) (hw : ∀ z ∈ x.1.weights Try.prog 30, z ≤ reachBytes) :
    ∃ (ad : Option Addr) (cp : Nat) (xs : List Int), v = .slice ad xs.length cp ∧ RdB W W.heap.size ad xs ∧ xs.length ≤ 17592186044416 := by
  rcases open_ints Try.underlying30 Try.underlying3 cellsI h with ⟨hcs, hd⟩ | ⟨ad, l, c, zs, hcs, hb, hl, hm, hz, hx, hcell, hwz⟩
  · cases hcs
    exact ⟨none, 0, [], rfl, fun h => absurd h (by simp), by simp⟩
  · cases hcs
    simp only [if_true] at hz
    have hlen : (zs.take l).length = l := by simp; omega
    refine ⟨some ad, c, zs.take l, by rw [hlen], fun hp => ?_, ?_⟩
    · rw [hlen] at hp
      have h0 := hcell 0 (by omega)
      have e := addr_lit h0
      have hlt : ad.block < W.heap.size := by
        have := block_lt_of_cell h0
        rw [e] at this
        exact this
      refine ⟨ad.block, ad.off, by rw [← e], hlt, fun j hj => ?_⟩
      rw [hlen] at hj
      have hj2 := hcell j (by omega)
      rw [e, Addr.add_lit] at hj2
      rw [hj2, take_getD zs l j hj]
    · rw [hlen]
      have := hw (c * 8) (by
        rw [hx]
        simp only [DataW.weights, Try.underlying30, bytesI, lits, List.length_map, List.length_take, List.length_drop]
        rw [show min l zs.length + (zs.length - l) = c by omega]
        exact List.mem_cons_self)
      unfold reachBytes at this
      omega
set_option maxRecDepth 100000 in
/-- one call that came in -/
theorem open_op {H : Type} {enc : TypeId × Value → H} {W : World} {base fuel : Nat} {cs : List Value} {x : DataW H × List MemPlace} (h : DataW.trod enc Try.prog W base (fun _ => true) true fuel 32 cs = some x) (hw : ∀ z ∈ x.1.weights Try.prog 32, z ≤ reachBytes) :
    ∃ o : OP, cs = [.int .i64 o.k, .int .i64 o.n, .slice o.ad o.xs.length o.cp] ∧ o.ok W W.heap.size := by
  obtain ⟨y0, y1, y2, n, hx, hlen, h0, h1, h2⟩ := Go.Deep.trod_struct3 Try.underlying32 h
  rw [cellsO] at hlen
  obtain ⟨v0, v1, v2, rfl⟩ : ∃ v0 v1 v2, cs = [v0, v1, v2] := by
    match cs, hlen with
    | [v0, v1, v2], _ => exact ⟨v0, v1, v2, rfl⟩
  simp [cellsI, cellsL] at h0 h1 h2
  obtain ⟨k0, e0, _, _⟩ := DataW.trod_int Try.underlying3 h0
  obtain ⟨k1, e1, _, w1⟩ := DataW.trod_int Try.underlying3 h1
  cases e0
  cases e1
  obtain ⟨ad, cp, xs, rfl, hr, hl⟩ := open_lits h2 (fun z hz => hw z (by
    rw [hx]
    simp only [DataW.weights, Try.underlying32]
    simp [DataW.weightsEach]
    exact Or.inr (Or.inr hz)))
  exact ⟨⟨k0, k1, ad, cp, xs⟩, rfl, (bounds_i64 w1).2, (bounds_i64 w1).1, hr, hl⟩
set_option maxRecDepth 100000 in
/-- a script that came in -/
theorem open_script {H : Type} {enc : TypeId × Value → H} {W : World} {base b2 : Nat} {v : Value} {d : DataW H} {p : List MemPlace} (hv : Value.okWide Try.prog W .any base 22 v)
    (h : DataW.Trod enc Try.prog W b2 (fun _ => true) true 22 v d p) (hw : ∀ z ∈ d.weights Try.prog 22, z ≤ reachBytes) :
    ∃ (ad : Option Addr) (cap : Nat) (sc : List OP), v = .slice ad sc.length cap ∧ SCR W W.heap.size ad sc ∧ sc.length ≤ 17592186044416 := by
  obtain ⟨a', len, cap', rfl⟩ := okWide_slice Try.underlying22 hv
  obtain ⟨fuel, hf⟩ := h
  have hf' : DataW.trod enc Try.prog W b2 (fun _ => true) true fuel 22 [.slice a' len cap'] = some (d, p) := hf
  rcases Go.Deep.open_slice Try.underlying22 hf' with ⟨hcs, hx⟩ | ⟨a, len2, cap, m, n, D, Pl, hcs, _, hl, hm, hmm, hx, hel⟩
  · cases hcs
    exact ⟨none, 0, [], rfl, fun h => absurd h (by simp), by simp⟩
  · cases hcs
    simp only [if_true] at hmm
    subst hmm
    rw [cellsO] at hel
    have hd : d = .slice ((List.range len).map D) ((List.range (m - len)).map fun j => D (len + j)) := congrArg Prod.fst hx
    have each : ∀ i, i < len → ∃ o : OP, W.cells? b2 (a.add (i * 3)) 3 = some [.int .i64 o.k, .int .i64 o.n, .slice o.ad o.xs.length o.cp] ∧ o.ok W W.heap.size := fun i hi => by
      obtain ⟨cs', h1, h2⟩ := hel i (by omega)
      obtain ⟨o, rfl, ho⟩ := open_op h2 (fun z hz => hw z (by
        rw [hd]
        simp only [DataW.weights, Try.underlying22, List.mem_cons, List.mem_append]
        exact Or.inr (Or.inl (weightsAll_mem (List.mem_map.2 ⟨i, List.mem_range.2 hi, rfl⟩) _ hz))))
      exact ⟨o, h1, ho⟩
    obtain ⟨q, hq⟩ : ∃ q : Nat → OP, ∀ i, i < len → W.cells? b2 (a.add (i * 3)) 3 = some [.int .i64 (q i).k, .int .i64 (q i).n, .slice (q i).ad (q i).xs.length (q i).cp] ∧ (q i).ok W W.heap.size := by
      refine ⟨fun i => if hi : i < len then Classical.choose (each i hi) else op0, fun i hi => ?_⟩
      simp only [dif_pos hi]
      exact Classical.choose_spec (each i hi)
    have hlen : ((List.range len).map q).length = len := by simp
    have hget : ∀ j, j < len → ((List.range len).map q).getD j op0 = q j := fun j hj => by
      rw [List.getD_eq_getElem?_getD, List.getElem?_map, List.getElem?_range hj]
      rfl
    refine ⟨some a, m, (List.range len).map q, by rw [hlen], fun hp => ?_, ?_⟩
    · rw [hlen] at hp
      have hc : ∀ i, i < len → W.cell? (a.add (i * 3 + 0)) = some (.int .i64 (q i).k) ∧ W.cell? (a.add (i * 3 + 1)) = some (.int .i64 (q i).n) ∧ W.cell? (a.add (i * 3 + 2)) = some (.slice (q i).ad (q i).xs.length (q i).cp) := fun i hi => by
        obtain ⟨_, _, hcell⟩ := World.cells?_some (hq i hi).1
        have e0 := hcell 0 (by omega)
        have e1 := hcell 1 (by omega)
        have e2 := hcell 2 (by omega)
        rw [Go.Deep.add_add] at e0 e1 e2
        exact ⟨by simpa using e0, by simpa using e1, by simpa using e2⟩
      have h0 := (hc 0 hp).1
      have e := addr_lit (by simpa using h0)
      have hlt : a.block < W.heap.size := by
        have := block_lt_of_cell h0
        rw [e] at this
        exact this
      refine ⟨a.block, a.off, by rw [← e], hlt, fun j hj => ?_⟩
      rw [hlen] at hj
      obtain ⟨c0, c1, c2⟩ := hc j hj
      rw [hget j hj]
      rw [e, Addr.add_lit] at c0 c1 c2
      exact ⟨c0, c1, c2, (hq j hj).2⟩
    · rw [hlen]
      have := hw (m * 40) (by
        rw [hd]
        simp only [DataW.weights, Try.underlying22, bytesO, List.length_map, List.length_range]
        rw [show len + (m - len) = m by omega]
        exact List.mem_cons_self)
      unfold reachBytes at this
      omega
end Go.Proofs.Ytpkbigjijihljaa
namespace Go.Proofs.Ytpkbigjijihljaa
open Go.ChangeShapes Go.WideShapes Go.ChangeAt Go.RowKit
open Go.Pr
theorem SCR.up {w : World} {B C : Nat} {ad : Option Addr} {sc : List OP} (h : SCR w B ad sc) (hb : B ≤ C) : SCR w C ad sc := fun h0 => by
  obtain ⟨b, o, h1, h2, h3⟩ := h h0
  refine ⟨b, o, h1, by omega, fun j hj => ?_⟩
  obtain ⟨k1, k2, k3, k4, k5, k6, k7⟩ := h3 j hj
  refine ⟨k1, k2, k3, k4, k5, fun h0 => ?_, k7⟩
  obtain ⟨b', o', e1, e2, e3⟩ := k6 h0
  exact ⟨b', o', e1, by omega, e3⟩
theorem adds_walk (vars : Int) {ad : Option Addr} {cp : Nat} {sc : List OP} (w : World) (hs : SCR w w.heap.size ad sc) (hl : sc.length ≤ 17592186044416) :
    Calls Try.prog 3 #[.int .i64 vars, .slice ad sc.length cp] w fun e w' => e = .returned (.bool true) ∧ Below w.heap.size w w' := by
  have HP : Hid (∀ lo hi, Calls Try.prog 9 #[.int .i64 vars, .slice ad sc.length cp, .int .i64 lo, .int .i64 hi] w fun e w' => e = .returned (.bool true) ∧ Below w.heap.size w w') := fun lo hi => play_ok vars lo hi w hs hl
  clear hs hl
  generalize sc.length = n at *
  go_enter Try.func3, Try.ntmps3
  go_wp2_with fail
  refine (HP.out _ _).mono ?_
  rintro e w1 ⟨rfl, hb⟩
  have HB : Hid (Below w.heap.size w w1) := hb
  clear hb
  go_wp2
  first | exact ⟨rfl, HB.out⟩ | (go_ret; exact ⟨rfl, HB.out⟩) | (go_ret2; exact ⟨rfl, HB.out⟩)
theorem closes_walk (vars : Int) {ad : Option Addr} {cp : Nat} {sc : List OP} (w : World) (hs : SCR w w.heap.size ad sc) (hl : sc.length ≤ 17592186044416) :
    Calls Try.prog 5 #[.int .i64 vars, .slice ad sc.length cp] w fun e w' => e = .returned (.bool true) ∧ Below w.heap.size w w' := by
  have HP : Hid (∀ lo hi, Calls Try.prog 9 #[.int .i64 vars, .slice ad sc.length cp, .int .i64 lo, .int .i64 hi] w fun e w' => e = .returned (.bool true) ∧ Below w.heap.size w w') := fun lo hi => play_ok vars lo hi w hs hl
  clear hs hl
  generalize sc.length = n at *
  go_enter Try.func5, Try.ntmps5
  go_wp2_with fail
  refine (HP.out _ _).mono ?_
  rintro e w1 ⟨rfl, hb⟩
  have HB : Hid (Below w.heap.size w w1) := hb
  clear hb
  go_wp2
  first | exact ⟨rfl, HB.out⟩ | (go_ret; exact ⟨rfl, HB.out⟩) | (go_ret2; exact ⟨rfl, HB.out⟩)
theorem looks_walk (vars : Int) {ad : Option Addr} {cp : Nat} {sc : List OP} (w : World) (hs : SCR w w.heap.size ad sc) (hl : sc.length ≤ 17592186044416) :
    Calls Try.prog 6 #[.int .i64 vars, .slice ad sc.length cp] w fun e w' => e = .returned (.bool true) ∧ Below w.heap.size w w' := by
  have HP : Hid (∀ lo hi, Calls Try.prog 9 #[.int .i64 vars, .slice ad sc.length cp, .int .i64 lo, .int .i64 hi] w fun e w' => e = .returned (.bool true) ∧ Below w.heap.size w w') := fun lo hi => play_ok vars lo hi w hs hl
  clear hs hl
  generalize sc.length = n at *
  go_enter Try.func6, Try.ntmps6
  go_wp2_with fail
  refine (HP.out _ _).mono ?_
  rintro e w1 ⟨rfl, hb⟩
  have HB : Hid (Below w.heap.size w w1) := hb
  clear hb
  go_wp2
  first | exact ⟨rfl, HB.out⟩ | (go_ret; exact ⟨rfl, HB.out⟩) | (go_ret2; exact ⟨rfl, HB.out⟩)
theorem decides_walk (vars : Int) {ad : Option Addr} {cp : Nat} {sc : List OP} (w : World) (hs : SCR w w.heap.size ad sc) (hl : sc.length ≤ 17592186044416) :
    Calls Try.prog 4 #[.int .i64 vars, .slice ad sc.length cp] w fun e w' => e = .returned (.bool true) ∧ Below w.heap.size w w' := by
  have HP : Hid (∀ lo hi, Calls Try.prog 9 #[.int .i64 vars, .slice ad sc.length cp, .int .i64 lo, .int .i64 hi] w fun e w' => e = .returned (.bool true) ∧ Below w.heap.size w w') := fun lo hi => play_ok vars lo hi w hs hl
  have HP2 : Hid (∀ W lo hi, Below w.heap.size w W → Calls Try.prog 9 #[.int .i64 vars, .slice ad sc.length cp, .int .i64 lo, .int .i64 hi] W fun e w' => e = .returned (.bool true) ∧ Below w.heap.size w w') := fun W lo hi hb => (play_ok vars lo hi W ((hs.below hb).up hb.size) hl).mono fun e w' hh => ⟨hh.1, hb.trans ⟨hh.2.os, hh.2.tape, hh.2.output, hh.2.size, fun k hk => hh.2.block k (Nat.lt_of_lt_of_le hk hb.size)⟩⟩
  clear hs hl
  generalize sc.length = n at *
  go_enter Try.func4, Try.ntmps4
  go_wp2_with fail
  refine (HP.out _ _).mono ?_
  rintro e w1 ⟨rfl, hb⟩
  have HB : Hid (Below w.heap.size w w1) := hb
  clear hb
  go_wp2_with fail
  refine (HP2.out _ _ _ HB.out).mono ?_
  rintro e w2 ⟨rfl, hb⟩
  have HB2 : Hid (Below w.heap.size w w2) := hb
  clear hb
  go_wp2
  first | exact ⟨rfl, HB2.out⟩ | (go_ret; exact ⟨rfl, HB2.out⟩) | (go_ret2; exact ⟨rfl, HB2.out⟩)
end Go.Proofs.Ytpkbigjijihljaa
