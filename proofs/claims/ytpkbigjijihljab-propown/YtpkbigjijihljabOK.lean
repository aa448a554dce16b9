import Derived.Test.YtpkbigjijihljabOI
import Derived.Test.YtpkbigjijihljabOJ
import Derived.Test.YtpkbigjijihljabRows
import Derived.WalkKit
import Derived.ProofKit
import Derived.OpenShut
import Derived.SizedLaws
import Derived.Carry
import Derived.Deep.Slices
import Derived.Deep.Strs
namespace Go.Proofs.Ytpkbigjijihljab
open Go.ChangeShapes Go.WideShapes Go.ChangeAt Go.RowKit
open Go.Pr
/-- a clause that lies below -/
def RdB (w : World) (B : Nat) (ad : Option Addr) (xs : List Int) : Prop :=
  0 < xs.length → ∃ b o, ad = some ⟨b, o, none⟩ ∧ b < B ∧ ∀ j, j < xs.length → w.cell? ⟨b, o + j, none⟩ = some (.int .i64 (xs.getD j 0))
theorem RdB.below {w W : World} {B : Nat} {ad : Option Addr} {xs : List Int} (h : RdB w B ad xs) (hb : Below B w W) : RdB W B ad xs := fun h0 => by
  obtain ⟨b, o, h1, h2, h3⟩ := h h0
  exact ⟨b, o, h1, h2, fun j hj => (World.cell?_of_block (w' := W) (w := w) (a := ⟨b, o + j, none⟩) (hb.block b h2)).trans (h3 j hj)⟩
/-- a script's call -/
structure OP where
  k : Int
  n : Int
  ad : Option Addr
  cp : Nat
  xs : List Int
def OP.ok (w : World) (B : Nat) (x : OP) : Prop := x.n ≤ 9223372036854775807 ∧ -9223372036854775808 ≤ x.n ∧ RdB w B x.ad x.xs ∧ x.xs.length ≤ 17592186044416 ∧ ∀ y ∈ x.xs, y ≤ 9223372036854775807
def op0 : OP := ⟨0, 0, none, 0, []⟩
/-- a script that lies below -/
def SCR (w : World) (B : Nat) (ad : Option Addr) (sc : List OP) : Prop :=
  0 < sc.length → ∃ b o, ad = some ⟨b, o, none⟩ ∧ b < B ∧ ∀ j, j < sc.length → w.cell? ⟨b, o + j * 3, none⟩ = some (.int .i64 (sc.getD j op0).k) ∧ w.cell? ⟨b, o + j * 3 + 1, none⟩ = some (.int .i64 (sc.getD j op0).n) ∧ w.cell? ⟨b, o + j * 3 + 2, none⟩ = some (.slice (sc.getD j op0).ad (sc.getD j op0).xs.length (sc.getD j op0).cp) ∧ (sc.getD j op0).ok w B
theorem SCR.below {w W : World} {B : Nat} {ad : Option Addr} {sc : List OP} (h : SCR w B ad sc) (hb : Below B w W) : SCR W B ad sc := fun h0 => by
  obtain ⟨b, o, h1, h2, h3⟩ := h h0
  refine ⟨b, o, h1, h2, fun j hj => ?_⟩
  obtain ⟨k1, k2, k3, k4⟩ := h3 j hj
  have hc : ∀ m, W.cell? ⟨b, m, none⟩ = w.cell? ⟨b, m, none⟩ := fun m => World.cell?_of_block (w' := W) (w := w) (a := ⟨b, m, none⟩) (hb.block b h2)
  exact ⟨(hc _).trans k1, (hc _).trans k2, (hc _).trans k3, k4.1, k4.2.1, k4.2.2.1.below hb, k4.2.2.2⟩
theorem own : ownKnob Try.prog.godebug = none := by kernel_rfl
theorem laidOut : laidOutB Try.prog = true := by kernel_rfl
theorem cellsI : Try.prog.cellsOf 3 = 1 := by kernel_rfl
theorem cellsL : Try.prog.cellsOf 28 = 1 := by kernel_rfl
theorem cellsO : Try.prog.cellsOf 33 = 3 := by kernel_rfl
theorem bytesI : Try.prog.bytesOf 3 = 8 := by kernel_rfl
theorem bytesO : Try.prog.bytesOf 33 = 40 := by kernel_rfl
theorem addr_lit {w : World} {x : Addr} {v : Value} (h : w.cell? (x.add 0) = some v) : x = ⟨x.block, x.off, none⟩ := by
  obtain ⟨b, o, s⟩ := x
  cases s with
  | none => rfl
  | some k =>
    simp only [World.cell?, Addr.add, if_true] at h
    split at h
    · simp at h
    · cases h
theorem take_getD (zs : List Int) (n j : Nat) (h : j < n) : (zs.take n).getD j 0 = zs.getD j 0 := by
  rw [List.getD_eq_getElem?_getD, List.getElem?_take_of_lt h, List.getD_eq_getElem?_getD]
theorem weightsAll_mem {H : Type} {P : Program} {e : TypeId} : ∀ {l : List (DataW H)} {d : DataW H}, d ∈ l → ∀ n ∈ d.weights P e, n ∈ DataW.weightsAll P e l
  | d' :: r, d, hd, n, hn => by
    simp only [DataW.weightsAll, List.mem_append]
    rcases List.mem_cons.1 hd with rfl | h
    · exact Or.inl hn
    · exact Or.inr (weightsAll_mem h n hn)
theorem sized_part {H : Type} {P : Program} {ts : List TypeId} {ds : List (DataW H)} (h : (DataW.weightsEach P ts ds).all (· ≤ reachBytes) = true) {j : Nat} {t : TypeId} {d : DataW H} (ht : ts[j]? = some t) (hd : ds[j]? = some d) {z : Nat} (hz : z ∈ d.weights P t) : z ≤ reachBytes :=
  of_decide_eq_true (List.all_eq_true.1 h _ (DataW.weights_mem_each ht hd _ hz))
/-- a call's literals that came in -/
theorem open_lits {H : Type} {enc : TypeId × Value → H} {W : World} {base fuel : Nat} {v : Value} {x : DataW H × List MemPlace} (h : DataW.trod enc Try.prog W base (fun _ => true) true fuel 28 [v] = some x) (hw : ∀ z ∈ x.1.weights Try.prog 28, z ≤ reachBytes) :
    ∃ (ad : Option Addr) (cp : Nat) (xs : List Int), v = .slice ad xs.length cp ∧ RdB W W.heap.size ad xs ∧ xs.length ≤ 17592186044416 ∧ ∀ y ∈ xs, y ≤ 9223372036854775807 := by
  rcases open_ints Try.underlying28 Try.underlying3 cellsI h with ⟨hcs, hd⟩ | ⟨ad, l, c, zs, hcs, hb, hl, hm, hz, hx, hcell, hwz⟩
  · cases hcs
    exact ⟨none, 0, [], rfl, fun h => absurd h (by simp), by simp, by simp⟩
  · cases hcs
    simp only [if_true] at hz
    have hlen : (zs.take l).length = l := by simp; omega
    refine ⟨some ad, c, zs.take l, by rw [hlen], fun hp => ?_, ?_, fun y hy => (bounds_i64 (hwz y (List.mem_of_mem_take hy))).2⟩
    · rw [hlen] at hp
      have h0 := hcell 0 (by omega)
      have e := addr_lit h0
      have hlt : ad.block < W.heap.size := by
        have := block_lt_of_cell h0
        rw [e] at this
        exact this
      refine ⟨ad.block, ad.off, by rw [← e], hlt, fun j hj => ?_⟩
      rw [hlen] at hj
      have hj2 := hcell j (by omega)
      rw [e, Addr.add_lit] at hj2
      rw [hj2, take_getD zs l j hj]
    · rw [hlen]
      have := hw (c * 8) (by
        rw [hx]
        simp only [DataW.weights, Try.underlying28, bytesI, lits, List.length_map, List.length_take, List.length_drop]
        rw [show min l zs.length + (zs.length - l) = c by omega]
        exact List.mem_cons_self)
      unfold reachBytes at this
      omega
set_option maxRecDepth 100000 in
/-- one call that came in -/
theorem open_op {H : Type} {enc : TypeId × Value → H} {W : World} {base fuel : Nat} {cs : List Value} {x : DataW H × List MemPlace} (h : DataW.trod enc Try.prog W base (fun _ => true) true fuel 33 cs = some x) (hw : ∀ z ∈ x.1.weights Try.prog 33, z ≤ reachBytes) :
    ∃ o : OP, cs = [.int .i64 o.k, .int .i64 o.n, .slice o.ad o.xs.length o.cp] ∧ o.ok W W.heap.size := by
  obtain ⟨y0, y1, y2, n, hx, hlen, h0, h1, h2⟩ := Go.Deep.trod_struct3 Try.underlying33 h
  rw [cellsO] at hlen
  obtain ⟨v0, v1, v2, rfl⟩ : ∃ v0 v1 v2, cs = [v0, v1, v2] := by
    match cs, hlen with
    | [v0, v1, v2], _ => exact ⟨v0, v1, v2, rfl⟩
  simp [cellsI, cellsL] at h0 h1 h2
  obtain ⟨k0, e0, _, _⟩ := DataW.trod_int Try.underlying3 h0
  obtain ⟨k1, e1, _, w1⟩ := DataW.trod_int Try.underlying3 h1
  cases e0
  cases e1
  obtain ⟨ad, cp, xs, rfl, hr, hl, hbd⟩ := open_lits h2 (fun z hz => hw z (by
    rw [hx]
    simp only [DataW.weights, Try.underlying33]
    simp [DataW.weightsEach]
    exact Or.inr (Or.inr hz)))
  exact ⟨⟨k0, k1, ad, cp, xs⟩, rfl, (bounds_i64 w1).2, (bounds_i64 w1).1, hr, hl, hbd⟩
set_option maxRecDepth 100000 in
/-- a script that came in -/
theorem open_script {H : Type} {enc : TypeId × Value → H} {W : World} {base b2 : Nat} {v : Value} {d : DataW H} {p : List MemPlace} (hv : Value.okWide Try.prog W .any base 22 v)
    (h : DataW.Trod enc Try.prog W b2 (fun _ => true) true 22 v d p) (hw : ∀ z ∈ d.weights Try.prog 22, z ≤ reachBytes) :
    ∃ (ad : Option Addr) (cap : Nat) (sc : List OP), v = .slice ad sc.length cap ∧ SCR W W.heap.size ad sc ∧ sc.length ≤ 17592186044416 := by
  obtain ⟨a', len, cap', rfl⟩ := okWide_slice Try.underlying22 hv
  obtain ⟨fuel, hf⟩ := h
  have hf' : DataW.trod enc Try.prog W b2 (fun _ => true) true fuel 22 [.slice a' len cap'] = some (d, p) := hf
  rcases Go.Deep.open_slice Try.underlying22 hf' with ⟨hcs, hx⟩ | ⟨a, len2, cap, m, n, D, Pl, hcs, _, hl, hm, hmm, hx, hel⟩
  · cases hcs
    exact ⟨none, 0, [], rfl, fun h => absurd h (by simp), by simp⟩
  · cases hcs
    simp only [if_true] at hmm
    subst hmm
    rw [cellsO] at hel
    have hd : d = .slice ((List.range len).map D) ((List.range (m - len)).map fun j => D (len + j)) := congrArg Prod.fst hx
    have each : ∀ i, i < len → ∃ o : OP, W.cells? b2 (a.add (i * 3)) 3 = some [.int .i64 o.k, .int .i64 o.n, .slice o.ad o.xs.length o.cp] ∧ o.ok W W.heap.size := fun i hi => by
      obtain ⟨cs', h1, h2⟩ := hel i (by omega)
      obtain ⟨o, rfl, ho⟩ := open_op h2 (fun z hz => hw z (by
        rw [hd]
        simp only [DataW.weights, Try.underlying22, List.mem_cons, List.mem_append]
        exact Or.inr (Or.inl (weightsAll_mem (List.mem_map.2 ⟨i, List.mem_range.2 hi, rfl⟩) _ hz))))
      exact ⟨o, h1, ho⟩
    obtain ⟨q, hq⟩ : ∃ q : Nat → OP, ∀ i, i < len → W.cells? b2 (a.add (i * 3)) 3 = some [.int .i64 (q i).k, .int .i64 (q i).n, .slice (q i).ad (q i).xs.length (q i).cp] ∧ (q i).ok W W.heap.size := by
      refine ⟨fun i => if hi : i < len then Classical.choose (each i hi) else op0, fun i hi => ?_⟩
      simp only [dif_pos hi]
      exact Classical.choose_spec (each i hi)
    have hlen : ((List.range len).map q).length = len := by simp
    have hget : ∀ j, j < len → ((List.range len).map q).getD j op0 = q j := fun j hj => by
      rw [List.getD_eq_getElem?_getD, List.getElem?_map, List.getElem?_range hj]
      rfl
    refine ⟨some a, m, (List.range len).map q, by rw [hlen], fun hp => ?_, ?_⟩
    · rw [hlen] at hp
      have hc : ∀ i, i < len → W.cell? (a.add (i * 3 + 0)) = some (.int .i64 (q i).k) ∧ W.cell? (a.add (i * 3 + 1)) = some (.int .i64 (q i).n) ∧ W.cell? (a.add (i * 3 + 2)) = some (.slice (q i).ad (q i).xs.length (q i).cp) := fun i hi => by
        obtain ⟨_, _, hcell⟩ := World.cells?_some (hq i hi).1
        have e0 := hcell 0 (by omega)
        have e1 := hcell 1 (by omega)
        have e2 := hcell 2 (by omega)
        rw [Go.Deep.add_add] at e0 e1 e2
        exact ⟨by simpa using e0, by simpa using e1, by simpa using e2⟩
      have h0 := (hc 0 hp).1
      have e := addr_lit (by simpa using h0)
      have hlt : a.block < W.heap.size := by
        have := block_lt_of_cell h0
        rw [e] at this
        exact this
      refine ⟨a.block, a.off, by rw [← e], hlt, fun j hj => ?_⟩
      rw [hlen] at hj
      obtain ⟨c0, c1, c2⟩ := hc j hj
      rw [hget j hj]
      rw [e, Addr.add_lit] at c0 c1 c2
      exact ⟨c0, c1, c2, (hq j hj).2⟩
    · rw [hlen]
      have := hw (m * 40) (by
        rw [hd]
        simp only [DataW.weights, Try.underlying22, bytesO, List.length_map, List.length_range]
        rw [show len + (m - len) = m by omega]
        exact List.mem_cons_self)
      unfold reachBytes at this
      omega
theorem SCR.up {w : World} {B C : Nat} {ad : Option Addr} {sc : List OP} (h : SCR w B ad sc) (hb : B ≤ C) : SCR w C ad sc := fun h0 => by
  obtain ⟨b, o, h1, h2, h3⟩ := h h0
  refine ⟨b, o, h1, by omega, fun j hj => ?_⟩
  obtain ⟨k1, k2, k3, k4, k5, k6, k7⟩ := h3 j hj
  refine ⟨k1, k2, k3, k4, k5, fun h0 => ?_, k7⟩
  obtain ⟨b', o', e1, e2, e3⟩ := k6 h0
  exact ⟨b', o', e1, by omega, e3⟩
theorem does_any {w : World} {g b B : Nat} {O1 O2 : Nat → Prop} {S : ES} {p : Nat → Value} {cls : List (List Int)} {dec : List Int} {pA pD : Value} {q : Nat → Value} (h : EB w g b B O1 O2 S p cls dec pA pD q) (hr : BREL S cls dec) (x : OP) (hx : x.ok w B) :
    Calls Try.prog 7 #[.pointer (some ⟨b, 0, none⟩), .pointer (some ⟨g, 0, none⟩), .agg #[.int .i64 x.k, .int .i64 x.n, .slice x.ad x.xs.length x.cp]] w fun e w' => e = .returned (.tuple #[]) ∧ Stb w g b B w' := by
  obtain ⟨K, N, ad, cp, xs⟩ := x
  by_cases h0 : K < 1 ∨ 4 < K
  · exact does0 h hr K N ad xs.length cp h0
  · have : K = 1 ∨ K = 2 ∨ K = 3 ∨ K = 4 := by omega
    rcases this with rfl | rfl | rfl | rfl
    · exact does1 h hr N hx.2.2.1 hx.2.2.2.1
    · exact does2 h hr N ad xs.length cp
    · exact does3 h hr N ad xs.length cp
    · exact does4 h hr N ad xs.length cp
theorem Stb.does {w W : World} {g b B : Nat} (h : Stb w g b B W) (x : OP) (hx : x.ok w B) :
    Calls Try.prog 7 #[.pointer (some ⟨b, 0, none⟩), .pointer (some ⟨g, 0, none⟩), .agg #[.int .i64 x.k, .int .i64 x.n, .slice x.ad x.xs.length x.cp]] W fun e w' => e = .returned (.tuple #[]) ∧ Stb w g b B w' := by
  obtain ⟨S, O1, O2, p, cls, dec, pA, pD, q, hr, t, hb⟩ := h
  refine (does_any t hr x ⟨hx.1, hx.2.1, hx.2.2.1.below hb, hx.2.2.2⟩).mono fun e w' hh => ⟨hh.1, ?_⟩
  obtain ⟨S', O1', O2', p', cls', dec', pA', pD', q', hr', t', hb'⟩ := hh.2
  exact ⟨S', O1', O2', p', cls', dec', pA', pD', q', hr', t', hb.trans hb'⟩
theorem Stb.below {w W : World} {g b B : Nat} (h : Stb w g b B W) : Below B w W := by
  obtain ⟨S, O1, O2, p, cls, dec, pA, pD, q, hr, t, hb⟩ := h
  exact hb
/-- a new book beside a new engine -/
theorem Stb.start {w w1 : World} {g n : Nat} {O : Nat → Prop} {p : Nat → Value} (hn : n ≤ 1048576) (m : Mem w1 g O (es0 n) p) (a : ∀ k, O k → w.heap.size ≤ k) (bl : Below w.heap.size w w1) : Stb w g w1.heap.size w.heap.size (w1.alloc (.cells #[.slice none 0 0, .slice none 0 0] 30)) := by
  refine ⟨es0 n, O, (fun k => k = w1.heap.size), p, [], [], .slice none 0 0, .slice none 0 0, fun _ => .bool false, BREL.zero hn, ⟨m.alloc _, ⟨heap_alloc_new _ _, rfl, fun k hk => ?_, World.ownsRow_nil _ _ _ _, World.ownsRow_nil _ _ _ _, fun k hk => ?_, fun k hk => ?_, fun k hk => absurd hk (Nat.not_lt_zero k)⟩, fun k h1 h2 => ?_, a, fun k hk => ?_⟩, bl.trans ((Below.refl _ _).alloc bl.size _)⟩
  · rw [hk]; simp
  · exact absurd hk (by simp [Value.ownBlock])
  · exact absurd hk (by simp [Value.ownBlock])
  · have := m.osz k h1; omega
  · have := bl.size; omega
/-- a script's call, of an engine and a book -/
theorem scr_does {w : World} {ad : Option Addr} {sc : List OP} (hs : SCR w w.heap.size ad sc) (g b i : Nat) (hi : i < sc.length) : ∃ sb so xk xn xa xl xc, ad = some ⟨sb, so, none⟩ ∧ (∀ W, Stb w g b w.heap.size W → W.cell? ⟨sb, so + i * 3, none⟩ = some (.int .i64 xk) ∧ W.cell? ⟨sb, so + i * 3 + 1, none⟩ = some (.int .i64 xn) ∧ W.cell? ⟨sb, so + i * 3 + 2, none⟩ = some (.slice xa xl xc)) ∧
    ∀ V, Stb w g b w.heap.size V → Calls Try.prog 7 #[.pointer (some ⟨b, 0, none⟩), .pointer (some ⟨g, 0, none⟩), .agg #[.int .i64 xk, .int .i64 xn, .slice xa xl xc]] V fun e w' => e = .returned (.tuple #[]) ∧ Stb w g b w.heap.size w' := by
  obtain ⟨sb, so, e1, e2, e3⟩ := hs (by omega)
  have ok := (e3 i hi).2.2.2
  refine ⟨sb, so, _, _, _, _, _, e1, fun W hst => ?_, fun V hV => hV.does _ ok⟩
  have hb := hst.below
  have hc : ∀ m, W.cell? ⟨sb, m, none⟩ = w.cell? ⟨sb, m, none⟩ := fun m => World.cell?_of_block (w' := W) (w := w) (a := ⟨sb, m, none⟩) (hb.block sb e2)
  exact ⟨(hc _).trans (e3 i hi).1, (hc _).trans (e3 i hi).2.1, (hc _).trans (e3 i hi).2.2.1⟩
theorem EB.told {w w1 : World} {g b B : Nat} {O1 O2 : Nat → Prop} {S : ES} {p : Nat → Value} {cls : List (List Int)} {dec : List Int} {pA pD : Value} {q : Nat → Value} (h : EB w g b B O1 O2 S p cls dec pA pD q) (m : Mem w1 g O1 S p) (f : Fr O1 w w1 O1) : EB w1 g b B O1 O2 S p cls dec pA pD q ∧ Below B w w1 := by
  have hk : ∀ k, O2 k → w1.heap[k]? = w.heap[k]? := fun k hk => f.kept k (h.bk.osz k hk) (fun h5 => h.dj k h5 hk)
  have hgB := h.b1 g h.m.og
  have hgs := h.m.osz g h.m.og
  exact ⟨⟨m, h.bk.kept f.size hk, h.dj, h.b1, h.b2⟩, ⟨f.os, f.tape, f.output, f.size, fun k hk2 => f.kept k (by omega) (fun h5 => by have := h.b1 k h5; omega)⟩⟩
end Go.Proofs.Ytpkbigjijihljab
