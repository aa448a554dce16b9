import Derived.Test.YtobgedjpghokcaaGreatDoorTmD
import Derived.Test.YtobgedjpghokcaaGreatDoorRows
import Derived.WalkKit
import Derived.ProofKit
import Derived.OpenShut
import Derived.SizedLaws
import Derived.Carry
import Derived.Deep.Slices
import Derived.Deep.Strs
namespace Go.Proofs.YtobgedjpghokcaaGreatDoor
open Go.ChangeShapes Go.WideShapes Go.ChangeAt Go.RowKit Go.Lib Go.Tm Go.Bw Go.Bn Go.WideMaps Go.Maps Go.ChangeMaps

theorem own : ownKnob Tryz.prog.godebug = none := by kernel_rfl
theorem cB : Tryz.prog.cellsOf 4 = 1 := by kernel_rfl
theorem cO : Tryz.prog.cellsOf 34 = 16 := by kernel_rfl
theorem bytesO : Tryz.prog.bytesOf 34 = 144 := by kernel_rfl
theorem addr_lit {w : World} {x : Addr} {v : Value} (h : w.cell? (x.add 0) = some v) : x = ⟨x.block, x.off, none⟩ := by
  obtain ⟨b, o, s⟩ := x
  cases s with
  | none => rfl
  | some k =>
    simp only [World.cell?, Addr.add, if_true] at h
    split at h
    · simp at h
    · cases h
theorem weightsAll_mem {H : Type} {P : Program} {e : TypeId} : ∀ {l : List (DataW H)} {d : DataW H}, d ∈ l → ∀ n ∈ d.weights P e, n ∈ DataW.weightsAll P e l
  | d' :: r, d, hd, n, hn => by
    simp only [DataW.weightsAll, List.mem_append]
    rcases List.mem_cons.1 hd with rfl | h
    · exact Or.inl hn
    · exact Or.inr (weightsAll_mem h n hn)
theorem sized_part {H : Type} {P : Program} {ts : List TypeId} {ds : List (DataW H)} (h : (DataW.weightsEach P ts ds).all (· ≤ reachBytes) = true) {j : Nat} {t : TypeId} {d : DataW H} (ht : ts[j]? = some t) (hd : ds[j]? = some d) {z : Nat} (hz : z ∈ d.weights P t) : z ≤ reachBytes :=
  of_decide_eq_true (List.all_eq_true.1 h _ (DataW.weights_mem_each ht hd _ hz))
theorem struct7 {H : Type} {enc : TypeId × Value → H} {P : Program} {w : World} {base : Nat} {spare : Nat → Bool} {held : Bool} {t : TypeId} {f0 f1 f2 f3 f4 f5 f6 : Field} {fuel : Nat} {cs : List Value} {x : DataW H × List MemPlace} (ht : P.underlying t = some (.struct #[f0, f1, f2, f3, f4, f5, f6])) (h : DataW.trod enc P w base spare held fuel t cs = some x) :
    ∃ y0 y1 y2 y3 y4 y5 y6 n, x.1 = .agg [y0.1, y1.1, y2.1, y3.1, y4.1, y5.1, y6.1] ∧ cs.length = P.cellsOf t ∧ DataW.trod enc P w base spare held n f0.type ((cs.drop f0.offset).take (P.cellsOf f0.type)) = some y0 ∧ DataW.trod enc P w base spare held n f1.type ((cs.drop f1.offset).take (P.cellsOf f1.type)) = some y1 ∧ DataW.trod enc P w base spare held n f2.type ((cs.drop f2.offset).take (P.cellsOf f2.type)) = some y2 ∧ DataW.trod enc P w base spare held n f3.type ((cs.drop f3.offset).take (P.cellsOf f3.type)) = some y3 ∧ DataW.trod enc P w base spare held n f4.type ((cs.drop f4.offset).take (P.cellsOf f4.type)) = some y4 ∧ DataW.trod enc P w base spare held n f5.type ((cs.drop f5.offset).take (P.cellsOf f5.type)) = some y5 ∧ DataW.trod enc P w base spare held n f6.type ((cs.drop f6.offset).take (P.cellsOf f6.type)) = some y6 := by
  obtain ⟨xs, n, _, rfl, hl, hlen, hf⟩ := DataW.trod_struct ht h
  match xs, hlen with
  | [y0, y1, y2, y3, y4, y5, y6], _ => exact ⟨y0, y1, y2, y3, y4, y5, y6, n, by simp, hl, by simpa using hf 0 f0 rfl, by simpa using hf 1 f1 rfl, by simpa using hf 2 f2 rfl, by simpa using hf 3 f3 rfl, by simpa using hf 4 f4 rfl, by simpa using hf 5 f5 rfl, by simpa using hf 6 f6 rfl⟩
theorem struct10 {H : Type} {enc : TypeId × Value → H} {P : Program} {w : World} {base : Nat} {spare : Nat → Bool} {held : Bool} {t : TypeId} {f0 f1 f2 f3 f4 f5 f6 f7 f8 f9 : Field} {fuel : Nat} {cs : List Value} {x : DataW H × List MemPlace} (ht : P.underlying t = some (.struct #[f0, f1, f2, f3, f4, f5, f6, f7, f8, f9])) (h : DataW.trod enc P w base spare held fuel t cs = some x) :
    ∃ y0 y1 y2 y3 y4 y5 y6 y7 y8 y9 n, x.1 = .agg [y0.1, y1.1, y2.1, y3.1, y4.1, y5.1, y6.1, y7.1, y8.1, y9.1] ∧ cs.length = P.cellsOf t ∧ DataW.trod enc P w base spare held n f0.type ((cs.drop f0.offset).take (P.cellsOf f0.type)) = some y0 ∧ DataW.trod enc P w base spare held n f1.type ((cs.drop f1.offset).take (P.cellsOf f1.type)) = some y1 ∧ DataW.trod enc P w base spare held n f2.type ((cs.drop f2.offset).take (P.cellsOf f2.type)) = some y2 ∧ DataW.trod enc P w base spare held n f3.type ((cs.drop f3.offset).take (P.cellsOf f3.type)) = some y3 ∧ DataW.trod enc P w base spare held n f4.type ((cs.drop f4.offset).take (P.cellsOf f4.type)) = some y4 ∧ DataW.trod enc P w base spare held n f5.type ((cs.drop f5.offset).take (P.cellsOf f5.type)) = some y5 ∧ DataW.trod enc P w base spare held n f6.type ((cs.drop f6.offset).take (P.cellsOf f6.type)) = some y6 ∧ DataW.trod enc P w base spare held n f7.type ((cs.drop f7.offset).take (P.cellsOf f7.type)) = some y7 ∧ DataW.trod enc P w base spare held n f8.type ((cs.drop f8.offset).take (P.cellsOf f8.type)) = some y8 ∧ DataW.trod enc P w base spare held n f9.type ((cs.drop f9.offset).take (P.cellsOf f9.type)) = some y9 := by
  obtain ⟨xs, n, _, rfl, hl, hlen, hf⟩ := DataW.trod_struct ht h
  match xs, hlen with
  | [y0, y1, y2, y3, y4, y5, y6, y7, y8, y9], _ => exact ⟨y0, y1, y2, y3, y4, y5, y6, y7, y8, y9, n, by simp, hl, by simpa using hf 0 f0 rfl, by simpa using hf 1 f1 rfl, by simpa using hf 2 f2 rfl, by simpa using hf 3 f3 rfl, by simpa using hf 4 f4 rfl, by simpa using hf 5 f5 rfl, by simpa using hf 6 f6 rfl, by simpa using hf 7 f7 rfl, by simpa using hf 8 f8 rfl, by simpa using hf 9 f9 rfl⟩
/-- a call of a script -/
structure OPR where
  k : Int
  o : Int
  a : Int
  b : Int
  c : Int
  w : Int
  t : Bool
  x : Int
  name : ByteArray
  n : Nd
def op0 : OPR := ⟨0, 0, 0, 0, 0, 0, false, 0, ByteArray.empty, z0⟩
def opC (o : OPR) : List Value := [.int .i64 o.k, .int .i64 o.o, .int .i64 o.a, .int .i64 o.b, .int .i64 o.c, .int .i64 o.w, .bool o.t, .int .u64 o.x, .string o.name, .int .i64 o.n.op, .int .i64 o.n.w, .int .i64 o.n.a, .int .i64 o.n.b, .int .i64 o.n.c, .int .u64 o.n.num, .string o.n.name]
structure OPR.ok (s : OPR) : Prop where
  k : I64 s.k
  o : I64 s.o
  a : I64 s.a
  b : I64 s.b
  c : I64 s.c
  w : I64 s.w
  x : U64 s.x
  name : s.name.size ≤ 140737488355328
  n : s.n.ok
theorem str_le {s : ByteArray} (h : s.data.toList.length ≤ reachBytes) : s.size ≤ 140737488355328 := by
  unfold reachBytes at h
  have : s.size = s.data.toList.length := (Array.length_toList (xs := s.data)).symm
  omega
set_option maxRecDepth 100000 in
theorem open_node {H : Type} {enc : TypeId × Value → H} {W : World} {base fuel : Nat} {cs : List Value} {x : DataW H × List MemPlace} (h : DataW.trod enc Tryz.prog W base (fun _ => true) true fuel 32 cs = some x) (hw : ∀ z ∈ x.1.weights Tryz.prog 32, z ≤ reachBytes) :
    ∃ n : Nd, cs = ndC n ∧ n.ok := by
  obtain ⟨y0, y1, y2, y3, y4, y5, y6, m, hx, hlen, h0, h1, h2, h3, h4, h5, h6⟩ := struct7 Tryz.underlying32 h
  rw [cN] at hlen
  obtain ⟨v0, v1, v2, v3, v4, v5, v6, rfl⟩ : ∃ v0 v1 v2 v3 v4 v5 v6, cs = [v0, v1, v2, v3, v4, v5, v6] := by
    match cs, hlen with
    | [v0, v1, v2, v3, v4, v5, v6], _ => exact ⟨v0, v1, v2, v3, v4, v5, v6, rfl⟩
  simp [cI, cU, cS] at h0 h1 h2 h3 h4 h5 h6
  obtain ⟨k0, e0, _, w0⟩ := DataW.trod_int Tryz.underlying3 h0
  cases e0
  obtain ⟨k1, e1, _, w1⟩ := DataW.trod_int Tryz.underlying3 h1
  cases e1
  obtain ⟨k2, e2, _, w2⟩ := DataW.trod_int Tryz.underlying3 h2
  cases e2
  obtain ⟨k3, e3, _, w3⟩ := DataW.trod_int Tryz.underlying3 h3
  cases e3
  obtain ⟨k4, e4, _, w4⟩ := DataW.trod_int Tryz.underlying3 h4
  cases e4
  obtain ⟨k5, e5, _, w5⟩ := DataW.trod_int Tryz.underlying30 h5
  cases e5
  obtain ⟨s, e6, f6, _⟩ := DataW.trod_string Tryz.underlying9 h6
  cases e6
  refine ⟨⟨k0, k1, k2, k3, k4, k5, s⟩, rfl, bounds_i64 w0, bounds_i64 w1, bounds_i64 w2, bounds_i64 w3, bounds_i64 w4, bounds_u64 w5, str_le (hw _ ?_)⟩
  rw [hx, f6]
  simp only [DataW.weights, Tryz.underlying32]
  simp [DataW.weightsEach, DataW.weights]
set_option maxRecDepth 100000 in
/-- one call that came in -/
theorem open_op {H : Type} {enc : TypeId × Value → H} {W : World} {base fuel : Nat} {cs : List Value} {x : DataW H × List MemPlace} (h : DataW.trod enc Tryz.prog W base (fun _ => true) true fuel 34 cs = some x) (hw : ∀ z ∈ x.1.weights Tryz.prog 34, z ≤ reachBytes) :
    ∃ o : OPR, cs = opC o ∧ o.ok := by
  obtain ⟨y0, y1, y2, y3, y4, y5, y6, y7, y8, y9, m, hx, hlen, h0, h1, h2, h3, h4, h5, h6, h7, h8, h9⟩ := struct10 Tryz.underlying34 h
  rw [cO] at hlen
  obtain ⟨v0, v1, v2, v3, v4, v5, v6, v7, v8, v9, v10, v11, v12, v13, v14, v15, rfl⟩ : ∃ v0 v1 v2 v3 v4 v5 v6 v7 v8 v9 v10 v11 v12 v13 v14 v15, cs = [v0, v1, v2, v3, v4, v5, v6, v7, v8, v9, v10, v11, v12, v13, v14, v15] := by
    match cs, hlen with
    | [v0, v1, v2, v3, v4, v5, v6, v7, v8, v9, v10, v11, v12, v13, v14, v15], _ => exact ⟨v0, v1, v2, v3, v4, v5, v6, v7, v8, v9, v10, v11, v12, v13, v14, v15, rfl⟩
  simp [cI, cU, cS, cB, cN] at h0 h1 h2 h3 h4 h5 h6 h7 h8 h9
  obtain ⟨k0, e0, _, w0⟩ := DataW.trod_int Tryz.underlying3 h0
  cases e0
  obtain ⟨k1, e1, _, w1⟩ := DataW.trod_int Tryz.underlying3 h1
  cases e1
  obtain ⟨k2, e2, _, w2⟩ := DataW.trod_int Tryz.underlying3 h2
  cases e2
  obtain ⟨k3, e3, _, w3⟩ := DataW.trod_int Tryz.underlying3 h3
  cases e3
  obtain ⟨k4, e4, _, w4⟩ := DataW.trod_int Tryz.underlying3 h4
  cases e4
  obtain ⟨k5, e5, _, w5⟩ := DataW.trod_int Tryz.underlying3 h5
  cases e5
  obtain ⟨k6, e6, _⟩ := DataW.trod_bool Tryz.underlying4 h6
  cases e6
  obtain ⟨k7, e7, _, w7⟩ := DataW.trod_int Tryz.underlying30 h7
  cases e7
  obtain ⟨s, e8, f8, _⟩ := DataW.trod_string Tryz.underlying9 h8
  cases e8
  obtain ⟨n, e9, hn⟩ := open_node h9 (fun z hz => hw z (by
    rw [hx]
    simp only [DataW.weights, Tryz.underlying34]
    simp [DataW.weightsEach, hz]))
  cases e9
  refine ⟨⟨k0, k1, k2, k3, k4, k5, k6, k7, s, n⟩, rfl, bounds_i64 w0, bounds_i64 w1, bounds_i64 w2, bounds_i64 w3, bounds_i64 w4, bounds_i64 w5, bounds_u64 w7, str_le (hw _ ?_), hn⟩
  rw [hx, f8]
  simp only [DataW.weights, Tryz.underlying34]
  simp [DataW.weightsEach, DataW.weights]
def SCR (w : World) (B : Nat) (ad : Option Addr) (sc : List OPR) : Prop :=
  0 < sc.length → ∃ b o, ad = some ⟨b, o, none⟩ ∧ b < B ∧ ∀ j, j < sc.length → (∀ i, i < 16 → w.cell? ⟨b, o + j * 16 + i, none⟩ = (opC (sc.getD j op0))[i]?) ∧ (sc.getD j op0).ok
theorem SCR.below {w W : World} {B : Nat} {ad : Option Addr} {sc : List OPR} (h : SCR w B ad sc) (hb : Below B w W) : SCR W B ad sc := fun h0 => by
  obtain ⟨b, o, h1, h2, h3⟩ := h h0
  refine ⟨b, o, h1, h2, fun j hj => ?_⟩
  obtain ⟨k1, k2⟩ := h3 j hj
  exact ⟨fun i hi => (World.cell?_of_block (w' := W) (w := w) (a := ⟨b, o + j * 16 + i, none⟩) (hb.block b h2)).trans (k1 i hi), k2⟩
set_option maxRecDepth 100000 in
/-- a script that came in -/
theorem open_script {H : Type} {enc : TypeId × Value → H} {W : World} {base b2 : Nat} {v : Value} {d : DataW H} {p : List MemPlace} (hv : Value.okWide Tryz.prog W .any base 22 v)
    (h : DataW.Trod enc Tryz.prog W b2 (fun _ => true) true 22 v d p) (hw : ∀ z ∈ d.weights Tryz.prog 22, z ≤ reachBytes) :
    ∃ (ad : Option Addr) (cap : Nat) (sc : List OPR), v = .slice ad sc.length cap ∧ SCR W W.heap.size ad sc ∧ sc.length < 1000000000000 := by
  obtain ⟨a', len, cap', rfl⟩ := okWide_slice Tryz.underlying22 hv
  obtain ⟨fuel, hf⟩ := h
  have hf' : DataW.trod enc Tryz.prog W b2 (fun _ => true) true fuel 22 [.slice a' len cap'] = some (d, p) := hf
  rcases Go.Deep.open_slice Tryz.underlying22 hf' with ⟨hcs, hx⟩ | ⟨a, len2, cap, m, n, D, Pl, hcs, _, hl, hm, hmm, hx, hel⟩
  · cases hcs
    exact ⟨none, 0, [], rfl, fun h => absurd h (by simp), by simp⟩
  · cases hcs
    simp only [if_true] at hmm
    subst hmm
    rw [cO] at hel
    have hd : d = .slice ((List.range len).map D) ((List.range (m - len)).map fun j => D (len + j)) := congrArg Prod.fst hx
    have each : ∀ i, i < len → ∃ o : OPR, W.cells? b2 (a.add (i * 16)) 16 = some (opC o) ∧ o.ok := fun i hi => by
      obtain ⟨cs', h1, h2⟩ := hel i (by omega)
      obtain ⟨o, rfl, ho⟩ := open_op h2 (fun z hz => hw z (by
        rw [hd]
        simp only [DataW.weights, Tryz.underlying22, List.mem_cons, List.mem_append]
        exact Or.inr (Or.inl (weightsAll_mem (List.mem_map.2 ⟨i, List.mem_range.2 hi, rfl⟩) _ hz))))
      exact ⟨o, h1, ho⟩
    obtain ⟨q, hq⟩ : ∃ q : Nat → OPR, ∀ i, i < len → W.cells? b2 (a.add (i * 16)) 16 = some (opC (q i)) ∧ (q i).ok := by
      refine ⟨fun i => if hi : i < len then Classical.choose (each i hi) else op0, fun i hi => ?_⟩
      simp only [dif_pos hi]
      exact Classical.choose_spec (each i hi)
    have hlen : ((List.range len).map q).length = len := by simp
    have hget : ∀ j, j < len → ((List.range len).map q).getD j op0 = q j := fun j hj => by
      rw [List.getD_eq_getElem?_getD, List.getElem?_map, List.getElem?_range hj]
      rfl
    refine ⟨some a, m, (List.range len).map q, by rw [hlen], fun hp => ?_, ?_⟩
    · rw [hlen] at hp
      have hc : ∀ i, i < len → ∀ j, j < 16 → W.cell? (a.add (i * 16 + j)) = (opC (q i))[j]? := fun i hi j hj => by
        obtain ⟨_, _, hcell⟩ := World.cells?_some (hq i hi).1
        have e0 := hcell j hj
        rw [Go.Deep.add_add] at e0
        exact e0
      have h0 : W.cell? (a.add 0) = some (.int .i64 (q 0).k) := hc 0 hp 0 (by omega)
      have e := addr_lit h0
      have hlt : a.block < W.heap.size := by
        have := block_lt_of_cell h0
        rw [e] at this
        exact this
      refine ⟨a.block, a.off, by rw [← e], hlt, fun j hj => ?_⟩
      rw [hlen] at hj
      rw [hget j hj]
      refine ⟨fun i hi => ?_, (hq j hj).2⟩
      have c0 := hc j hj i hi
      rw [e, Addr.add_lit] at c0
      rw [← c0, Nat.add_assoc]
    · rw [hlen]
      have := hw (m * 144) (by
        rw [hd]
        simp only [DataW.weights, Tryz.underlying22, bytesO, List.length_map, List.length_range]
        rw [show len + (m - len) = m by omega]
        exact List.mem_cons_self)
      unfold reachBytes at this
      omega
end Go.Proofs.YtobgedjpghokcaaGreatDoor
