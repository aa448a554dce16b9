import Derived.Test.YtclgkmihabpohaaRdG
import Derived.Test.YtclgkmihabpohaaRows
import Derived.WalkKit
import Derived.ProofKit
import Derived.OpenShut
import Derived.SizedLaws
import Derived.Carry
import Derived.Deep.Slices
import Derived.Deep.Strs
namespace Go.Proofs.Ytclgkmihabpohaa
open Go.ChangeShapes Go.WideShapes Go.ChangeAt Go.RowKit
theorem own : ownKnob Try.prog.godebug = none := by kernel_rfl
theorem laidOut : laidOutB Try.prog = true := by kernel_rfl
theorem cellsI : Try.prog.cellsOf 3 = 1 := by kernel_rfl
theorem cellsU : Try.prog.cellsOf 28 = 1 := by kernel_rfl
theorem cellsE : Try.prog.cellsOf 30 = 3 := by kernel_rfl
theorem bytesE : Try.prog.bytesOf 30 = 24 := by kernel_rfl
theorem addr_lit {w : World} {x : Addr} {v : Value} (h : w.cell? (x.add 0) = some v) : x = ⟨x.block, x.off, none⟩ := by
  obtain ⟨b, o, s⟩ := x
  cases s with
  | none => rfl
  | some k =>
    simp only [World.cell?, Addr.add, if_true] at h
    split at h
    · simp at h
    · cases h
theorem sized_part {H : Type} {P : Program} {ts : List TypeId} {ds : List (DataW H)} (h : (DataW.weightsEach P ts ds).all (· ≤ reachBytes) = true) {j : Nat} {t : TypeId} {d : DataW H} (ht : ts[j]? = some t) (hd : ds[j]? = some d) {z : Nat} (hz : z ∈ d.weights P t) : z ≤ reachBytes :=
  of_decide_eq_true (List.all_eq_true.1 h _ (DataW.weights_mem_each ht hd _ hz))
set_option maxRecDepth 100000 in
/-- one event that came in -/
theorem open_ev {H : Type} {enc : TypeId × Value → H} {W : World} {base fuel : Nat} {cs : List Value} {x : DataW H × List MemPlace} (h : DataW.trod enc Try.prog W base (fun _ => true) true fuel 30 cs = some x) :
    ∃ s : S3, cs = [.int .i64 s.1, .int .u64 s.2.1, .int .u64 s.2.2] := by
  obtain ⟨y0, y1, y2, n, hx, hlen, h0, h1, h2⟩ := Go.Deep.trod_struct3 Try.underlying30 h
  rw [cellsE] at hlen
  obtain ⟨v0, v1, v2, rfl⟩ : ∃ v0 v1 v2, cs = [v0, v1, v2] := by
    match cs, hlen with
    | [v0, v1, v2], _ => exact ⟨v0, v1, v2, rfl⟩
  simp [cellsI, cellsU] at h0 h1 h2
  obtain ⟨k0, e0, _, _⟩ := DataW.trod_int Try.underlying3 h0
  obtain ⟨k1, e1, _, _⟩ := DataW.trod_int Try.underlying28 h1
  obtain ⟨k2, e2, _, _⟩ := DataW.trod_int Try.underlying28 h2
  cases e0
  cases e1
  cases e2
  exact ⟨(k0, k1, k2), rfl⟩
set_option maxRecDepth 100000 in
/-- a trace that came in -/
theorem open_evs {H : Type} {enc : TypeId × Value → H} {W : World} {base b2 : Nat} {v : Value} {d : DataW H} {p : List MemPlace} (hv : Value.okWide Try.prog W .any base 22 v)
    (h : DataW.Trod enc Try.prog W b2 (fun _ => true) true 22 v d p) (hw : ∀ z ∈ d.weights Try.prog 22, z ≤ reachBytes) :
    ∃ (ad : Option Addr) (cap : Nat) (sc : List S3), v = .slice ad sc.length cap ∧ EVS W ad sc ∧ sc.length * 24 ≤ 140737488355328 := by
  obtain ⟨a', len, cap', rfl⟩ := okWide_slice Try.underlying22 hv
  obtain ⟨fuel, hf⟩ := h
  have hf' : DataW.trod enc Try.prog W b2 (fun _ => true) true fuel 22 [.slice a' len cap'] = some (d, p) := hf
  rcases Go.Deep.open_slice Try.underlying22 hf' with ⟨hcs, hx⟩ | ⟨a, len2, cap, m, n, D, Pl, hcs, _, hl, hm, hmm, hx, hel⟩
  · cases hcs
    exact ⟨none, 0, [], rfl, fun h => absurd h (by simp), by simp⟩
  · cases hcs
    simp only [if_true] at hmm
    subst hmm
    rw [cellsE] at hel
    have hd : d = .slice ((List.range len).map D) ((List.range (m - len)).map fun j => D (len + j)) := congrArg Prod.fst hx
    have each : ∀ i, i < len → ∃ s : S3, W.cells? b2 (a.add (i * 3)) 3 = some [.int .i64 s.1, .int .u64 s.2.1, .int .u64 s.2.2] := fun i hi => by
      obtain ⟨cs', h1, h2⟩ := hel i (by omega)
      obtain ⟨s, rfl⟩ := open_ev h2
      exact ⟨s, h1⟩
    obtain ⟨q, hq⟩ : ∃ q : Nat → S3, ∀ i, i < len → W.cells? b2 (a.add (i * 3)) 3 = some [.int .i64 (q i).1, .int .u64 (q i).2.1, .int .u64 (q i).2.2] := by
      refine ⟨fun i => if hi : i < len then Classical.choose (each i hi) else z3, fun i hi => ?_⟩
      simp only [dif_pos hi]
      exact Classical.choose_spec (each i hi)
    have hlen : ((List.range len).map q).length = len := by simp
    have hget : ∀ j, j < len → ((List.range len).map q).getD j z3 = q j := fun j hj => by
      rw [List.getD_eq_getElem?_getD, List.getElem?_map, List.getElem?_range hj]
      rfl
    refine ⟨some a, m, (List.range len).map q, by rw [hlen], fun hp => ?_, ?_⟩
    · rw [hlen] at hp
      have hc : ∀ i, i < len → W.cell? (a.add (i * 3 + 0)) = some (.int .i64 (q i).1) ∧ W.cell? (a.add (i * 3 + 1)) = some (.int .u64 (q i).2.1) ∧ W.cell? (a.add (i * 3 + 2)) = some (.int .u64 (q i).2.2) := fun i hi => by
        obtain ⟨_, _, hcell⟩ := World.cells?_some (hq i hi)
        have e0 := hcell 0 (by omega)
        have e1 := hcell 1 (by omega)
        have e2 := hcell 2 (by omega)
        rw [Go.Deep.add_add] at e0 e1 e2
        exact ⟨by simpa using e0, by simpa using e1, by simpa using e2⟩
      have h0 := (hc 0 hp).1
      have e := addr_lit (by simpa using h0)
      have hlt : a.block < W.heap.size := by
        have := block_lt_of_cell h0
        rw [e] at this
        exact this
      refine ⟨a.block, a.off, by rw [← e], hlt, fun j hj => ?_⟩
      rw [hlen] at hj
      obtain ⟨c0, c1, c2⟩ := hc j hj
      rw [hget j hj]
      rw [e, Addr.add_lit] at c0 c1 c2
      exact ⟨c0, c1, c2⟩
    · rw [hlen]
      have := hw (m * 24) (by
        rw [hd]
        simp only [DataW.weights, Try.underlying22, bytesE, List.length_map, List.length_range]
        rw [show len + (m - len) = m by omega]
        exact List.mem_cons_self)
      unfold reachBytes at this
      omega
end Go.Proofs.Ytclgkmihabpohaa
