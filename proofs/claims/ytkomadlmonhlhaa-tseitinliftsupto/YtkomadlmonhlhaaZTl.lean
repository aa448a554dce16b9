import Derived.Test.YtkomadlmonhlhaaTsFo
import Derived.Test.YtkomadlmonhlhaaTlG
namespace Go.Proofs.Ytkomadlmonhlhaa
open Go.ChangeShapes Go.WideShapes Go.ChangeAt Go.RowKit Go.Lib Go.Ag Go.Cn
theorem cellsU4 : Try.prog.cellsOf 42 = 1 := by kernel_rfl
set_option maxRecDepth 100000 in
/-- a row of literals that came in -/
theorem open_u32s {H : Type} {enc : TypeId × Value → H} {W : World} {base b2 : Nat} {v : Value} {d : DataW H} {p : List MemPlace} (hv : Value.okWide Try.prog W .any base 24 v)
    (h : DataW.Trod enc Try.prog W b2 (fun _ => true) true 24 v d p) :
    ∃ (ad : Option Addr) (cap : Nat) (ws : List Nat), v = .slice ad ws.length cap ∧ U32s W ad ws ∧ (∀ x ∈ ws, x < 4294967296) ∧ ws.length ≤ Rows.uptoBulk d := by
  obtain ⟨a', len, cap', rfl⟩ := okWide_slice Try.underlying24 hv
  obtain ⟨fuel, hf⟩ := h
  have hf' : DataW.trod enc Try.prog W b2 (fun _ => true) true fuel 24 [.slice a' len cap'] = some (d, p) := hf
  rcases open_ints Try.underlying24 Try.underlying42 cellsU4 hf' with ⟨hcs, hd⟩ | ⟨ad, l, c, zs, hcs, hbb, hl, hm, hz, hx, hcell, hwz⟩
  · cases hcs
    exact ⟨none, 0, [], rfl, fun h => absurd h (by simp), fun s hs => absurd hs (by simp), by simp⟩
  · cases hcs
    simp only [if_true] at hz
    have hlen : ((zs.take len).map Int.toNat).length = len := by rw [List.length_map, List.length_take]; omega
    have hget : ∀ j, j < len → ((((zs.take len).map Int.toNat).getD j 0 : Nat) : Int) = zs.getD j 0 := fun j hj => by
      have hj2 : j < zs.length := by omega
      have hb := bounds_u32 (hwz _ (List.getElem_mem hj2))
      rw [List.getD_eq_getElem?_getD, List.getElem?_map, List.getElem?_take_of_lt hj, List.getD_eq_getElem?_getD, List.getElem?_eq_getElem hj2]
      simp only [Option.map_some, Option.getD_some]
      omega
    refine ⟨some ad, cap', (zs.take len).map Int.toNat, by rw [hlen], fun hp => ?_, fun s hs => ?_, ?_⟩
    · rw [hlen] at hp
      have h0 := hcell 0 (by omega)
      have e := addr_lit h0
      have hlt : ad.block < W.heap.size := by
        have := block_lt_of_cell h0
        rw [e] at this
        exact this
      refine ⟨ad.block, ad.off, by rw [← e], hlt, fun j hj => ?_⟩
      rw [hlen] at hj
      have hj2 := hcell j (by omega)
      rw [e, Addr.add_lit] at hj2
      rw [hj2, hget j hj]
    · obtain ⟨z, hz2, rfl⟩ := List.mem_map.1 hs
      have := bounds_u32 (hwz _ (List.mem_of_mem_take hz2))
      omega
    · have hd : d = .slice (lits .u32 (zs.take len)) (lits .u32 (zs.drop len)) := congrArg Prod.fst hx
      have h5 := bulks.slice (H := H) (lits .u32 (zs.take len)) (lits .u32 (zs.drop len))
      have h6 : (lits (H := H) .u32 (zs.take len)).length = len := by simp [lits]; omega
      rw [h6] at h5
      rw [hd, hlen]
      omega
theorem cellsI8 : Try.prog.cellsOf 76 = 1 := by kernel_rfl
set_option maxRecDepth 100000 in
theorem open_i8s {H : Type} {enc : TypeId × Value → H} {W : World} {base b2 : Nat} {v : Value} {d : DataW H} {p : List MemPlace} (hv : Value.okWide Try.prog W .any base 48 v)
    (h : DataW.Trod enc Try.prog W b2 (fun _ => true) true 48 v d p) :
    ∃ (ad : Option Addr) (cap : Nat) (bs : List Int), v = .slice ad bs.length cap ∧ I8s W ad bs ∧ bs.length ≤ Rows.uptoBulk d := by
  obtain ⟨a', len, cap', rfl⟩ := okWide_slice Try.underlying48 hv
  obtain ⟨fuel, hf⟩ := h
  have hf' : DataW.trod enc Try.prog W b2 (fun _ => true) true fuel 48 [.slice a' len cap'] = some (d, p) := hf
  rcases Go.Deep.open_slice Try.underlying48 hf' with ⟨hcs, hx⟩ | ⟨a, len2, cap, m, n, D, Pl, hcs, _, hl, hm, hmm, hx, hel⟩
  · cases hcs
    exact ⟨none, 0, [], rfl, fun h => absurd h (by simp), by simp⟩
  · cases hcs
    simp only [if_true] at hmm
    subst hmm
    rw [cellsI8] at hel
    have hd : d = .slice ((List.range len).map D) ((List.range (m - len)).map fun j => D (len + j)) := congrArg Prod.fst hx
    have each : ∀ i, i < len → ∃ s : Int, W.cells? b2 (a.add (i * 1)) 1 = some [.int .i8 s] := fun i hi => by
      obtain ⟨cs', h1, h2⟩ := hel i (by omega)
      obtain ⟨s, rfl, _, _⟩ := DataW.trod_int Try.underlying76 h2
      exact ⟨s, h1⟩
    obtain ⟨q, hq⟩ : ∃ q : Nat → Int, ∀ i, i < len → W.cells? b2 (a.add (i * 1)) 1 = some [.int .i8 (q i)] := by
      refine ⟨fun i => if hi : i < len then Classical.choose (each i hi) else 0, fun i hi => ?_⟩
      simp only [dif_pos hi]
      exact Classical.choose_spec (each i hi)
    have hlen : ((List.range len).map q).length = len := by simp
    have hget : ∀ j, j < len → ((List.range len).map q).getD j 0 = q j := fun j hj => by
      rw [List.getD_eq_getElem?_getD, List.getElem?_map, List.getElem?_range hj]
      rfl
    refine ⟨some a, m, (List.range len).map q, by rw [hlen], fun hp => ?_, ?_⟩
    · rw [hlen] at hp
      have hc : ∀ i, i < len → W.cell? (a.add (i * 1 + 0)) = some (.int .i8 (q i)) := fun i hi => by
        obtain ⟨_, _, hcell⟩ := World.cells?_some (hq i hi)
        have e0 := hcell 0 (by omega)
        rw [Go.Deep.add_add] at e0
        simpa using e0
      have h0 := hc 0 hp
      have e := addr_lit (by simpa using h0)
      have hlt : a.block < W.heap.size := by
        have := block_lt_of_cell h0
        rw [e] at this
        exact this
      refine ⟨a.block, a.off, by rw [← e], hlt, fun j hj => ?_⟩
      rw [hlen] at hj
      have c0 := hc j hj
      rw [hget j hj]
      rw [e, Addr.add_lit] at c0
      simpa using c0
    · rw [hlen]
      rw [hd]
      have h5 := bulks.slice (H := H) ((List.range len).map D) ((List.range (m - len)).map fun j => D (len + j))
      simp only [List.length_map, List.length_range] at h5
      omega
theorem cellsBo : Try.prog.cellsOf 4 = 1 := by kernel_rfl
set_option maxRecDepth 100000 in
theorem open_bls {H : Type} {enc : TypeId × Value → H} {W : World} {base b2 : Nat} {v : Value} {d : DataW H} {p : List MemPlace} (hv : Value.okWide Try.prog W .any base 49 v)
    (h : DataW.Trod enc Try.prog W b2 (fun _ => true) true 49 v d p) :
    ∃ (ad : Option Addr) (cap : Nat) (bs : List Bool), v = .slice ad bs.length cap ∧ Bls W ad bs ∧ bs.length ≤ Rows.uptoBulk d := by
  obtain ⟨a', len, cap', rfl⟩ := okWide_slice Try.underlying49 hv
  obtain ⟨fuel, hf⟩ := h
  have hf' : DataW.trod enc Try.prog W b2 (fun _ => true) true fuel 49 [.slice a' len cap'] = some (d, p) := hf
  rcases Go.Deep.open_slice Try.underlying49 hf' with ⟨hcs, hx⟩ | ⟨a, len2, cap, m, n, D, Pl, hcs, _, hl, hm, hmm, hx, hel⟩
  · cases hcs
    exact ⟨none, 0, [], rfl, fun h => absurd h (by simp), by simp⟩
  · cases hcs
    simp only [if_true] at hmm
    subst hmm
    rw [cellsBo] at hel
    have hd : d = .slice ((List.range len).map D) ((List.range (m - len)).map fun j => D (len + j)) := congrArg Prod.fst hx
    have each : ∀ i, i < len → ∃ s : Bool, W.cells? b2 (a.add (i * 1)) 1 = some [.bool s] := fun i hi => by
      obtain ⟨cs', h1, h2⟩ := hel i (by omega)
      obtain ⟨s, rfl, _⟩ := DataW.trod_bool Try.underlying4 h2
      exact ⟨s, h1⟩
    obtain ⟨q, hq⟩ : ∃ q : Nat → Bool, ∀ i, i < len → W.cells? b2 (a.add (i * 1)) 1 = some [.bool (q i)] := by
      refine ⟨fun i => if hi : i < len then Classical.choose (each i hi) else false, fun i hi => ?_⟩
      simp only [dif_pos hi]
      exact Classical.choose_spec (each i hi)
    have hlen : ((List.range len).map q).length = len := by simp
    have hget : ∀ j, j < len → ((List.range len).map q).getD j false = q j := fun j hj => by
      rw [List.getD_eq_getElem?_getD, List.getElem?_map, List.getElem?_range hj]
      rfl
    refine ⟨some a, m, (List.range len).map q, by rw [hlen], fun hp => ?_, ?_⟩
    · rw [hlen] at hp
      have hc : ∀ i, i < len → W.cell? (a.add (i * 1 + 0)) = some (.bool (q i)) := fun i hi => by
        obtain ⟨_, _, hcell⟩ := World.cells?_some (hq i hi)
        have e0 := hcell 0 (by omega)
        rw [Go.Deep.add_add] at e0
        simpa using e0
      have h0 := hc 0 hp
      have e := addr_lit (by simpa using h0)
      have hlt : a.block < W.heap.size := by
        have := block_lt_of_cell h0
        rw [e] at this
        exact this
      refine ⟨a.block, a.off, by rw [← e], hlt, fun j hj => ?_⟩
      rw [hlen] at hj
      have c0 := hc j hj
      rw [hget j hj]
      rw [e, Addr.add_lit] at c0
      simpa using c0
    · rw [hlen]
      rw [hd]
      have h5 := bulks.slice (H := H) ((List.range len).map D) ((List.range (m - len)).map fun j => D (len + j))
      simp only [List.length_map, List.length_range] at h5
      omega
end Go.Proofs.Ytkomadlmonhlhaa
namespace Go.Proofs.Ytkomadlmonhlhaa.tseitinLifts
open Go.ChangeShapes Go.WideShapes Go.ChangeAt Go.RowKit

set_option maxRecDepth 100000 in
theorem contract (H : Type) (enc : TypeId × Value → H) (W : World) (base : Nat) (args : Array Value) (ds gs : List (DataW H)) (before : List MemPlace)
    (hval : ∀ (j : Nat) t v, Try.f4.params[j]? = some t → args[j]? = some v → Value.okWide Try.prog W .any base t v)
    (hW : DataW.Whole enc Try.prog Try.f4.params.toList Rows.tseitinLiftsSpec.vars false W args.toList ds gs before) (hk : Rows.uptoSmall H (ds ++ gs) = true) :
    Calls Try.prog 4 args W fun e W' => ∃ v, e = .returned v ∧ Rows.tseitinLiftsSpec.post enc Try.prog Try.f4 false true false false W args v W' := by
  have hW' := hW
  obtain ⟨p, q, hA0, hV, rfl, hfz, hnd⟩ := hW
  have hA : DataW.TrodAll enc Try.prog W 0 (fun _ => true) true Try.f4.params.toList args.toList ds p := hA0
  rw [Try.params4] at hA hval
  obtain ⟨v0, vs0, d0, ds0, p0, q0, hargs, rfl, rfl, h0, r0⟩ := trodAll_cons hA
  obtain ⟨v1, vs1, d1, ds1, p1, q1, hargs1, rfl, rfl, h1, r1⟩ := trodAll_cons r0
  obtain ⟨v2, vs2, d2, ds2, p2, q2, hargs2, rfl, rfl, h2, r2⟩ := trodAll_cons r1
  obtain ⟨v3, vs3, d3, ds3, p3, q3, hargs3, rfl, rfl, h3, r3⟩ := trodAll_cons r2
  obtain ⟨v4, vs4, d4, ds4, p4, q4, hargs4, rfl, rfl, h4, r4⟩ := trodAll_cons r3
  obtain ⟨v5, vs5, d5, ds5, p5, q5, hargs5, rfl, rfl, h5, r5⟩ := trodAll_cons r4
  obtain ⟨rfl, rfl, rfl⟩ := trodAll_nil r5
  obtain rfl : args = #[v0, v1, v2, v3, v4, v5] := by cases args; simp_all
  obtain ⟨rfl, rfl⟩ := trodVars_none hV
  have hbk := bulks.bound hk
  have hb01 : Rows.uptoBulk d0 + Rows.uptoBulk d1 + Rows.uptoBulk d2 + Rows.uptoBulk d3 + Rows.uptoBulk d4 + Rows.uptoBulk d5 ≤ 1048576 := by
    simp only [Rows.uptoBulkAll, List.cons_append, List.nil_append] at hbk
    omega
  have k0 := h0
  have lt0 : ∀ x ∈ p0, x.block < W.heap.size := by obtain ⟨m, hm⟩ := k0; exact DataW.trod_lt m _ _ _ hm
  obtain ⟨ad0, cap0, sc0, rfl, md0, bd0, ln0⟩ := open_made (hval 0 22 v0 rfl rfl) h0
  have k1 := h1
  have lt1 : ∀ x ∈ p1, x.block < W.heap.size := by obtain ⟨m, hm⟩ := k1; exact DataW.trod_lt m _ _ _ hm
  obtain ⟨ad1, cap1, ws1, rfl, is1, b641, ln1⟩ := open_is (hval 1 23 v1 rfl rfl) h1
  have k2 := h2
  have lt2 : ∀ x ∈ p2, x.block < W.heap.size := by obtain ⟨m, hm⟩ := k2; exact DataW.trod_lt m _ _ _ hm
  obtain ⟨ad2, cap2, ws2, rfl, is2, b642, ln2⟩ := open_u32s (hval 2 24 v2 rfl rfl) h2
  have k3 := h3
  have lt3 : ∀ x ∈ p3, x.block < W.heap.size := by obtain ⟨m, hm⟩ := k3; exact DataW.trod_lt m _ _ _ hm
  obtain ⟨ad3, cap3, ws3, rfl, is3, _, ln3⟩ := open_is (hval 3 23 v3 rfl rfl) h3
  have k4 := h4
  have lt4 : ∀ x ∈ p4, x.block < W.heap.size := by obtain ⟨m, hm⟩ := k4; exact DataW.trod_lt m _ _ _ hm
  obtain ⟨ad4, cap4, ws4, rfl, is4, ln4⟩ := open_i8s (hval 4 48 v4 rfl rfl) h4
  have k5 := h5
  have lt5 : ∀ x ∈ p5, x.block < W.heap.size := by obtain ⟨m, hm⟩ := k5; exact DataW.trod_lt m _ _ _ hm
  obtain ⟨ad5, cap5, ws5, rfl, is5, ln5⟩ := open_bls (hval 5 49 v5 rfl rfl) h5
  clear hA0
  simp only [List.append_nil] at hW'
  refine (lifts_walk W ad0 sc0 cap0 md0 bd0 ad1 ws1 cap1 is1 b641 ad2 ws2 cap2 is2 b642 ad3 ws3 cap3 is3 ad4 ws4 cap4 is4 ad5 ws5 cap5 is5 (by omega)).mono fun e W' ⟨he, bel⟩ => ?_
  subst he
  exact ⟨_, rfl, _, _, _, [], _, [], hW', trodAll_mk1 (shut_bool Try.underlying4 _), (trodAll_cons_mk (Below.trod laidOut (by kernel_rfl) (of_decide_eq_true (by kernel_rfl)) k0 bel lt0) (trodAll_cons_mk (Below.trod laidOut (by kernel_rfl) (of_decide_eq_true (by kernel_rfl)) k1 bel lt1) (trodAll_cons_mk (Below.trod laidOut (by kernel_rfl) (of_decide_eq_true (by kernel_rfl)) k2 bel lt2) (trodAll_cons_mk (Below.trod laidOut (by kernel_rfl) (of_decide_eq_true (by kernel_rfl)) k3 bel lt3) (trodAll_cons_mk (Below.trod laidOut (by kernel_rfl) (of_decide_eq_true (by kernel_rfl)) k4 bel lt4) (trodAll_cons_mk (Below.trod laidOut (by kernel_rfl) (of_decide_eq_true (by kernel_rfl)) k5 bel lt5) trodAll_mk0)))))), rfl, bel.frame _, fun h => by cases h⟩
set_option maxRecDepth 100000 in
theorem lifted (os : Os) (started : os.Started) (H : Type) (enc : TypeId × Value → H) (F : Stop.Interp) :
    ReturnsInHanded {} Try.checked os 4 .any ((Rows.OpenSpec.upto Rows.tseitinLiftsSpec).pre6 enc Try.prog Try.f4 Rows.tseitinLiftsUptoRow.domain false) (((Rows.OpenSpec.upto Rows.tseitinLiftsSpec).at F).post enc Try.prog Try.f4 false true false false) := by
  refine returnsInHanded_of_cond (C := Try.checked) (s := Rows.OpenSpec.upto Rows.tseitinLiftsSpec) (k := Rows.uptoSmall) rfl own started (by kernel_rfl) Try.func4
    (OpenSpec.witness (enc := enc) (C := Try.checked) (s := Rows.OpenSpec.upto Rows.tseitinLiftsSpec) (k := Rows.uptoSmall) rfl false ⟨#[], #[.slice none 0 0, .slice none 0 0, .slice none 0 0, .slice none 0 0, .slice none 0 0, .slice none 0 0], []⟩ 8 (by kernel_rfl) (by kernel_rfl) (by kernel_rfl)
      (x := ([.nil, .nil, .nil, .nil, .nil, .nil], [], [])) (by kernel_rfl) rfl (by kernel_rfl)) ?_
  intro W base args ds gs before hval hW _ hk _
  exact contract H enc W base args ds gs before hval hW hk
theorem over : Rows.tseitinLiftsUptoRow.holds Try.pinned (Rows.OpenSpec.upto Rows.tseitinLiftsSpec) :=
  OpenClaim.holds_of_cond 4 Try.f4 rfl rfl rfl rfl rfl rfl rfl ⟨rfl, rfl, rfl, rfl, rfl⟩ rfl rfl rfl rfl rfl (by kernel_rfl) Try.func4 (by kernel_rfl)
    (of_decide_eq_true (by kernel_rfl)) (by unfold Func.isWrapper; first | (rw [if_pos (by decide +kernel)]; kernel_rfl) | (rw [if_neg (by decide +kernel)]; exact ⟨rfl, rfl⟩))
    (fun os started H enc _ F => lifted os started H enc F)
end Go.Proofs.Ytkomadlmonhlhaa.tseitinLifts
namespace Go.Proofs.Ytkomadlmonhlhaa
theorem tseitinLifts_holds : Rows.TseitinLiftsUptoSaid := tseitinLifts.over
#print axioms tseitinLifts_holds
end Go.Proofs.Ytkomadlmonhlhaa
