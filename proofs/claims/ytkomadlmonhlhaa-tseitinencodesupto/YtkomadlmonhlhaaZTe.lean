import Derived.Test.YtkomadlmonhlhaaTsFo
import Derived.Test.YtkomadlmonhlhaaTgM
namespace Go.Proofs.Ytkomadlmonhlhaa
open Go.ChangeShapes Go.WideShapes Go.ChangeAt Go.RowKit Go.Lib Go.Ag Go.Cn
theorem cellsU4 : Try.prog.cellsOf 42 = 1 := by kernel_rfl
set_option maxRecDepth 100000 in
/-- a row of literals that came in -/
theorem open_u32s {H : Type} {enc : TypeId × Value → H} {W : World} {base b2 : Nat} {v : Value} {d : DataW H} {p : List MemPlace} (hv : Value.okWide Try.prog W .any base 24 v)
    (h : DataW.Trod enc Try.prog W b2 (fun _ => true) true 24 v d p) :
    ∃ (ad : Option Addr) (cap : Nat) (ws : List Nat), v = .slice ad ws.length cap ∧ U32s W ad ws ∧ (∀ x ∈ ws, x < 4294967296) ∧ ws.length ≤ Rows.uptoBulk d := by
  obtain ⟨a', len, cap', rfl⟩ := okWide_slice Try.underlying24 hv
  obtain ⟨fuel, hf⟩ := h
  have hf' : DataW.trod enc Try.prog W b2 (fun _ => true) true fuel 24 [.slice a' len cap'] = some (d, p) := hf
  rcases open_ints Try.underlying24 Try.underlying42 cellsU4 hf' with ⟨hcs, hd⟩ | ⟨ad, l, c, zs, hcs, hbb, hl, hm, hz, hx, hcell, hwz⟩
  · cases hcs
    exact ⟨none, 0, [], rfl, fun h => absurd h (by simp), fun s hs => absurd hs (by simp), by simp⟩
  · cases hcs
    simp only [if_true] at hz
    have hlen : ((zs.take len).map Int.toNat).length = len := by rw [List.length_map, List.length_take]; omega
    have hget : ∀ j, j < len → ((((zs.take len).map Int.toNat).getD j 0 : Nat) : Int) = zs.getD j 0 := fun j hj => by
      have hj2 : j < zs.length := by omega
      have hb := bounds_u32 (hwz _ (List.getElem_mem hj2))
      rw [List.getD_eq_getElem?_getD, List.getElem?_map, List.getElem?_take_of_lt hj, List.getD_eq_getElem?_getD, List.getElem?_eq_getElem hj2]
      simp only [Option.map_some, Option.getD_some]
      omega
    refine ⟨some ad, cap', (zs.take len).map Int.toNat, by rw [hlen], fun hp => ?_, fun s hs => ?_, ?_⟩
    · rw [hlen] at hp
      have h0 := hcell 0 (by omega)
      have e := addr_lit h0
      have hlt : ad.block < W.heap.size := by
        have := block_lt_of_cell h0
        rw [e] at this
        exact this
      refine ⟨ad.block, ad.off, by rw [← e], hlt, fun j hj => ?_⟩
      rw [hlen] at hj
      have hj2 := hcell j (by omega)
      rw [e, Addr.add_lit] at hj2
      rw [hj2, hget j hj]
    · obtain ⟨z, hz2, rfl⟩ := List.mem_map.1 hs
      have := bounds_u32 (hwz _ (List.mem_of_mem_take hz2))
      omega
    · have hd : d = .slice (lits .u32 (zs.take len)) (lits .u32 (zs.drop len)) := congrArg Prod.fst hx
      have h5 := bulks.slice (H := H) (lits .u32 (zs.take len)) (lits .u32 (zs.drop len))
      have h6 : (lits (H := H) .u32 (zs.take len)).length = len := by simp [lits]; omega
      rw [h6] at h5
      rw [hd, hlen]
      omega
end Go.Proofs.Ytkomadlmonhlhaa
namespace Go.Proofs.Ytkomadlmonhlhaa.tseitinEncodes
open Go.ChangeShapes Go.WideShapes Go.ChangeAt Go.RowKit

set_option maxRecDepth 100000 in
theorem contract (H : Type) (enc : TypeId × Value → H) (W : World) (base : Nat) (args : Array Value) (ds gs : List (DataW H)) (before : List MemPlace)
    (hval : ∀ (j : Nat) t v, Try.f3.params[j]? = some t → args[j]? = some v → Value.okWide Try.prog W .any base t v)
    (hW : DataW.Whole enc Try.prog Try.f3.params.toList Rows.tseitinEncodesSpec.vars false W args.toList ds gs before) (hk : Rows.uptoSmall H (ds ++ gs) = true) :
    Calls Try.prog 3 args W fun e W' => ∃ v, e = .returned v ∧ Rows.tseitinEncodesSpec.post enc Try.prog Try.f3 false true false false W args v W' := by
  have hW' := hW
  obtain ⟨p, q, hA0, hV, rfl, hfz, hnd⟩ := hW
  have hA : DataW.TrodAll enc Try.prog W 0 (fun _ => true) true Try.f3.params.toList args.toList ds p := hA0
  rw [Try.params3] at hA hval
  obtain ⟨v0, vs0, d0, ds0, p0, q0, hargs, rfl, rfl, h0, r0⟩ := trodAll_cons hA
  obtain ⟨v1, vs1, d1, ds1, p1, q1, hargs1, rfl, rfl, h1, r1⟩ := trodAll_cons r0
  obtain ⟨v2, vs2, d2, ds2, p2, q2, hargs2, rfl, rfl, h2, r2⟩ := trodAll_cons r1
  obtain ⟨rfl, rfl, rfl⟩ := trodAll_nil r2
  obtain rfl : args = #[v0, v1, v2] := by cases args; simp_all
  obtain ⟨rfl, rfl⟩ := trodVars_none hV
  have hbk := bulks.bound hk
  have hb01 : Rows.uptoBulk d0 + Rows.uptoBulk d1 + Rows.uptoBulk d2 ≤ 1048576 := by
    simp only [Rows.uptoBulkAll, List.cons_append, List.nil_append] at hbk
    omega
  have k0 := h0
  have lt0 : ∀ x ∈ p0, x.block < W.heap.size := by obtain ⟨m, hm⟩ := k0; exact DataW.trod_lt m _ _ _ hm
  obtain ⟨ad0, cap0, sc0, rfl, md0, bd0, ln0⟩ := open_made (hval 0 22 v0 rfl rfl) h0
  have k1 := h1
  have lt1 : ∀ x ∈ p1, x.block < W.heap.size := by obtain ⟨m, hm⟩ := k1; exact DataW.trod_lt m _ _ _ hm
  obtain ⟨ad1, cap1, ws1, rfl, is1, b641, ln1⟩ := open_is (hval 1 23 v1 rfl rfl) h1
  have k2 := h2
  have lt2 : ∀ x ∈ p2, x.block < W.heap.size := by obtain ⟨m, hm⟩ := k2; exact DataW.trod_lt m _ _ _ hm
  obtain ⟨ad2, cap2, ws2, rfl, is2, b642, ln2⟩ := open_u32s (hval 2 24 v2 rfl rfl) h2
  clear hA0
  simp only [List.append_nil] at hW'
  refine (encodes_walk W ad0 sc0 cap0 md0 bd0 ad1 ws1 cap1 is1 b641 ad2 ws2 cap2 is2 b642 (by omega)).mono fun e W' ⟨he, bel⟩ => ?_
  subst he
  exact ⟨_, rfl, _, _, _, [], _, [], hW', trodAll_mk1 (shut_bool Try.underlying4 _), (trodAll_cons_mk (Below.trod laidOut (by kernel_rfl) (of_decide_eq_true (by kernel_rfl)) k0 bel lt0) (trodAll_cons_mk (Below.trod laidOut (by kernel_rfl) (of_decide_eq_true (by kernel_rfl)) k1 bel lt1) (trodAll_cons_mk (Below.trod laidOut (by kernel_rfl) (of_decide_eq_true (by kernel_rfl)) k2 bel lt2) trodAll_mk0))), rfl, bel.frame _, fun h => by cases h⟩
set_option maxRecDepth 100000 in
theorem lifted (os : Os) (started : os.Started) (H : Type) (enc : TypeId × Value → H) (F : Stop.Interp) :
    ReturnsInHanded {} Try.checked os 3 .any ((Rows.OpenSpec.upto Rows.tseitinEncodesSpec).pre6 enc Try.prog Try.f3 Rows.tseitinEncodesUptoRow.domain false) (((Rows.OpenSpec.upto Rows.tseitinEncodesSpec).at F).post enc Try.prog Try.f3 false true false false) := by
  refine returnsInHanded_of_cond (C := Try.checked) (s := Rows.OpenSpec.upto Rows.tseitinEncodesSpec) (k := Rows.uptoSmall) rfl own started (by kernel_rfl) Try.func3
    (OpenSpec.witness (enc := enc) (C := Try.checked) (s := Rows.OpenSpec.upto Rows.tseitinEncodesSpec) (k := Rows.uptoSmall) rfl false ⟨#[], #[.slice none 0 0, .slice none 0 0, .slice none 0 0], []⟩ 8 (by kernel_rfl) (by kernel_rfl) (by kernel_rfl)
      (x := ([.nil, .nil, .nil], [], [])) (by kernel_rfl) rfl (by kernel_rfl)) ?_
  intro W base args ds gs before hval hW _ hk _
  exact contract H enc W base args ds gs before hval hW hk
theorem over : Rows.tseitinEncodesUptoRow.holds Try.pinned (Rows.OpenSpec.upto Rows.tseitinEncodesSpec) :=
  OpenClaim.holds_of_cond 3 Try.f3 rfl rfl rfl rfl rfl rfl rfl ⟨rfl, rfl, rfl, rfl, rfl⟩ rfl rfl rfl rfl rfl (by kernel_rfl) Try.func3 (by kernel_rfl)
    (of_decide_eq_true (by kernel_rfl)) (by unfold Func.isWrapper; first | (rw [if_pos (by decide +kernel)]; kernel_rfl) | (rw [if_neg (by decide +kernel)]; exact ⟨rfl, rfl⟩))
    (fun os started H enc _ F => lifted os started H enc F)
end Go.Proofs.Ytkomadlmonhlhaa.tseitinEncodes
namespace Go.Proofs.Ytkomadlmonhlhaa
theorem tseitinEncodes_holds : Rows.TseitinEncodesUptoSaid := tseitinEncodes.over
#print axioms tseitinEncodes_holds
end Go.Proofs.Ytkomadlmonhlhaa
