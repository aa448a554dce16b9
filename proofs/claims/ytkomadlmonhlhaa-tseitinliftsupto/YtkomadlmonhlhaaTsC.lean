import Derived.Test.YtkomadlmonhlhaaTsM
import Derived.Test.YtkomadlmonhlhaaTsR
namespace Go.Proofs.Ytkomadlmonhlhaa
open Go.ChangeShapes Go.WideShapes Go.ChangeAt Go.RowKit Go.Lib Go.Ag Go.WideMaps Go.Maps Go.ChangeMaps Go.Cn

theorem lawI : Keyed Try.prog 3 := int_keyed Try.underlying3
theorem wf_i64 {x : Int} (h : -9223372036854775808 ≤ x ∧ x ≤ 9223372036854775807) : (Lit.int .i64 x).wf = true := by
  simp [Lit.wf, IntKind.min, IntKind.max, IntKind.bits, IntKind.signed]
  omega
theorem key_nat (x : Nat) (h : x < 4294967296) : keyOf Try.prog 3 (.int .i64 (x : Int)) = some (.int .i64 (x : Int)) := keyOf_int_mk Try.underlying3 (wf_i64 (by omega))
/-- a map of numbers, by a function -/
structure VD (D : DataW Unit) (m : Nat) (f : Nat → Nat) (dom : Nat → Prop) : Prop where
  sz : Maps.size D = m
  hs : ∀ x : Nat, x < 4294967296 → (Maps.has D (.int .i64 (x : Int)) = true ↔ dom x)
  at1 : ∀ x : Nat, x < 4294967296 → dom x → ∀ zd, D.atKey (.int .i64 (x : Int)) zd = .lit (.int .i64 (f x : Int))
def VM (W : World) (M m : Nat) (f : Nat → Nat) (dom : Nat → Prop) : Prop := ∃ D : DataW Unit, W.ownsMap Try.prog 3 (plainElem Try.prog 3) M m D ∧ VD D m f dom
theorem VM.made (w : World) : VM (w.alloc (.map #[] 0)) w.heap.size 0 (fun _ => 0) (fun _ => False) :=
  ⟨_, World.ownsMap_made w _ _ _, ⟨rfl, fun x _ => by simp [Maps.has], fun x _ h => h.elim⟩⟩
theorem VM.keep {W W' : World} {M m : Nat} {f : Nat → Nat} {dom : Nat → Prop} (h : VM W M m f dom) (hb : W'.heap[M]? = W.heap[M]?) : VM W' M m f dom := by
  obtain ⟨D, ⟨es, clock, h1, h2⟩, hF⟩ := h
  exact ⟨D, ⟨es, clock, hb.trans h1, h2⟩, hF⟩
theorem VM.lt {W : World} {M m : Nat} {f : Nat → Nat} {dom : Nat → Prop} (h : VM W M m f dom) : M < W.heap.size := by
  obtain ⟨D, hm, hF⟩ := h
  exact hm.lt
theorem VM.obj {W : World} {M m : Nat} {f : Nat → Nat} {dom : Nat → Prop} (h : VM W M m f dom) : ∃ es clock, W.heap[M]? = some (.map es clock) := by
  obtain ⟨D, ⟨es, clock, h1, h2⟩, hF⟩ := h
  exact ⟨es, clock, h1⟩
theorem VD.put {D : DataW Unit} {m : Nat} {f : Nat → Nat} {dom : Nat → Prop} (h : VD D m f dom) (ht : Tidy D) (x v : Nat) (hx : x < 4294967296) (hn : ¬ dom x) : VD (D.put (.int .i64 (x : Int)) (.lit (.int .i64 (v : Int)))) (m + 1) (fun y => if y = x then v else f y) (fun y => y = x ∨ dom y) := by
  have hnh : Maps.has D (.int .i64 (x : Int)) = false := by
    cases h5 : Maps.has D (.int .i64 (x : Int)) with
    | false => rfl
    | true => exact absurd ((h.hs x hx).1 h5) hn
  have kx := lawI.key (key_nat x hx)
  have ne : ∀ y : Nat, y ≠ x → (Lit.int .i64 (y : Int)) ≠ Lit.int .i64 (x : Int) := fun y hy e => hy (by simp at e; omega)
  refine ⟨?_, fun y hy => ?_, fun y hy hd zd => ?_⟩
  · rw [size_put ht, hnh, h.sz]
    rfl
  · by_cases e : y = x
    · subst e
      rw [has_put_same ht.isMap kx]
      exact ⟨fun _ => Or.inl rfl, fun _ => rfl⟩
    · rw [has_put_other (ne y e), h.hs y hy]
      exact ⟨fun h => Or.inr h, fun h => h.elim (fun h => absurd h e) id⟩
  · by_cases e : y = x
    · subst e
      rw [atKey_put_same ht.isMap kx]
      show _ = DataW.lit (.int .i64 ((if y = y then v else f y : Nat) : Int))
      rw [if_pos rfl]
    · rw [atKey_put_other (ne y e), h.at1 y hy (hd.elim (fun h => absurd h e) id)]
      show _ = DataW.lit (.int .i64 ((if y = x then v else f y : Nat) : Int))
      rw [if_neg e]
theorem VM.congr {W : World} {M m : Nat} {f f' : Nat → Nat} {dom dom' : Nat → Prop} (h : VM W M m f dom) (hf : ∀ x, dom x → f x = f' x) (hd : ∀ x, dom x ↔ dom' x) : VM W M m f' dom' := by
  obtain ⟨D, h1, h2⟩ := h
  exact ⟨D, h1, h2.sz, fun x hx => (h2.hs x hx).trans (hd x), fun x hx hdx zd => by rw [h2.at1 x hx ((hd x).2 hdx) zd, hf x ((hd x).2 hdx)]⟩
set_option maxRecDepth 100000 in
theorem VM.put {W : World} {M m : Nat} {f : Nat → Nat} {dom : Nat → Prop} (h : VM W M m f dom) (hm : m ≤ 1000000000000) (x v : Nat) (hx : x < 4294967296) (hv : v ≤ 1000000000000) (hn : ¬ dom x) :
    ∃ w', (Instr.mapUpdate 80 (.map (some M)) (.int .i64 (x : Int)) (.int .i64 (v : Int))).run Try.prog W = .ok () w' ∧ VM w' M (m + 1) (fun y => if y = x then v else f y) (fun y => y = x ∨ dom y) ∧ W.grownBy w' (some M) := by
  obtain ⟨D, h1, h2⟩ := h
  have hml : m < maxLen := Nat.lt_of_le_of_lt hm (by decide)
  have hvw : -9223372036854775808 ≤ (v : Int) ∧ (v : Int) ≤ 9223372036854775807 := by omega
  obtain ⟨w', hrun, hm', hg⟩ := h1.update lawI Try.underlying80 hml (key_nat x hx) (plainElem_int Try.underlying3 (wf_i64 hvw))
  exact ⟨w', hrun, ⟨_, hm', h2.put (h1.tidy lawI) x v hx hn⟩, hg⟩
theorem VM.look {W : World} {M m : Nat} {f : Nat → Nat} {dom : Nat → Prop} (h : VM W M m f dom) (x : Nat) (hx : x < 4294967296) (hf : ¬ dom x → f x = 0) : (Instr.lookup 80 (.map (some M)) (.int .i64 (x : Int)) false).run Try.prog W = .ok (.int .i64 (f x : Int)) W := by
  obtain ⟨D, hm, hF⟩ := h
  obtain ⟨vv, pss, hrun, hR⟩ := hm.lookup lawI Try.underlying80 (Try.zeroValue3 W) (plainElem_int Try.underlying3 (by decide)) (key_nat x hx)
  have he : D.atKey (.int .i64 (x : Int)) (.lit (.int .i64 0)) = .lit (.int .i64 (f x : Int)) := by
    by_cases hd : dom x
    · exact hF.at1 x hx hd _
    · have h5 : Maps.has D (.int .i64 (x : Int)) = false := by
        cases h6 : Maps.has D (.int .i64 (x : Int)) with
        | false => rfl
        | true => exact absurd ((hF.hs x hx).1 h6) hd
      rw [atKey_of_not_has h5, hf hd]
      rfl
  rw [he] at hR
  obtain ⟨cc, rfl, ecc, -⟩ := plainElem_int_inv Try.underlying3 hR
  have hcc : cc = (f x : Int) := by have := ecc.symm; simp at this; exact this.1
  rw [hrun, hcc]
theorem VM.len {W : World} {M m : Nat} {f : Nat → Nat} {dom : Nat → Prop} (h : VM W M m f dom) (ty : TypeId) : (Builtin.len_ #[80] ty #[.map (some M)]).run Try.prog W = .ok (.int .i64 (m : Int)) W := by
  obtain ⟨D, hm, hF⟩ := h
  rw [hm.len Try.underlying80 ty, hF.sz]
/-- gates in a row, as they are read -/
def Gts (w : World) (ad : Option Addr) (gs : List GT) : Prop := 0 < gs.length → ∃ b off, ad = some ⟨b, off, none⟩ ∧ b < w.heap.size ∧ ∀ j, j < gs.length → w.cell? ⟨b, off + j * 3, none⟩ = some (.int .i64 (gs.getD j (0, 0, 0)).1) ∧ w.cell? ⟨b, off + j * 3 + 1, none⟩ = some (.int .i64 (gs.getD j (0, 0, 0)).2.1) ∧ w.cell? ⟨b, off + j * 3 + 2, none⟩ = some (.int .i64 (gs.getD j (0, 0, 0)).2.2)
theorem Gts.below {w w' : World} {ad : Option Addr} {gs : List GT} (h : Gts w ad gs) (hb : Below w.heap.size w w') : Gts w' ad gs := fun h0 => by
  obtain ⟨b, off, e, hl, hc⟩ := h h0
  exact ⟨b, off, e, Nat.lt_of_lt_of_le hl hb.size, fun j hj => ⟨(hb.cell (p := ⟨b, _, none⟩) hl).trans (hc j hj).1, (hb.cell (p := ⟨b, _, none⟩) hl).trans (hc j hj).2.1, (hb.cell (p := ⟨b, _, none⟩) hl).trans (hc j hj).2.2⟩⟩
/-- a circuit in memory -/
structure CM (w : World) (aR : Option Addr) (ls : List Nat) (M : Nat) (cn : List Nat) (aG : Option Addr) (gs : List GT) : Prop where
  r : U32s w aR ls
  r32 : ∀ l ∈ ls, l < 4294967296
  rn : ls.length ≤ 1000000000000
  m : VM w M cn.length (vN cn) (fun n => n ∈ cn)
  c32 : cn.length ≤ 1048576
  g : Gts w aG gs
  gn : gs.length ≤ cn.length
  ok : ∀ x ∈ gs, OKG cn.length x
theorem CM.over {w w' : World} {aR : Option Addr} {ls : List Nat} {M : Nat} {cn : List Nat} {aG : Option Addr} {gs : List GT} (h : CM w aR ls M cn aG gs) (hb : Below w.heap.size w w') : CM w' aR ls M cn aG gs :=
  ⟨h.r.below hb, h.r32, h.rn, h.m.keep (hb.block _ h.m.lt), h.c32, h.g.below hb, h.gn, h.ok⟩
set_option maxHeartbeats 2000000 in
theorem literal_any (w : World) {M : Nat} {cn : List Nat} {m : Nat} (hm : VM w M m (vN cn) (fun n => n ∈ cn)) (hc : cn.length ≤ 1000000000000) (vR vG : Value) (l : Nat) (hl : l < 4294967296) :
    Calls Try.prog 61 #[.agg #[vR, .map (some M), vG], .int .u32 (l : Int)] w fun e w' => e = .returned (.int .i64 (litI cn l)) ∧ Below w.heap.size w w' := by
  have hM := hm.lt
  obtain ⟨w1, hw1⟩ : ∃ w1, w.alloc (.cells #[vR, .map (some M), vG] 83) = w1 := ⟨_, rfl⟩
  have HB : Hid (Below w.heap.size w w1 ∧ w1.heap[w.heap.size]? = some (.cells #[vR, .map (some M), vG] 83 (0, 0))) := by
    rw [← hw1]; exact ⟨ag_bel1 _ _, heap_alloc_new _ _⟩
  have c1 : w1.cell? ⟨w.heap.size, 1, none⟩ = some (.map (some M)) := ag_cell HB.out.2 1
  have hlk := (hm.keep (HB.out.1.block _ hM)).look (l / 2) (by omega) (fun h => vN_zero h)
  have HL : Hid (litI cn l = if l % 2 = 1 then -((vN cn (l / 2) : Nat) : Int) else ((vN cn (l / 2) : Nat) : Int)) := rfl
  have hv := vN_le cn (l / 2)
  have hand := and1_u32 l hl
  have hsh : (l : Int) / 2 = ((l / 2 : Nat) : Int) := by omega
  generalize litI cn l = LI at *
  generalize vN cn (l / 2) = v at *
  obtain ⟨q, hq⟩ : ∃ q, l / 2 = q := ⟨_, rfl⟩
  rw [hq] at hlk hsh
  have hm2 := Nat.mod_two_eq_zero_or_one l
  obtain ⟨r, hr⟩ : ∃ r, l % 2 = r := ⟨_, rfl⟩
  rw [hr] at hand hm2 HL
  clear hm hq hr
  rcases hm2 with e | e
  · subst e
    rw [if_neg (by omega)] at HL
    go_enter Try.func61, Try.ntmps61
    go_wp2_with fail
    first | exact ⟨ag_reti HL.out.symm, HB.out.1⟩ | (go_ret; exact ⟨ag_reti HL.out.symm, HB.out.1⟩)
  · subst e
    rw [if_pos rfl] at HL
    go_enter Try.func61, Try.ntmps61
    go_wp2_with fail
    first | exact ⟨ag_reti HL.out.symm, HB.out.1⟩ | (go_ret; exact ⟨ag_reti HL.out.symm, HB.out.1⟩)
end Go.Proofs.Ytkomadlmonhlhaa
