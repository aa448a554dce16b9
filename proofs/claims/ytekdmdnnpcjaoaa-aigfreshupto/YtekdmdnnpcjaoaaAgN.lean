import Derived.Test.YtekdmdnnpcjaoaaAgM
import Derived.Test.YtekdmdnnpcjaoaaAgLb
namespace Go.Proofs.Ytekdmdnnpcjaoaa
open Go.ChangeShapes Go.WideShapes Go.ChangeAt Go.RowKit Go.Lib Go.Ag Go.WideMaps Go.Maps Go.ChangeMaps Go.Cn

def u32V (l : List Nat) : List Value := l.map fun (x : Nat) => Value.int .u32 (x : Int)
theorem u32V_len (l : List Nat) : (u32V l).length = l.length := by unfold u32V; simp
theorem u32V_snoc (l : List Nat) (x : Nat) : u32V (l ++ [x]) = u32V l ++ [.int .u32 (x : Int)] := by unfold u32V; simp
theorem u32s_of {w : World} {B n : Nat} {ad : Option Addr} {cp : Nat} {ls : List Nat} (h : w.ownsRow B 44 1 (.slice ad n cp) n (u32V ls)) : U32s w ad ls := fun h0 => by
  have hn : ls.length = n := by have := h.1; rw [u32V_len] at this; omega
  obtain ⟨a2, c2, e, _, h3⟩ := row_form h
  cases e
  obtain ⟨g, rfl⟩ := h3 (by omega)
  refine ⟨g, 0, rfl, (h.lt g rfl).2, fun j hj => ?_⟩
  rw [Nat.zero_add, h.cellAt j (by omega)]
  unfold u32V
  rw [List.getElem?_map, List.getD_eq_getElem?_getD, List.getElem?_eq_getElem hj]
  rfl
/-- one of the literals that were made -/
def pickN (L : List Nat) (i : Int) : Nat := if i < 0 then notN (L.getD ((-(i + 1)).toNat % L.length) 0) else L.getD (i.toNat % L.length) 0
theorem getD_lt {L : List Nat} {m j : Nat} (h : ∀ l ∈ L, l / 2 ≤ m) (h0 : 0 < L.length) : L.getD (j % L.length) 0 / 2 ≤ m := by
  have hj : j % L.length < L.length := Nat.mod_lt _ h0
  apply h
  rw [List.getD_eq_getElem?_getD, List.getElem?_eq_getElem hj]
  exact List.getElem_mem _
theorem pickN_le {L : List Nat} {m : Nat} {i : Int} (h : ∀ l ∈ L, l / 2 ≤ m) (h0 : 0 < L.length) : pickN L i / 2 ≤ m := by
  unfold pickN
  split
  · rw [not_half]; exact getD_lt h h0
  · exact getD_lt h h0
set_option maxHeartbeats 4000000 in
theorem pick_any (w : World) (ad : Option Addr) (L : List Nat) (cp : Nat) (hL : U32s w ad L) (h0 : 0 < L.length) (hn : L.length ≤ 1000000000000) (h32 : ∀ l ∈ L, l < 4294967296) (i : Int) (hi : -9223372036854775808 ≤ i ∧ i ≤ 9223372036854775807) :
    Calls Try.prog 20 #[.slice ad L.length cp, .int .i64 i] w fun e w' => e = .returned (.int .u32 ((pickN L i : Nat) : Int)) ∧ w' = w := by
  obtain ⟨b, off, rfl, hb, hc⟩ := hL h0
  have key : ∀ j : Nat, w.cell? ⟨b, off + j % L.length, none⟩ = some (.int .u32 ((L.getD (j % L.length) 0 : Nat) : Int)) ∧ L.getD (j % L.length) 0 < 4294967296 := fun j => by
    have hj : j % L.length < L.length := Nat.mod_lt _ h0
    refine ⟨hc _ hj, h32 _ ?_⟩
    rw [List.getD_eq_getElem?_getD, List.getElem?_eq_getElem hj]
    exact List.getElem_mem _
  have HPk : Hid (pickN L i = if i < 0 then notN (L.getD ((-(i + 1)).toNat % L.length) 0) else L.getD (i.toNat % L.length) 0) := rfl
  by_cases hneg : i < 0
  · have HP2 : Hid (pickN L i = notN (L.getD ((-(i + 1)).toNat % L.length) 0)) := by show _ = _; rw [HPk.out, if_pos hneg]
    obtain ⟨k1, k2⟩ := key (-(i + 1)).toNat
    clear key hc h32 HPk hL
    have hj : (-(i + 1)).toNat % L.length < L.length := Nat.mod_lt _ h0
    obtain ⟨j, hj2⟩ : ∃ j : Nat, (-(i + 1)).toNat = j := ⟨_, rfl⟩
    have e1 : -(i + 1) = (j : Int) := by omega
    rw [hj2] at hj k1 k2 HP2
    generalize L.length = n at *
    generalize L.getD (j % n) 0 = x at *
    have e2 : Int.tmod (j : Int) (n : Int) = ((j % n : Nat) : Int) := by
      rw [Int.tmod_eq_emod_of_nonneg (by omega)]
      simp
    have hx := (xor1_u32 x k2).1
    go_enter Try.func20, Try.ntmps20
    go_wp2_with fail
    first | exact ⟨by rw [HP2.out], rfl⟩ | (go_ret; exact ⟨by rw [HP2.out]; rfl, rfl⟩)
  · have HP2 : Hid (pickN L i = L.getD (i.toNat % L.length) 0) := by show _ = _; rw [HPk.out, if_neg hneg]
    obtain ⟨k1, k2⟩ := key i.toNat
    clear key hc h32 HPk hL
    have hj : i.toNat % L.length < L.length := Nat.mod_lt _ h0
    obtain ⟨j, hj2⟩ : ∃ j : Nat, i.toNat = j := ⟨_, rfl⟩
    obtain rfl : i = (j : Int) := by omega
    rw [hj2] at hj k1 k2 HP2
    generalize L.length = n at *
    generalize L.getD (j % n) 0 = x at *
    have e2 : Int.tmod (j : Int) (n : Int) = ((j % n : Nat) : Int) := by
      rw [Int.tmod_eq_emod_of_nonneg (by omega)]
      simp
    have q1 : ¬ (j : Int) < 0 := by omega
    go_enter Try.func20, Try.ntmps20
    go_wp2_with fail
    first | exact ⟨by rw [HP2.out], rfl⟩ | (go_ret; exact ⟨by rw [HP2.out]; rfl, rfl⟩)
theorem tyU : (44 : TypeId) ≠ 54 ∧ (44 : TypeId) ≠ 100 ∧ (44 : TypeId) ≠ 75 := by decide
theorem row_apart {w : World} {B R : Nat} {ns : Nds} {nb : Nat} {vb vg : Value} {M : Option Nat} {D : DataW Unit} (h : GM w B R ns nb vb vg M D) {H n : Nat} {v : Value} {L : List Value} (hr : w.ownsRow H 44 1 v n L) {j : Nat} (hj : ownG R vb vg M j) : v.ownBlock ≠ some j := by
  rcases hj with rfl | hj | hj | hj
  · exact ag_ne hr h.blk tyU.1
  · rcases h.rb.2 with ⟨e, _⟩ | ⟨g, cap, cur, e, _, hg, _⟩
    · rw [e] at hj; cases hj
    · rw [e] at hj
      cases hj
      exact ag_ne hr hg tyU.2.1
  · rcases h.rg.2 with ⟨e, _⟩ | ⟨g, cap, cur, e, _, hg, _⟩
    · rw [e] at hj; cases hj
    · rw [e] at hj
      cases hj
      exact ag_ne hr hg tyU.2.2
  · intro e
    obtain ⟨es, clock, hm⟩ := h.mo.block hj
    rcases hr.2 with ⟨e2, _⟩ | ⟨g, cap, cur, e2, _, hg, _⟩
    · rw [e2] at e; cases e
    · rw [e2] at e
      have e3 : g = j := by simpa [Value.ownBlock] using e
      rw [e3, hm] at hg
      cases hg
theorem GM.keep {w w' : World} {B R : Nat} {ns : Nds} {nb : Nat} {vb vg : Value} {M : Option Nat} {D : DataW Unit} (h : GM w B R ns nb vb vg M D) (hk : ∀ j, ownG R vb vg M j → w'.heap[j]? = w.heap[j]?) : GM w' B R ns nb vb vg M D :=
  ⟨(hk R (Or.inl rfl)).trans h.blk, ag_same h.rb (fun k hv => hk k (Or.inr (Or.inl hv))), ag_same h.rg (fun k hv => hk k (Or.inr (Or.inr (Or.inl hv)))), h.mo.keep (fun m _ _ hm hb => (hk m (Or.inr (Or.inr (Or.inr hm)))).trans hb), h.fm, h.cov, h.few, h.ops, h.len, h.low⟩
/-- the graph and the literals that were made, all else as at w0 -/
structure MD (w0 : World) (B R : Nat) (vb0 vg0 : Value) (M0 : Option Nat) (ns : Nds) (L : List Nat) (vL : Value) (w : World) : Prop where
  gp : GP w0 B R vb0 vg0 M0 ns w
  row : w.ownsRow w0.heap.size 44 1 vL L.length (u32V L)
  hB : B ≤ w.heap.size
theorem MD.over {w0 : World} {B R : Nat} {vb0 vg0 : Value} {M0 : Option Nat} {ns : Nds} {L : List Nat} {vL : Value} {w w' : World} (h : MD w0 B R vb0 vg0 M0 ns L vL w) (hb : Below w.heap.size w w') : MD w0 B R vb0 vg0 M0 ns L vL w' := by
  obtain ⟨nb, vb, vg, M, D, h1, h2⟩ := h.gp
  exact ⟨⟨nb, vb, vg, M, D, h1.over hb, h2.trans (GK.below hb)⟩, ag_same h.row (fun k hk => hb.block k (h.row.lt k hk).2), Nat.le_trans h.hB hb.size⟩
/-- a call that makes -/
theorem MD.make {w0 : World} {B R : Nat} {vb0 vg0 : Value} {M0 : Option Nat} {ns ns' : Nds} {L : List Nat} {vL : Value} {w w' : World} (h : MD w0 B R vb0 vg0 M0 ns L vL w) {nb : Nat} {vb vg : Value} {M : Option Nat} {D : DataW Unit} (h1 : GM w B R ns nb vb vg M D) (h2 : GK w0 R vb0 vg0 M0 w vb vg M) (hg : GP w B R vb vg M ns' w') : MD w0 B R vb0 vg0 M0 ns' L vL w' := by
  obtain ⟨nb2, vb2, vg2, M2, D2, h3, h4⟩ := hg
  exact ⟨⟨nb2, vb2, vg2, M2, D2, h3, h2.trans h4⟩, ag_same h.row (fun k hk => h4.kp k (h.row.lt k hk).2 (fun e => row_apart h1 h.row e hk)), Nat.le_trans h.hB h4.size⟩
/-- one more literal -/
theorem MD.push {w0 : World} {B R : Nat} {vb0 vg0 : Value} {M0 : Option Nat} {ns : Nds} {L : List Nat} {vL : Value} {w w4 : World} {x g4 cap4 n : Nat} {ob : Obj} (hn : L.length = n) (h : MD w0 B R vb0 vg0 M0 ns L vL w) (hown : w4.ownsRow w0.heap.size 44 1 (.slice (some ⟨g4, 0, none⟩) (n + 1) cap4) (n + 1) (u32V L ++ [.int .u32 (x : Int)])) (hg : (w.alloc ob).grownBy w4 vL.ownBlock) :
    MD w0 B R vb0 vg0 M0 ns (L ++ [x]) (.slice (some ⟨g4, 0, none⟩) (n + 1) cap4) w4 := by
  subst hn
  have h5 := h.over (ag_bel1 w ob)
  obtain ⟨nb, vb, vg, M, D, h1, h2⟩ := h5.gp
  refine ⟨⟨nb, vb, vg, M, D, h1.keep (fun j hj => hg.block j (h1.own_lt hj) (fun e => row_apart h1 h5.row hj e.symm)), ⟨hg.os.trans h2.os, hg.tape.trans h2.tape, hg.output.trans h2.output, Nat.le_trans h2.size hg.size, fun j hj hn => (hg.block j (Nat.lt_of_lt_of_le hj h2.size) (fun e => by have := (h5.row.lt j e.symm).1; omega)).trans (h2.kp j hj hn), h2.fr⟩⟩, by rw [u32V_snoc, List.length_append]; exact hown, Nat.le_trans h5.hB hg.size⟩
def xorN (ns : Nds) (a b : Nat) : Option (Nat × Nds) := (andN ns a b).bind fun p => (andN p.2 (notN a) (notN b)).bind fun q => andN q.2 (notN p.1) (notN q.1)
/-- one more making -/
def opN (ns : Nds) (kd : Int) (a b c : Nat) : Option (Nat × Nds) :=
  if kd = 2 then andN ns a b else if kd = 3 then orN ns a b else if kd = 4 then xorN ns a b else if kd = 5 then muxN ns c a b else if kd = 6 then allN ns 1 [a, b, c] else some (2 * (ns.length + 1), ns ++ [none])
/-- what a list of makings makes -/
def madeN (ns : Nds) (L : List Nat) : List (Int × Int × Int × Int) → Option (Nds × List Nat)
  | [] => some (ns, L)
  | s :: sc => (opN ns s.1 (pickN L s.2.1) (pickN L s.2.2.1) (pickN L s.2.2.2)).bind fun x => madeN x.2 (L ++ [x.1]) sc
theorem madeN_snoc : ∀ (sc : List (Int × Int × Int × Int)) (ns : Nds) (L : List Nat) (s : Int × Int × Int × Int), madeN ns L (sc ++ [s]) = (madeN ns L sc).bind fun y => (opN y.1 s.1 (pickN y.2 s.2.1) (pickN y.2 s.2.2.1) (pickN y.2 s.2.2.2)).bind fun x => some (x.2, y.2 ++ [x.1])
  | [], ns, L, s => by
    show (opN ns s.1 (pickN L s.2.1) (pickN L s.2.2.1) (pickN L s.2.2.2)).bind _ = (opN ns s.1 (pickN L s.2.1) (pickN L s.2.2.1) (pickN L s.2.2.2)).bind _
    rfl
  | z :: sc, ns, L, s => by
    show (opN ns z.1 (pickN L z.2.1) (pickN L z.2.2.1) (pickN L z.2.2.2)).bind _ = ((opN ns z.1 (pickN L z.2.1) (pickN L z.2.2.1) (pickN L z.2.2.2)).bind _).bind _
    cases opN ns z.1 (pickN L z.2.1) (pickN L z.2.2.1) (pickN L z.2.2.2) with
    | none => rfl
    | some v => exact madeN_snoc sc v.2 (L ++ [v.1]) s
/-- a list of makings in memory -/
def MDS (w : World) (ad : Option Addr) (sc : List (Int × Int × Int × Int)) : Prop := 0 < sc.length → ∃ b off, ad = some ⟨b, off, none⟩ ∧ b < w.heap.size ∧ ∀ j, j < sc.length → w.cell? ⟨b, off + j * 4, none⟩ = some (.int .i64 (sc.getD j (0, 0, 0, 0)).1) ∧ w.cell? ⟨b, off + j * 4 + 1, none⟩ = some (.int .i64 (sc.getD j (0, 0, 0, 0)).2.1) ∧ w.cell? ⟨b, off + j * 4 + 2, none⟩ = some (.int .i64 (sc.getD j (0, 0, 0, 0)).2.2.1) ∧ w.cell? ⟨b, off + j * 4 + 3, none⟩ = some (.int .i64 (sc.getD j (0, 0, 0, 0)).2.2.2)
end Go.Proofs.Ytekdmdnnpcjaoaa
